/-
  What is proved: rows of integers, read and of the call's own; rows of truth values.
-/
import Derived.Test.YthchjceibpcgbaaDoorLtA
import Derived.Sort.OwnSortedInts
namespace Go.Proofs.YthchjceibpcgbaaDoor.Lt
open Go.RowKit L
set_option linter.unusedVariables false
set_option linter.unusedSimpArgs false

def vsI (X : List Int) : List Value := X.map (Value.int .i64)
theorem vsI_len (X : List Int) : (vsI X).length = X.length := by simp [vsI]
theorem vsI_app (X Y : List Int) : vsI (X ++ Y) = vsI X ++ vsI Y := by simp [vsI]
theorem vsI_one (X : List Int) : ∀ u ∈ vsI X, u.oneCell' = true := fun u hu => by
  unfold vsI at hu
  obtain ⟨x, _, rfl⟩ := List.mem_map.1 hu
  rfl
theorem intI : (Tryd.prog.info? 3).map (fun i => (i.zero, i.size, i.bytes)) = some (some (.int .i64 0), 1, 8) := by kernel_rfl
/-- a slice's address, length and room read as a list of integers -/
def SlI (w : World) (a : Option Addr) (n c : Nat) (X : List Int) : Prop :=
  n = X.length ∧ n ≤ c ∧ (a = none → c = 0) ∧ (0 < n → ∃ b o, a = some ⟨b, o, none⟩ ∧ b < w.heap.size ∧ ∀ i (h : i < X.length), w.cell? ⟨b, o + i, none⟩ = some (.int .i64 X[i]))
theorem SlI.below {w w' : World} {a : Option Addr} {n c : Nat} {X : List Int} (h : SlI w a n c X) (hb : Below w.heap.size w w') : SlI w' a n c X :=
  ⟨h.1, h.2.1, h.2.2.1, fun hn => by
    obtain ⟨b, o, ha, hlt, hr⟩ := h.2.2.2 hn
    exact ⟨b, o, ha, Nat.lt_of_lt_of_le hlt hb.size, fun i hi => (hb.cell (p := ⟨b, _, none⟩) hlt).trans (hr i hi)⟩⟩
theorem SlI.nil (w : World) : SlI w none 0 0 [] := ⟨rfl, Nat.le_refl _, fun _ => rfl, fun h => absurd h (by omega)⟩
theorem SlI.at {w : World} {A : Option Addr} {n c : Nat} {X : List Int} (h : SlI w A n c X) {k : Nat} (hk : k < n) : ∃ g o x, A = some ⟨g, o, none⟩ ∧ g < w.heap.size ∧ w.cell? ⟨g, o + k, none⟩ = some (.int .i64 x) ∧ X[k]? = some x := by
  obtain ⟨g, o, e, hg, hc⟩ := h.2.2.2 (by omega)
  have hk2 : k < X.length := by rw [← h.1]; exact hk
  exact ⟨g, o, X[k], e, hg, hc k hk2, List.getElem?_eq_getElem hk2⟩
/-- a row of the call's own -/
def OwnI (w : World) (base : Nat) (v : Value) (X : List Int) : Prop := w.ownsRow base 3 1 v X.length (vsI X)
theorem OwnI.nil (w : World) (base : Nat) : OwnI w base (.slice none 0 0) [] := World.ownsRow_nil _ _ _ _
theorem OwnI.slice {w : World} {base : Nat} {v : Value} {X : List Int} (h : OwnI w base v X) : ∃ A c, v = .slice A X.length c ∧ X.length ≤ c ∧ c ≤ maxLen ∧ (A = none → c = 0) ∧ (0 < X.length → ∃ g, A = some ⟨g, 0, none⟩ ∧ base ≤ g ∧ g < w.heap.size) := by
  rcases h.2 with ⟨rfl, hn⟩ | ⟨g, cap, cur, rfl, hb, hg, hnc, hcm, hcs, ht⟩
  · exact ⟨none, 0, by rw [hn], by omega, Nat.zero_le _, fun _ => rfl, fun h => absurd h (by omega)⟩
  · exact ⟨_, _, rfl, hnc, hcm, (fun h => by cases h), fun _ => ⟨g, rfl, hb, (Array.getElem?_eq_some_iff.1 hg).1⟩⟩
theorem OwnI.lt {w : World} {base : Nat} {v : Value} {X : List Int} (h : OwnI w base v X) : ∀ k, v.ownBlock = some k → base ≤ k ∧ k < w.heap.size := fun k hk => by
  rcases h.2 with ⟨rfl, hn⟩ | ⟨g, cap, cur, rfl, hb, hg, _⟩
  · cases hk
  · injection hk with hk
    subst hk
    exact ⟨hb, (Array.getElem?_eq_some_iff.1 hg).1⟩
theorem OwnI.keep {w w' : World} {base : Nat} {v : Value} {X : List Int} (h : OwnI w base v X) (hb : ∀ k, base ≤ k → k < w.heap.size → w'.heap[k]? = w.heap[k]?) : OwnI w' base v X := by
  refine ⟨h.1, ?_⟩
  rcases h.2 with hn | ⟨g, cap, cur, rfl, h1, hg, rest⟩
  · exact .inl hn
  · exact .inr ⟨g, cap, cur, rfl, h1, by rw [hb g h1 (Array.getElem?_eq_some_iff.1 hg).1]; exact hg, rest⟩
theorem OwnI.b {w w' : World} {base : Nat} {v : Value} {X : List Int} (h : OwnI w base v X) (hb : Below w.heap.size w w') : OwnI w' base v X := h.keep (fun k _ hk => hb.block k hk)
theorem OwnI.less {w : World} {base base' : Nat} {v : Value} {X : List Int} (h : OwnI w base v X) (hb : base' ≤ base) : OwnI w base' v X := by
  refine ⟨h.1, ?_⟩
  rcases h.2 with hn | ⟨g, cap, cur, rfl, h1, hg, rest⟩
  · exact .inl hn
  · exact .inr ⟨g, cap, cur, rfl, Nat.le_trans hb h1, hg, rest⟩
theorem OwnI.at {w : World} {base g n c : Nat} {X : List Int} (h : OwnI w base (.slice (some ⟨g, 0, none⟩) n c) X) {k : Nat} (hk : k < X.length) : w.cell? ⟨g, k, none⟩ = some (.int .i64 X[k]) := by
  rcases h.2 with ⟨hv, _⟩ | ⟨g', cap, cur, hv, hb, hg, hnc, hcm, hcs, ht⟩
  · cases hv
  · injection hv with h1 h2 h3
    injection h1 with h1
    injection h1 with h1
    subst h1
    have e : (cur.toList.take (X.length * 1))[k]? = (vsI X)[k]? := by rw [ht]
    rw [List.getElem?_take_of_lt (by omega), Array.getElem?_toList] at e
    rw [cell_of_row w g k _ _ _ hg, e]
    simp [vsI, hk]
theorem OwnI.sl {w : World} {base : Nat} {A : Option Addr} {n c : Nat} {X : List Int} (h : OwnI w base (.slice A n c) X) : n = X.length ∧ c ≤ maxLen ∧ SlI w A n c X := by
  obtain ⟨A', c', hv, h1, h2, h3, h4⟩ := h.slice
  injection hv with e1 e2 e3
  subst e1 e2 e3
  refine ⟨rfl, h2, rfl, h1, h3, fun hn => ?_⟩
  obtain ⟨g, rfl, _, hg⟩ := h4 hn
  exact ⟨g, 0, rfl, hg, fun k hk => by rw [Nat.zero_add]; exact h.at hk⟩
theorem news_int {w : World} {A : Option Addr} {n c : Nat} {X : List Int} (h : SlI w A n c X) : ∀ ad, A = some ad → ∀ j u, (vsI X)[j]? = some u → w.cell? (ad.add j) = some u := fun ad ha j u hj => by
  obtain ⟨hj2, hu⟩ := List.getElem?_eq_some_iff.1 hj
  rw [vsI_len] at hj2
  obtain ⟨b', o, ha', _, hr⟩ := h.2.2.2 (by rw [h.1]; omega)
  rw [ha] at ha'
  injection ha' with ha'
  subst ha'
  rw [Addr.add_lit, hr j hj2, ← hu]
  simp [vsI]
/-- append(s, x...) for the walk: s a row of the call's own -/
theorem app_ints {w : World} {ops : Array Oper} {rest : List Oper} {o : Oper} {a : Act} {Q : Exit → Act → World → Prop} (hgd : o.guard = none) (s x : Operand)
    (ho : o.op = .call { callee := .builtin .append, args := #[s, x], argTypes := #[38, 38] })
    (base : Nat) (v : Value) (Y : List Int) (hs : a.eval s = v) (hown : OwnI w base v Y) (A : Option Addr) (m c : Nat) (X : List Int) (hx : a.eval x = .slice A m c) (hX : SlI w A m c X)
    (hn : Y.length + m ≤ 1000000000) (hbase : base ≤ w.heap.size)
    (h : ∀ v' w', OwnI w' base v' (Y ++ X) → w.grownBy w' v.ownBlock → wpList Tryd.prog ops Q rest (a.put o.dst v') w') : wpList Tryd.prog ops Q (o :: rest) a w := by
  obtain ⟨i0, hi, hz0, hz1, hz2⟩ := info_parts intI
  have hm : m = X.length := hX.1
  have hl : Y.length + m ≤ maxLen := by unfold maxLen; omega
  cases A with
  | none =>
    have hc : c = 0 := hX.2.2.1 rfl
    have hm0 : m = 0 := by have := hX.2.1; omega
    have hX0 : X = [] := List.eq_nil_of_length_eq_zero (by omega)
    subst hX0 hc hm0
    refine wpList_append_own_none hgd s x 38 ho base 3 i0 1 Tryd.underlying38 hi v Y.length (vsI Y) hs hown hx (h v w ?_ ⟨rfl, rfl, rfl, Nat.le_refl _, fun _ _ _ => rfl⟩)
    rw [List.append_nil]; exact hown
  | some ad =>
    refine wpList_append_own w hgd s x 38 ho base 3 i0 _ 1 8 Tryd.underlying38 hi hz0 hz1 hz2 rfl (by decide) v Y.length (vsI Y) hs hown ad m c (vsI X) hx (by rw [vsI_len, hm]; omega) (news_int hX ad rfl) (vsI_one X) hl (by omega) hbase fun v' w' h1 h2 _ => h v' w' ?_ h2
    unfold OwnI
    rw [List.length_append, vsI_app, ← hm]
    exact h1
/-- a slice's address, length and room read as a list of truth values -/
def SlB (w : World) (a : Option Addr) (n c : Nat) (X : List Bool) : Prop :=
  n = X.length ∧ n ≤ c ∧ (0 < n → ∃ b o, a = some ⟨b, o, none⟩ ∧ b < w.heap.size ∧ ∀ i (h : i < X.length), w.cell? ⟨b, o + i, none⟩ = some (.bool X[i]))
theorem SlB.below {w w' : World} {a : Option Addr} {n c : Nat} {X : List Bool} (h : SlB w a n c X) (hb : Below w.heap.size w w') : SlB w' a n c X :=
  ⟨h.1, h.2.1, fun hn => by
    obtain ⟨b, o, ha, hlt, hr⟩ := h.2.2 hn
    exact ⟨b, o, ha, Nat.lt_of_lt_of_le hlt hb.size, fun i hi => (hb.cell (p := ⟨b, _, none⟩) hlt).trans (hr i hi)⟩⟩
theorem SlB.at {w : World} {A : Option Addr} {n c : Nat} {X : List Bool} (h : SlB w A n c X) {k : Nat} (hk : k < n) : ∃ g o x, A = some ⟨g, o, none⟩ ∧ g < w.heap.size ∧ w.cell? ⟨g, o + k, none⟩ = some (.bool x) ∧ X[k]? = some x := by
  obtain ⟨g, o, e, hg, hc⟩ := h.2.2 (by omega)
  have hk2 : k < X.length := by rw [← h.1]; exact hk
  exact ⟨g, o, X[k], e, hg, hc k hk2, List.getElem?_eq_getElem hk2⟩
end Go.Proofs.YthchjceibpcgbaaDoor.Lt
