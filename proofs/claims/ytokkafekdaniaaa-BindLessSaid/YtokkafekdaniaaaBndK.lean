/-
  What is proved: rows of numbers that a call makes itself; package bind's visit with the function literal of Loose: the loose numbers of a claim, as they come.
-/
import Derived.Test.YtokkafekdaniaaaBndD
namespace Go.Proofs.Ytokkafekdaniaaa.B
open Go.RowKit L T C
set_option linter.unusedVariables false
set_option linter.unusedSimpArgs false

def vsI (X : List Int) : List Value := X.map (Value.int .i64)
theorem vsI_len (X : List Int) : (vsI X).length = X.length := by simp [vsI]
theorem vsI_app (X Y : List Int) : vsI (X ++ Y) = vsI X ++ vsI Y := by simp [vsI]
theorem intI : (Try.prog.info? 3).map (fun i => (i.zero, i.size, i.bytes)) = some (some (.int .i64 0), 1, 8) := by kernel_rfl
theorem vsI_one (X : List Int) : ∀ u ∈ vsI X, u.oneCell' = true := fun u hu => by
  unfold vsI at hu
  obtain ⟨x, _, rfl⟩ := List.mem_map.1 hu
  rfl
def OwnI (w : World) (base : Nat) (v : Value) (X : List Int) : Prop := w.ownsRow base 3 1 v X.length (vsI X)
theorem OwnI.nil (w : World) (base : Nat) : OwnI w base (.slice none 0 0) [] := World.ownsRow_nil _ _ _ _
theorem OwnI.slice {w : World} {base : Nat} {v : Value} {X : List Int} (h : OwnI w base v X) : ∃ A c, v = .slice A X.length c ∧ X.length ≤ c ∧ c ≤ maxLen ∧ (A = none → c = 0) ∧ (0 < X.length → ∃ g, A = some ⟨g, 0, none⟩ ∧ base ≤ g ∧ g < w.heap.size) := by
  rcases h.2 with ⟨rfl, hn⟩ | ⟨g, cap, cur, rfl, hb, hg, hnc, hcm, hcs, ht⟩
  · exact ⟨none, 0, by rw [hn], by omega, Nat.zero_le _, fun _ => rfl, fun h => absurd h (by omega)⟩
  · exact ⟨_, _, rfl, hnc, hcm, (fun h => by cases h), fun _ => ⟨g, rfl, hb, (Array.getElem?_eq_some_iff.1 hg).1⟩⟩
theorem OwnI.lt {w : World} {base : Nat} {v : Value} {X : List Int} (h : OwnI w base v X) : ∀ k, v.ownBlock = some k → base ≤ k ∧ k < w.heap.size := fun k hk => by
  rcases h.2 with ⟨rfl, hn⟩ | ⟨g, cap, cur, rfl, hb, hg, _⟩
  · cases hk
  · injection hk with hk
    subst hk
    exact ⟨hb, (Array.getElem?_eq_some_iff.1 hg).1⟩
/-- it stays where blocks from base on stay -/
theorem OwnI.keep {w w' : World} {base : Nat} {v : Value} {X : List Int} (h : OwnI w base v X) (hb : ∀ k, base ≤ k → k < w.heap.size → w'.heap[k]? = w.heap[k]?) : OwnI w' base v X := by
  refine ⟨h.1, ?_⟩
  rcases h.2 with hn | ⟨g, cap, cur, rfl, h1, hg, rest⟩
  · exact .inl hn
  · exact .inr ⟨g, cap, cur, rfl, h1, by rw [hb g h1 (Array.getElem?_eq_some_iff.1 hg).1]; exact hg, rest⟩
theorem OwnI.b {w w' : World} {base : Nat} {v : Value} {X : List Int} (h : OwnI w base v X) (hb : Below w.heap.size w w') : OwnI w' base v X := h.keep (fun k _ hk => hb.block k hk)
theorem OwnI.at {w : World} {base g n c : Nat} {X : List Int} (h : OwnI w base (.slice (some ⟨g, 0, none⟩) n c) X) {k : Nat} (hk : k < X.length) : w.cell? ⟨g, k, none⟩ = some (.int .i64 X[k]) := by
  rcases h.2 with ⟨hv, _⟩ | ⟨g', cap, cur, hv, hb, hg, hnc, hcm, hcs, ht⟩
  · cases hv
  · injection hv with h1 h2 h3
    injection h1 with h1
    injection h1 with h1
    subst h1
    have e : (cur.toList.take (X.length * 1))[k]? = (vsI X)[k]? := by rw [ht]
    rw [List.getElem?_take_of_lt (by omega), Array.getElem?_toList] at e
    rw [cell_of_row w g k _ _ _ hg, e]
    simp [vsI, hk]
theorem app_int {w : World} {ops : Array Oper} {rest : List Oper} {o : Oper} {a : Act} {Q : Exit → Act → World → Prop} (hgd : o.guard = none) (s x : Operand)
    (ho : o.op = .call { callee := .builtin .append, args := #[s, x], argTypes := #[60, 60] })
    (base : Nat) (v : Value) (Y : List Int) (hs : a.eval s = v) (hown : OwnI w base v Y) (z : Nat) (u : Int) (hx : a.eval x = .slice (some ⟨z, 0, none⟩) 1 1) (hz : w.cell? ⟨z, 0, none⟩ = some (.int .i64 u))
    (hn : Y.length + 1 ≤ 1000000000) (hbase : base ≤ w.heap.size)
    (h : ∀ v' w', OwnI w' base v' (Y ++ [u]) → w.grownBy w' v.ownBlock → wpList Try.prog ops Q rest (a.put o.dst v') w') : wpList Try.prog ops Q (o :: rest) a w := by
  obtain ⟨i0, hi, hz0, hz1, hz2⟩ := info_parts intI
  refine wpList_append_own w hgd s x 60 ho base 3 i0 _ 1 8 Try.underlying60 hi hz0 hz1 hz2 rfl (by decide) v Y.length (vsI Y) hs hown ⟨z, 0, none⟩ 1 1 (vsI [u]) hx rfl (fun j y hj => ?_) (vsI_one _) (by unfold maxLen; omega) (by omega) hbase fun v' w' h1 h2 _ => h v' w' ?_ h2
  · obtain rfl : j = 0 := by
      have := (List.getElem?_eq_some_iff.1 hj).1
      simp [vsI] at this
      omega
    simp [vsI] at hj
    subst hj
    exact hz
  · unfold OwnI
    rw [List.length_append, vsI_app]
    exact h1
end Go.Proofs.Ytokkafekdaniaaa.B
