/-
  What is proved: rows of variables of the call's own, grown by a list of variables in a region that draws.
-/
import Derived.Test.YtacncbkcnhlpcaaWA
import Derived.Deep.RegionLaw
import Derived.Laws.AppendOwn
import Derived.Laws.AppendOwnNone
namespace Go.Proofs.Ytacncbkcnhlpcaa.Wl
open Go.RowKit L T C
set_option linter.unusedVariables false
set_option linter.unusedSimpArgs false
set_option maxRecDepth 100000

def vsV : List Vr → List Value
  | [] => []
  | v :: l => .string v.1 :: .string v.2 :: vsV l
theorem vsV_len : ∀ Y : List Vr, (vsV Y).length = Y.length * 2
  | [] => rfl
  | v :: l => by simp [vsV, vsV_len l]; omega
theorem vsV_app : ∀ X Y : List Vr, vsV (X ++ Y) = vsV X ++ vsV Y
  | [], Y => rfl
  | v :: l, Y => by simp [vsV, vsV_app l Y]
theorem vsV_get : ∀ {Y : List Vr} {i : Nat} (h : i < Y.length), (vsV Y)[i * 2]? = some (.string Y[i].1) ∧ (vsV Y)[i * 2 + 1]? = some (.string Y[i].2)
  | v :: l, 0, h => ⟨rfl, rfl⟩
  | v :: l, i + 1, h => by
    have := vsV_get (Y := l) (i := i) (by simpa using h)
    rw [show (i + 1) * 2 = i * 2 + 1 + 1 by omega]
    simpa [vsV] using this
theorem vsV_one : ∀ {Y : List Vr}, ∀ u ∈ vsV Y, u.oneCell' = true
  | [], u, h => by cases h
  | v :: l, u, h => by
    rcases List.mem_cons.1 h with rfl | h
    · rfl
    · rcases List.mem_cons.1 h with rfl | h
      · rfl
      · exact vsV_one u h
def OwnV (w : World) (base : Nat) (v : Value) (Y : List Vr) : Prop := w.ownsRow base 64 2 v Y.length (vsV Y)
theorem OwnV.empty (w : World) : OwnV (w.alloc (.cells #[] 64)) w.heap.size (.slice (some ⟨w.heap.size, 0, none⟩) 0 0) [] :=
  ⟨rfl, .inr ⟨w.heap.size, 0, #[], rfl, Nat.le_refl _, heap_alloc_new w _, Nat.le_refl _, Nat.zero_le _, rfl, rfl⟩⟩
theorem OwnV.slV {w : World} {base : Nat} {v : Value} {X : List Vr} (h : OwnV w base v X) : ∃ A c, v = .slice A X.length c ∧ SlV w A X.length c X := by
  rcases h.2 with ⟨rfl, hn⟩ | ⟨g, cap, cur, rfl, hb, hg, hnc, hcm, hcs, ht⟩
  · exact ⟨none, 0, by rw [hn], ⟨rfl, fun h => absurd h (by omega)⟩, by omega, fun _ => rfl⟩
  · refine ⟨_, _, rfl, ⟨rfl, fun _ => ⟨g, 0, rfl, (Array.getElem?_eq_some_iff.1 hg).1, fun k hk => ?_⟩⟩, hnc, (fun h => by cases h)⟩
    obtain ⟨g1, g2⟩ := vsV_get hk
    have e1 : (cur.toList.take (X.length * 2))[k * 2]? = (vsV X)[k * 2]? := by rw [ht]
    have e2 : (cur.toList.take (X.length * 2))[k * 2 + 1]? = (vsV X)[k * 2 + 1]? := by rw [ht]
    rw [List.getElem?_take_of_lt (by omega), g1] at e1
    rw [List.getElem?_take_of_lt (by omega), g2] at e2
    rw [Nat.zero_add, cell_of_row w g _ _ _ _ hg, cell_of_row w g _ _ _ _ hg, ← Array.getElem?_toList, ← Array.getElem?_toList]
    exact ⟨e1, e2⟩
theorem OwnV.lt {w : World} {base : Nat} {v : Value} {X : List Vr} (h : OwnV w base v X) (b : Nat) (hb : v.ownBlock = some b) : base ≤ b := by
  rcases h.2 with ⟨rfl, hn⟩ | ⟨g, cap, cur, rfl, hbg, hg, hnc, hcm, hcs, ht⟩
  · simp [Value.ownBlock] at hb
  · simp [Value.ownBlock] at hb; omega
theorem varI : (Try.prog.info? 64).map (fun i => (i.zero, i.size, i.bytes)) = some (some (.agg #[.string ⟨#[]⟩, .string ⟨#[]⟩]), 2, 32) := by kernel_rfl
theorem news_v {w : World} {ad : Addr} {m c : Nat} {X : List Vr} (h : IsV w (some ad) m X) : ∀ j u, (vsV X)[j]? = some u → w.cell? (ad.add j) = some u := fun j u hj => by
  have hl := (List.getElem?_eq_some_iff.1 hj).1
  rw [vsV_len] at hl
  obtain ⟨b, o, e, hb, hc⟩ := h.2 (by rw [h.1]; omega)
  injection e with e
  subst e
  rw [Addr.add_lit]
  obtain ⟨c1, c2⟩ := hc (j / 2) (by omega)
  obtain ⟨g1, g2⟩ := vsV_get (Y := X) (i := j / 2) (by omega)
  rcases Nat.mod_two_eq_zero_or_one j with hm | hm
  · rw [show j / 2 * 2 = j by omega] at g1 c1
    rw [g1] at hj
    rw [c1, ← hj]
  · rw [show j / 2 * 2 + 1 = j by omega] at g2
    rw [show o + j / 2 * 2 + 1 = o + j by omega] at c2
    rw [g2] at hj
    rw [c2, ← hj]
theorem step_app_vars {ops : Array Oper} {o : Oper} {a : Act} {w : World} {K : Act → World → Prop} {Q : Exit → Act → World → Prop} {Z : Prop} (hg : o.guard = none) (s x : Operand)
    (ho : o.op = Op.call { callee := Callee.builtin Builtin.append, args := #[s, x], argTypes := #[26, 26] })
    (base : Nat) (v : Value) (Y : List Vr) (hs : a.eval s = v) (hown : OwnV w base v Y) (A : Option Addr) (m c : Nat) (X : List Vr) (hx : a.eval x = .slice A m c) (hX : SlV w A m c X) (hn : Y.length + m ≤ 1000000) (hbase : base ≤ w.heap.size)
    (hK : ∀ v' w', OwnV w' base v' (Y ++ X) → w.grownBy w' v.ownBlock → K (a.put o.dst v') w') : if Region.wanted o (yielded ops a.tmps) = true then Oper.wp Try.prog o a w K Q else Z := by
  have hw : Region.wanted o (yielded ops a.tmps) = true := by simp [Region.wanted, hg]
  rw [if_pos hw]
  obtain ⟨i0, hi, hz0, hz1, hz2⟩ := info_parts varI
  have hm : m = X.length := hX.1.1
  cases A with
  | none =>
    have hc : c = 0 := hX.2.2 rfl
    have hm0 : m = 0 := by have := hX.2.1; omega
    have hX0 : X = [] := List.eq_nil_of_length_eq_zero (by omega)
    subst hX0 hc hm0
    have hrun := run_append_owned_none (P := Try.prog) (w := w) base 26 o.type 64 i0 2 Try.underlying26 hi v Y.length (vsV Y) hown
    unfold Oper.wp
    simp [execOp, ho, resolve, invoke, builtin, hs, hx, hrun, Result.andThen]
    exact hK v w (by rw [List.append_nil]; exact hown) ⟨rfl, rfl, rfl, Nat.le_refl _, fun _ _ _ => rfl⟩
  | some ad =>
    obtain ⟨v', w', hrun, h1, h2, _⟩ := run_append_own (P := Try.prog) w base 26 o.type 64 i0 _ 2 32 Try.underlying26 hi hz0 hz1 hz2 rfl (by decide) v Y.length (vsV Y) hown ad m c (vsV X) (by rw [vsV_len, hm]) (news_v (c := c) hX.1) vsV_one (by unfold maxLen; omega) (by omega) hbase
    unfold Oper.wp
    simp [execOp, ho, resolve, invoke, builtin, hs, hx, hrun, Result.andThen]
    refine hK v' w' ?_ h2
    unfold OwnV
    rw [List.length_append, vsV_app, ← hm]
    exact h1
end Go.Proofs.Ytacncbkcnhlpcaa.Wl
