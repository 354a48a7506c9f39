/-
  What is proved: append of a list of texts to a row of the call's own, for the walk.
-/
import Derived.Test.YthchjceibpcgbaaDoorLibO
namespace Go.Proofs.YthchjceibpcgbaaDoor.L
open Go.RowKit
set_option linter.unusedVariables false
set_option linter.unusedSimpArgs false

/-- append(s, x...) for the walk: s a row of the call's own, x any list of texts -/
theorem app_strs2 {w : World} {ops : Array Oper} {rest : List Oper} {o : Oper} {a : Act} {Q : Exit → Act → World → Prop} (hgd : o.guard = none) (s x : Operand)
    (ho : o.op = .call { callee := .builtin .append, args := #[s, x], argTypes := #[67, 67] })
    (base : Nat) (v : Value) (Y : List ByteArray) (hs : a.eval s = v) (hown : OwnS w base v Y) (A : Option Addr) (m c : Nat) (X : List ByteArray) (hx : a.eval x = .slice A m c) (hX : SlS w A m c X)
    (hn : Y.length + m ≤ 1000000000) (hbase : base ≤ w.heap.size)
    (h : ∀ v' w', OwnS w' base v' (Y ++ X) → w.grownBy w' v.ownBlock → wpList Tryd.prog ops Q rest (a.put o.dst v') w') : wpList Tryd.prog ops Q (o :: rest) a w := by
  obtain ⟨i0, hi, hz0, hz1, hz2⟩ := info_parts strI
  have hm : m = X.length := hX.1.1
  have hl : Y.length + m ≤ maxLen := by unfold maxLen; omega
  cases A with
  | none =>
    have hc : c = 0 := hX.2.2 rfl
    have hm0 : m = 0 := by have := hX.2.1; omega
    have hX0 : X = [] := List.eq_nil_of_length_eq_zero (by omega)
    subst hX0 hc hm0
    refine wpList_append_own_none hgd s x 67 ho base 9 i0 1 Tryd.underlying67 hi v Y.length (vsS Y) hs hown hx (h v w ?_ ⟨rfl, rfl, rfl, Nat.le_refl _, fun _ _ _ => rfl⟩)
    rw [List.append_nil]; exact hown
  | some ad =>
    refine wpList_append_own w hgd s x 67 ho base 9 i0 _ 1 16 Tryd.underlying67 hi hz0 hz1 hz2 rfl (by decide) v Y.length (vsS Y) hs hown ad m c (vsS X) hx (by rw [vsS_len, hm]; omega) (news_at hX.1) (vsS_one X) hl (by omega) hbase fun v' w' h1 h2 _ => h v' w' ?_ h2
    unfold OwnS
    rw [List.length_append, vsS_app, ← hm]
    exact h1

end Go.Proofs.YthchjceibpcgbaaDoor.L
