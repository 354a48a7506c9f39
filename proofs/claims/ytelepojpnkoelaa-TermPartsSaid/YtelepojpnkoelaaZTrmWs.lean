/-
  What is proved: package term's Same.
-/
import Derived.Test.YtelepojpnkoelaaZTrmW
namespace Go.Proofs.Ytelepojpnkoelaa.T
open Go.RowKit Go.Shelf L
set_option linter.unusedVariables false
set_option linter.unusedSimpArgs false
attribute [local go_sem] Oper.semAt_some

theorem Same_any (t u : Tm) (a : Option Addr) (n c : Nat) (a' : Option Addr) (n' c' : Nat) (w : World) (hA : ArW w t a n c) (hA' : ArW w u a' n' c') :
    Calls Try.prog 28 #[.agg #[.int .i64 (opT t), .string (nameT t), .int .i64 (numT t), .slice a n c], .agg #[.int .i64 (opT u), .string (nameT u), .int .i64 (numT u), .slice a' n' c']] w fun e w' => e = .returned (.bool (eqT t u)) ∧ Below w.heap.size w w' := by
  obtain ⟨W2, hW2, hB2, hs2, S2, T2⟩ := box2 w (opT t) (nameT t) (numT t) a n c (opT u) (nameT u) (numT u) a' n' c'
  have cC := Compare_any t u a n c a' n' c' W2 (ArW.b hA hB2) (ArW.b hA' hB2)
  have he : eqT t u = (cmpT t u == 0) := by rw [Bool.eq_iff_iff, eqT_iff, beq_iff_eq, linT.eq]
  obtain ⟨s0, s1, s2, s3⟩ := S2.four
  obtain ⟨t0, t1, t2, t3⟩ := T2.four
  rw [he]
  clear hA hA' S2 T2 he
  generalize cmpT t u = R at *
  generalize opT t = op at *
  generalize nameT t = nm at *
  generalize numT t = nu at *
  generalize opT u = op' at *
  generalize nameT u = nm' at *
  generalize numT u = nu' at *
  go_enter Try.func28, Try.ntmps28
  go_wp2_with (go_at_call 20; ((with_reducible refine cC.mono ?_); rintro e w3 ⟨rfl, hb3⟩))
  go_ret
  exact ⟨rfl, bel_trans hB2 hb3⟩
end Go.Proofs.Ytelepojpnkoelaa.T
