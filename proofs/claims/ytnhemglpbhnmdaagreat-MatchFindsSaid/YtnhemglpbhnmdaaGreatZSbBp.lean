/-
  What is proved: whether two pairs are the same: the base's Pair.
-/
import Derived.Test.YtnhemglpbhnmdaaGreatBS
import Derived.Test.YtnhemglpbhnmdaaGreatBL
import Derived.Test.YtnhemglpbhnmdaaGreatBT
import Derived.BigQuiet
namespace Go.Proofs.YtnhemglpbhnmdaaGreat.U
open Go.RowKit L T
set_option linter.unusedVariables false
set_option linter.unusedSimpArgs false

set_option maxRecDepth 100000 in
set_option maxHeartbeats 4000000 in
theorem Pair_any (p q : Pr) (a : Option Addr) (n c : Nat) (a' : Option Addr) (n' c' : Nat) (w : World) (hA : ArW w p.t a n c) (hA' : ArW w q.t a' n' c') :
    Calls Tryz.prog 58 #[prV p.nm p.t a n c, prV q.nm q.t a' n' c'] w fun e w' => e = .returned (.bool (eqP p q)) ∧ Below w.heap.size w w' := by
  obtain ⟨W3, hW3, hB3, hs3, S3, R3⟩ := ubox2 w p.nm (opT p.t) (nameT p.t) (numT p.t) a n c q.nm (opT q.t) (nameT q.t) (numT q.t) a' n' c'
  have cT := Term_any p.t q.t a n c a' n' c' W3 (ArW.b hA hB3) (ArW.b hA' hB3)
  unfold eqP prV
  obtain ⟨s0, s1, s2, s3, s4⟩ := S3.five
  obtain ⟨r0, r1, r2, r3, r4⟩ := R3.five
  clear hA hA' S3 R3
  generalize hE : eqT p.t q.t = E at *
  generalize opT p.t = op at *
  generalize nameT p.t = nm at *
  generalize numT p.t = nu at *
  generalize opT q.t = op' at *
  generalize nameT q.t = nm' at *
  generalize numT q.t = nu' at *
  generalize p.nm = x at *
  generalize q.nm = y at *
  clear hE
  cases hxy : x.toList == y.toList with
  | true =>
    go_enter Tryz.func58, Tryz.ntmps58
    go_wp2_with (go_at_call 18; ((with_reducible refine cT.mono ?_); rintro e w4 ⟨rfl, hb4⟩))
    go_ret
    exact ⟨by simp, bel_trans hB3 hb4⟩
  | false =>
    clear cT
    go_enter Tryz.func58, Tryz.ntmps58
    go_wp2
    go_ret
    exact ⟨by simp, hB3⟩
end Go.Proofs.YtnhemglpbhnmdaaGreat.U
