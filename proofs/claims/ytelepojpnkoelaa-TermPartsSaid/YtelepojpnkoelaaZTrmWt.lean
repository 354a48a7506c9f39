/-
  What is proved: what the reference's With returns: the term with other Args.
-/
import Derived.Test.YtelepojpnkoelaaZTrmK
namespace Go.Proofs.Ytelepojpnkoelaa.T
open Go.RowKit L Go.Deep
set_option linter.unusedVariables false
set_option linter.unusedSimpArgs false

set_option maxRecDepth 100000 in
set_option maxHeartbeats 4000000 in
theorem With_any (o : Int) (s : ByteArray) (z : Int) (a : Option Addr) (n c : Nat) (A : Option Addr) (N C : Nat) (w : World) :
    Calls Try.prog 84 #[.agg #[.int .i64 o, .string s, .int .i64 z, .slice a n c], .slice A N C] w fun e w' => e = .returned (.agg #[.int .i64 o, .string s, .int .i64 z, .slice A N C]) ∧ Below w.heap.size w w' := by
  obtain ⟨W2, hW2, hB2, hs2, S2, R2⟩ := box_res w o s z a n c
  obtain ⟨u0, u1, u2, u3⟩ := S2.four
  obtain ⟨v0, v1, v2, v3⟩ := R2.four
  obtain ⟨p0, p1, p2, p3⟩ := S2.free
  obtain ⟨r0, r1, r2, r3⟩ := R2.free
  have F3 := TBox.put (TBox.far R2 (show w.heap.size ≠ w.heap.size + 1 by omega) 3 (.slice A N C)) o s z A N C
  obtain ⟨x0, x1, x2, x3⟩ := F3.four
  have hs := Lib.hid hs2
  clear hs2 F3 S2 R2
  go_enter Try.func84, Try.ntmps84
  go_wp2
  simp [bodyPost, results, Try.results84, go_sem, x0, x1, x2, x3]
  exact put_below (below_set hB2 (Nat.le_refl _) _ _) (by omega) _ _ _ _

end Go.Proofs.Ytelepojpnkoelaa.T
