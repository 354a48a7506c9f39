/-
  What is proved: the document's May of layer 11: may a term stand for a variable?
-/
import Derived.Test.YtnodcpifbcabmaaZMtH
import Derived.Test.YtnodcpifbcabmaaZRgtFt
import Derived.Deep.RegionHeld3
namespace Go.Proofs.Ytnodcpifbcabmaa.Mt
open Go.RowKit L T C B U
set_option linter.unusedVariables false
set_option linter.unusedSimpArgs false

set_option maxRecDepth 100000 in
set_option maxHeartbeats 4000000 in
theorem May11_any (t : Tm) (a : Option Addr) (n c : Nat) (w : World) (hA : ArW w t a n c) :
    Calls Try.prog 113 #[.agg #[.int .i64 (opT t), .string (nameT t), .int .i64 (numT t), .slice a n c]] w fun e w' => e = .returned (.bool (mayT t)) ∧ Below w.heap.size w w' := by
  obtain ⟨W2, hW2, hB2, hs2, S2⟩ := box1 w (opT t) (nameT t) (numT t) a n c
  have hA2 := ArW.b hA hB2
  have c1 := TermRight8_any t a n c W2 hA2
  have c2 := fun (w' : World) (h : Below W2.heap.size W2 w') => Bound_any t a n c w' (ArW.b hA2 h)
  obtain ⟨s0, s1, s2, s3⟩ := S2.four
  have hm : Hid (mayT t = (decide (rightE t = 0) && !bdT t)) := Lib.hid rfl
  have HS := Lib.hid S2
  clear hA hA2 S2
  generalize mayT t = R at *
  generalize bdT t = B at *
  generalize rightE t = E at *
  generalize opT t = op at *
  generalize nameT t = nm at *
  generalize numT t = nu at *
  by_cases hE : E = 0
  · subst hE
    have hn : Hid ((!B) = R) := Lib.hid (by rw [hm.out]; rfl)
    clear hm
    go_enter Try.func113, Try.ntmps113
    go_wp2_with (first
      | (go_at_call 123; ((with_reducible refine c1.mono ?_); rintro e w3 ⟨rfl, hb3⟩; obtain ⟨u0, u1, u2, u3⟩ := (TBox.b HS.out hb3).four))
      | (go_at_call 77; ((with_reducible refine (c2 _ hb3).mono ?_); rintro e w4 ⟨rfl, hb4⟩; have B4 := bel_trans hb3 hb4)))
    go_ret
    exact ⟨oneB hn.out, bel_trans hB2 B4⟩
  · have hn : Hid (false = R) := Lib.hid (by rw [hm.out, decide_eq_false hE]; rfl)
    have hE2 : (E == 0) = false := beq_no' hE
    clear hm hE
    go_enter Try.func113, Try.ntmps113
    go_wp2_with (first
      | (go_at_call 123; ((with_reducible refine c1.mono ?_); rintro e w3 ⟨rfl, hb3⟩; obtain ⟨u0, u1, u2, u3⟩ := (TBox.b HS.out hb3).four)))
    go_ret
    exact ⟨oneB hn.out, bel_trans hB2 hb3⟩
end Go.Proofs.Ytnodcpifbcabmaa.Mt
