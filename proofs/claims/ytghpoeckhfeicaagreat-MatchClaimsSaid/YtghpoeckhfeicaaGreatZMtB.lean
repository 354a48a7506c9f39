/-
  What is proved: whether a term may stand for a variable, as package match tells.
-/
import Derived.Test.YtghpoeckhfeicaaGreatZMtV
import Derived.Test.YtghpoeckhfeicaaGreatZRgtQ
namespace Go.Proofs.YtghpoeckhfeicaaGreat.Mt
open Go.RowKit L T C
set_option linter.unusedVariables false
set_option linter.unusedSimpArgs false

set_option maxRecDepth 100000 in
set_option maxHeartbeats 4000000 in
theorem may_any (t : Tm) (a : Option Addr) (n c : Nat) (w : World) (hs : size t ≤ 4096) (hA : ArW w t a n c) :
    Calls Tryz.prog 81 #[.agg #[.int .i64 (opT t), .string (nameT t), .int .i64 (numT t), .slice a n c]] w fun e w' => e = .returned (.bool (mayT t)) ∧ Below w.heap.size w w' := by
  obtain ⟨W2, hW2, hB2, hs2, S2⟩ := box1 w (opT t) (nameT t) (numT t) a n c
  have cR := fun (w' : World) (h : Below W2.heap.size W2 w') => tRight_few t a n c w' hs (ArW.b (ArW.b hA hB2) h)
  have cH := fun (w' : World) (h : Below W2.heap.size W2 w') => hasBound_any t a n c w' (ArW.b (ArW.b hA hB2) h)
  have HQ := Lib.hid (fun (w' : World) (h : Below W2.heap.size W2 w') => (TBox.b S2 h).four)
  obtain ⟨s0, s1, s2, s3⟩ := S2.four
  have hBd : Below W2.heap.size W2 W2 := Below.refl _ _
  have HM := Lib.hid (show mayT t = (decide (rightE t = 0) && !bdT t) from rfl)
  clear hA S2 hs2
  generalize mayT t = M at *
  generalize rightE t = R at *
  generalize bdT t = Bd at *
  generalize opT t = op at *
  generalize nameT t = nm at *
  generalize numT t = nu at *
  by_cases hR : R = 0
  · subst hR
    have hm : M = !Bd := by rw [HM.out]; simp
    clear HM
    cases Bd with
    | false =>
      obtain rfl : M = true := hm
      go_enter Tryz.func81, Tryz.ntmps81
      go_wp2_with (first
        | (go_at_call 52; ((with_reducible refine (cR _ (by assumption)).mono ?_); rintro e w4 ⟨rfl, hb4⟩; have B4 : Below W2.heap.size W2 w4 := bel_trans (by assumption) hb4; obtain ⟨s0, s1, s2, s3⟩ := HQ.out _ B4))
        | (go_at_call 128; ((with_reducible refine (cH _ B4).mono ?_); rintro e w5 ⟨rfl, hb5⟩; have B5 : Below W2.heap.size W2 w5 := bel_trans B4 hb5)))
      go_ret
      exact ⟨rfl, bel_trans hB2 B5⟩
    | true =>
      obtain rfl : M = false := hm
      go_enter Tryz.func81, Tryz.ntmps81
      go_wp2_with (first
        | (go_at_call 52; ((with_reducible refine (cR _ (by assumption)).mono ?_); rintro e w4 ⟨rfl, hb4⟩; have B4 : Below W2.heap.size W2 w4 := bel_trans (by assumption) hb4; obtain ⟨s0, s1, s2, s3⟩ := HQ.out _ B4))
        | (go_at_call 128; ((with_reducible refine (cH _ B4).mono ?_); rintro e w5 ⟨rfl, hb5⟩; have B5 : Below W2.heap.size W2 w5 := bel_trans B4 hb5)))
      go_ret
      exact ⟨rfl, bel_trans hB2 B5⟩
  · obtain rfl : M = false := by rw [HM.out, decide_eq_false hR]; rfl
    have hR2 : (R == 0) = false := by simpa using hR
    clear HM
    go_enter Tryz.func81, Tryz.ntmps81
    go_wp2_with (go_at_call 52; ((with_reducible refine (cR _ (by assumption)).mono ?_); rintro e w4 ⟨rfl, hb4⟩; have B4 : Below W2.heap.size W2 w4 := bel_trans (by assumption) hb4; obtain ⟨s0, s1, s2, s3⟩ := HQ.out _ B4))
    go_ret
    exact ⟨rfl, bel_trans hB2 B4⟩
end Go.Proofs.YtghpoeckhfeicaaGreat.Mt
