/-
  What is proved: the document's answer whether a term is right (package of layer 8).
-/
import Derived.Test.YtcigeclnbhcohaaGreatDoorR1
import Derived.Test.YtcigeclnbhcohaaGreatDoorZRgtC
namespace Go.Proofs.YtcigeclnbhcohaaGreatDoor.C
open Go.RowKit L T
set_option linter.unusedVariables false
set_option linter.unusedSimpArgs false

set_option maxHeartbeats 4000000 in
theorem TermRight8_any (t : Tm) (a : Option Addr) (n c : Nat) (w : World) (hA : ArW w t a n c) :
    Calls Tryz.prog 10 #[.agg #[.int .i64 (opT t), .string (nameT t), .int .i64 (numT t), .slice a n c]] w fun e w' => e = .returned (.int .i64 (rightE t)) ∧ Below w.heap.size w w' := by
  obtain ⟨W2, hW2, hB2, hs2, S2⟩ := box1 w (opT t) (nameT t) (numT t) a n c
  have cT := tall8_any t a n c 65 W2 (by omega) (by omega) (ArW.b hA hB2)
  have cS := fun (w' : World) (h : Below W2.heap.size W2 w') => size8_any t a n c 4096 w' (by omega) (ArW.b (ArW.b hA hB2) h)
  have cP := fun (w' : World) (h : Below W2.heap.size W2 w') => part8_any t a n c w' (ArW.b (ArW.b hA hB2) h)
  rw [show ((65 : Nat) : Int) = 65 from rfl] at cT
  rw [show ((4096 : Nat) : Int) = 4096 from rfl] at cS
  have hsz := szTo_le t 4096
  have hR : Hid (rightE t = if 64 < depth t then 6 else if 4096 < size t then 2 else partE t) := Lib.hid rfl
  obtain ⟨s0, s1, s2, s3⟩ := S2.four
  have HS := Lib.hid S2
  clear S2 hA
  generalize rightE t = R at *
  generalize partE t = P at *
  generalize szTo 4096 t = sz at *
  generalize size t = sz0 at *
  generalize hdp : min (depth t) 65 = dp at *
  generalize depth t = d0 at *
  generalize opT t = op at *
  generalize nameT t = nm at *
  generalize numT t = nu at *
  by_cases h1 : 64 < d0
  · have q1 : decide ((dp : Int) > 64) = true := decide_eq_true (by omega)
    have hr : Hid ((6 : Int) = R) := Lib.hid (by rw [hR.out, if_pos h1])
    clear hR h1 hsz hdp
    go_enter Tryz.func10, Tryz.ntmps10
    go_wp2_with (go_at_call 29; ((with_reducible refine cT.mono ?_); rintro e w3 ⟨rfl, hb3⟩; obtain ⟨u0, u1, u2, u3⟩ := (TBox.b HS.out hb3).four))
    go_ret
    exact ⟨one hr.out, bel_trans hB2 hb3⟩
  · have q1 : decide ((dp : Int) > 64) = false := decide_eq_false (by omega)
    by_cases h2 : 4096 < sz0
    · have q2 : decide ((sz : Int) > 4096) = true := decide_eq_true (by omega)
      have hr : Hid ((2 : Int) = R) := Lib.hid (by rw [hR.out, if_neg h1, if_pos h2])
      clear hR h1 h2 hsz hdp
      go_enter Tryz.func10, Tryz.ntmps10
      go_wp2_with (first
        | (go_at_call 29; ((with_reducible refine cT.mono ?_); rintro e w3 ⟨rfl, hb3⟩; obtain ⟨u0, u1, u2, u3⟩ := (TBox.b HS.out hb3).four))
        | (go_at_call 30; ((with_reducible refine (cS _ hb3).mono ?_); rintro e w4 ⟨rfl, hb4⟩; have B4 := bel_trans hb3 hb4)))
      go_ret
      exact ⟨one hr.out, bel_trans hB2 B4⟩
    · have q2 : decide ((sz : Int) > 4096) = false := decide_eq_false (by omega)
      have hr : Hid (P = R) := Lib.hid (by rw [hR.out, if_neg h1, if_neg h2])
      clear hR h1 h2 hsz hdp
      go_enter Tryz.func10, Tryz.ntmps10
      go_wp2_with (first
        | (go_at_call 29; ((with_reducible refine cT.mono ?_); rintro e w3 ⟨rfl, hb3⟩; obtain ⟨u0, u1, u2, u3⟩ := (TBox.b HS.out hb3).four))
        | (go_at_call 30; ((with_reducible refine (cS _ hb3).mono ?_); rintro e w4 ⟨rfl, hb4⟩; have B4 := bel_trans hb3 hb4; obtain ⟨u0, u1, u2, u3⟩ := (TBox.b HS.out B4).four))
        | (go_at_call 31; ((with_reducible refine (cP _ B4).mono ?_); rintro e w5 ⟨rfl, hb5⟩; have B5 := bel_trans B4 hb5)))
      go_ret
      exact ⟨one hr.out, bel_trans hB2 B5⟩
end Go.Proofs.YtcigeclnbhcohaaGreatDoor.C
