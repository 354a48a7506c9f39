/-
  What is proved: the law over what a claim becomes another one by.
-/
import Derived.Test.YtghpoeckhfeicaaGreatZMtY
import Derived.Test.YtghpoeckhfeicaaGreatZMtCf
import Derived.Test.YtghpoeckhfeicaaGreatZMtCr
import Derived.Test.YtghpoeckhfeicaaGreatBC
import Derived.Test.YtghpoeckhfeicaaGreatZLibV
import Derived.Test.YtghpoeckhfeicaaGreatZSbCo
namespace Go.Proofs.YtghpoeckhfeicaaGreat.Mt
open Go.RowKit L T C B U
set_option linter.unusedVariables false
set_option linter.unusedSimpArgs false

theorem few_none (X : List ByteArray) : few11 X [] = true → X.length ≤ 20 ∧ ∀ x ∈ X, x.size ≤ 100 := fun h => ⟨(few11_of h).1, (few11_of h).2.1⟩
set_option maxRecDepth 100000 in
set_option maxHeartbeats 32000000 in
theorem claimsB (X : List ByteArray) (p c : Cl) (kp : SS) (ap : Option Addr) (np cp : Nat) (kc : SS) (ac : Option Addr) (nc cc : Nat) (aX : Option Addr) (nX cX : Nat) (w : World)
    (HP : ArWC w p kp ap np cp) (hsp : smC p) (HC : ArWC w c kc ac nc cc) (hX : IsS w aX nX X) (hnX : nX ≤ 9223372036854775807) :
    Calls Tryz.prog 4 #[.agg #[.int .i64 (opC p), .string (nmC p), .string (soC p), .slice kp.a kp.n kp.c, .slice ap np cp], .agg #[.int .i64 (opC c), .string (nmC c), .string (soC c), .slice kc.a kc.n kc.c, .slice ac nc cc], .slice aX nX cX] w fun e w' => e = .returned (.bool true) ∧ Below w.heap.size w w' := by
  obtain ⟨W, hW, hB0, hs2, SP, SC⟩ := cbox2 w (opC p) (nmC p) (soC p) kp ap np cp (opC c) (nmC c) (soC c) kc ac nc cc
  have gP := ArWC.b HP hB0
  have gC := ArWC.b HC hB0
  have gX := hX.below hB0
  have cF := fun (w' : World) (hb : Below W.heap.size W w') => few11_any X [] aX nX cX none 0 0 w' (gX.below hb) hnX (TsW.nil w')
  have zP := fun (w' : World) (hb : Below W.heap.size W w') => Big_any p kp ap np cp 300 w' (by omega) (ArWC.b gP hb)
  have zC := fun (w' : World) (hb : Below W.heap.size W w') => Big_any c kc ac nc cc 300 w' (by omega) (ArWC.b gC hb)
  rw [show ((300 : Nat) : Int) = 300 from rfl] at zP zC
  have g0 := fun (w' : World) => alive11_any w'
  have hNX : nX = X.length := hX.1
  have HSP := Lib.hid SP
  have HSC := Lib.hid SC
  have HQ := Lib.hid (show ∀ (w' : World), Below W.heap.size W w' → (w'.cell? ⟨w.heap.size, 0, none⟩ = some (.int .i64 (opC p)) ∧ w'.cell? ⟨w.heap.size, 1, none⟩ = some (.string (nmC p)) ∧ w'.cell? ⟨w.heap.size, 2, none⟩ = some (.string (soC p)) ∧ w'.cell? ⟨w.heap.size, 3, none⟩ = some (.slice kp.a kp.n kp.c) ∧ w'.cell? ⟨w.heap.size, 4, none⟩ = some (.slice ap np cp) ∧ w'.cell? ⟨w.heap.size + 1, 0, none⟩ = some (.int .i64 (opC c)) ∧ w'.cell? ⟨w.heap.size + 1, 1, none⟩ = some (.string (nmC c)) ∧ w'.cell? ⟨w.heap.size + 1, 2, none⟩ = some (.string (soC c)) ∧ w'.cell? ⟨w.heap.size + 1, 3, none⟩ = some (.slice kc.a kc.n kc.c) ∧ w'.cell? ⟨w.heap.size + 1, 4, none⟩ = some (.slice ac nc cc)) from fun w' h => (by
    obtain ⟨q0, q1, q2, q3, q4⟩ := (CBox.b HSP.out h).five
    obtain ⟨r0, r1, r2, r3, r4⟩ := (CBox.b HSC.out h).five
    exact ⟨q0, q1, q2, q3, q4, r0, r1, r2, r3, r4⟩))
  have HM := Lib.hid (show few11 X [] = true → wtTo 300 p ≤ 300 → wtTo 300 c ≤ 300 →
      (∀ w', Below W.heap.size W w' → Calls Tryz.prog 17 #[.agg #[.int .i64 (opC p), .string (nmC p), .string (soC p), .slice kp.a kp.n kp.c, .slice ap np cp], .agg #[.int .i64 (opC c), .string (nmC c), .string (soC c), .slice kc.a kc.n kc.c, .slice ac nc cc], .slice aX nX cX] w' fun e w1 => RtPs (matC X p [] c) w' e w1) ∧
      (∀ w', Below W.heap.size W w' → Calls Tryz.prog 18 #[.agg #[.int .i64 (opC p), .string (nmC p), .string (soC p), .slice kp.a kp.n kp.c, .slice ap np cp], .agg #[.int .i64 (opC c), .string (nmC c), .string (soC c), .slice kc.a kc.n kc.c, .slice ac nc cc], .slice aX nX cX] w' fun e w1 => RtPs (matC X p [] c) w' e w1) from fun h1 h2 h3 => by
    obtain ⟨f1, f2⟩ := few_none X h1
    have zp := Nat.le_trans (wtTo_le p 300 h2) h2
    have zc := Nat.le_trans (wtTo_le c 300 h3) h3
    have fX : ∀ x ∈ X, x.size ≤ maxLen := fun x hx => by have := f2 x hx; unfold maxLen; omega
    exact ⟨fun w' hb => ClaimM_any X p c kp ap np cp kc ac nc cc aX nX cX w' (ArWC.b gP hb) hsp (by omega) (ArWC.b gC hb) (by omega) (gX.below hb) (by omega) fX, fun w' hb => Claim11_any X p c kp ap np cp kc ac nc cc aX nX cX w' (by omega) (ArWC.b gP hb) (ArWC.b gC hb) (gX.below hb) hnX⟩)
  have cPs := fun (L' : List Pr) (A : Option Addr) (N C : Nat) (A' : Option Addr) (N' C' : Nat) (w' : World) (h : UsW w' A N C L') (h' : UsW w' A' N' C' L') => (Pairs_any L' L' A N C A' N' C' w' h h').mono (R' := fun e w1 => e = .returned (.bool true) ∧ Below w'.heap.size w' w1) fun e w1 h => by rw [eqPs_refl] at h; exact h
  obtain ⟨kpa, kpn, kpc⟩ := kp
  obtain ⟨kca, kcn, kcc⟩ := kc
  dsimp only at *
  obtain ⟨s0, s1, s2, s3, s4⟩ := SP.five
  obtain ⟨t0, t1, t2, t3, t4⟩ := SC.five
  have hBd : Below W.heap.size W W := Below.refl _ _
  clear SP SC gP gC gX HP HC hX hsp hs2 hNX HSP HSC
  dsimp only at *
  unfold RtPs at HM
  generalize few11 X [] = F at *
  generalize wtTo 300 p = wp at *
  generalize wtTo 300 c = wc at *
  generalize matC X p [] c = R at *
  generalize hok : R.isSome = ok at *
  generalize hLL : R.getD [] = LL at *
  generalize opC p = op at *
  generalize nmC p = mp at *
  generalize soC p = zp at *
  generalize opC c = ot at *
  generalize nmC c = mt at *
  generalize soC c = zt at *
  clear hok hLL
  cases F with
  | false =>
    clear HM cPs zP zC
    go_enter Tryz.func4, Tryz.ntmps4
    go_wp2_with (first
      | (go_at_call 15; ((with_reducible refine (cF _ hBd).mono ?_); rintro e wX ⟨rfl, hbX⟩; have Bz := bel_trans hBd hbX))
      | (go_at_call 16; ((with_reducible refine (g0 _).mono ?_); rintro e wY ⟨rfl, hbY⟩; have Bz := bel_trans (a := W) (by assumption) hbY)))
    go_ret
    exact ⟨rfl, bel_trans hB0 Bz⟩
  | true =>
    by_cases q1 : wp ≤ 300
    · have p1 : decide (300 < wp) = false := decide_eq_false (by omega)
      rw [p1] at zP
      by_cases q2 : wc ≤ 300
      · have p2 : decide (300 < wc) = false := decide_eq_false (by omega)
        rw [p2] at zC
        obtain ⟨c1, c2⟩ := HM.out rfl q1 q2
        clear HM p1 p2 q1 q2
        go_enter Tryz.func4, Tryz.ntmps4
        go_wp2_with (first
          | (go_at_call 15; ((with_reducible refine (cF _ hBd).mono ?_); rintro e wX ⟨rfl, hbX⟩; have Bz := bel_trans hBd hbX; obtain ⟨s0, s1, s2, s3, s4, t0, t1, t2, t3, t4⟩ := HQ.out _ Bz))
          | (go_at_call 7; ((with_reducible refine (zP _ Bz).mono ?_); rintro e wX ⟨rfl, hbX⟩; have Bz := bel_trans Bz hbX; obtain ⟨s0, s1, s2, s3, s4, t0, t1, t2, t3, t4⟩ := HQ.out _ Bz))
          | (go_at_call 7; ((with_reducible refine (zC _ Bz).mono ?_); rintro e wX ⟨rfl, hbX⟩; have Bz := bel_trans Bz hbX; obtain ⟨s0, s1, s2, s3, s4, t0, t1, t2, t3, t4⟩ := HQ.out _ Bz))
          | (go_at_call 17; ((with_reducible refine (c1 _ Bz).mono ?_); rintro e w3 ⟨A3, N3, C3, rfl, hU3, hb3⟩; have K1 := Lib.hid hU3; have Bz := bel_trans Bz hb3; obtain ⟨s0, s1, s2, s3, s4, t0, t1, t2, t3, t4⟩ := HQ.out _ Bz; clear hU3))
          | (go_at_call 18; ((with_reducible refine (c2 _ Bz).mono ?_); rintro e w4 ⟨A4, N4, C4, rfl, hU4, hb4⟩; have K1 := Lib.hid (UsW.b K1.out hb4); have K2 := Lib.hid hU4; have Bz := bel_trans Bz hb4; clear hU4))
          | (go_at_call 19; ((with_reducible refine (cPs _ _ _ _ _ _ _ _ K1.out K2.out).mono ?_); rintro e w9 ⟨rfl, hb9⟩; have Bz := bel_trans Bz hb9))
          | (go_at_call 16; ((with_reducible refine (g0 _).mono ?_); rintro e wY ⟨rfl, hbY⟩; have Bz := bel_trans Bz hbY)))
        all_goals go_ret
        all_goals exact ⟨rfl, bel_trans hB0 Bz⟩
      · have p2 : decide (300 < wc) = true := decide_eq_true (by omega)
        rw [p2] at zC
        clear HM cPs p1 p2 q1 q2
        go_enter Tryz.func4, Tryz.ntmps4
        go_wp2_with (first
          | (go_at_call 15; ((with_reducible refine (cF _ hBd).mono ?_); rintro e wX ⟨rfl, hbX⟩; have Bz := bel_trans hBd hbX; obtain ⟨s0, s1, s2, s3, s4, t0, t1, t2, t3, t4⟩ := HQ.out _ Bz))
          | (go_at_call 7; ((with_reducible refine (zP _ Bz).mono ?_); rintro e wX ⟨rfl, hbX⟩; have Bz := bel_trans Bz hbX; obtain ⟨s0, s1, s2, s3, s4, t0, t1, t2, t3, t4⟩ := HQ.out _ Bz))
          | (go_at_call 7; ((with_reducible refine (zC _ Bz).mono ?_); rintro e wX ⟨rfl, hbX⟩; have Bz := bel_trans Bz hbX))
          | (go_at_call 16; ((with_reducible refine (g0 _).mono ?_); rintro e wY ⟨rfl, hbY⟩; have Bz := bel_trans Bz hbY)))
        all_goals go_ret
        all_goals exact ⟨rfl, bel_trans hB0 Bz⟩
    · have p1 : decide (300 < wp) = true := decide_eq_true (by omega)
      rw [p1] at zP
      clear HM cPs p1 q1 zC
      go_enter Tryz.func4, Tryz.ntmps4
      go_wp2_with (first
        | (go_at_call 15; ((with_reducible refine (cF _ hBd).mono ?_); rintro e wX ⟨rfl, hbX⟩; have Bz := bel_trans hBd hbX; obtain ⟨s0, s1, s2, s3, s4, t0, t1, t2, t3, t4⟩ := HQ.out _ Bz))
        | (go_at_call 7; ((with_reducible refine (zP _ Bz).mono ?_); rintro e wX ⟨rfl, hbX⟩; have Bz := bel_trans Bz hbX))
        | (go_at_call 16; ((with_reducible refine (g0 _).mono ?_); rintro e wY ⟨rfl, hbY⟩; have Bz := bel_trans Bz hbY)))
      all_goals go_ret
      all_goals exact ⟨rfl, bel_trans hB0 Bz⟩
theorem matchClaims (x y : ClV) (aX : Option Addr) (nX cX : Nat) (X : List ByteArray) (w : World) (HP : ArWC w x.t x.k x.a x.n x.c ∧ smC x.t) (HT : ArWC w y.t y.k y.a y.n y.c ∧ smC y.t) (hnX : nX ≤ 9223372036854775807) (HX : SlS w aX nX cX X ∧ sizedS X) :
    Calls Tryz.prog 4 #[x.val, y.val, .slice aX nX cX] w fun e w' => e = .returned (.bool true) ∧ Below w.heap.size w w' :=
  claimsB X x.t y.t x.k x.a x.n x.c y.k y.a y.n y.c aX nX cX w HP.1 HP.2 HT.1 HX.1.1 hnX
end Go.Proofs.YtghpoeckhfeicaaGreat.Mt
