/-
  What is proved: the law over what a pattern becomes a term by, and the first part that it matches.
-/
import Derived.Test.YtnodcpifbcabmaaZMtY
import Derived.Test.YtnodcpifbcabmaaZMtPb
import Derived.Test.YtnodcpifbcabmaaZMtPc
import Derived.Test.YtnodcpifbcabmaaZLibV
namespace Go.Proofs.Ytnodcpifbcabmaa.Mt
open Go.RowKit L T C B U
set_option linter.unusedVariables false
set_option linter.unusedSimpArgs false

set_option maxRecDepth 100000 in
set_option maxHeartbeats 32000000 in
theorem termsB (X : List ByteArray) (p t : Tm) (ap : Option Addr) (np cp : Nat) (aT : Option Addr) (nt ct : Nat) (aX : Option Addr) (nX cX : Nat) (w : World)
    (HP : ArW w p ap np cp) (hsp : smT p) (HT : ArW w t aT nt ct) (hX : IsS w aX nX X) (hnX : nX ≤ 9223372036854775807) :
    Calls Try.prog 7 #[.agg #[.int .i64 (opT p), .string (nameT p), .int .i64 (numT p), .slice ap np cp], .agg #[.int .i64 (opT t), .string (nameT t), .int .i64 (numT t), .slice aT nt ct], .slice aX nX cX] w fun e w' => e = .returned (.bool true) ∧ Below w.heap.size w w' := by
  obtain ⟨W, hW, hB0, hs2, SP, ST⟩ := box2 w (opT p) (nameT p) (numT p) ap np cp (opT t) (nameT t) (numT t) aT nt ct
  have gP := ArW.b HP hB0
  have gT := ArW.b HT hB0
  have gX := hX.below hB0
  have hBa : Below W.heap.size W (W.alloc (.cells #[.int .i64 (opT p), .string (nameT p), .int .i64 (numT p), .slice ap np cp, .int .i64 (opT t), .string (nameT t), .int .i64 (numT t), .slice aT nt ct] 24)) := bel_alloc (Below.refl _ _) _
  have cF := few11_any X [p, t] aX nX cX (some ⟨W.heap.size, 0, none⟩) 2 2 (W.alloc (.cells #[.int .i64 (opT p), .string (nameT p), .int .i64 (numT p), .slice ap np cp, .int .i64 (opT t), .string (nameT t), .int .i64 (numT t), .slice aT nt ct] 24)) (gX.below hBa) hnX (two_ts (Blk.new W _ _) (ArW.b gP hBa) (ArW.b gT hBa))
  have g0 := fun (w' : World) => alive11_any w'
  have hNX : nX = X.length := hX.1
  have HSP := Lib.hid SP
  have HST := Lib.hid ST
  have HQ := Lib.hid (show ∀ (w' : World), Below W.heap.size W w' → (w'.cell? ⟨w.heap.size, 0, none⟩ = some (.int .i64 (opT p)) ∧ w'.cell? ⟨w.heap.size, 1, none⟩ = some (.string (nameT p)) ∧ w'.cell? ⟨w.heap.size, 2, none⟩ = some (.int .i64 (numT p)) ∧ w'.cell? ⟨w.heap.size, 3, none⟩ = some (.slice ap np cp) ∧ w'.cell? ⟨w.heap.size + 1, 0, none⟩ = some (.int .i64 (opT t)) ∧ w'.cell? ⟨w.heap.size + 1, 1, none⟩ = some (.string (nameT t)) ∧ w'.cell? ⟨w.heap.size + 1, 2, none⟩ = some (.int .i64 (numT t)) ∧ w'.cell? ⟨w.heap.size + 1, 3, none⟩ = some (.slice aT nt ct)) from fun w' h => (by
    obtain ⟨q0, q1, q2, q3⟩ := (TBox.b HSP.out h).four
    obtain ⟨r0, r1, r2, r3⟩ := (TBox.b HST.out h).four
    exact ⟨q0, q1, q2, q3, r0, r1, r2, r3⟩))
  have HM := Lib.hid (show few11 X [p, t] = true →
      (∀ w', Below W.heap.size W w' → Calls Try.prog 36 #[.agg #[.int .i64 (opT p), .string (nameT p), .int .i64 (numT p), .slice ap np cp], .agg #[.int .i64 (opT t), .string (nameT t), .int .i64 (numT t), .slice aT nt ct], .slice aX nX cX] w' fun e w1 => RtPs (mat X p [] t) w' e w1) ∧
      (∀ w', Below W.heap.size W w' → Calls Try.prog 37 #[.agg #[.int .i64 (opT p), .string (nameT p), .int .i64 (numT p), .slice ap np cp], .agg #[.int .i64 (opT t), .string (nameT t), .int .i64 (numT t), .slice aT nt ct], .slice aX nX cX] w' fun e w1 => RtPs (mat X p [] t) w' e w1) ∧
      (∀ w', Below W.heap.size W w' → Calls Try.prog 38 #[.agg #[.int .i64 (opT p), .string (nameT p), .int .i64 (numT p), .slice ap np cp], .agg #[.int .i64 (opT t), .string (nameT t), .int .i64 (numT t), .slice aT nt ct], .slice aX nX cX] w' fun e w1 => RtAny (pick X p (all t)) w' e w1) ∧
      (∀ w', Below W.heap.size W w' → Calls Try.prog 39 #[.agg #[.int .i64 (opT p), .string (nameT p), .int .i64 (numT p), .slice ap np cp], .agg #[.int .i64 (opT t), .string (nameT t), .int .i64 (numT t), .slice aT nt ct], .slice aX nX cX] w' fun e w1 => RtAny (pick X p (all t)) w' e w1) from fun h1 => by
    obtain ⟨f1, f2, f3⟩ := few11_of h1
    have zp := f3 p (by simp)
    have zt := f3 t (by simp)
    have fX : ∀ x ∈ X, x.size ≤ maxLen := fun x hx => by have := f2 x hx; unfold maxLen; omega
    exact ⟨fun w' hb => TermM_any X p t ap np cp aT nt ct aX nX cX w' (ArW.b gP hb) hsp (by omega) (ArW.b gT hb) (by omega) (gX.below hb) (by omega) fX, fun w' hb => Term11_any X p t ap np cp aT nt ct aX nX cX w' (by omega) (ArW.b gP hb) (ArW.b gT hb) (gX.below hb) hnX, fun w' hb => Any_any X p t ap np cp aT nt ct aX nX cX w' (ArW.b gP hb) hsp (by omega) (ArW.b gT hb) (by omega) (gX.below hb) (by omega) fX, fun w' hb => RefAny_any X p t ap np cp aT nt ct aX nX cX w' (by omega) (by omega) (ArW.b gP hb) (ArW.b gT hb) (gX.below hb) hnX⟩)
  have cPs := fun (L' : List Pr) (A : Option Addr) (N C : Nat) (A' : Option Addr) (N' C' : Nat) (w' : World) (h : UsW w' A N C L') (h' : UsW w' A' N' C' L') => (Pairs_any L' L' A N C A' N' C' w' h h').mono (R' := fun e w1 => e = .returned (.bool true) ∧ Below w'.heap.size w' w1) fun e w1 h => by rw [eqPs_refl] at h; exact h
  have cTm := fun (r : Tm) (A : Option Addr) (N C : Nat) (A' : Option Addr) (N' C' : Nat) (w' : World) (h : ArW w' r A N C) (h' : ArW w' r A' N' C') => (Term_any r r A N C A' N' C' w' h h').mono (R' := fun e w1 => e = .returned (.bool true) ∧ Below w'.heap.size w' w1) fun e w1 h => by rw [eqT_iff.2 rfl] at h; exact h
  obtain ⟨s0, s1, s2, s3⟩ := SP.four
  obtain ⟨t0, t1, t2, t3⟩ := ST.four
  clear SP ST gP gT gX HP HT hX hsp hs2 hNX HSP HST
  unfold RtPs RtAny at HM
  generalize few11 X [p, t] = F at *
  generalize mat X p [] t = R at *
  generalize hok : R.isSome = ok at *
  generalize hLL : R.getD [] = LL at *
  generalize pick X p (all t) = R2 at *
  generalize hok2 : R2.isSome = ok2 at *
  generalize hLL2 : (R2.getD z0).2 = LL2 at *
  generalize hu : (R2.getD z0).1 = u at *
  generalize opT p = op at *
  generalize nameT p = mp at *
  generalize numT p = zp at *
  generalize opT t = ot at *
  generalize nameT t = mt at *
  generalize numT t = zt at *
  generalize hou : opT u = ou at *
  generalize hmu : nameT u = mu at *
  generalize hzu : numT u = zu at *
  have hou2 := Lib.hid hou
  have hmu2 := Lib.hid hmu
  have hzu2 := Lib.hid hzu
  have HTm := Lib.hid (show ∀ (A : Option Addr) (N C : Nat) (A' : Option Addr) (N' C' : Nat) (w' : World) (h : ArW w' u A N C) (h' : ArW w' u A' N' C'), Calls Try.prog 28 #[.agg #[.int .i64 ou, .string mu, .int .i64 zu, .slice A N C], .agg #[.int .i64 ou, .string mu, .int .i64 zu, .slice A' N' C']] w' fun e w1 => e = .returned (.bool true) ∧ Below w'.heap.size w' w1 from fun A N C A' N' C' w' h h' => by have := cTm u A N C A' N' C' w' h h'; rw [hou, hmu, hzu] at this; exact this)
  clear hok hLL hok2 hLL2 hu hou hmu hzu cTm
  cases F with
  | false =>
    clear HM cPs HTm
    go_enter Try.func7, Try.ntmps7
    go_wp2_with (first
      | (go_at_call 34; ((with_reducible refine cF.mono ?_); rintro e wX ⟨rfl, hbX⟩; have Bz := bel_trans hBa hbX))
      | (go_at_call 35; ((with_reducible refine (g0 _).mono ?_); rintro e wY ⟨rfl, hbY⟩; have Bz := bel_trans (a := W) (by assumption) hbY)))
    go_ret
    exact ⟨rfl, bel_trans hB0 Bz⟩
  | true =>
    obtain ⟨c1, c2, c3, c4⟩ := HM.out rfl
    clear HM
    go_enter Try.func7, Try.ntmps7
    go_wp2_with (first
      | (go_at_call 34; ((with_reducible refine cF.mono ?_); rintro e wX ⟨rfl, hbX⟩; have Bz := bel_trans hBa hbX; obtain ⟨s0, s1, s2, s3, t0, t1, t2, t3⟩ := HQ.out _ Bz))
      | (go_at_call 36; ((with_reducible refine (c1 _ Bz).mono ?_); rintro e w3 ⟨A3, N3, C3, rfl, hU3, hb3⟩; have K1 := Lib.hid hU3; have Bz := bel_trans Bz hb3; obtain ⟨s0, s1, s2, s3, t0, t1, t2, t3⟩ := HQ.out _ Bz; clear hU3))
      | (go_at_call 37; ((with_reducible refine (c2 _ Bz).mono ?_); rintro e w4 ⟨A4, N4, C4, rfl, hU4, hb4⟩; have K1 := Lib.hid (UsW.b K1.out hb4); have K2 := Lib.hid hU4; have Bz := bel_trans Bz hb4; obtain ⟨s0, s1, s2, s3, t0, t1, t2, t3⟩ := HQ.out _ Bz; clear hU4))
      | (go_at_call 38; ((with_reducible refine (c3 _ Bz).mono ?_); rintro e w5 ⟨a5, n5, c5, A5, N5, C5, rfl, hA5, hU5, hb5⟩; obtain ⟨W6, hW6, hb6, hs6, T6⟩ := box1 w5 ou mu zu a5 n5 c5; have hb56 := bel_trans hb5 hb6; have K1 := Lib.hid (UsW.b K1.out hb56); have K2 := Lib.hid (UsW.b K2.out hb56); have K3 := Lib.hid (UsW.b hU5 hb6); have K5 := Lib.hid (ArW.b hA5 hb6); have HT6 := Lib.hid T6; have Bz := bel_trans Bz hb56; obtain ⟨s0, s1, s2, s3, t0, t1, t2, t3⟩ := HQ.out _ Bz; clear hU5 hA5 hs6 T6))
      | (go_at_call 39; ((with_reducible refine (c4 _ Bz).mono ?_); rintro e w7 ⟨a7, n7, c7, A7, N7, C7, rfl, hA7, hU7, hb7⟩; obtain ⟨W8, hW8, hb8, hs8, T8⟩ := box1 w7 ou mu zu a7 n7 c7; have hb78 := bel_trans hb7 hb8; have K1 := Lib.hid (UsW.b K1.out hb78); have K2 := Lib.hid (UsW.b K2.out hb78); have K3 := Lib.hid (UsW.b K3.out hb78); have K5 := Lib.hid (ArW.b K5.out hb78); have K7 := Lib.hid (UsW.b hU7 hb8); have K9 := Lib.hid (ArW.b hA7 hb8); have HT6 := Lib.hid (TBox.b HT6.out hb78); have HT8 := Lib.hid T8; have Bz := bel_trans Bz hb78; clear hU7 hA7 hs8 T8))
      | (go_at_call 30; ((with_reducible refine (cPs _ _ _ _ _ _ _ _ K1.out K2.out).mono ?_); rintro e w9 ⟨rfl, hb9⟩; have K3 := Lib.hid (UsW.b K3.out hb9); have K5 := Lib.hid (ArW.b K5.out hb9); have K7 := Lib.hid (UsW.b K7.out hb9); have K9 := Lib.hid (ArW.b K9.out hb9); obtain ⟨x0, x1, x2, x3⟩ := (TBox.b HT6.out hb9).four; obtain ⟨y0, y1, y2, y3⟩ := (TBox.b HT8.out hb9).four; have Bz := bel_trans Bz hb9))
      | (go_at_call 28; ((with_reducible refine (HTm.out _ _ _ _ _ _ _ K5.out K9.out).mono ?_); rintro e w10 ⟨rfl, hb10⟩; have K3 := Lib.hid (UsW.b K3.out hb10); have K7 := Lib.hid (UsW.b K7.out hb10); have Bz := bel_trans Bz hb10))
      | (go_at_call 30; ((with_reducible refine (cPs _ _ _ _ _ _ _ _ K3.out K7.out).mono ?_); rintro e w11 ⟨rfl, hb11⟩; have Bz := bel_trans Bz hb11))
      | (go_at_call 35; ((with_reducible refine (g0 _).mono ?_); rintro e wY ⟨rfl, hbY⟩; have Bz := bel_trans Bz hbY)))
    all_goals go_ret
    all_goals exact ⟨rfl, bel_trans hB0 Bz⟩
theorem matchTerms (x y : TmV) (aX : Option Addr) (nX cX : Nat) (X : List ByteArray) (w : World) (HP : ArW w x.t x.a x.n x.c ∧ smT x.t) (HT : ArW w y.t y.a y.n y.c ∧ smT y.t) (hnX : nX ≤ 9223372036854775807) (HX : SlS w aX nX cX X ∧ sizedS X) :
    Calls Try.prog 7 #[x.val, y.val, .slice aX nX cX] w fun e w' => e = .returned (.bool true) ∧ Below w.heap.size w w' :=
  termsB X x.t y.t x.a x.n x.c y.a y.n y.c aX nX cX w HP.1 HP.2 HT.1 HX.1.1 hnX
end Go.Proofs.Ytnodcpifbcabmaa.Mt
