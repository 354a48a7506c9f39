/-
  What is proved: the law over what is found beside what is there already.
-/
import Derived.Test.YtnodcpifbcabmaaZMtY
import Derived.Test.YtnodcpifbcabmaaZMtR
import Derived.Test.YtnodcpifbcabmaaZLibV
import Derived.Test.YtnodcpifbcabmaaBB
namespace Go.Proofs.Ytnodcpifbcabmaa.Mt
open Go.RowKit L T C B U
set_option linter.unusedVariables false
set_option linter.unusedSimpArgs false

theorem few_pair (x : Tm) : few11 [] [x] = decide (size x ≤ 300) := by unfold few11 shortS sizedT; simp
set_option maxRecDepth 100000 in
set_option maxHeartbeats 16000000 in
theorem moreB (X : List ByteArray) (l : List Pr) (p t : Tm) (A : Option Addr) (n d : Nat) (ap : Option Addr) (np cp : Nat) (aT : Option Addr) (nt ct : Nat) (aX : Option Addr) (nX cX : Nat) (w : World)
    (H : UsW w A n d l) (hsm : smU l) (HP : ArW w p ap np cp) (hsp : smT p) (HT : ArW w t aT nt ct) (hX : IsS w aX nX X) (hnX : nX ≤ 9223372036854775807) :
    Calls Try.prog 8 #[.slice A n d, .agg #[.int .i64 (opT p), .string (nameT p), .int .i64 (numT p), .slice ap np cp], .agg #[.int .i64 (opT t), .string (nameT t), .int .i64 (numT t), .slice aT nt ct], .slice aX nX cX] w fun e w' => e = .returned (.bool true) ∧ Below w.heap.size w w' := by
  obtain ⟨W, hW, hB0, hs2, SP, ST⟩ := box2 w (opT p) (nameT p) (numT p) ap np cp (opT t) (nameT t) (numT t) aT nt ct
  have gU := UsW.b H hB0
  have gP := ArW.b HP hB0
  have gT := ArW.b HT hB0
  have gX := hX.below hB0
  have hBa : Below W.heap.size W (W.alloc (.cells #[.int .i64 (opT p), .string (nameT p), .int .i64 (numT p), .slice ap np cp, .int .i64 (opT t), .string (nameT t), .int .i64 (numT t), .slice aT nt ct] 24)) := bel_alloc (Below.refl _ _) _
  have cF := few11_any X [p, t] aX nX cX (some ⟨W.heap.size, 0, none⟩) 2 2 (W.alloc (.cells #[.int .i64 (opT p), .string (nameT p), .int .i64 (numT p), .slice ap np cp, .int .i64 (opT t), .string (nameT t), .int .i64 (numT t), .slice aT nt ct] 24)) (gX.below hBa) hnX (two_ts (Blk.new W _ _) (ArW.b gP hBa) (ArW.b gT hBa))
  have g0 := fun (w' : World) => alive11_any w'
  have hln : n = l.length := H.1
  have hNX : nX = X.length := hX.1
  have HSP := Lib.hid SP
  have HST := Lib.hid ST
  have HQ := Lib.hid (show ∀ (w' : World), Below W.heap.size W w' → (w'.cell? ⟨w.heap.size, 0, none⟩ = some (.int .i64 (opT p)) ∧ w'.cell? ⟨w.heap.size, 1, none⟩ = some (.string (nameT p)) ∧ w'.cell? ⟨w.heap.size, 2, none⟩ = some (.int .i64 (numT p)) ∧ w'.cell? ⟨w.heap.size, 3, none⟩ = some (.slice ap np cp) ∧ w'.cell? ⟨w.heap.size + 1, 0, none⟩ = some (.int .i64 (opT t)) ∧ w'.cell? ⟨w.heap.size + 1, 1, none⟩ = some (.string (nameT t)) ∧ w'.cell? ⟨w.heap.size + 1, 2, none⟩ = some (.int .i64 (numT t)) ∧ w'.cell? ⟨w.heap.size + 1, 3, none⟩ = some (.slice aT nt ct)) from fun w' h => (by
    obtain ⟨q0, q1, q2, q3⟩ := (TBox.b HSP.out h).four
    obtain ⟨r0, r1, r2, r3⟩ := (TBox.b HST.out h).four
    exact ⟨q0, q1, q2, q3, r0, r1, r2, r3⟩))
  have HM := Lib.hid (show few11 X [p, t] = true → n ≤ 20 → (∀ q ∈ l, size q.t ≤ 300) →
      (∀ w', Below W.heap.size W w' → Calls Try.prog 40 #[.slice A n d, .agg #[.int .i64 (opT p), .string (nameT p), .int .i64 (numT p), .slice ap np cp], .agg #[.int .i64 (opT t), .string (nameT t), .int .i64 (numT t), .slice aT nt ct], .slice aX nX cX] w' fun e w1 => RtPs (moreF X l p t) w' e w1) ∧
      (∀ w', Below W.heap.size W w' → Calls Try.prog 41 #[.slice A n d, .agg #[.int .i64 (opT p), .string (nameT p), .int .i64 (numT p), .slice ap np cp], .agg #[.int .i64 (opT t), .string (nameT t), .int .i64 (numT t), .slice aT nt ct], .slice aX nX cX] w' fun e w1 => RtPs (moreF X l p t) w' e w1) from fun h1 h2 h3 => by
    obtain ⟨f1, f2, f3⟩ := few11_of h1
    have zp := f3 p (by simp)
    have zt := f3 t (by simp)
    refine ⟨fun w' hb => More_any X l p t A n d ap np cp aT nt ct aX nX cX w' (UsW.b gU hb) (fun q hq => ⟨by have := h3 q hq; omega, (hsm q hq).2⟩) (by omega) (ArW.b gP hb) hsp (by omega) (ArW.b gT hb) (by omega) (gX.below hb) (by omega) (fun x hx => by have := f2 x hx; unfold maxLen; omega), fun w' hb => RefMore_any X l p t A n d ap np cp aT nt ct aX nX cX w' (fun w2 h2 => Right11_any l A n d w2 h2) (by omega) (UsW.b gU hb) (ArW.b gP hb) (ArW.b gT hb) (gX.below hb) hnX⟩)
  have cPs := fun (L' : List Pr) (A : Option Addr) (N C : Nat) (A' : Option Addr) (N' C' : Nat) (w' : World) (h : UsW w' A N C L') (h' : UsW w' A' N' C' L') => (Pairs_any L' L' A N C A' N' C' w' h h').mono (R' := fun e w1 => e = .returned (.bool true) ∧ Below w'.heap.size w' w1) fun e w1 h => by rw [eqPs_refl] at h; exact h
  obtain ⟨s0, s1, s2, s3⟩ := SP.four
  obtain ⟨t0, t1, t2, t3⟩ := ST.four
  have H1 := Lib.hid gU
  have hlen : n ≤ 9223372036854775807 := H.lt63
  have HLn := Lib.hid hln
  clear SP ST gP gT gX gU HP HT hX H hsm hsp hs2 hNX HSP HST hln
  unfold RtPs at HM
  generalize few11 X [p, t] = F at *
  generalize moreF X l p t = R at *
  generalize hok : R.isSome = ok at *
  generalize hLL : R.getD [] = LL at *
  generalize opT p = op at *
  generalize nameT p = mp at *
  generalize numT p = zp at *
  generalize opT t = ot at *
  generalize nameT t = mt at *
  generalize numT t = zt at *
  clear hok hLL
  cases F with
  | false =>
    clear HM cPs
    go_enter Try.func8, Try.ntmps8
    go_wp2_with (first
      | (go_at_call 34; ((with_reducible refine cF.mono ?_); rintro e wX ⟨rfl, hbX⟩; have Bz := bel_trans hBa hbX))
      | (go_at_call 35; ((with_reducible refine (g0 _).mono ?_); rintro e wY ⟨rfl, hbY⟩; have Bz := bel_trans (a := W) (by assumption) hbY)))
    go_ret
    exact ⟨rfl, bel_trans hB0 Bz⟩
  | true =>
    by_cases h20 : n ≤ 20
    · have p1 : decide ((20 : Int) < (n : Int)) = false := decide_eq_false (by omega)
      have HM2 := Lib.hid (HM.out rfl h20)
      have H20 := Lib.hid h20
      clear HM h20
      go_enter Try.func8, Try.ntmps8
      go_wp2_with (go_at_call 34; ((with_reducible refine cF.mono ?_); rintro e wX ⟨rfl, hbX⟩; have Bz := bel_trans hBa hbX))
      go_loopw [29] (fun i wr0 => ∃ (wr : World) (k : Nat), wr = wr0 ∧ k ≤ n ∧ i = .int .i64 k ∧ Below W.heap.size W wr ∧ Hid (∀ q ∈ l.take k, size q.t ≤ 300)) (fun i _ => n - (intOf i).toNat)
      case atStart => exact ⟨_, 0, rfl, by omega, rfl, Bz, Lib.hid (by simp)⟩
      case round =>
        obtain ⟨wr, k, rfl, hk, rfl, hB, hall⟩ := hrel
        by_cases hlt : k < n
        · obtain ⟨bb, o, x, A', M, Cc, rfl, hb, y0, y1, y2, y3, y4, hx, hok⟩ := (UsW.b H1.out hB).at hlt
          obtain ⟨W4, hW4, hB4, hs4, S4⟩ := ubox1 wr x.nm (opT x.t) (nameT x.t) (numT x.t) A' M Cc
          have cs := few11_any [] [x.t] none 0 0 (some ⟨W4.heap.size, 0, none⟩) 1 1 (W4.alloc (.cells #[.int .i64 (opT x.t), .string (nameT x.t), .int .i64 (numT x.t), .slice A' M Cc] 24)) (IsS.nil _ _) (by omega) (tbox_ts (TBox.new W4 _ _ _ _ _ _) (ArW.b hok (bel_alloc hB4 _)))
          rw [few_pair] at cs
          obtain ⟨f0, f1, f2, f3, f4⟩ := S4.five
          have B5 : Below W.heap.size W (W4.alloc (.cells #[.int .i64 (opT x.t), .string (nameT x.t), .int .i64 (numT x.t), .slice A' M Cc] 24)) := bel_alloc (bel_trans hB hB4) _
          have hk0 : 0 ≤ (k : Int) := by omega
          have hk1 : (k : Int) < (n : Int) := by omega
          have hstep : Hid (size x.t ≤ 300 → ∀ q ∈ l.take (k + 1), size q.t ≤ 300) := Lib.hid (fun hz q hq => by
            rw [List.take_add_one, hx, List.mem_append] at hq
            rcases hq with hq | hq
            · exact hall.out q hq
            · simp at hq; subst hq; exact hz)
          clear hx hok S4 hs4 hall HM2
          generalize hsz : decide (size x.t ≤ 300) = zz at *
          generalize opT x.t = op' at *
          generalize nameT x.t = nm' at *
          generalize numT x.t = nu' at *
          generalize x.nm = xn at *
          cases zz with
          | true =>
            have hnew := Lib.hid (hstep.out (of_decide_eq_true hsz))
            clear hstep hsz
            go_wp2_with (go_at_call 34; ((with_reducible refine cs.mono ?_); rintro e w4 ⟨rfl, hb4⟩))
            go_roundw
            case rel => exact ⟨_, k + 1, rfl, by omega, by go_num, bel_trans B5 hb4, hnew⟩
            case measure => simp [intOf]; omega
          | false =>
            clear hstep hsz
            go_wp2_with (first
              | (go_at_call 34; ((with_reducible refine cs.mono ?_); rintro e w4 ⟨rfl, hb4⟩; have B6 := bel_trans B5 hb4))
              | (go_at_call 35; ((with_reducible refine (g0 _).mono ?_); rintro e wY ⟨rfl, hbY⟩)))
            go_ret
            exact ⟨rfl, bel_trans hB0 (bel_trans B6 hbY)⟩
        · obtain ⟨cM, cR⟩ := HM2.out (by rw [show l = l.take k by rw [List.take_of_length_le (by rw [← HLn.out]; omega)]]; exact hall.out)
          have HM3 := Lib.hid cM
          have HR3 := Lib.hid cR
          clear cM cR HM2 hall cF
          obtain ⟨s0, s1, s2, s3, t0, t1, t2, t3⟩ := HQ.out _ hB
          go_wp2_with (first
            | (go_at_call 40; ((with_reducible refine (HM3.out _ hB).mono ?_); rintro e w5 ⟨A5, N5, C5, rfl, hU5, hb5⟩; have HU5 := Lib.hid hU5; have B5 := bel_trans hB hb5; obtain ⟨s0, s1, s2, s3, t0, t1, t2, t3⟩ := HQ.out _ B5; clear hU5))
            | (go_at_call 41; ((with_reducible refine (HR3.out _ B5).mono ?_); rintro e w6 ⟨A6, N6, C6, rfl, hU6, hb6⟩; have HU6 := Lib.hid hU6; have HV6 := Lib.hid (UsW.b HU5.out hb6); have B6 := bel_trans B5 hb6; clear hU6))
            | (go_at_call 30; ((with_reducible refine (cPs _ _ _ _ _ _ _ _ HV6.out HU6.out).mono ?_); rintro e w7 ⟨rfl, hb7⟩; have B7 := bel_trans B6 hb7))
            | (go_at_call 35; ((with_reducible refine (g0 _).mono ?_); rintro e wY ⟨rfl, hbY⟩)))
          all_goals go_ret
          all_goals exact ⟨rfl, bel_trans hB0 (bel_trans B7 hbY)⟩
    · have p1 : decide ((20 : Int) < (n : Int)) = true := decide_eq_true (by omega)
      clear HM cPs h20
      go_enter Try.func8, Try.ntmps8
      go_wp2_with (first
        | (go_at_call 34; ((with_reducible refine cF.mono ?_); rintro e wX ⟨rfl, hbX⟩; have Bz := bel_trans hBa hbX))
        | (go_at_call 35; ((with_reducible refine (g0 _).mono ?_); rintro e wY ⟨rfl, hbY⟩; have Bz := bel_trans (a := W) (by assumption) hbY)))
      go_ret
      exact ⟨rfl, bel_trans hB0 Bz⟩
theorem matchMore (A : Option Addr) (n d : Nat) (l : List Pr) (x y : TmV) (aX : Option Addr) (nX cX : Nat) (X : List ByteArray) (w : World) (_ : n ≤ 9223372036854775807) (H : UsW w A n d l ∧ smU l) (HP : ArW w x.t x.a x.n x.c ∧ smT x.t) (HT : ArW w y.t y.a y.n y.c ∧ smT y.t) (hnX : nX ≤ 9223372036854775807) (HX : SlS w aX nX cX X ∧ sizedS X) :
    Calls Try.prog 8 #[.slice A n d, x.val, y.val, .slice aX nX cX] w fun e w' => e = .returned (.bool true) ∧ Below w.heap.size w w' :=
  moreB X l x.t y.t A n d x.a x.n x.c y.a y.n y.c aX nX cX w H.1 H.2 HP.1 HP.2 HT.1 HX.1.1 hnX
end Go.Proofs.Ytnodcpifbcabmaa.Mt
