/-
  What is proved: in the text of two claims put together each bracket that opens is closed, and it has both texts.
-/
import Derived.Test.YtcigeclnbhcohaaGreatDoorLB
namespace Go.Proofs.YtcigeclnbhcohaaGreatDoor.Sh
open Go.RowKit L T C
set_option linter.unusedVariables false
set_option linter.unusedSimpArgs false
set_option maxRecDepth 100000

set_option maxHeartbeats 32000000 in
theorem brackets_yes (x y : ClV) (op : Int) (W : World) (hx : ArWC W x.t x.k x.a x.n x.c ∧ smC x.t) (hy : ArWC W y.t y.k y.a y.n y.c ∧ smC y.t) (ho0 : -9223372036854775808 ≤ op) (ho1 : op ≤ 9223372036854775807) (E : Env W) (p1 : plC x.t 150 = true) (p2 : plC y.t 150 = true) (l1 : ltC x.t = true) (l2 : ltC y.t = true) (ho : 7 ≤ op ∧ op ≤ 10) (hr0 : crightE (.mk op ⟨#[]⟩ ⟨#[]⟩ [] [x.t, y.t]) = 0) :
    Calls Tryz.prog 8 #[x.val, y.val, .int .i64 op] W fun e w' => e = .returned (.bool true) ∧ Below W.heap.size W w' := by
  obtain ⟨t, ks, a, n, c⟩ := x
  obtain ⟨u, ls, a', n', c'⟩ := y
  obtain ⟨hA, hsm⟩ := hx
  obtain ⟨hA', hsm'⟩ := hy
  dsimp only at hA hsm hA' hsm' p1 p2 l1 l2 hr0
  unfold ClV.val
  dsimp only
  obtain ⟨W2, hW2, hB2, hs2, S1, S2⟩ := cbox2 W (opC t) (nmC t) (soC t) ks a n c (opC u) (nmC u) (soC u) ls a' n' c'
  have H1 := Lib.hid S1
  have H2 := Lib.hid S2
  have hA2 := ArWC.b hA hB2
  have hA2' := ArWC.b hA' hB2
  have c1 := Plain_any t hsm ks a n c 150 (by omega) W2 hA2
  rw [show ((150 : Nat) : Int) = 150 from rfl] at c1
  have HP2 := Lib.hid (fun (w' : World) (h : Below W2.heap.size W2 w') => by
    have := Plain_any u hsm' ls a' n' c' 150 (by omega) w' (ArWC.b hA2' h)
    rwa [show ((150 : Nat) : Int) = 150 from rfl] at this)
  have HL1 := Lib.hid (fun (w' : World) (h : Below W2.heap.size W2 w') => ltC_any t ks a n c w' hsm (ArWC.b hA2 h))
  have HL2 := Lib.hid (fun (w' : World) (h : Below W2.heap.size W2 w') => ltC_any u ls a' n' c' w' hsm' (ArWC.b hA2' h))
  have HA := Lib.hid (fun (w' : World) (h : Below W2.heap.size W2 w') => alive_any E w' (hB2.trans (h.mono hB2.size)))
  obtain ⟨ka, kn, kc⟩ := ks
  obtain ⟨la, ln, lc⟩ := ls
  obtain ⟨s0, s1, s2, s3, s4⟩ := S1.five
  obtain ⟨u0, u1, u2, u3, u4⟩ := S2.five
  dsimp only at s3 u3
  clear S1 S2
  rw [p1] at c1
  rw [p2] at HP2
  rw [l1] at HL1
  rw [l2] at HL2
  have g7 : decide (op < 7) = false := decide_eq_false (by omega)
  have g10 : decide (op > 10) = false := decide_eq_false (by omega)
  obtain ⟨hk1, hr1⟩ := plC_ok p1 hsm
  obtain ⟨hk2, hr2⟩ := plC_ok p2 hsm'
  have hk0 := okC_two ho hk1 hk2
  have HT := Lib.hid (two_text (nmsA (.mk op ⟨#[]⟩ ⟨#[]⟩ [] [t, u])) (nmsA t) (nmsA u) op ho ⟨#[]⟩ ⟨#[]⟩ t u l1 l2)
  have HBi := Lib.hid (show ltC (.mk op ⟨#[]⟩ ⟨#[]⟩ [] [t, u]) = true → okS 0 (lst (clT (.mk op ⟨#[]⟩ ⟨#[]⟩ [] [t, u]))) from fun h => Bal.whole (text_BB _ _ h))
  have HBr := Lib.hid (HBi.out (by rw [ltC, ltTs, ltCs, ltCs, ltCs, l1, l2]; have h1 : (op == 11) = false := beq_no' (by omega); have h2 : (op == 12) = false := beq_no' (by omega); rw [h1, h2]; rfl))
  clear HBi
  have HZ1 := Lib.hid (clT_siz hk1 hr1)
  have HZ2 := Lib.hid (clT_siz hk2 hr2)
  have HM := Lib.hid (fun (w' : World) (h : Below W2.heap.size W2 w') => two_mem w' op t u ⟨ka, kn, kc⟩ a n c ⟨la, ln, lc⟩ a' n' c' (ArWC.b hA2 h) (ArWC.b hA2' h))
  obtain ⟨T0, hT0⟩ : ∃ T0, Cl.mk op ⟨#[]⟩ ⟨#[]⟩ [] [t, u] = T0 := ⟨_, rfl⟩
  have ho0 : opC T0 = op := by rw [← hT0]; rfl
  have hn0 : nmC T0 = ⟨#[]⟩ := by rw [← hT0]; rfl
  have hs0 : soC T0 = ⟨#[]⟩ := by rw [← hT0]; rfl
  rw [hT0] at hk0 HBr HM hr0
  have HT : Hid (∃ p q : Bool, clT T0 = par p (clT t) ++ (sgC op ++ par q (clT u))) := by rw [← hT0]; exact HT
  have HR := Lib.hid (fun (Z : World) (A : Option Addr) (h : ArWC Z T0 SS.nil A 2 2) => by
    have := Right8C_any T0 SS.nil A 2 2 Z h
    rw [ho0, hn0, hs0] at this
    exact this)
  have HS1 := Lib.hid (fun (Z : World) (hZ : Below W2.heap.size W2 Z) (w' : World) (h : Below Z.heap.size Z w') => Claim_any E t hk1 hr1 ⟨ka, kn, kc⟩ a n c w' (hB2.trans ((bel_trans hZ h).mono hB2.size)) (ArWC.b hA2 (bel_trans hZ h)))
  have HS2 := Lib.hid (fun (Z : World) (hZ : Below W2.heap.size W2 Z) (w' : World) (h : Below Z.heap.size Z w') => Claim_any E u hk2 hr2 ⟨la, ln, lc⟩ a' n' c' w' (hB2.trans ((bel_trans hZ h).mono hB2.size)) (ArWC.b hA2' (bel_trans hZ h)))
  have HS0 := Lib.hid (fun (hr0 : crightE T0 = 0) (Z : World) (A : Option Addr) (hZ : Below W2.heap.size W2 Z) (hA : ArWC Z T0 SS.nil A 2 2) (w' : World) (h : Below Z.heap.size Z w') => by
    have := Claim_any E T0 hk0 hr0 SS.nil A 2 2 w' (hB2.trans ((bel_trans hZ h).mono hB2.size)) (ArWC.b hA h)
    rw [ho0, hn0, hs0] at this
    exact this)
  have HZ0 := Lib.hid (fun hr0 : crightE T0 = 0 => clT_siz hk0 hr0)
  clear hA hA' hA2 hA2' hsm hsm' p1 p2 l1 l2 hk1 hk2 hr1 hr2 hk0 hT0 ho0 hn0 hs0
  dsimp only [SS.nil] at *
  generalize clT T0 = S at *
  generalize clT t = X at *
  generalize clT u = Y at *
  generalize opC t = o1 at *
  generalize nmC t = m1 at *
  generalize soC t = z1 at *
  generalize opC u = o2 at *
  generalize nmC u = m2 at *
  generalize soC u = z2 at *
  have HS0 := Lib.hid (HS0.out hr0)
  have HZ0 := Lib.hid (HZ0.out hr0)
  rw [hr0] at HR
  clear hr0
  go_enter Tryz.func8, Tryz.ntmps8
  go_upto_region 6 with (first
    | (go_at_call 15; ((with_reducible refine c1.mono ?_); rintro e w3 ⟨rfl, B3⟩; clear c1; have c2 := HP2.out _ B3; have ca := HA.out _ B3; obtain ⟨q0, q1, q2, q3, q4⟩ := (CBox.b H1.out B3).five; obtain ⟨r0, r1, r2, r3, r4⟩ := (CBox.b H2.out B3).five; dsimp only at q3 r3))
    | (go_at_call 15; ((with_reducible refine c2.mono ?_); rintro e w4 ⟨rfl, b4⟩; clear c2; have B4 := bel_trans B3 b4; have c3 := HL1.out _ B4; have ca := HA.out _ B4; obtain ⟨q0, q1, q2, q3, q4⟩ := (CBox.b H1.out B4).five; obtain ⟨r0, r1, r2, r3, r4⟩ := (CBox.b H2.out B4).five; dsimp only at q3 r3))
    | (go_at_call 27; ((with_reducible refine c3.mono ?_); rintro e w5 ⟨rfl, b5⟩; clear c3; have B5 := bel_trans B4 b5; have c4 := HL2.out _ B5; have ca := HA.out _ B5; obtain ⟨q0, q1, q2, q3, q4⟩ := (CBox.b H1.out B5).five; obtain ⟨r0, r1, r2, r3, r4⟩ := (CBox.b H2.out B5).five; dsimp only at q3 r3))
    | (go_at_call 27; ((with_reducible refine c4.mono ?_); rintro e w6 ⟨rfl, b6⟩; clear c4; have B6 := bel_trans B5 b6; obtain ⟨q0, q1, q2, q3, q4⟩ := (CBox.b H1.out B6).five; obtain ⟨r0, r1, r2, r3, r4⟩ := (CBox.b H2.out B6).five; dsimp only at q3 r3; obtain ⟨Z, hZ, hBZ, hsZ, SZ, AZ⟩ := HM.out _ B6; (try dsimp only at hZ SZ AZ); have cR := HR.out Z _ AZ; have hWZ := bel_trans B6 hBZ; have HSZ := Lib.hid SZ; have HAZ := Lib.hid AZ; obtain ⟨v0, v1, v2, v3, v4⟩ := SZ.five; (try dsimp only at v3); clear SZ AZ))
    | (go_at_call 28; ((with_reducible refine cR.mono ?_); rintro e w7 ⟨rfl, b7⟩; clear cR; have Bz := b7)))
  have S0 := HS0.out Z _ hWZ HAZ.out
  have S1 := HS1.out Z hWZ
  have S2 := HS2.out Z hWZ
  have BzD : Below Z.heap.size Z w7.drew := Bz.drew
  generalize hgz : w6.heap.size + 1 = gz at *
  have HH := Lib.hid (show ∀ w', Below Z.heap.size Z w' → (w'.cell? ⟨gz, 0, none⟩ = some (.int .i64 op) ∧ w'.cell? ⟨gz, 1, none⟩ = some (.string ⟨#[]⟩) ∧ w'.cell? ⟨gz, 2, none⟩ = some (.string ⟨#[]⟩) ∧ w'.cell? ⟨gz, 3, none⟩ = some (.slice none 0 0) ∧ w'.cell? ⟨gz, 4, none⟩ = some (.slice (some ⟨w6.heap.size, 0, none⟩) 2 2) ∧ w'.cell? ⟨W.heap.size, 0, none⟩ = some (.int .i64 o1) ∧ w'.cell? ⟨W.heap.size, 1, none⟩ = some (.string m1) ∧ w'.cell? ⟨W.heap.size, 2, none⟩ = some (.string z1) ∧ w'.cell? ⟨W.heap.size, 3, none⟩ = some (.slice ka kn kc) ∧ w'.cell? ⟨W.heap.size, 4, none⟩ = some (.slice a n c) ∧ w'.cell? ⟨W.heap.size + 1, 0, none⟩ = some (.int .i64 o2) ∧ w'.cell? ⟨W.heap.size + 1, 1, none⟩ = some (.string m2) ∧ w'.cell? ⟨W.heap.size + 1, 2, none⟩ = some (.string z2) ∧ w'.cell? ⟨W.heap.size + 1, 3, none⟩ = some (.slice la ln lc) ∧ w'.cell? ⟨W.heap.size + 1, 4, none⟩ = some (.slice a' n' c')) from fun w' h => by
    obtain ⟨x0, x1, x2, x3, x4⟩ := (CBox.b HSZ.out h).five
    obtain ⟨y0, y1, y2, y3, y4⟩ := (CBox.b H1.out (bel_trans hWZ h)).five
    obtain ⟨k0, k1, k2, k3, k4⟩ := (CBox.b H2.out (bel_trans hWZ h)).five
    exact ⟨x0, x1, x2, x3, x4, y0, y1, y2, y3, y4, k0, k1, k2, k3, k4⟩)
  go_cut [8, 9, 10] from 50 to 55 (fun v8 v9 v10 wc => v8 = .string S ∧ v9 = .string X ∧ v10 = .string Y ∧ Hid (Below Z.heap.size Z wc))
  case first =>
    go_region_held3 (fun w' => w'.cell? ⟨gz, 0, none⟩ = some (.int .i64 op) ∧ w'.cell? ⟨gz, 1, none⟩ = some (.string ⟨#[]⟩) ∧ w'.cell? ⟨gz, 2, none⟩ = some (.string ⟨#[]⟩) ∧ w'.cell? ⟨gz, 3, none⟩ = some (.slice none 0 0) ∧ w'.cell? ⟨gz, 4, none⟩ = some (.slice (some ⟨w6.heap.size, 0, none⟩) 2 2) ∧ w'.cell? ⟨W.heap.size, 0, none⟩ = some (.int .i64 o1) ∧ w'.cell? ⟨W.heap.size, 1, none⟩ = some (.string m1) ∧ w'.cell? ⟨W.heap.size, 2, none⟩ = some (.string z1) ∧ w'.cell? ⟨W.heap.size, 3, none⟩ = some (.slice ka kn kc) ∧ w'.cell? ⟨W.heap.size, 4, none⟩ = some (.slice a n c) ∧ w'.cell? ⟨W.heap.size + 1, 0, none⟩ = some (.int .i64 o2) ∧ w'.cell? ⟨W.heap.size + 1, 1, none⟩ = some (.string m2) ∧ w'.cell? ⟨W.heap.size + 1, 2, none⟩ = some (.string z2) ∧ w'.cell? ⟨W.heap.size + 1, 3, none⟩ = some (.slice la ln lc) ∧ w'.cell? ⟨W.heap.size + 1, 4, none⟩ = some (.slice a' n' c'))
      (first | exact HH.out _ (by assumption) | go_keep)
      (first
        | (go_at_call 16; ((with_reducible refine (S0 _ (by assumption)).mono ?_); rintro e wk1 ⟨rfl, hbk1⟩; have Bk1 := bel_trans (a := Z) (by assumption) hbk1))
        | (go_at_call 16; ((with_reducible refine (S1 _ (by assumption)).mono ?_); rintro e wk2 ⟨rfl, hbk2⟩; have Bk2 := bel_trans (a := Z) (by assumption) hbk2))
        | (go_at_call 16; ((with_reducible refine (S2 _ (by assumption)).mono ?_); rintro e wk3 ⟨rfl, hbk3⟩; have Bk3 := bel_trans (a := Z) (by assumption) hbk3)))
    all_goals ((try go_wp2_with fail); go_meet; exact ⟨rfl, rfl, rfl, Lib.hid (by assumption)⟩)
  case rest =>
    obtain ⟨rfl, rfl, rfl, HBc⟩ := hcut
    have hWc : Below W2.heap.size W2 wc := bel_trans hWZ HBc.out
    clear S0 S1 S2 HS0 HS1 HS2 HM HR HSZ HAZ HH H1 H2 hZ hBZ hsZ Bz BzD
    have hop : op = 7 ∨ op = 8 ∨ op = 9 ∨ op = 10 := by omega
    have hF := forms_of HT.out
    have hF : Hid (forms S X Y (sgC op)) := hF
    have hgs := sgC_size op
    have Hgs := Lib.hid hgs
    clear HT hgs
    obtain ⟨g, hg⟩ : ∃ g, sgC op = g := ⟨_, rfl⟩
    rw [hg] at hF Hgs
    go_upto_region 7 with fail
    go_cut [11] from 56 to 60 (fun v wc => v = .string g ∧ Hid (Below Z.heap.size Z wc))
    case first =>
      clear g7 g10 ho ho0 ho1 hF Hgs
      rcases hop with rfl | rfl | rfl | rfl
      all_goals
        go_wp2
        go_meet
        exact ⟨by rw [← hg]; rfl, Lib.hid (bel_alloc HBc.out _)⟩
    case rest =>
    obtain ⟨rfl, HBd⟩ := hcut
    have hWd : Below W2.heap.size W2 wc := bel_trans hWZ HBd.out
    clear hop hg g7 g10 ho ho0 ho1
    generalize hws : wc = wS at *
    clear hws
    go_wp2
    go_loopw [12, 63] (fun dd i wr0 => ∃ (wr : World) (k d : Nat), wr = wr0 ∧ k ≤ S.size ∧ d ≤ k ∧ dd = .int .i64 d ∧ i = .int .i64 k ∧ Hid (Below wS.heap.size wS wr) ∧ Hid (okS (d : Int) ((lst S).drop k))) (fun _ i _ => S.size - (intOf i).toNat)
    case atStart => exact ⟨_, 0, 0, rfl, by omega, by omega, rfl, rfl, Lib.hid (Below.refl _ _), HBr⟩
    case round =>
      obtain ⟨wr, k, d, rfl, hk, hd, rfl, rfl, hBr, hO⟩ := hrel
      by_cases hlt : k < S.size
      · have hdr : (lst S).drop k = S[k] :: (lst S).drop (k + 1) := drop_at S k hlt
        have hO1 : Hid (0 ≤ stp (d : Int) S[k] ∧ okS (stp (d : Int) S[k]) ((lst S).drop (k + 1))) := Lib.hid (by have := hO.out; rw [hdr] at this; exact this)
        have hk0 : 0 ≤ (k : Int) := by omega
        have hk1 : (k : Int) < (S.size : Int) := by omega
        clear hdr hO
        have hS0 := HZ0.out
        by_cases h40 : S[k] = 40
        · have e : stp (d : Int) S[k] = ((d + 1 : Nat) : Int) := by rw [h40]; show (d : Int) + 1 = _; omega
          have q1 : ((S[k].toNat : Int) == 40) = true := by rw [h40]; rfl
          have q3 : decide ((d : Int) + 1 < 0) = false := decide_eq_false (by omega)
          have hdb : -9223372036854775808 ≤ (d : Int) + 1 ∧ (d : Int) + 1 < 9223372036854775808 := by omega
          have q5 : wrap64 ((d : Int) + 1) = (d : Int) + 1 := w64_id hdb
          have q6 : IntKind.i64.wrap ((d : Int) + 1) = (d : Int) + 1 := wi_id hdb
          clear hdb
          have hN : Hid (okS ((d + 1 : Nat) : Int) ((lst S).drop (k + 1))) := Lib.hid (by rw [← e]; exact hO1.out.2)
          clear hO1 h40 e
          go_wp2
          go_roundw
          case rel => exact ⟨_, k + 1, d + 1, rfl, by omega, by omega, by go_num, by go_num, hBr, hN⟩
          case measure => simp [intOf]; omega
        · have q1 : ((S[k].toNat : Int) == 40) = false := beq_no' (fun h => h40 (UInt8.toNat_inj.1 (show S[k].toNat = 40 by omega)))
          by_cases h41 : S[k] = 41
          · have e : stp (d : Int) S[k] = (d : Int) - 1 := by rw [h41]; rfl
            have q2 : ((S[k].toNat : Int) == 41) = true := by rw [h41]; rfl
            have h1 := hO1.out.1
            rw [e] at h1
            obtain ⟨d', rfl⟩ : ∃ d', d = d' + 1 := ⟨d - 1, by omega⟩
            have e2 : (((d' + 1 : Nat) : Int) - 1) = (d' : Int) := by omega
            have q3 : decide ((d' : Int) < 0) = false := decide_eq_false (by omega)
            have hdb : -9223372036854775808 ≤ (d' : Int) ∧ (d' : Int) < 9223372036854775808 := by omega
            have q4 : IntKind.i64.wrap (((d' + 1 : Nat) : Int) - 1) = (d' : Int) := by rw [e2]; exact wi_id hdb
            have q5 : wrap64 (((d' + 1 : Nat) : Int) - 1) = (d' : Int) := by rw [e2]; exact w64_id hdb
            have q6 : wrap64 (d' : Int) = (d' : Int) := w64_id hdb
            have q7 : IntKind.i64.wrap (d' : Int) = (d' : Int) := wi_id hdb
            clear hdb
            have hN : Hid (okS (d' : Int) ((lst S).drop (k + 1))) := Lib.hid (by rw [← e2, ← e]; exact hO1.out.2)
            clear hO1 h41 e h1 e2
            go_wp2
            go_roundw
            case rel => exact ⟨_, k + 1, d', rfl, by omega, by omega, by go_num, by go_num, hBr, hN⟩
            case measure => simp [intOf]; omega
          · have e : stp (d : Int) S[k] = (d : Int) := by unfold stp; rw [if_neg h40, if_neg h41]
            have q2 : ((S[k].toNat : Int) == 41) = false := beq_no' (fun h => h41 (UInt8.toNat_inj.1 (show S[k].toNat = 41 by omega)))
            have q3 : decide ((d : Int) < 0) = false := decide_eq_false (by omega)
            have hN : Hid (okS (d : Int) ((lst S).drop (k + 1))) := Lib.hid (by have := hO1.out.2; rwa [e] at this)
            clear hO1 h40 h41 e
            go_wp2
            go_roundw
            case rel => exact ⟨_, k + 1, d, rfl, by omega, by omega, rfl, by go_num, hBr, hN⟩
            case measure => simp [intOf]; omega
      · obtain rfl : k = S.size := by omega
        have hd0 : d = 0 := by
          have := hO.out
          rw [show (lst S).drop S.size = [] from drop_end S S.size (Nat.le_refl _)] at this
          have h2 : (d : Int) = 0 := this
          omega
        subst hd0
        have ca := HA.out wr (bel_trans hWd hBr.out)
        have hX := HZ1.out
        have hY := HZ2.out
        clear hO
        have g0 := Hgs.out
        have e0 : (⟨#[40]⟩ : ByteArray).size = 1 := rfl
        have e9 : (⟨#[41]⟩ : ByteArray).size = 1 := rfl
        have z1 : ((⟨#[40]⟩ : ByteArray) ++ X).size = 1 + X.size := by rw [ByteArray.size_append, e0]
        have z2 : ((⟨#[40]⟩ : ByteArray) ++ X ++ ⟨#[41]⟩).size = 1 + X.size + 1 := by rw [ByteArray.size_append, z1, e9]
        have z3 : ((⟨#[40]⟩ : ByteArray) ++ X ++ ⟨#[41]⟩ ++ g).size = 1 + X.size + 1 + g.size := by rw [ByteArray.size_append, z2]
        have z4 : (X ++ g).size = X.size + g.size := ByteArray.size_append ..
        have z5 : (X ++ g ++ (⟨#[40]⟩ : ByteArray)).size = X.size + g.size + 1 := by rw [ByteArray.size_append, z4, e0]
        have z6 : (X ++ g ++ (⟨#[40]⟩ : ByteArray) ++ Y).size = X.size + g.size + 1 + Y.size := by rw [ByteArray.size_append, z5]
        have z7 : ((⟨#[40]⟩ : ByteArray) ++ X ++ ⟨#[41]⟩ ++ g ++ ⟨#[40]⟩).size = 1 + X.size + 1 + g.size + 1 := by rw [ByteArray.size_append, z3, e0]
        have z8 : ((⟨#[40]⟩ : ByteArray) ++ X ++ ⟨#[41]⟩ ++ g ++ ⟨#[40]⟩ ++ Y).size = 1 + X.size + 1 + g.size + 1 + Y.size := by rw [ByteArray.size_append, z7]
        have hne : ∀ (F : ByteArray), (S.toList == F.toList) = false → S ≠ F := fun F h e => by rw [e] at h; simp at h
        have Hne := Lib.hid hne
        clear hne e0 e9 Hgs
        cases hb1 : (S.toList == (X ++ g ++ Y).toList)
        rotate_left
        · go_wp2_with (go_at_call 12; ((with_reducible refine ca.mono ?_); rintro e w9 ⟨rfl, b9⟩; clear ca))
          go_ret
          exact ⟨rfl, bel_trans hB2 (bel_trans (bel_trans hWd hBr.out) b9)⟩
        have n1 := Lib.hid (Hne.out _ hb1)
        cases hb2 : (S.toList == ((⟨#[40]⟩ : ByteArray) ++ X ++ ⟨#[41]⟩ ++ g ++ Y).toList)
        rotate_left
        · go_wp2_with (go_at_call 12; ((with_reducible refine ca.mono ?_); rintro e w9 ⟨rfl, b9⟩; clear ca))
          go_ret
          exact ⟨rfl, bel_trans hB2 (bel_trans (bel_trans hWd hBr.out) b9)⟩
        have n2 := Lib.hid (Hne.out _ hb2)
        cases hb3 : (S.toList == (X ++ g ++ (⟨#[40]⟩ : ByteArray) ++ Y ++ ⟨#[41]⟩).toList)
        rotate_left
        · go_wp2_with (go_at_call 12; ((with_reducible refine ca.mono ?_); rintro e w9 ⟨rfl, b9⟩; clear ca))
          go_ret
          exact ⟨rfl, bel_trans hB2 (bel_trans (bel_trans hWd hBr.out) b9)⟩
        have n3 := Lib.hid (Hne.out _ hb3)
        cases hb4 : (S.toList == ((⟨#[40]⟩ : ByteArray) ++ X ++ ⟨#[41]⟩ ++ g ++ ⟨#[40]⟩ ++ Y ++ ⟨#[41]⟩).toList)
        rotate_left
        · go_wp2_with (go_at_call 12; ((with_reducible refine ca.mono ?_); rintro e w9 ⟨rfl, b9⟩; clear ca))
          go_ret
          exact ⟨rfl, bel_trans hB2 (bel_trans (bel_trans hWd hBr.out) b9)⟩
        have n4 := Lib.hid (Hne.out _ hb4)
        rcases hF.out with h | h | h | h
        · exact absurd h n1.out
        · exact absurd h n2.out
        · exact absurd h n3.out
        · exact absurd h n4.out
end Go.Proofs.YtcigeclnbhcohaaGreatDoor.Sh
