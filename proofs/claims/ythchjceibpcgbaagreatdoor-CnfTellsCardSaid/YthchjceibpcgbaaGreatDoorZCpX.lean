/-
  What is proved: what package cnf's Text returns.
-/
import Derived.Test.YthchjceibpcgbaaGreatDoorZCpA
import Derived.Test.YthchjceibpcgbaaGreatDoorZCpW
import Derived.Test.YthchjceibpcgbaaGreatDoorDG
import Derived.Deep.Cut
import Derived.Deep.CutRange
import Derived.Deep.RegionHeld3
namespace Go.Proofs.YthchjceibpcgbaaGreatDoor.Cn
open Go.RowKit L Lt
set_option linter.unusedVariables false
set_option linter.unusedSimpArgs false

theorem dText_any {W : World} (HT : Dig.Tab W) (n : Int) (hn : R64 n) (w : World) (hw : Below W.heap.size W w) :
    Calls Tryz.prog 41 #[.int .i64 n] w fun e w' => e = .returned (.string (Dig.BA (Lib.itoa n))) ∧ Below w.heap.size w w' := by
  have n0 := hn.1
  have n1 : n ≤ 9223372036854775807 := by have := hn.2; omega
  have c1 : Calls Tryz.prog 93 #[.int .i64 n, .int .i64 10] w fun e w' => e = .returned (.string (Dig.BA (Lib.itoa n))) ∧ Below w.heap.size w w' := by
    refine (Tryz.strconv_FormatInt_10 n n0 n1 w (HT w hw)).mono fun e w' ⟨h, k, os, hk⟩ => ⟨h, ?_⟩
    rw [hk]
    exact Lib.below_grow _ w (Nat.le_refl _) k os
  have c2 : Calls Tryz.prog 75 #[.int .i64 n] w fun e w' => e = .returned (.string (Dig.BA (Lib.itoa n))) ∧ Below w.heap.size w w' := by
    clear HT
    go_enter Tryz.func75, Tryz.ntmps75
    go_wp2_with (go_at_call 93; ((with_reducible refine c1.mono ?_); rintro e w' ⟨rfl, hw'⟩))
    go_ret
    exact ⟨rfl, hw'⟩
  clear HT c1
  go_enter Tryz.func41, Tryz.ntmps41
  go_wp2_with (go_at_call 75; ((with_reducible refine c2.mono ?_); rintro e w' ⟨rfl, hw'⟩))
  go_ret
  exact ⟨rfl, hw'⟩
set_option maxRecDepth 100000 in
set_option maxHeartbeats 8000000 in
theorem Text_any {W0 : World} (HT : Dig.Tab W0) (z : CfZ) (w : World) (hw : Below W0.heap.size W0 w) (h : z.ok w) :
    Calls Tryz.prog 19 #[z.val] w fun e w' => e = .returned (.tuple #[.string (Dig.BA (if (rgC z.N z.G).2 = 0 then txT z.N z.G else [])), .int .i64 (rgC z.N z.G).2]) ∧ Below w.heap.size w w' := by
  obtain ⟨N, a, n, c, G⟩ := z
  obtain ⟨hN, hn, hG, hs⟩ := h
  simp only at hN hn hG hs
  show Calls Tryz.prog 19 #[.agg #[.int .i64 N, .slice a n c]] w fun e w' => e = .returned (.tuple #[.string (Dig.BA (if (rgC N G).2 = 0 then txT N G else [])), .int .i64 (rgC N G).2]) ∧ Below w.heap.size w w'
  obtain ⟨W2, hW2, hB2, S2⟩ := boxC w N a n c
  obtain ⟨s0, s1⟩ := S2.two
  have LS := Lib.hid (Blk.lt S2)
  have cr := CRight_any ⟨N, a, n, c, G⟩ W2 ⟨hN, hn, hG.below hB2, hs⟩
  have hrk := @rgC_ok N G
  simp only at cr
  change Calls _ _ #[.agg #[.int .i64 N, .slice a n c]] W2 _ at cr
  obtain ⟨R, hR⟩ : ∃ R, rgC N G = R := ⟨_, rfl⟩
  rw [hR] at cr hrk ⊢
  obtain ⟨R1, R2⟩ := R
  change Calls _ _ _ W2 (fun e w' => e = .returned (.tuple #[.int .i64 R1, .int .i64 R2]) ∧ Below W2.heap.size W2 w') at cr
  show Calls _ _ _ _ fun e w' => e = .returned (.tuple #[.string (Dig.BA (if R2 = 0 then txT N G else [])), .int .i64 R2]) ∧ _
  have hrk2 : Hid (R2 = 0 ↔ _) := hrk
  clear hrk
  have HB2 := Lib.hid hB2
  cases hv : (R2 != 0)
  · have hv0 : R2 = 0 := by simpa using hv
    subst hv0
    rw [if_pos rfl]
    obtain ⟨hN2, hn2, hc2⟩ := hrk2.out.1 rfl
    have H := Lib.hid (hG.below hB2)
    have HX := Lib.hid hG.1
    have hrow : ∀ c ∈ G, R64s c ∧ c.length ≤ 64 := fun c hc => ⟨(hs c hc).1, (rg1_ok.1 (hc2 c hc)).1⟩
    have HR := Lib.hid hrow
    have HL := Lib.hid (fun k => tkT_len (n := n) (L := G.take k) hN hn (fun c hc => hrow c (List.take_subset _ _ hc)))
    have hn4 : n ≤ 4096 := by have := hG.1; omega
    have CD := Lib.hid (fun (x : Int) (hx : R64 x) (W : World) (hb : Below W2.heap.size W2 W) => dText_any HT x hx W (hw.trans ((bel_trans hB2 hb).mono hw.size)))
    have cN := Lib.hid (fun W hb => CD.out N hN W hb)
    have cM := Lib.hid (fun W hb => CD.out (n : Int) ⟨by omega, by omega⟩ W hb)
    have hl1 : (Dig.BA (Lib.itoa N)).size ≤ 20 := by rw [Dig.BA_size]; exact Dig.itoa_len hN.1 (by have := hN.2; omega)
    have hl2 : (Dig.BA (Lib.itoa (n : Int))).size ≤ 20 := by rw [Dig.BA_size]; exact Dig.itoa_len (by omega) (by omega)
    have e0 : Hid ((⟨#[112, 32, 99, 110, 102, 32]⟩ ++ Dig.BA (Lib.itoa N) ++ ⟨#[32]⟩ ++ Dig.BA (Lib.itoa (n : Int)) ++ ⟨#[10]⟩ : ByteArray) = Dig.BA (tkT N n [])) := by
      show _ = _
      have e1 : (⟨#[112, 32, 99, 110, 102, 32]⟩ : ByteArray) = Dig.BA [112, 32, 99, 110, 102, 32] := rfl
      have e2 : (⟨#[32]⟩ : ByteArray) = Dig.BA [32] := rfl
      have e3 : (⟨#[10]⟩ : ByteArray) = Dig.BA [10] := rfl
      rw [e1, e2, e3, BA_ap, BA_ap, BA_ap, BA_ap]
      congr 1
      simp [tkT, hdT]
    have eT : Hid (txT N G = tkT N n G) := Lib.hid (by unfold txT tkT; rw [← hG.1])
    generalize txT N G = TX at *
    obtain ⟨tN, hTN⟩ : ∃ t, Dig.BA (Lib.itoa N) = t := ⟨_, rfl⟩
    obtain ⟨tM, hTM⟩ : ∃ t, Dig.BA (Lib.itoa (n : Int)) = t := ⟨_, rfl⟩
    rw [hTN] at hl1 cN e0
    rw [hTM] at hl2 cM e0
    obtain ⟨X1, e1⟩ : ∃ X, (⟨#[112, 32, 99, 110, 102, 32]⟩ : ByteArray) ++ tN = X := ⟨_, rfl⟩
    obtain ⟨X2, e2⟩ : ∃ X, X1 ++ (⟨#[32]⟩ : ByteArray) = X := ⟨_, rfl⟩
    obtain ⟨X3, e3⟩ : ∃ X, X2 ++ tM = X := ⟨_, rfl⟩
    rw [e1, e2, e3] at e0
    have l6 : (⟨#[112, 32, 99, 110, 102, 32]⟩ : ByteArray).size = 6 := rfl
    have l1 : (⟨#[32]⟩ : ByteArray).size = 1 := rfl
    have l2 : (⟨#[10]⟩ : ByteArray).size = 1 := rfl
    have p1 : X1.size ≤ 26 := by rw [← e1, ByteArray.size_append]; omega
    have p2 : X2.size ≤ 27 := by rw [← e2, ByteArray.size_append]; omega
    have p3 : X3.size ≤ 47 := by rw [← e3, ByteArray.size_append]; omega
    have p4 : (Dig.BA (tkT N n [])).size ≤ 48 := by rw [← e0.out, ByteArray.size_append]; omega
    have r1 : ∀ w, (Op.stringOp .add ⟨#[112, 32, 99, 110, 102, 32]⟩ tN).run Tryz.prog w = .ok (.string X1) w := fun w => by rw [run_string_add_sum w _ _ (by omega), e1]
    have r2 : ∀ w, (Op.stringOp .add X1 ⟨#[32]⟩).run Tryz.prog w = .ok (.string X2) w := fun w => by rw [run_string_add_sum w _ _ (by omega), e2]
    have r3 : ∀ w, (Op.stringOp .add X2 tM).run Tryz.prog w = .ok (.string X3) w := fun w => by rw [run_string_add_sum w _ _ (by omega), e3]
    have r4 : ∀ w, (Op.stringOp .add X3 ⟨#[10]⟩).run Tryz.prog w = .ok (.string (Dig.BA (tkT N n []))) w := fun w => by rw [run_string_add_sum w _ _ (by omega), e0.out]
    have hp := Lib.hid (And.intro r1 (And.intro r2 (And.intro r3 r4)))
    have HW := Lib.hid (fun (b : Nat) (W : World) (hI : IsB b b ⟨#[]⟩ W) (hb : b ≤ W.heap.size) => write_any b b ⟨#[]⟩ (Dig.BA (tkT N n [])) W hI (by have : (⟨#[]⟩ : ByteArray).size = 0 := rfl; omega) hb)
    have e9 : (⟨#[]⟩ : ByteArray) ++ Dig.BA (tkT N n []) = Dig.BA (tkT N n []) := by
      have : (⟨#[]⟩ : ByteArray) = Dig.BA [] := rfl
      rw [this, BA_ap]; rfl
    rw [e9] at HW
    clear r1 r2 r3 r4 e1 e2 e3 l6 l1 l2 e9
    clear hG hs hB2 S2 hrk2 hrow hTN hTM hR hN hc2 p1 p2 p3 p4 hv hN2 hn2 HT hw
    have hv : ((0 : Int) != 0) = false := rfl
    go_enter Tryz.func19, Tryz.ntmps19
    go_upto_region 5 with (go_at_call 39; ((with_reducible refine cr.mono ?_); rintro e w3 ⟨rfl, b3⟩; obtain ⟨W4, hW4⟩ : ∃ W4, w3.alloc (.cells #[.pointer none, .slice none 0 0] 66) = W4 := ⟨_, rfl⟩; have hI4 := isB_new w3; have b34 : Below w3.heap.size w3 (w3.alloc (.cells #[.pointer none, .slice none 0 0] 66)) := bel_alloc (Below.refl _ _) _; rw [hW4] at hI4 b34; have B3 := Lib.hid b3; have t0 := ((bel_trans b3 b34).cell (p := ⟨_, _, none⟩) LS.out).trans s0; have t1 := ((bel_trans b3 b34).cell (p := ⟨_, _, none⟩) LS.out).trans s1; have HI4 := Lib.hid hI4; have HB4 := Lib.hid b34; clear hI4 b34 b3))
    have HH := Lib.hid (show ∀ w', Below w3.heap.size w3 w' → (w'.cell? ⟨w.heap.size, 0, none⟩ = some (.int .i64 N) ∧ w'.cell? ⟨w.heap.size, 1, none⟩ = some (.slice a n c)) from fun w' h =>
      ⟨((bel_trans B3.out h).cell (p := ⟨_, _, none⟩) LS.out).trans s0, ((bel_trans B3.out h).cell (p := ⟨_, _, none⟩) LS.out).trans s1⟩)
    have C4 : Below w3.heap.size w3 W4.drew := HB4.out.drew
    have D4 : Below W4.heap.size W4 W4.drew := (Below.refl _ _).drew
    go_cut [6] from 19 to 31 (fun v wc => v = .pointer (some ⟨w3.heap.size, 0, none⟩) ∧ Hid (Below w3.heap.size w3 wc ∧ IsB w3.heap.size w3.heap.size (Dig.BA (tkT N n [])) wc))
    case first =>
      obtain ⟨r1, r2, r3, r4⟩ := hp.out
      generalize Dig.BA (tkT N n []) = S0 at *
      go_region_held3 (fun w' => w'.cell? ⟨w.heap.size, 0, none⟩ = some (.int .i64 N) ∧ w'.cell? ⟨w.heap.size, 1, none⟩ = some (.slice a n c))
        (first | exact HH.out _ (by assumption) | go_keep)
        (first
          | (go_at_call 41; ((with_reducible refine (cN.out _ (bel_trans B3.out (by assumption))).mono ?_); rintro e wk1 ⟨rfl, hbk1⟩; have Bk1 := bel_trans (a := W4) (by assumption) hbk1; have Ck1 := bel_trans (a := w3) (by assumption) hbk1))
          | (go_at_call 41; ((with_reducible refine (cM.out _ (bel_trans B3.out (by assumption))).mono ?_); rintro e wk2 ⟨rfl, hbk2⟩; have Bk2 := bel_trans (a := W4) (by assumption) hbk2; have Ck2 := bel_trans (a := w3) (by assumption) hbk2))
          | (go_at_call 40; ((with_reducible refine (HW.out _ _ (HI4.out.bl (by assumption)) (Below.size (B := w3.heap.size) (w := w3) (by assumption))).mono ?_); rintro e w6 ⟨rfl, hI6, hb6⟩; have C6 : Below w3.heap.size w3 w6 := Below.trans (by assumption) hb6)))
      all_goals ((try go_wp2_with fail); go_meet; exact ⟨rfl, Lib.hid ⟨by assumption, by assumption⟩⟩)
    case rest =>
      obtain ⟨rfl, HBc⟩ := hcut
      obtain ⟨T, hT⟩ : ∃ T : Nat → List UInt8, ∀ k, tkT N n (G.take k) = T k := ⟨_, fun _ => rfl⟩
      have hT0 : Dig.BA (tkT N n []) = Dig.BA (T 0) := by rw [← hT]; rfl
      have HTe : Hid (TX = T n) := Lib.hid (by rw [eT.out, ← hT, List.take_of_length_le (by have := HX.out; omega)])
      have HTs : Hid (∀ k X, G[k]? = some X → T (k + 1) = T k ++ nmT X ++ [48, 10]) := Lib.hid (fun k X h => by rw [← hT, ← hT]; exact tkT_take h)
      have HTl : Hid (∀ k, k ≤ n → (T k).length ≤ 6000000) := Lib.hid (fun k hk => by
        rw [← hT]
        have h1 := HL.out k
        have h2 : (G.take k).length ≤ 4096 := by rw [List.length_take]; have := HX.out; omega
        have h3 : (G.take k).length * 1346 ≤ 4096 * 1346 := Nat.mul_le_mul_right _ h2
        omega)
      rw [hT0] at HBc
      have HWr := Lib.hid (fun (A : List UInt8) (t : List UInt8) (W : World) (hI : IsB w3.heap.size w3.heap.size (Dig.BA A) W) (hA : A.length ≤ 7000000) (ht : t.length ≤ 100) (hb : Below w3.heap.size w3 W) => by
        have := write_any w3.heap.size w3.heap.size (Dig.BA A) (Dig.BA t) W hI (by rw [Dig.BA_size, Dig.BA_size]; omega) hb.size
        rw [BA_ap] at this
        exact this)
      have HSt := Lib.hid (fun (A : List UInt8) (W : World) (hI : IsB w3.heap.size w3.heap.size (Dig.BA A) W) (hb : Below w3.heap.size w3 W) => string_any w3.heap.size w3.heap.size (Dig.BA A) W hI hb.size)
      clear hT e0 cN cM hl1 hl2 hp t0 t1 eT HL HW HI4 C4 D4 hT0
      obtain ⟨t0, t1⟩ := HH.out _ HBc.out.1
      go_wp2
      go_loopw [34] (fun i wr0 => ∃ (wr : World) (k : Nat), wr = wr0 ∧ k ≤ n ∧ i = .int .i64 k ∧ Hid (Below w3.heap.size w3 wr ∧ IsB w3.heap.size w3.heap.size (Dig.BA (T k)) wr)) (fun i _ => n - (intOf i).toNat)
      case atStart => exact ⟨_, 0, rfl, by omega, rfl, HBc⟩
      case round =>
        obtain ⟨wr, k, rfl, hk, rfl, hB⟩ := hrel
        have hTl := HTl.out k hk
        by_cases hlt : k < n
        · obtain ⟨g, o, B, p, q, X, rfl, hg, z0, hx, hX⟩ := SlG.at H.out hlt
          have hBw := Lib.hid (bel_trans B3.out hB.out.1)
          have y0 : wr.cell? ⟨g, o + k, none⟩ = some (.slice B p q) := (hBw.out.cell (p := ⟨g, _, none⟩) hg).trans z0
          obtain ⟨hXr, hX64⟩ := HR.out X (List.mem_of_getElem? hx)
          have hp := hX.1
          have hp64 : p ≤ 64 := by omega
          have hXH := Lib.hid hX
          have hXR := Lib.hid hXr
          have hpH := Lib.hid hp
          have hk0 : 0 ≤ (k : Int) := by omega
          have hk1 : (k : Int) < (n : Int) := by omega
          have HS2 := Lib.hid (HTs.out k X hx)
          have HB0 : Hid (Below w3.heap.size w3 wr ∧ IsB w3.heap.size w3.heap.size (Dig.BA (T k ++ nmT (X.take 0))) wr) := Lib.hid ⟨hB.out.1, by rw [show nmT (X.take 0) = [] from rfl, List.append_nil]; exact hB.out.2⟩
          have HTl2 := Lib.hid hTl
          clear z0 hx hX hXr hX64 hp hTl t0 t1
          go_wp2
          go_loopw [40] (fun i wr0 => ∃ (ws : World) (j : Nat), ws = wr0 ∧ j ≤ p ∧ i = .int .i64 j ∧ Hid (Below w3.heap.size w3 ws ∧ IsB w3.heap.size w3.heap.size (Dig.BA (T k ++ nmT (X.take j))) ws)) (fun i _ => p - (intOf i).toNat)
          case atStart => exact ⟨_, 0, rfl, by omega, rfl, HB0⟩
          case round =>
            obtain ⟨ws, j, rfl, hj, rfl, hBs⟩ := hrel
            have hnl := nmT_len (c := X.take j) (fun y hy => hXR.out y (List.take_subset _ _ hy))
            have htl : (X.take j).length ≤ 64 := by rw [List.length_take]; have := hpH.out; omega
            have hAl : (T k ++ nmT (X.take j)).length ≤ 7000000 := by rw [List.length_append]; have := HTl2.out; omega
            have HAl := Lib.hid hAl
            clear hnl htl hAl
            by_cases hjl : j < p
            · obtain ⟨g', o', y, rfl, hg', z1, hy⟩ := SlI.at hXH.out hjl
              have y1 := ((bel_trans B3.out hBs.out.1).cell (p := ⟨g', _, none⟩) hg').trans z1
              have hyr := hXR.out y (List.mem_of_getElem? hy)
              have cd := CD.out y hyr ws (bel_trans B3.out hBs.out.1)
              have hil := Dig.itoa_len (n := y) hyr.1 (by have := hyr.2; omega)
              have hN2 := Lib.hid (nmT_take hy)
              obtain ⟨ty, hty⟩ : ∃ ty, Lib.itoa y = ty := ⟨_, rfl⟩
              rw [hty] at cd hil hN2
              have r5 : ∀ w, (Op.stringOp .add (Dig.BA ty) ⟨#[32]⟩).run Tryz.prog w = .ok (.string (Dig.BA (ty ++ [32]))) w := fun w => by
                have e2 : (⟨#[32]⟩ : ByteArray) = Dig.BA [32] := rfl
                rw [run_string_add_sum w _ _ (by rw [e2, Dig.BA_size, Dig.BA_size]; simp; omega), e2, BA_ap]
              have hl5 : (ty ++ [32]).length ≤ 100 := by rw [List.length_append]; simp; omega
              have HL5 := Lib.hid hl5
              have hj0 : 0 ≤ (j : Int) := by omega
              have hj1 : (j : Int) < (p : Int) := by omega
              obtain ⟨t5, ht5⟩ : ∃ t5, ty ++ [32] = t5 := ⟨_, rfl⟩
              rw [ht5] at r5 HL5 hN2
              clear z1 hy hyr hil hty hl5 ht5 hg'
              go_wp2_with (first
                | (go_at_call 41; ((with_reducible refine cd.mono ?_); rintro e w5 ⟨rfl, b5⟩; have B5 := Lib.hid (bel_trans hBs.out.1 b5); have I5 := Lib.hid (hBs.out.2.bl b5); clear b5))
                | (go_at_call 40; ((with_reducible refine (HWr.out _ _ _ I5.out HAl.out HL5.out B5.out).mono ?_); rintro e w6 ⟨rfl, hI6, hb6⟩; have hB6 := Lib.hid (And.intro (B5.out.trans hb6) hI6); clear hI6 hb6)))
              go_roundw
              case rel => exact ⟨_, j + 1, rfl, by omega, by go_num, Lib.hid ⟨hB6.out.1, by rw [hN2.out, ← List.append_assoc]; exact hB6.out.2⟩⟩
              case measure => simp [intOf]; omega
            · obtain rfl : j = p := by omega
              have e1 : X.take j = X := List.take_of_length_le (by have := hpH.out; omega)
              rw [e1] at hBs HAl
              have e48 : (⟨#[48, 10]⟩ : ByteArray) = Dig.BA [48, 10] := rfl
              have cw := HWr.out _ [48, 10] ws hBs.out.2 HAl.out (by simp) hBs.out.1
              rw [← e48] at cw
              clear e1 e48
              go_wp2_with (go_at_call 40; ((with_reducible refine cw.mono ?_); rintro e w6 ⟨rfl, hI6, hb6⟩; have hB6 := Lib.hid (And.intro (hBs.out.1.trans hb6) hI6); clear hI6 hb6))
              go_roundw
              case rel => exact ⟨_, k + 1, rfl, by omega, by go_num, Lib.hid ⟨hB6.out.1, by rw [HS2.out]; exact hB6.out.2⟩⟩
              case measure => simp [intOf]; omega
        · obtain rfl : k = n := by omega
          have cs := HSt.out _ wr hB.out.2 hB.out.1
          have HX9 := Lib.hid (bel_trans HB2.out (bel_trans B3.out hB.out.1))
          clear t0 t1
          go_wp2_with (go_at_call 42; ((with_reducible refine cs.mono ?_); rintro e w7 ⟨rfl, b7⟩; have B7 := Lib.hid b7; clear b7))
          go_ret2
          exact ⟨strI (by rw [HTe.out]) rfl, bel_trans HB2.out (bel_trans B3.out (hB.out.1.trans B7.out))⟩
  · have hv0 : R2 ≠ 0 := by simpa using hv
    rw [if_neg hv0]
    have e0 : Dig.BA [] = ⟨#[]⟩ := rfl
    rw [e0]
    clear hG hs hB2 S2 hrk2 hR hN hn hv0 HT hw
    go_enter Tryz.func19, Tryz.ntmps19
    go_wp2_with (go_at_call 39; ((with_reducible refine cr.mono ?_); rintro e w3 ⟨rfl, b3⟩))
    go_ret2
    exact ⟨rfl, bel_trans HB2.out b3⟩
end Go.Proofs.YthchjceibpcgbaaGreatDoor.Cn
