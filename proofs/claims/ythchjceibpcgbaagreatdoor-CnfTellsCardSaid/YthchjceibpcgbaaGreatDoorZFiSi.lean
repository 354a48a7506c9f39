/-
  What is proved: symMerge with its middle in the right row.
-/
import Derived.Test.YthchjceibpcgbaaGreatDoorZFiSg
namespace Go.Proofs.YthchjceibpcgbaaGreatDoor.Fi
open Go.RowKit L Lt Cn
set_option linter.unusedVariables false
set_option linter.unusedSimpArgs false


set_option maxRecDepth 100000 in
set_option maxHeartbeats 32000000 in
theorem sym_gen2 (g gc gl n : Nat) (l : List (List Int)) (w0 : World) (hc : CmpIn g gc gl n l w0) (cf : Nat → Nat → Int) (hcf : ∀ i j, cmR (atL l i) (atL l j) = cf i j) (h3 : Cmp3 cf) (K N cap : Nat) (hN2 : N ≤ 1000000) (IH : SymAt g gc gl n N cap cf w0 K) (X A B Y : List Nat) (a m b : Nat) (w : World)
    (hK : A.length + B.length ≤ K + 1) (hq : ¬ (a + b) / 2 < m) (hA : A ≠ []) (hB : B ≠ []) (hA1 : A.length ≠ 1) (hB1 : B.length ≠ 1) (ha : a = X.length) (hm : m = a + A.length) (hb : b = m + B.length) (hN : N = b + Y.length) (hsA : Srt cf A) (hsB : Srt cf B) (hx : ∀ x ∈ A, ∀ y ∈ B, x < y) (hlt : ∀ z ∈ A ++ B, z < n) (hbw : Below g w0 w) (hr : RowN w g (X ++ A ++ B ++ Y)) :
    Calls Tryz.prog 109 #[.slice (some ⟨g, 0, none⟩) N cap, .int .i64 a, .int .i64 m, .int .i64 b, .func (.func 59) #[] #[.pointer (some ⟨gc, 0, none⟩), .pointer (some ⟨gl, 0, none⟩)]] w fun e w' => (∃ v, e = .returned v) ∧ (∃ M, RowN w' g (X ++ M ++ Y) ∧ M.Perm (A ++ B) ∧ Srt cf M) ∧ w.grownBy w' (some g) := by
  have lA : 0 < A.length := List.length_pos_iff.2 hA
  have lB : 0 < B.length := List.length_pos_iff.2 hB
  have hg := Blk.lt hr
  have HC := Lib.hid hc
  have Hcf := Lib.hid hcf
  have Hlt := Lib.hid hlt
  obtain ⟨mid, hmid⟩ : ∃ mid, (a + b) / 2 = mid := ⟨_, rfl⟩
  obtain ⟨nn, hnn⟩ : ∃ nn, mid + m = nn := ⟨_, rfl⟩
  obtain ⟨pp, hpp⟩ : ∃ pp, nn - 1 = pp := ⟨_, rfl⟩
  have HP := Lib.hid (fun i e k1 k2 k3 k4 k5 k6 k7 => sym_parts g gc gl n w0 cf h3 K N cap hN2 IH X A B Y a m b mid nn i e w hK hA hB ha hm hb hN hsA hsB hx hlt hbw hg hmid hnn k1 k2 k3 k4 k5 k6 k7)
  have HAt := Lib.hid (show ∀ q, a ≤ q → q < m → ∃ z, A[q - a]? = some z ∧ (X ++ A ++ B ++ Y)[q]? = some z from fun q h1 h2 => by
    refine ⟨A[q - a]'(by omega), List.getElem?_eq_getElem _, ?_⟩
    rw [List.append_assoc, List.append_assoc, List.getElem?_append_right (by omega), ← ha, List.getElem?_append_left (by omega)]
    exact List.getElem?_eq_getElem _)
  have HBt := Lib.hid (show ∀ q, m ≤ q → q < b → ∃ z, B[q - m]? = some z ∧ (X ++ A ++ B ++ Y)[q]? = some z from fun q h1 h2 => by
    refine ⟨B[q - m]'(by omega), List.getElem?_eq_getElem _, ?_⟩
    rw [List.append_assoc, List.getElem?_append_right (by simp; omega), show q - (X ++ A).length = q - m by simp; omega, List.getElem?_append_left (by omega)]
    exact List.getElem?_eq_getElem _)
  have Hr := Lib.hid hr
  obtain ⟨s0, r0, hs0, hs1, hr0, hr1, hsr, hcase⟩ : ∃ s0 r0 : Nat, a ≤ s0 ∧ nn ≤ b + s0 ∧ r0 ≤ m ∧ r0 ≤ mid ∧ s0 ≤ r0 ∧ ((mid < m ∧ nn ≤ s0 + b ∧ s0 + b ≤ nn ∧ mid ≤ r0) ∨ (m ≤ mid ∧ s0 ≤ a ∧ m ≤ r0)) := by
    by_cases h : mid < m
    · exact ⟨nn - b, mid, by omega, by omega, by omega, by omega, by omega, .inl ⟨h, by omega, by omega, by omega⟩⟩
    · exact ⟨a, m, by omega, by omega, by omega, by omega, by omega, .inr ⟨by omega, by omega, by omega⟩⟩
  replace hcase : m ≤ mid ∧ s0 ≤ a ∧ m ≤ r0 := by
    rcases hcase with h | h
    · exfalso; omega
    · exact h
  have HLo : Hid (LoG cf A B a m b nn s0) := by
    exact .inl (by omega)
  have HHi : Hid (HiG cf A B a m nn r0) := by
    exact .inl (by omega)
  obtain ⟨hu, hd, hv⟩ := half_int (i := a) (j := b) (by omega)
  rw [hmid] at hd hv
  have hwab : IntKind.i64.wrap ((a : Int) + b) = (a : Int) + b := by rw [IntKind.wrap_i64]; omega
  have hwn : IntKind.i64.wrap ((mid : Int) + m) = (nn : Int) := by rw [IntKind.wrap_i64]; omega
  have hwp : IntKind.i64.wrap ((nn : Int) - 1) = (pp : Int) := by rw [IntKind.wrap_i64]; omega
  have hw1 : IntKind.i64.wrap ((m : Int) - a) = (m : Int) - a := by rw [IntKind.wrap_i64]; omega
  have hw2 : IntKind.i64.wrap ((b : Int) - m) = (b : Int) - m := by rw [IntKind.wrap_i64]; omega
  have hne1 : ¬ (m : Int) - a = 1 := by omega
  have hne2 : ((m : Int) - a == 1) = false := by simp; omega
  have hne3 : ¬ (b : Int) - m = 1 := by omega
  have hne4 : ((b : Int) - m == 1) = false := by simp; omega
  have o1 : a < m := by omega
  have o2 : m < b := by omega
  have o3 : b ≤ N := by omega
  have o4 : a < mid := by omega
  have o5 : mid < b := by omega
  have o6 : nn ≤ mid + m := by omega
  have o7 : mid + m ≤ nn := by omega
  have o8 : pp + 1 ≤ nn := by omega
  have o9 : nn ≤ pp + 1 := by omega
  have o10 : mid + mid ≤ a + b := by omega
  have o11 : a + b ≤ mid + mid + 1 := by omega
  clear hq hr hc hcf hlt ha hm hb hN hsA hsB hx hA hB hA1 hB1 lA lB hK hmid hnn hpp IH
  go_enter Tryz.func109, Tryz.ntmps109
  obtain ⟨k1, k2, k3⟩ := hcase
  have gd : ¬ (mid : Int) < (m : Int) := by omega
  go_wp2
  go_loopw [20, 21] (fun I J wr0 => ∃ (wr : World) (i j : Nat), wr = wr0 ∧ s0 ≤ i ∧ i ≤ j ∧ j ≤ r0 ∧ I = .int .i64 i ∧ J = .int .i64 j ∧ w.grownBy wr (some g) ∧ Hid (RowN wr g (X ++ A ++ B ++ Y) ∧ LoG cf A B a m b nn i ∧ HiG cf A B a m nn j)) (fun I J _ => (intOf J).toNat - (intOf I).toNat)
  case atStart => exact ⟨_, s0, r0, rfl, by omega, by omega, by omega, by congr 1 <;> omega, by congr 1 <;> omega, World.grownBy.refl _ _, Lib.hid ⟨Hr.out, HLo.out, HHi.out⟩⟩
  case round =>
    obtain ⟨wr, i, j, rfl, hi, hij, hj, rfl, rfl, hG, hR⟩ := hrel
    by_cases hlt : i < j
    · obtain ⟨h, hh⟩ : ∃ h, (i + j) / 2 = h := ⟨_, rfl⟩
      obtain ⟨hu2, hd2, hv2⟩ := half_int (i := i) (j := j) (by omega)
      rw [hh] at hd2 hv2
      have hwij : IntKind.i64.wrap ((i : Int) + j) = (i : Int) + j := by rw [IntKind.wrap_i64]; omega
      obtain ⟨q, hq⟩ : ∃ q, pp - h = q := ⟨_, rfl⟩
      have hwq : IntKind.i64.wrap ((pp : Int) - h) = (q : Int) := by rw [IntKind.wrap_i64]; omega
      obtain ⟨x, hx1, hx2⟩ := HAt.out h (by omega) (by omega)
      obtain ⟨y, hy1, hy2⟩ := HBt.out q (by omega) (by omega)
      have c0 := RowN.at hR.out.1 hy2
      have c1 := RowN.at hR.out.1 hx2
      have hgr := Blk.lt hR.out.1
      have hBd : Below wr.heap.size wr wr.drew := (Below.refl _ _).drew
      have hB2 : Below g w0 wr.drew := (hbw.trans (gr_below hG (Nat.le_of_lt hg) (Nat.le_refl _))).drew
      have cC := HC.out y x wr.drew hB2 (Nat.le_of_lt hgr) (Hlt.out y (List.mem_append_right _ (List.mem_of_getElem? hy1))) (Hlt.out x (List.mem_append_left _ (List.mem_of_getElem? hx1)))
      rw [Hcf.out] at cC
      have b0 : 0 ≤ (h : Int) := by omega
      have b1 : (h : Int) < (N : Int) := by omega
      have b2 : 0 ≤ (q : Int) := by omega
      have b3 : (q : Int) < (N : Int) := by omega
      have b4 : (i : Int) < (j : Int) := by omega
      have HR1 := Lib.hid hR.out.1
      have HRl := Lib.hid hR.out.2.1
      have HRr := Lib.hid hR.out.2.2
      have Hy := Lib.hid hy1
      have Hx := Lib.hid hx1
      have HQ : Hid (nn - 1 - h - m = q - m ∧ nn - (h + 1) - m = q - m) := ⟨by omega, by omega⟩
      have p1 : i ≤ h := by omega
      have p2 : h < j := by omega
      clear hR hy1 hy2 hx1 hx2 hh hq
      by_cases hneg : cf y x < 0
      · have Hn := Lib.hid (show HiG cf A B a m nn h from .inr (.inr ⟨x, y, Hx.out, by rw [HQ.out.1]; exact Hy.out, hneg⟩))
        generalize cf y x = R at *
        have hq2 : decide (R < 0) = true := by simp; omega
        go_upto_region 35 with fail
        go_region_held3 (fun w' => w'.cell? ⟨g, q, none⟩ = some (.int .i64 y) ∧ w'.cell? ⟨g, h, none⟩ = some (.int .i64 x))
          (first | go_keep | (exact ⟨(B4.cell hgr).trans c0, (B4.cell hgr).trans c1⟩))
          (first | (go_at_call 59; ((with_reducible refine cC.mono ?_); rintro e w4 ⟨rfl, hb4⟩; have B4 := bel_trans hBd hb4; have z0 := (B4.cell (p := ⟨g, q, none⟩) hgr).trans c0; have z1 := (B4.cell (p := ⟨g, h, none⟩) hgr).trans c1)))
        have hg4 : wr.grownBy w4 (some g) := gr_of_below B4 B4.tape
        go_wp2
        all_goals go_roundw
        all_goals first | exact ⟨_, i, h, rfl, by omega, by omega, by omega, rfl, rfl, hG.trans hg4, Lib.hid ⟨HR1.out.grown B4, HRl.out, Hn.out⟩⟩ | (simp [intOf]; omega)
      · have Hn := Lib.hid (show LoG cf A B a m b nn (h + 1) from .inr (.inr ⟨x, y, by rw [Nat.add_sub_cancel]; exact Hx.out, by rw [HQ.out.2]; exact Hy.out, hneg⟩))
        generalize cf y x = R at *
        have hq1 : 0 ≤ R := by omega
        have hq2 : decide (R < 0) = false := by simp; omega
        go_upto_region 35 with fail
        go_region_held3 (fun w' => w'.cell? ⟨g, q, none⟩ = some (.int .i64 y) ∧ w'.cell? ⟨g, h, none⟩ = some (.int .i64 x))
          (first | go_keep | (exact ⟨(B4.cell hgr).trans c0, (B4.cell hgr).trans c1⟩))
          (first | (go_at_call 59; ((with_reducible refine cC.mono ?_); rintro e w4 ⟨rfl, hb4⟩; have B4 := bel_trans hBd hb4; have z0 := (B4.cell (p := ⟨g, q, none⟩) hgr).trans c0; have z1 := (B4.cell (p := ⟨g, h, none⟩) hgr).trans c1)))
        have hg4 : wr.grownBy w4 (some g) := gr_of_below B4 B4.tape
        go_wp2
        all_goals go_roundw
        all_goals first | exact ⟨_, h + 1, j, rfl, by omega, by omega, by omega, by go_num, rfl, hG.trans hg4, Lib.hid ⟨HR1.out.grown B4, Hn.out, HRr.out⟩⟩ | (simp [intOf]; omega)
    · obtain rfl : i = j := by omega
      obtain ⟨e, he⟩ : ∃ e, nn - i = e := ⟨_, rfl⟩
      obtain ⟨S0, S1, S2, E2, CR, NR, C1, N1, C2, N2⟩ := HP.out i e (by omega) (by omega) (by omega) (by omega) he hR.out.2.1 hR.out.2.2
      have HRow := Lib.hid hR.out.1
      have HE2 := Lib.hid E2
      have hwe : IntKind.i64.wrap ((nn : Int) - i) = (e : Int) := by rw [IntKind.wrap_i64]; omega
      have b4 : ¬ (i : Int) < (i : Int) := by omega
      have q1 : a ≤ i := by omega
      have q2 : i ≤ m := by omega
      have q3 : i ≤ mid := by omega
      have q4 : e + i ≤ nn := by omega
      have q5 : nn ≤ e + i := by omega
      have q6 : nn ≤ b + i := by omega
      clear hR hij E2 he
      have HCR := Lib.hid CR
      have HNR := Lib.hid NR
      have HC1 := Lib.hid C1
      have HN1 := Lib.hid N1
      have HC2 := Lib.hid C2
      have HN2' := Lib.hid N2
      clear CR NR C1 N1 C2 N2
      by_cases z1 : i < m
      · by_cases z2 : i < mid
        · by_cases z3 : a < i
          · by_cases z4 : e < b
            · have t_im : (i : Int) < (m : Int) := by omega
              have t_me : (m : Int) < (e : Int) := by omega
              have t_ai : (a : Int) < (i : Int) := by omega
              have t_imid : (i : Int) < (mid : Int) := by omega
              have t_mide : (mid : Int) < (e : Int) := by omega
              have t_eb : (e : Int) < (b : Int) := by omega
              have cR := HCR.out z1 z2 wr hG HRow.out
              go_wp2_with (first | (go_at_call 131; ((with_reducible refine cR.mono ?_); rintro e4 w4 ⟨⟨v4, rfl⟩, hS4, hG4⟩; have J0 := Lib.hid hS4; clear hS4 cR; have cS1 := HC1.out z3 z2 w4 hG4 J0.out)) | (go_at_call 109; ((with_reducible refine cS1.mono ?_); rintro e5 w5 ⟨⟨v5, rfl⟩, hS5, hG5⟩; have J1 := Lib.hid hS5; clear hS5 cS1; have cS2 := HC2.out (by omega) z4 w5 hG5 J1.out)) | (go_at_call 109; ((with_reducible refine cS2.mono ?_); rintro e6 w6 ⟨⟨v6, rfl⟩, hS6, hG6⟩; have J2 := Lib.hid hS6; clear hS6 cS2)))
              go_end0
              exact ⟨⟨_, rfl⟩, (by obtain ⟨M, h1, h2⟩ := HE2.out _ J2.out; exact ⟨M, by simpa using h1, h2⟩), hG6⟩
            · have t_im : (i : Int) < (m : Int) := by omega
              have t_me : (m : Int) < (e : Int) := by omega
              have t_ai : (a : Int) < (i : Int) := by omega
              have t_imid : (i : Int) < (mid : Int) := by omega
              have t_mide : (mid : Int) < (e : Int) := by omega
              have t_eb : ¬ (e : Int) < (b : Int) := by omega
              have cR := HCR.out z1 z2 wr hG HRow.out
              go_wp2_with (first | (go_at_call 131; ((with_reducible refine cR.mono ?_); rintro e4 w4 ⟨⟨v4, rfl⟩, hS4, hG4⟩; have J0 := Lib.hid hS4; clear hS4 cR; have cS1 := HC1.out z3 z2 w4 hG4 J0.out)) | (go_at_call 109; ((with_reducible refine cS1.mono ?_); rintro e5 w5 ⟨⟨v5, rfl⟩, hS5, hG5⟩; have J1 := Lib.hid hS5; clear hS5 cS1; have J2 := Lib.hid (HN2'.out (by omega) w5 J1.out))))
              go_end0
              exact ⟨⟨_, rfl⟩, (by obtain ⟨M, h1, h2⟩ := HE2.out _ J2.out; exact ⟨M, by simpa using h1, h2⟩), hG5⟩
          · by_cases z4 : e < b
            · have t_im : (i : Int) < (m : Int) := by omega
              have t_me : (m : Int) < (e : Int) := by omega
              have t_ai : ¬ (a : Int) < (i : Int) := by omega
              have t_imid : (i : Int) < (mid : Int) := by omega
              have t_mide : (mid : Int) < (e : Int) := by omega
              have t_eb : (e : Int) < (b : Int) := by omega
              have cR := HCR.out z1 z2 wr hG HRow.out
              go_wp2_with (first | (go_at_call 131; ((with_reducible refine cR.mono ?_); rintro e4 w4 ⟨⟨v4, rfl⟩, hS4, hG4⟩; have J0 := Lib.hid hS4; clear hS4 cR; have J1 := Lib.hid (HN1.out (by omega) w4 J0.out); have cS2 := HC2.out (by omega) z4 w4 hG4 J1.out)) | (go_at_call 109; ((with_reducible refine cS2.mono ?_); rintro e6 w6 ⟨⟨v6, rfl⟩, hS6, hG6⟩; have J2 := Lib.hid hS6; clear hS6 cS2)))
              go_end0
              exact ⟨⟨_, rfl⟩, (by obtain ⟨M, h1, h2⟩ := HE2.out _ J2.out; exact ⟨M, by simpa using h1, h2⟩), hG6⟩
            · have t_im : (i : Int) < (m : Int) := by omega
              have t_me : (m : Int) < (e : Int) := by omega
              have t_ai : ¬ (a : Int) < (i : Int) := by omega
              have t_imid : (i : Int) < (mid : Int) := by omega
              have t_mide : (mid : Int) < (e : Int) := by omega
              have t_eb : ¬ (e : Int) < (b : Int) := by omega
              have cR := HCR.out z1 z2 wr hG HRow.out
              go_wp2_with (first | (go_at_call 131; ((with_reducible refine cR.mono ?_); rintro e4 w4 ⟨⟨v4, rfl⟩, hS4, hG4⟩; have J0 := Lib.hid hS4; clear hS4 cR; have J1 := Lib.hid (HN1.out (by omega) w4 J0.out); have J2 := Lib.hid (HN2'.out (by omega) w4 J1.out))))
              go_end0
              exact ⟨⟨_, rfl⟩, (by obtain ⟨M, h1, h2⟩ := HE2.out _ J2.out; exact ⟨M, by simpa using h1, h2⟩), hG4⟩
        · have z3 : a < i := by omega
          have z4 : e < b := by omega
          have t_im : (i : Int) < (m : Int) := by omega
          have t_me : ¬ (m : Int) < (e : Int) := by omega
          have t_ai : (a : Int) < (i : Int) := by omega
          have t_imid : ¬ (i : Int) < (mid : Int) := by omega
          have t_mide : (mid : Int) < (e : Int) := by omega
          have t_eb : (e : Int) < (b : Int) := by omega
          have J0 := Lib.hid (HNR.out (by omega) wr HRow.out)
          have J1 := Lib.hid (HN1.out (by omega) wr J0.out)
          have cS2 := HC2.out (by omega) z4 wr hG J1.out
          go_wp2_with (first | (go_at_call 109; ((with_reducible refine cS2.mono ?_); rintro e6 w6 ⟨⟨v6, rfl⟩, hS6, hG6⟩; have J2 := Lib.hid hS6; clear hS6 cS2)))
          go_end0
          exact ⟨⟨_, rfl⟩, (by obtain ⟨M, h1, h2⟩ := HE2.out _ J2.out; exact ⟨M, by simpa using h1, h2⟩), hG6⟩
      · have z3 : a < i := by omega
        by_cases z2 : i < mid
        · have t_im : ¬ (i : Int) < (m : Int) := by omega
          have t_me : (m : Int) < (e : Int) := by omega
          have t_ai : (a : Int) < (i : Int) := by omega
          have t_imid : (i : Int) < (mid : Int) := by omega
          have t_mide : ¬ (mid : Int) < (e : Int) := by omega
          have J0 := Lib.hid (HNR.out (by omega) wr HRow.out)
          have cS1 := HC1.out z3 z2 wr hG J0.out
          go_wp2_with (first | (go_at_call 109; ((with_reducible refine cS1.mono ?_); rintro e5 w5 ⟨⟨v5, rfl⟩, hS5, hG5⟩; have J1 := Lib.hid hS5; clear hS5 cS1; have J2 := Lib.hid (HN2'.out (by omega) w5 J1.out))))
          go_end0
          exact ⟨⟨_, rfl⟩, (by obtain ⟨M, h1, h2⟩ := HE2.out _ J2.out; exact ⟨M, by simpa using h1, h2⟩), hG5⟩
        · have t_im : ¬ (i : Int) < (m : Int) := by omega
          have t_me : ¬ (m : Int) < (e : Int) := by omega
          have t_ai : (a : Int) < (i : Int) := by omega
          have t_imid : ¬ (i : Int) < (mid : Int) := by omega
          have t_mide : ¬ (mid : Int) < (e : Int) := by omega
          have J0 := Lib.hid (HNR.out (by omega) wr HRow.out)
          have J1 := Lib.hid (HN1.out (by omega) wr J0.out)
          have J2 := Lib.hid (HN2'.out (by omega) wr J1.out)
          go_wp2_with (fail)
          go_end0
          exact ⟨⟨_, rfl⟩, (by obtain ⟨M, h1, h2⟩ := HE2.out _ J2.out; exact ⟨M, by simpa using h1, h2⟩), hG⟩

end Go.Proofs.YthchjceibpcgbaaGreatDoor.Fi
