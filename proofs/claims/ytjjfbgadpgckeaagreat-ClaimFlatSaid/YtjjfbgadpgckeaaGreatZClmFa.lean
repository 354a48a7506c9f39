/-
  What is proved: the law over what is put together by and, or by or, and taken apart: its parts, its atoms, its names.
-/
import Derived.Test.YtjjfbgadpgckeaaGreatZClmGa
namespace Go.Proofs.YtjjfbgadpgckeaaGreat.K
open Go.RowKit L T
open C (Cl atC cmpC eqC CsW wt wt_mk wts wts_mem wts_len opC nmC soC tsC subC SS OwnC Hc CBox cbox1 cbox2 ArC ArWC ArCP take_c wts_app nmsCs putsN RtS Few_any fewL alive_any endsL endsLs flatP conP joinL RdC eqCs put5 put5_other put5_below)
open U (HdsT tsAll tsAlls)
set_option linter.unusedVariables false
set_option linter.unusedSimpArgs false

theorem ends_join (q n : Int) (hq : q = 7 ∨ q = 8) : ∀ l : List Cl, l ≠ [] → l.any (fun c => opC c == q) = false → endsL (flatP q) (joinL q n l) = l
  | [], h, _ => absurd rfl h
  | [c], _, h => by
    have hc : (opC c == q) = false := by simpa using h
    rw [joinL, C.endsL_no (by unfold flatP; rw [hc]; rfl)]
  | c :: d :: l, _, h => by
    rw [List.any_cons, Bool.or_eq_false_iff] at h
    have ih := ends_join q n hq (d :: l) (by simp) h.2
    have hy : flatP q q = true := by unfold flatP; rcases hq with rfl | rfl <;> rfl
    rw [joinL, C.endsL_yes (by exact hy)]
    show endsLs (flatP q) [c, joinL q n (d :: l)] = _
    rw [C.endsLs_cons, C.endsLs_cons, ih, C.endsL_no (by unfold flatP; rw [h.1]; rfl)]
    show [c] ++ ((d :: l) ++ []) = _
    rw [List.append_nil]; rfl
theorem atoms_join (q n : Int) (hq : q = 7 ∨ q = 8) : ∀ l : List Cl, l ≠ [] → atomsL [joinL q n l] = atomsL l
  | [], h => absurd rfl h
  | [c], _ => rfl
  | c :: d :: l, _ => by
    have ih := atoms_join q n hq (d :: l) (by simp)
    have hy : conP q = true := by unfold conP; rcases hq with rfl | rfl <;> rfl
    rw [joinL, atomsL_one, C.endsL_yes (by exact hy), atomsL_cons c (d :: l), ← ih]
    show atomsL [c, joinL q n (d :: l)] = _
    exact atomsL_cons c [joinL q n (d :: l)]
theorem ts_join (q n : Int) : ∀ l : List Cl, l ≠ [] → tsAlls [joinL q n l] = tsAlls l
  | [], h => absurd rfl h
  | [c], _ => rfl
  | c :: d :: l, _ => by
    have ih := ts_join q n (d :: l) (by simp)
    rw [joinL, tsAlls, tsAlls, tsAll, List.nil_append, List.append_nil, tsAlls.eq_2 c (d :: l), ← ih, tsAlls]
theorem join_wtK (q n : Int) : ∀ l : List Cl, wt (joinL q n l) ≤ wts l + l.length + 1
  | [] => by rw [joinL]; simp [wt, wts, sizes]
  | [c] => by rw [joinL]; simp [wts]; omega
  | c :: d :: l => by
    have ih := join_wtK q n (d :: l)
    rw [joinL, wt]
    simp only [sizes, wts, List.length_cons] at ih ⊢
    omega
/-- two cells for claims, then both stored -/
theorem box2z (w : World) (o : Int) (s z : ByteArray) (k : SS) (a : Option Addr) (n c : Nat) (o' : Int) (s' z' : ByteArray) (k' : SS) (a' : Option Addr) (n' c' : Nat) : ∃ Z W4, (w.alloc (.cells #[.int .i64 0, .string ⟨#[]⟩, .string ⟨#[]⟩, .slice none 0 0, .slice none 0 0] 25)).alloc (.cells #[.int .i64 0, .string ⟨#[]⟩, .string ⟨#[]⟩, .slice none 0 0, .slice none 0 0] 25) = Z ∧
    (CBox Z w.heap.size 0 ⟨#[]⟩ ⟨#[]⟩ SS.nil none 0 0 ∧ CBox Z (w.heap.size + 1) 0 ⟨#[]⟩ ⟨#[]⟩ SS.nil none 0 0) ∧
    put5 (put5 Z w.heap.size (.int .i64 o) (.string s) (.string z) (.slice k.a k.n k.c) (.slice a n c)) (w.heap.size + 1) (.int .i64 o') (.string s') (.string z') (.slice k'.a k'.n k'.c) (.slice a' n' c') = W4 ∧
    (CBox W4 w.heap.size o s z k a n c ∧ CBox W4 (w.heap.size + 1) o' s' z' k' a' n' c') ∧ Below w.heap.size w W4 := by
  obtain ⟨Z2, h2, hb2, hs2, S2, T2⟩ := cbox2 w 0 ⟨#[]⟩ ⟨#[]⟩ SS.nil none 0 0 0 ⟨#[]⟩ ⟨#[]⟩ SS.nil none 0 0
  dsimp only [SS.nil] at h2
  have o9 := fun (W : World) (g i : Nat) (v0 v1 v2 v3 v4 : Value) (h : i ≠ g) => put5_other W g i v0 v1 v2 v3 v4 h
  refine ⟨_, _, h2, ⟨S2, T2⟩, rfl, ⟨?_, ?_⟩, put5_below (put5_below hb2 (Nat.le_refl _) _ _ _ _ _) (by omega) _ _ _ _ _⟩
  · exact (o9 _ _ _ _ _ _ _ _ (by omega)).trans (C.CBox.put S2 o s z k a n c)
  · exact C.CBox.put ((o9 _ _ _ _ _ _ _ _ (by omega)).trans T2 : CBox _ _ _ _ _ _ _ _ _) o' s' z' k' a' n' c'
theorem row1K (Z : World) (t : Cl) (h : Hc) (he : h.op = opC t ∧ h.nm = nmC t ∧ h.so = soC t) (hA0 : ArWC Z t h.k h.a h.n h.c) : CsW (Z.alloc (.cells #[.int .i64 h.op, .string h.nm, .string h.so, .slice h.k.a h.k.n h.k.c, .slice h.a h.n h.c] 25)) (some ⟨Z.heap.size, 0, none⟩) 1 1 [t] :=
  C.rowL Z [h] [t] rfl (by simp) fun k hk hk2 => by
    have : k = 0 := by simp at hk; omega
    subst this
    exact ⟨he, hA0⟩
set_option maxRecDepth 100000 in
set_option maxHeartbeats 16000000 in
theorem flatB (L0 : List Cl) (AL : Option Addr) (mL cL : Nat) (w : World) (HL : CsW w AL mL cL L0) :
    Calls Tryz.prog 5 #[.slice AL mL cL] w fun e w' => e = .returned (.bool true) ∧ Below w.heap.size w w' := by
  have hlen : mL = L0.length := HL.1
  have g0 := fun (w' : World) => alive_any w'
  have zF := Few_any L0 AL mL cL 200 w (by omega) HL
  rw [show ((200 : Nat) : Int) = 200 from rfl] at zF
  rw [← hlen] at zF
  have HC := Lib.hid HL
  by_cases q0 : mL = 0
  · have p0 : ((mL : Int) == 0) = true := by rw [q0]; rfl
    subst q0
    clear HC HL zF hlen
    go_enter Tryz.func5, Tryz.ntmps5
    go_wp2_with (go_at_call 7; ((with_reducible refine (g0 _).mono ?_); rintro e wX ⟨rfl, hbX⟩))
    go_ret
    exact ⟨rfl, hbX⟩
  have p0 : ((mL : Int) == 0) = false := by simp; omega
  by_cases q1 : mL ≤ 20
  · have e1 : decide (mL ≤ 200) = true := decide_eq_true (by omega)
    rw [e1, Bool.true_and] at zF
    clear e1
    have p1 : decide ((mL : Int) > 20) = false := decide_eq_false (by omega)
    have HWt := Lib.hid (show fewL 200 L0 = true → wts L0 ≤ 4000 from fun h => by have := few_wtsK h; omega)
    cases hfw : fewL 200 L0 with
    | true =>
      rw [hfw] at zF
      have hwt := HWt.out hfw
      have hne : L0 ≠ [] := fun e => by rw [e] at hlen; exact q0 hlen
      have hj7 := join_wtK 7 1 L0
      have hj8 := join_wtK 8 2 L0
      have cAnd := fun (w' : World) (hb : Below w.heap.size w w') => C.And_any L0 AL mL cL w' (by omega) (C.CsW.b HL hb)
      have cOr := fun (w' : World) (hb : Below w.heap.size w w') => C.Or_any L0 AL mL cL w' (by omega) (C.CsW.b HL hb)
      have cNm := fun (w' : World) (hb : Below w.heap.size w w') => U.ClaimNames_any L0 AL mL cL w' (C.CsW.b HL hb) (by omega)
      have cAt := fun (w' : World) (hb : Below w.heap.size w w') => Atoms_any L0 AL mL cL w' (C.CsW.b HL hb) (by omega)
      have cA1 := fun (Z : World) (h : Hc) (he : h.op = opC (joinL 7 1 L0) ∧ h.nm = nmC (joinL 7 1 L0) ∧ h.so = soC (joinL 7 1 L0)) (hA0 : ArWC Z (joinL 7 1 L0) h.k h.a h.n h.c) => Atoms_any [joinL 7 1 L0] (some ⟨Z.heap.size, 0, none⟩) 1 1 _ (row1K Z _ h he hA0) (by simp only [wts]; omega)
      rw [atoms_join 7 1 (.inl rfl) L0 hne] at cA1
      have cN1 := fun (Z : World) (h : Hc) (he : h.op = opC (joinL 8 2 L0) ∧ h.nm = nmC (joinL 8 2 L0) ∧ h.so = soC (joinL 8 2 L0)) (hA0 : ArWC Z (joinL 8 2 L0) h.k h.a h.n h.c) => U.ClaimNames_any [joinL 8 2 L0] (some ⟨Z.heap.size, 0, none⟩) 1 1 _ (row1K Z _ h he hA0) (by simp only [wts]; omega)
      rw [ts_join 8 2 L0 hne] at cN1
      have cF7 := fun (w' : World) (h : Hc) (he : h.op = opC (joinL 7 1 L0) ∧ h.nm = nmC (joinL 7 1 L0) ∧ h.so = soC (joinL 7 1 L0)) (hA0 : ArWC w' (joinL 7 1 L0) h.k h.a h.n h.c) => C.flatH_any 7 (joinL 7 1 L0) h w' (by omega) he hA0
      have cF8 := fun (w' : World) (h : Hc) (he : h.op = opC (joinL 8 2 L0) ∧ h.nm = nmC (joinL 8 2 L0) ∧ h.so = soC (joinL 8 2 L0)) (hA0 : ArWC w' (joinL 8 2 L0) h.k h.a h.n h.c) => C.flatH_any 8 (joinL 8 2 L0) h w' (by omega) he hA0
      have HE7 := Lib.hid (ends_join 7 1 (.inl rfl) L0 hne)
      have HE8 := Lib.hid (ends_join 8 2 (.inr rfl) L0 hne)
      have cS := fun (X : List ByteArray) (A : Option Addr) (c : Nat) (A' : Option Addr) (c' : Nat) (w' : World) (hl : X.length ≤ 1000000) (h : SlS w' A X.length c X) (h' : SlS w' A' X.length c' X) => (Strings_any A A' X.length X.length c c' X X w' h.1 h'.1 (by omega) (by omega)).mono (R' := fun e w1 => e = .returned (.bool true) ∧ Below w'.heap.size w' w1) fun e w1 h => by rw [eqL_reflK] at h; exact h
      have hnl : (names (tsAlls L0)).length ≤ 1000000 := by
        rw [← names_cs]
        have h1 := C.putsN_len (nmsCs L0) []
        have h2 := C.nmsCs_len L0
        simp at h1
        omega
      have cC := fun (r : List Cl) (A : Option Addr) (N Q : Nat) (A' : Option Addr) (N' Q' : Nat) (w' : World) (h : CsW w' A N Q r) (h' : CsW w' A' N' Q' r) => (C.Claims_of r (fun t _ => C.Claim_any t) A N Q A' N' Q' r w' h h').mono (R' := fun e w1 => e = .returned (.bool true) ∧ Below w'.heap.size w' w1) fun e w1 h => by rw [C.eqCs_self] at h; exact h
      have cLt := fun (w' : World) (hb : Below w.heap.size w w') => C.CsW.b HL hb
      have hm63 : mL ≤ 9223372036854775807 := by omega
      have HEnd := Lib.hid (show L0.take mL = L0 from List.take_of_length_le (by omega))
      have HSt := Lib.hid (show ∀ (q : Int) k x, L0[k]? = some x → (L0.take (k + 1)).any (fun c => opC c == q) = ((L0.take k).any (fun c => opC c == q) || (opC x == q)) from fun q k x h => by rw [take_c h, List.any_append]; simp)
      clear HWt HL hwt hlen hfw hne hj7 hj8
      generalize names (tsAlls L0) = NM at *
      generalize uqC [] (atomsL L0) = AT at *
      generalize joinL 7 1 L0 = J7 at *
      generalize joinL 8 2 L0 = J8 at *
      go_enter Tryz.func5, Tryz.ntmps5
      go_wp2_with (go_at_call 14; ((with_reducible refine zF.mono ?_); rintro e wF ⟨rfl, hbF⟩))
      clear zF
      go_loopw [3, 4, 25] (fun a b i wr0 => ∃ (wr : World) (k : Nat), wr = wr0 ∧ k ≤ mL ∧ a = .bool ((L0.take k).any (fun c => opC c == 7)) ∧ b = .bool ((L0.take k).any (fun c => opC c == 8)) ∧ i = .int .i64 k ∧ Hid (Below w.heap.size w wr)) (fun _ _ i _ => mL - (intOf i).toNat)
      case atStart => exact ⟨_, 0, rfl, by omega, rfl, rfl, rfl, Lib.hid hbF⟩
      case round =>
        clear hbF
        obtain ⟨wr, k, rfl, hk, rfl, rfl, rfl, hB⟩ := hrel
        by_cases hlt : k < mL
        · obtain ⟨bb, o, x, ⟨xa, xn, xc⟩, AA, M, Cc, rfl, hbb, z0, z1, z2, z3, z4, hx, hax⟩ := HC.out.at hlt
          dsimp only at z3
          have y0 := (hB.out.cell (p := ⟨bb, _, none⟩) hbb).trans z0
          have y1 := (hB.out.cell (p := ⟨bb, _, none⟩) hbb).trans z1
          have y2 := (hB.out.cell (p := ⟨bb, _, none⟩) hbb).trans z2
          have y3 := (hB.out.cell (p := ⟨bb, _, none⟩) hbb).trans z3
          have y4 := (hB.out.cell (p := ⟨bb, _, none⟩) hbb).trans z4
          obtain ⟨W3, hW3, hB3, hs3, S3⟩ := cbox1 wr (opC x) (nmC x) (soC x) ⟨xa, xn, xc⟩ AA M Cc
          dsimp only at hW3 S3
          have hbr3 : Below w.heap.size w W3 := bel_trans hB.out hB3
          obtain ⟨f0, f1, f2, f3, f4⟩ := S3.five
          have h7 := Lib.hid (HSt.out 7 k x hx)
          have h8 := Lib.hid (HSt.out 8 k x hx)
          clear z0 z1 z2 z3 z4 hax hx S3 HSt HEnd HC cNm cAt cAnd cOr
          generalize (L0.take k).any (fun c => opC c == 7) = b7 at *
          generalize (L0.take k).any (fun c => opC c == 8) = b8 at *
          generalize opC x = op' at *
          generalize nmC x = nm' at *
          generalize soC x = so' at *
          have hk0 : 0 ≤ (k : Int) := by omega
          have hk1 : (k : Int) < (mL : Int) := by omega
          cases b7 <;> cases b8 <;> (
            go_wp2
            go_roundw
            case rel => exact ⟨_, k + 1, rfl, by omega, by rw [h7.out]; first | rfl | simp, by rw [h8.out]; first | rfl | simp, by go_num, Lib.hid hbr3⟩
            case measure => simp [intOf]; omega)
        · obtain rfl : k = mL := by omega
          have hBw := hB.out
          rw [HEnd.out]
          generalize hb7 : L0.any (fun c => opC c == 7) = b7 at *
          generalize hb8 : L0.any (fun c => opC c == 8) = b8 at *
          clear hB HC HEnd HSt
          cases b7 with
          | true =>
            clear hb7 HE7 cF7
            cases b8 with
            | true =>
              clear hb8 HE8 cF8
              go_wp2_with (first
                | (go_at_call 24; ((with_reducible refine (cAnd _ (by assumption)).mono ?_); rintro e w5 ⟨⟨o5, n5, s5, ⟨ka5, kn5, kc5⟩, a5, m5, c5⟩, rfl, he5, hA5, hb5⟩; dsimp only at he5 hA5; have HE5 := Lib.hid he5; have HA5 := Lib.hid (C.ArCP.ar (B := w5.heap.size) (fun b hb => hb.2) _ hA5); clear he5 hA5; have B5 := bel_trans hBw hb5))
                | (go_at_call 25; ((with_reducible refine (cOr _ (by assumption)).mono ?_); rintro e w6 ⟨⟨o6, n6, s6, ⟨ka6, kn6, kc6⟩, a6, m6, c6⟩, rfl, he6, hA6, hb6⟩; dsimp only at he6 hA6; have HE6 := Lib.hid he6; have HA6 := Lib.hid (C.ArCP.ar (B := w6.heap.size) (fun b hb => hb.2) _ hA6); clear he6 hA6; have B6 := bel_trans B5 hb6; obtain ⟨Z, W4, hZ, ⟨bz1, bz2⟩, hW4, ⟨bw1, bw2⟩, hb4⟩ := box2z w6 o5 n5 s5 ⟨ka5, kn5, kc5⟩ a5 m5 c5 o6 n6 s6 ⟨ka6, kn6, kc6⟩ a6 m6 c6; dsimp only at hW4; unfold put5 at hW4; obtain ⟨v0, v1, v2, v3, v4⟩ := bz1.five; obtain ⟨f0, f1, f2, f3, f4⟩ := bz1.free; obtain ⟨v0', v1', v2', v3', v4'⟩ := bz2.five; obtain ⟨f0', f1', f2', f3', f4'⟩ := bz2.free; dsimp only [SS.nil] at v3 v3'; have T1 := Lib.hid bw1; have T2 := Lib.hid bw2; have B4 := bel_trans B6 hb4; have hBn := hb4; have H7 := Lib.hid (C.ArWC.b (C.ArWC.b HA5.out hb6) hb4); have H8 := Lib.hid (C.ArWC.b HA6.out hb4); obtain ⟨d0, d1, d2, d3, d4⟩ := bw1.five; obtain ⟨g0', g1', g2', g3', g4'⟩ := bw2.five; dsimp only at d3 g3'; clear bz1 bz2 bw1 bw2; have Bz : Below W4.heap.size W4 W4 := Below.refl _ _))
                | (go_at_call 22; ((with_reducible refine (cA1 _ ⟨o5, n5, s5, ⟨ka5, kn5, kc5⟩, a5, m5, c5⟩ HE5.out (C.ArWC.b H7.out Bz)).mono ?_); rintro e w12 ⟨A12, N12, C12, rfl, hT12, hb12⟩; have HT12 := Lib.hid hT12; clear hT12; have Bz := bel_trans (bel_alloc Bz (.cells #[.int .i64 o5, .string n5, .string s5, .slice ka5 kn5 kc5, .slice a5 m5 c5] 25)) hb12; have cA1 := True.intro; have B12 := bel_trans B4 Bz))
                | (go_at_call 22; ((with_reducible refine (cAt _ B12).mono ?_); rintro e w13 ⟨A13, N13, C13, rfl, hT13, hb13⟩; have HT13 := Lib.hid hT13; clear hT13; have Bz := bel_trans Bz hb13))
                | (go_at_call 26; ((with_reducible refine (cC _ _ _ _ _ _ _ _ (C.CsW.b HT12.out hb13) HT13.out).mono ?_); rintro e w14 ⟨rfl, hb14⟩; have Bz := bel_trans Bz hb14; obtain ⟨g0', g1', g2', g3', g4'⟩ := (C.CBox.b T2.out Bz).five; dsimp only at g3'))
                | (go_at_call 19; ((with_reducible refine (cN1 _ ⟨o6, n6, s6, ⟨ka6, kn6, kc6⟩, a6, m6, c6⟩ HE6.out (C.ArWC.b H8.out Bz)).mono ?_); rintro e w15 ⟨v15, rfl, ho15, hb15⟩; obtain ⟨A15, C15, rfl, hs15⟩ := own_slK ho15; have H15 := Lib.hid hs15; clear ho15 hs15; have Bz := bel_trans (bel_alloc Bz (.cells #[.int .i64 o6, .string n6, .string s6, .slice ka6 kn6 kc6, .slice a6 m6 c6] 25)) hb15; have B15 := bel_trans B4 Bz))
                | (go_at_call 19; ((with_reducible refine (cNm _ B15).mono ?_); rintro e w16 ⟨v16, rfl, ho16, hb16⟩; obtain ⟨A16, C16, rfl, hs16⟩ := own_slK ho16; have H16 := Lib.hid hs16; clear ho16 hs16; have Bz := bel_trans Bz hb16))
                | (go_at_call 18; ((with_reducible refine (cS _ _ _ _ _ _ hnl (SlS_bK H15.out hb16) H16.out).mono ?_); rintro e w17 ⟨rfl, hb17⟩; have Bz := bel_trans Bz hb17))
                | (go_at_call 7; ((with_reducible refine (g0 _).mono ?_); rintro e w18 ⟨rfl, hb18⟩; have Bz := bel_trans Bz hb18)))
              go_ret
              exact ⟨rfl, bel_trans B4 Bz⟩
            | false =>
              rw [HE8.out rfl] at cF8
              clear hb8 HE8
              go_wp2_with (first
                | (go_at_call 24; ((with_reducible refine (cAnd _ (by assumption)).mono ?_); rintro e w5 ⟨⟨o5, n5, s5, ⟨ka5, kn5, kc5⟩, a5, m5, c5⟩, rfl, he5, hA5, hb5⟩; dsimp only at he5 hA5; have HE5 := Lib.hid he5; have HA5 := Lib.hid (C.ArCP.ar (B := w5.heap.size) (fun b hb => hb.2) _ hA5); clear he5 hA5; have B5 := bel_trans hBw hb5))
                | (go_at_call 25; ((with_reducible refine (cOr _ (by assumption)).mono ?_); rintro e w6 ⟨⟨o6, n6, s6, ⟨ka6, kn6, kc6⟩, a6, m6, c6⟩, rfl, he6, hA6, hb6⟩; dsimp only at he6 hA6; have HE6 := Lib.hid he6; have HA6 := Lib.hid (C.ArCP.ar (B := w6.heap.size) (fun b hb => hb.2) _ hA6); clear he6 hA6; have B6 := bel_trans B5 hb6; obtain ⟨Z, W4, hZ, ⟨bz1, bz2⟩, hW4, ⟨bw1, bw2⟩, hb4⟩ := box2z w6 o5 n5 s5 ⟨ka5, kn5, kc5⟩ a5 m5 c5 o6 n6 s6 ⟨ka6, kn6, kc6⟩ a6 m6 c6; dsimp only at hW4; unfold put5 at hW4; obtain ⟨v0, v1, v2, v3, v4⟩ := bz1.five; obtain ⟨f0, f1, f2, f3, f4⟩ := bz1.free; obtain ⟨v0', v1', v2', v3', v4'⟩ := bz2.five; obtain ⟨f0', f1', f2', f3', f4'⟩ := bz2.free; dsimp only [SS.nil] at v3 v3'; have T1 := Lib.hid bw1; have T2 := Lib.hid bw2; have B4 := bel_trans B6 hb4; have hBn := hb4; have H7 := Lib.hid (C.ArWC.b (C.ArWC.b HA5.out hb6) hb4); have H8 := Lib.hid (C.ArWC.b HA6.out hb4); obtain ⟨d0, d1, d2, d3, d4⟩ := bw1.five; obtain ⟨g0', g1', g2', g3', g4'⟩ := bw2.five; dsimp only at d3 g3'; clear bz1 bz2 bw1 bw2; have Bz : Below W4.heap.size W4 W4 := Below.refl _ _))
                | (go_at_call 27; ((with_reducible refine (cF8 _ ⟨o6, n6, s6, ⟨ka6, kn6, kc6⟩, a6, m6, c6⟩ HE6.out (C.ArWC.b H8.out Bz)).mono ?_); rintro e w9 ⟨A9, N9, C9, rfl, hT9, hb9⟩; have HT9 := Lib.hid hT9; clear hT9; have Bz := bel_trans Bz hb9; have B9 := bel_trans B4 Bz; have cF8 := True.intro))
                | (go_at_call 26; ((with_reducible refine (cC _ _ _ _ _ _ _ _ HT9.out (cLt _ B9)).mono ?_); rintro e w10 ⟨rfl, hb10⟩; have Bz := bel_trans Bz hb10; clear HT9; obtain ⟨d0, d1, d2, d3, d4⟩ := (C.CBox.b T1.out Bz).five; dsimp only at d3; obtain ⟨g0', g1', g2', g3', g4'⟩ := (C.CBox.b T2.out Bz).five; dsimp only at g3'))
                | (go_at_call 22; ((with_reducible refine (cA1 _ ⟨o5, n5, s5, ⟨ka5, kn5, kc5⟩, a5, m5, c5⟩ HE5.out (C.ArWC.b H7.out Bz)).mono ?_); rintro e w12 ⟨A12, N12, C12, rfl, hT12, hb12⟩; have HT12 := Lib.hid hT12; clear hT12; have Bz := bel_trans (bel_alloc Bz (.cells #[.int .i64 o5, .string n5, .string s5, .slice ka5 kn5 kc5, .slice a5 m5 c5] 25)) hb12; have cA1 := True.intro; have B12 := bel_trans B4 Bz))
                | (go_at_call 22; ((with_reducible refine (cAt _ B12).mono ?_); rintro e w13 ⟨A13, N13, C13, rfl, hT13, hb13⟩; have HT13 := Lib.hid hT13; clear hT13; have Bz := bel_trans Bz hb13))
                | (go_at_call 26; ((with_reducible refine (cC _ _ _ _ _ _ _ _ (C.CsW.b HT12.out hb13) HT13.out).mono ?_); rintro e w14 ⟨rfl, hb14⟩; have Bz := bel_trans Bz hb14; obtain ⟨g0', g1', g2', g3', g4'⟩ := (C.CBox.b T2.out Bz).five; dsimp only at g3'))
                | (go_at_call 19; ((with_reducible refine (cN1 _ ⟨o6, n6, s6, ⟨ka6, kn6, kc6⟩, a6, m6, c6⟩ HE6.out (C.ArWC.b H8.out Bz)).mono ?_); rintro e w15 ⟨v15, rfl, ho15, hb15⟩; obtain ⟨A15, C15, rfl, hs15⟩ := own_slK ho15; have H15 := Lib.hid hs15; clear ho15 hs15; have Bz := bel_trans (bel_alloc Bz (.cells #[.int .i64 o6, .string n6, .string s6, .slice ka6 kn6 kc6, .slice a6 m6 c6] 25)) hb15; have B15 := bel_trans B4 Bz))
                | (go_at_call 19; ((with_reducible refine (cNm _ B15).mono ?_); rintro e w16 ⟨v16, rfl, ho16, hb16⟩; obtain ⟨A16, C16, rfl, hs16⟩ := own_slK ho16; have H16 := Lib.hid hs16; clear ho16 hs16; have Bz := bel_trans Bz hb16))
                | (go_at_call 18; ((with_reducible refine (cS _ _ _ _ _ _ hnl (SlS_bK H15.out hb16) H16.out).mono ?_); rintro e w17 ⟨rfl, hb17⟩; have Bz := bel_trans Bz hb17))
                | (go_at_call 7; ((with_reducible refine (g0 _).mono ?_); rintro e w18 ⟨rfl, hb18⟩; have Bz := bel_trans Bz hb18)))
              go_ret
              exact ⟨rfl, bel_trans B4 Bz⟩
          | false =>
            rw [HE7.out rfl] at cF7
            clear hb7 HE7
            cases b8 with
            | true =>
              clear hb8 HE8 cF8
              go_wp2_with (first
                | (go_at_call 24; ((with_reducible refine (cAnd _ (by assumption)).mono ?_); rintro e w5 ⟨⟨o5, n5, s5, ⟨ka5, kn5, kc5⟩, a5, m5, c5⟩, rfl, he5, hA5, hb5⟩; dsimp only at he5 hA5; have HE5 := Lib.hid he5; have HA5 := Lib.hid (C.ArCP.ar (B := w5.heap.size) (fun b hb => hb.2) _ hA5); clear he5 hA5; have B5 := bel_trans hBw hb5))
                | (go_at_call 25; ((with_reducible refine (cOr _ (by assumption)).mono ?_); rintro e w6 ⟨⟨o6, n6, s6, ⟨ka6, kn6, kc6⟩, a6, m6, c6⟩, rfl, he6, hA6, hb6⟩; dsimp only at he6 hA6; have HE6 := Lib.hid he6; have HA6 := Lib.hid (C.ArCP.ar (B := w6.heap.size) (fun b hb => hb.2) _ hA6); clear he6 hA6; have B6 := bel_trans B5 hb6; obtain ⟨Z, W4, hZ, ⟨bz1, bz2⟩, hW4, ⟨bw1, bw2⟩, hb4⟩ := box2z w6 o5 n5 s5 ⟨ka5, kn5, kc5⟩ a5 m5 c5 o6 n6 s6 ⟨ka6, kn6, kc6⟩ a6 m6 c6; dsimp only at hW4; unfold put5 at hW4; obtain ⟨v0, v1, v2, v3, v4⟩ := bz1.five; obtain ⟨f0, f1, f2, f3, f4⟩ := bz1.free; obtain ⟨v0', v1', v2', v3', v4'⟩ := bz2.five; obtain ⟨f0', f1', f2', f3', f4'⟩ := bz2.free; dsimp only [SS.nil] at v3 v3'; have T1 := Lib.hid bw1; have T2 := Lib.hid bw2; have B4 := bel_trans B6 hb4; have hBn := hb4; have H7 := Lib.hid (C.ArWC.b (C.ArWC.b HA5.out hb6) hb4); have H8 := Lib.hid (C.ArWC.b HA6.out hb4); obtain ⟨d0, d1, d2, d3, d4⟩ := bw1.five; obtain ⟨g0', g1', g2', g3', g4'⟩ := bw2.five; dsimp only at d3 g3'; clear bz1 bz2 bw1 bw2; have Bz : Below W4.heap.size W4 W4 := Below.refl _ _))
                | (go_at_call 27; ((with_reducible refine (cF7 _ ⟨o5, n5, s5, ⟨ka5, kn5, kc5⟩, a5, m5, c5⟩ HE5.out (C.ArWC.b H7.out Bz)).mono ?_); rintro e w7 ⟨A7, N7, C7, rfl, hT7, hb7⟩; have HT7 := Lib.hid hT7; clear hT7; have Bz := bel_trans Bz hb7; have B7 := bel_trans B4 Bz; have cF7 := True.intro))
                | (go_at_call 26; ((with_reducible refine (cC _ _ _ _ _ _ _ _ HT7.out (cLt _ B7)).mono ?_); rintro e w8 ⟨rfl, hb8⟩; have Bz := bel_trans Bz hb8; clear HT7; obtain ⟨d0, d1, d2, d3, d4⟩ := (C.CBox.b T1.out Bz).five; dsimp only at d3; obtain ⟨g0', g1', g2', g3', g4'⟩ := (C.CBox.b T2.out Bz).five; dsimp only at g3'))
                | (go_at_call 22; ((with_reducible refine (cA1 _ ⟨o5, n5, s5, ⟨ka5, kn5, kc5⟩, a5, m5, c5⟩ HE5.out (C.ArWC.b H7.out Bz)).mono ?_); rintro e w12 ⟨A12, N12, C12, rfl, hT12, hb12⟩; have HT12 := Lib.hid hT12; clear hT12; have Bz := bel_trans (bel_alloc Bz (.cells #[.int .i64 o5, .string n5, .string s5, .slice ka5 kn5 kc5, .slice a5 m5 c5] 25)) hb12; have cA1 := True.intro; have B12 := bel_trans B4 Bz))
                | (go_at_call 22; ((with_reducible refine (cAt _ B12).mono ?_); rintro e w13 ⟨A13, N13, C13, rfl, hT13, hb13⟩; have HT13 := Lib.hid hT13; clear hT13; have Bz := bel_trans Bz hb13))
                | (go_at_call 26; ((with_reducible refine (cC _ _ _ _ _ _ _ _ (C.CsW.b HT12.out hb13) HT13.out).mono ?_); rintro e w14 ⟨rfl, hb14⟩; have Bz := bel_trans Bz hb14; obtain ⟨g0', g1', g2', g3', g4'⟩ := (C.CBox.b T2.out Bz).five; dsimp only at g3'))
                | (go_at_call 19; ((with_reducible refine (cN1 _ ⟨o6, n6, s6, ⟨ka6, kn6, kc6⟩, a6, m6, c6⟩ HE6.out (C.ArWC.b H8.out Bz)).mono ?_); rintro e w15 ⟨v15, rfl, ho15, hb15⟩; obtain ⟨A15, C15, rfl, hs15⟩ := own_slK ho15; have H15 := Lib.hid hs15; clear ho15 hs15; have Bz := bel_trans (bel_alloc Bz (.cells #[.int .i64 o6, .string n6, .string s6, .slice ka6 kn6 kc6, .slice a6 m6 c6] 25)) hb15; have B15 := bel_trans B4 Bz))
                | (go_at_call 19; ((with_reducible refine (cNm _ B15).mono ?_); rintro e w16 ⟨v16, rfl, ho16, hb16⟩; obtain ⟨A16, C16, rfl, hs16⟩ := own_slK ho16; have H16 := Lib.hid hs16; clear ho16 hs16; have Bz := bel_trans Bz hb16))
                | (go_at_call 18; ((with_reducible refine (cS _ _ _ _ _ _ hnl (SlS_bK H15.out hb16) H16.out).mono ?_); rintro e w17 ⟨rfl, hb17⟩; have Bz := bel_trans Bz hb17))
                | (go_at_call 7; ((with_reducible refine (g0 _).mono ?_); rintro e w18 ⟨rfl, hb18⟩; have Bz := bel_trans Bz hb18)))
              go_ret
              exact ⟨rfl, bel_trans B4 Bz⟩
            | false =>
              rw [HE8.out rfl] at cF8
              clear hb8 HE8
              go_wp2_with (first
                | (go_at_call 24; ((with_reducible refine (cAnd _ (by assumption)).mono ?_); rintro e w5 ⟨⟨o5, n5, s5, ⟨ka5, kn5, kc5⟩, a5, m5, c5⟩, rfl, he5, hA5, hb5⟩; dsimp only at he5 hA5; have HE5 := Lib.hid he5; have HA5 := Lib.hid (C.ArCP.ar (B := w5.heap.size) (fun b hb => hb.2) _ hA5); clear he5 hA5; have B5 := bel_trans hBw hb5))
                | (go_at_call 25; ((with_reducible refine (cOr _ (by assumption)).mono ?_); rintro e w6 ⟨⟨o6, n6, s6, ⟨ka6, kn6, kc6⟩, a6, m6, c6⟩, rfl, he6, hA6, hb6⟩; dsimp only at he6 hA6; have HE6 := Lib.hid he6; have HA6 := Lib.hid (C.ArCP.ar (B := w6.heap.size) (fun b hb => hb.2) _ hA6); clear he6 hA6; have B6 := bel_trans B5 hb6; obtain ⟨Z, W4, hZ, ⟨bz1, bz2⟩, hW4, ⟨bw1, bw2⟩, hb4⟩ := box2z w6 o5 n5 s5 ⟨ka5, kn5, kc5⟩ a5 m5 c5 o6 n6 s6 ⟨ka6, kn6, kc6⟩ a6 m6 c6; dsimp only at hW4; unfold put5 at hW4; obtain ⟨v0, v1, v2, v3, v4⟩ := bz1.five; obtain ⟨f0, f1, f2, f3, f4⟩ := bz1.free; obtain ⟨v0', v1', v2', v3', v4'⟩ := bz2.five; obtain ⟨f0', f1', f2', f3', f4'⟩ := bz2.free; dsimp only [SS.nil] at v3 v3'; have T1 := Lib.hid bw1; have T2 := Lib.hid bw2; have B4 := bel_trans B6 hb4; have hBn := hb4; have H7 := Lib.hid (C.ArWC.b (C.ArWC.b HA5.out hb6) hb4); have H8 := Lib.hid (C.ArWC.b HA6.out hb4); obtain ⟨d0, d1, d2, d3, d4⟩ := bw1.five; obtain ⟨g0', g1', g2', g3', g4'⟩ := bw2.five; dsimp only at d3 g3'; clear bz1 bz2 bw1 bw2; have Bz : Below W4.heap.size W4 W4 := Below.refl _ _))
                | (go_at_call 27; ((with_reducible refine (cF7 _ ⟨o5, n5, s5, ⟨ka5, kn5, kc5⟩, a5, m5, c5⟩ HE5.out (C.ArWC.b H7.out Bz)).mono ?_); rintro e w7 ⟨A7, N7, C7, rfl, hT7, hb7⟩; have HT7 := Lib.hid hT7; clear hT7; have Bz := bel_trans Bz hb7; have B7 := bel_trans B4 Bz; have cF7 := True.intro))
                | (go_at_call 26; ((with_reducible refine (cC _ _ _ _ _ _ _ _ HT7.out (cLt _ B7)).mono ?_); rintro e w8 ⟨rfl, hb8⟩; have Bz := bel_trans Bz hb8; clear HT7; obtain ⟨d0, d1, d2, d3, d4⟩ := (C.CBox.b T1.out Bz).five; dsimp only at d3; obtain ⟨g0', g1', g2', g3', g4'⟩ := (C.CBox.b T2.out Bz).five; dsimp only at g3'))
                | (go_at_call 27; ((with_reducible refine (cF8 _ ⟨o6, n6, s6, ⟨ka6, kn6, kc6⟩, a6, m6, c6⟩ HE6.out (C.ArWC.b H8.out Bz)).mono ?_); rintro e w9 ⟨A9, N9, C9, rfl, hT9, hb9⟩; have HT9 := Lib.hid hT9; clear hT9; have Bz := bel_trans Bz hb9; have B9 := bel_trans B4 Bz; have cF8 := True.intro))
                | (go_at_call 26; ((with_reducible refine (cC _ _ _ _ _ _ _ _ HT9.out (cLt _ B9)).mono ?_); rintro e w10 ⟨rfl, hb10⟩; have Bz := bel_trans Bz hb10; clear HT9; obtain ⟨d0, d1, d2, d3, d4⟩ := (C.CBox.b T1.out Bz).five; dsimp only at d3; obtain ⟨g0', g1', g2', g3', g4'⟩ := (C.CBox.b T2.out Bz).five; dsimp only at g3'))
                | (go_at_call 22; ((with_reducible refine (cA1 _ ⟨o5, n5, s5, ⟨ka5, kn5, kc5⟩, a5, m5, c5⟩ HE5.out (C.ArWC.b H7.out Bz)).mono ?_); rintro e w12 ⟨A12, N12, C12, rfl, hT12, hb12⟩; have HT12 := Lib.hid hT12; clear hT12; have Bz := bel_trans (bel_alloc Bz (.cells #[.int .i64 o5, .string n5, .string s5, .slice ka5 kn5 kc5, .slice a5 m5 c5] 25)) hb12; have cA1 := True.intro; have B12 := bel_trans B4 Bz))
                | (go_at_call 22; ((with_reducible refine (cAt _ B12).mono ?_); rintro e w13 ⟨A13, N13, C13, rfl, hT13, hb13⟩; have HT13 := Lib.hid hT13; clear hT13; have Bz := bel_trans Bz hb13))
                | (go_at_call 26; ((with_reducible refine (cC _ _ _ _ _ _ _ _ (C.CsW.b HT12.out hb13) HT13.out).mono ?_); rintro e w14 ⟨rfl, hb14⟩; have Bz := bel_trans Bz hb14; obtain ⟨g0', g1', g2', g3', g4'⟩ := (C.CBox.b T2.out Bz).five; dsimp only at g3'))
                | (go_at_call 19; ((with_reducible refine (cN1 _ ⟨o6, n6, s6, ⟨ka6, kn6, kc6⟩, a6, m6, c6⟩ HE6.out (C.ArWC.b H8.out Bz)).mono ?_); rintro e w15 ⟨v15, rfl, ho15, hb15⟩; obtain ⟨A15, C15, rfl, hs15⟩ := own_slK ho15; have H15 := Lib.hid hs15; clear ho15 hs15; have Bz := bel_trans (bel_alloc Bz (.cells #[.int .i64 o6, .string n6, .string s6, .slice ka6 kn6 kc6, .slice a6 m6 c6] 25)) hb15; have B15 := bel_trans B4 Bz))
                | (go_at_call 19; ((with_reducible refine (cNm _ B15).mono ?_); rintro e w16 ⟨v16, rfl, ho16, hb16⟩; obtain ⟨A16, C16, rfl, hs16⟩ := own_slK ho16; have H16 := Lib.hid hs16; clear ho16 hs16; have Bz := bel_trans Bz hb16))
                | (go_at_call 18; ((with_reducible refine (cS _ _ _ _ _ _ hnl (SlS_bK H15.out hb16) H16.out).mono ?_); rintro e w17 ⟨rfl, hb17⟩; have Bz := bel_trans Bz hb17))
                | (go_at_call 7; ((with_reducible refine (g0 _).mono ?_); rintro e w18 ⟨rfl, hb18⟩; have Bz := bel_trans Bz hb18)))
              go_ret
              exact ⟨rfl, bel_trans B4 Bz⟩
    | false =>
      rw [hfw] at zF
      clear HC HWt HL hlen hfw
      go_enter Tryz.func5, Tryz.ntmps5
      go_wp2_with (first
        | (go_at_call 14; ((with_reducible refine zF.mono ?_); rintro e wF ⟨rfl, hbF⟩))
        | (go_at_call 7; ((with_reducible refine (g0 _).mono ?_); rintro e wX ⟨rfl, hbX⟩)))
      go_ret
      exact ⟨rfl, bel_trans hbF hbX⟩
  · have p1 : decide ((mL : Int) > 20) = true := decide_eq_true (by omega)
    clear HC HL zF hlen
    go_enter Tryz.func5, Tryz.ntmps5
    go_wp2_with (go_at_call 7; ((with_reducible refine (g0 _).mono ?_); rintro e wX ⟨rfl, hbX⟩))
    go_ret
    exact ⟨rfl, hbX⟩
theorem claimFlat (AL : Option Addr) (mL cL : Nat) (L0 : List Cl) (w : World) (_ : mL ≤ 9223372036854775807) (HL : CsW w AL mL cL L0) :
    Calls Tryz.prog 5 #[.slice AL mL cL] w fun e w' => e = .returned (.bool true) ∧ Below w.heap.size w w' :=
  flatB L0 AL mL cL w HL
end Go.Proofs.YtjjfbgadpgckeaaGreat.K
