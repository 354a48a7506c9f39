/-
  What is proved: the law over the names, the atoms and the terms of any claims.
-/
import Derived.Test.YtjjfbgadpgckeaaGreatZClmYs
import Derived.Test.YtjjfbgadpgckeaaGreatZClmG
import Derived.Test.YtjjfbgadpgckeaaGreatCQ
import Derived.Test.YtjjfbgadpgckeaaGreatBL
import Derived.Deep.RegionHeld3
namespace Go.Proofs.YtjjfbgadpgckeaaGreat.K
open Go.RowKit L T
open C (Cl atC cmpC eqC CsW wt wt_mk wts wts_mem wts_len opC nmC soC tsC subC SS OwnC Hc CBox cbox1 ArC ArWC take_c wts_app nmsCs putsN RtS Few_any fewL alive_any Exacts8_any exCs exCs_iff)
open U (HdsT tsAll tsAlls)
set_option linter.unusedVariables false
set_option linter.unusedSimpArgs false

theorem few_wtsK {l : List Cl} (h : fewL 200 l = true) : wts l ≤ 200 * l.length := by
  induction l with
  | nil => simp [wts]
  | cons t l ih =>
    unfold fewL at h
    rw [List.all_cons, Bool.and_eq_true, decide_eq_true_eq] at h
    have h1 := C.wtTo_le t 200 h.1
    have h2 := ih h.2
    rw [wts, List.length_cons]; omega
theorem eqTs_reflK (l : List Tm) : eqTs l l = true := eqTs_iff.2 rfl
theorem eqL_reflK (X : List ByteArray) : eqL X X = true := by
  induction X with
  | nil => rfl
  | cons x X ih => rw [eqL, ih, beq_self_eq_true]; rfl
theorem SlS_bK {w w' : World} {a : Option Addr} {n c : Nat} {X : List ByteArray} (h : SlS w a n c X) (hb : Below w.heap.size w w') : SlS w' a n c X := ⟨h.1.below hb, h.2⟩
theorem own_slK {w' : World} {base : Nat} {v : Value} {X : List ByteArray} (h : OwnS w' base v X) : ∃ A c, v = .slice A X.length c ∧ SlS w' A X.length c X := OwnS.slS h
set_option maxRecDepth 100000 in
set_option maxHeartbeats 16000000 in
theorem gathersB (L0 : List Cl) (AL : Option Addr) (mL cL : Nat) (w : World) (HL : CsW w AL mL cL L0) :
    Calls Tryz.prog 4 #[.slice AL mL cL] w fun e w' => e = .returned (.bool true) ∧ Below w.heap.size w w' := by
  have hlen : mL = L0.length := HL.1
  have g0 := fun (w' : World) => alive_any w'
  have zF := Few_any L0 AL mL cL 200 w (by omega) HL
  rw [show ((200 : Nat) : Int) = 200 from rfl] at zF
  have HC := Lib.hid HL
  rw [← hlen] at zF
  by_cases q1 : mL ≤ 20
  · have e1 : decide (mL ≤ 200) = true := decide_eq_true (by omega)
    rw [e1, Bool.true_and] at zF
    clear e1
    have p1 : decide ((mL : Int) > 20) = false := decide_eq_false (by omega)
    have HWt := Lib.hid (show fewL 200 L0 = true → wts L0 ≤ 4000 from fun h => by have := few_wtsK h; omega)
    cases hfw : fewL 200 L0 with
    | true =>
      rw [hfw] at zF
      have hwt := HWt.out hfw
      have cNm := fun (w' : World) (hb : Below w.heap.size w w') => U.ClaimNames_any L0 AL mL cL w' (C.CsW.b HL hb) (by omega)
      have cRn := fun (w' : World) (hb : Below w.heap.size w w') => Names8_any L0 AL mL cL w' (C.CsW.b HL hb) (by omega)
      have cAt := fun (w' : World) (hb : Below w.heap.size w w') => Atoms_any L0 AL mL cL w' (C.CsW.b HL hb) (by omega)
      have cRa := fun (w' : World) (hb : Below w.heap.size w w') => refAtoms_any L0 AL mL cL w' (C.CsW.b HL hb) (by omega)
      rw [names_cs] at cRn
      have HX := Lib.hid (show ∀ x, x ∈ L0 → wt x ≤ 10000 from fun x hx => by have := wts_mem hx; omega)
      have cS := fun (X : List ByteArray) (A : Option Addr) (c : Nat) (A' : Option Addr) (c' : Nat) (w' : World) (hl : X.length ≤ 1000000) (h : SlS w' A X.length c X) (h' : SlS w' A' X.length c' X) => (Strings_any A A' X.length X.length c c' X X w' h.1 h'.1 (by omega) (by omega)).mono (R' := fun e w1 => e = .returned (.bool true) ∧ Below w'.heap.size w' w1) fun e w1 h => by rw [eqL_reflK] at h; exact h
      have hnl : (names (tsAlls L0)).length ≤ 1000000 := by
        rw [← names_cs]
        have h1 := C.putsN_len (nmsCs L0) []
        have h2 := C.nmsCs_len L0
        simp at h1
        omega
      have cE := fun (r : List Cl) (A : Option Addr) (N C : Nat) (A' : Option Addr) (N' C' : Nat) (w' : World) (h : CsW w' A N C r) (h' : CsW w' A' N' C' r) => (Exacts8_any r r A N C A' N' C' w' h h').mono (R' := fun e w1 => e = .returned (.bool true) ∧ Below w'.heap.size w' w1) fun e w1 h => by rw [exCs_iff.2 rfl] at h; exact h
      have cTs := fun (r : List Tm) (A : Option Addr) (N C : Nat) (A' : Option Addr) (N' C' : Nat) (w' : World) (h : TsW w' A N C r) (h' : TsW w' A' N' C' r) => (T.Terms_any r A N C A' N' C' r w' h h').mono (R' := fun e w1 => e = .returned (.bool true) ∧ Below w'.heap.size w' w1) fun e w1 h => by rw [eqTs_reflK] at h; exact h
      have hm63 : mL ≤ 9223372036854775807 := by omega
      clear HWt HL hwt hlen hfw
      generalize names (tsAlls L0) = NM at *
      generalize uqC [] (atomsL L0) = AT at *
      go_enter Tryz.func4, Tryz.ntmps4
      go_wp2_with (go_at_call 14; ((with_reducible refine zF.mono ?_); rintro e wF ⟨rfl, hbF⟩))
      clear zF
      go_loopw [16] (fun i wr0 => ∃ (wr : World) (k : Nat), wr = wr0 ∧ k ≤ mL ∧ i = .int .i64 k ∧ Hid (Below w.heap.size w wr)) (fun i _ => mL - (intOf i).toNat)
      case atStart => exact ⟨_, 0, rfl, by omega, rfl, Lib.hid hbF⟩
      case round =>
        clear hbF
        obtain ⟨wr, k, rfl, hk, rfl, hB⟩ := hrel
        by_cases hlt : k < mL
        · obtain ⟨bb, o, x, ⟨xa, xn, xc⟩, AA, M, Cc, rfl, hbb, z0, z1, z2, z3, z4, hx, hax⟩ := HC.out.at hlt
          dsimp only at z3
          have y0 := (hB.out.cell (p := ⟨bb, _, none⟩) hbb).trans z0
          have y1 := (hB.out.cell (p := ⟨bb, _, none⟩) hbb).trans z1
          have y2 := (hB.out.cell (p := ⟨bb, _, none⟩) hbb).trans z2
          have y3 := (hB.out.cell (p := ⟨bb, _, none⟩) hbb).trans z3
          have y4 := (hB.out.cell (p := ⟨bb, _, none⟩) hbb).trans z4
          obtain ⟨W3, hW3, hB3, hs3, S3⟩ := cbox1 wr (opC x) (nmC x) (soC x) ⟨xa, xn, xc⟩ AA M Cc
          dsimp only at hW3 S3
          have hwx := HX.out x (List.mem_of_getElem? hx)
          have hbr3 : Below w.heap.size w W3 := bel_trans hB.out hB3
          have hA3 := C.ArWC.b hax hbr3
          have cT := fun (w' : World) (hb : Below W3.heap.size W3 w') => Terms_any x ⟨xa, xn, xc⟩ AA M Cc w' (C.ArWC.b hA3 hb) hwx
          have cR := fun (w' : World) (hb : Below W3.heap.size W3 w') => refTerms_any x ⟨xa, xn, xc⟩ AA M Cc w' (C.ArWC.b hA3 hb) (by omega)
          have HS3 := Lib.hid S3
          obtain ⟨f0, f1, f2, f3, f4⟩ := S3.five
          dsimp only at f3 cT cR
          have hBd : Below W3.heap.size W3 W3 := Below.refl _ _
          clear z0 z1 z2 z3 z4 hax hx hA3 hwx S3 cNm cRn cAt cRa HC HX
          generalize uq [] (tsAll x) = TS at *
          generalize opC x = op' at *
          generalize nmC x = nm' at *
          generalize soC x = so' at *
          have hk0 : 0 ≤ (k : Int) := by omega
          have hk1 : (k : Int) < (mL : Int) := by omega
          go_wp2_with fail
          clear y0 y1 y2 y3 y4
          go_region_held3 (fun w' => w'.cell? ⟨wr.heap.size, 0, none⟩ = some (.int .i64 op') ∧ w'.cell? ⟨wr.heap.size, 1, none⟩ = some (.string nm') ∧ w'.cell? ⟨wr.heap.size, 2, none⟩ = some (.string so') ∧ w'.cell? ⟨wr.heap.size, 3, none⟩ = some (.slice xa xn xc) ∧ w'.cell? ⟨wr.heap.size, 4, none⟩ = some (.slice AA M Cc))
            (first | (exact ⟨f0, f1, f2, f3, f4⟩) | go_keep)
            (first
              | (go_at_call 16; ((with_reducible refine (cT _ (by first | assumption | exact Below.drew (by assumption))).mono ?_); rintro e wX ⟨A5, N5, C5, rfl, hX, hbX⟩; have Bz := bel_trans (a := W3) (by first | assumption | exact Below.drew (by assumption)) hbX; (try (have HC7 := Lib.hid (TsW.b HC7.out (by first | exact hbX | exact bel_trans ((Below.refl _ _).drew) hbX)))); have HC5 := Lib.hid hX; clear hX; obtain ⟨f0, f1, f2, f3, f4⟩ := (C.CBox.b HS3.out Bz).five))
              | (go_at_call 17; ((with_reducible refine (cR _ (by first | assumption | exact Below.drew (by assumption))).mono ?_); rintro e wX ⟨A7, N7, C7, rfl, hX, hbX⟩; have Bz := bel_trans (a := W3) (by first | assumption | exact Below.drew (by assumption)) hbX; (try (have HC5 := Lib.hid (TsW.b HC5.out (by first | exact hbX | exact bel_trans ((Below.refl _ _).drew) hbX)))); have HC7 := Lib.hid hX; clear hX; obtain ⟨f0, f1, f2, f3, f4⟩ := (C.CBox.b HS3.out Bz).five))
              | (go_at_call 15; ((with_reducible refine (cTs _ _ _ _ _ _ _ _ (by first | exact HC5.out | exact TsW.b HC5.out (Below.refl _ _).drew) (by first | exact HC7.out | exact TsW.b HC7.out (Below.refl _ _).drew)).mono ?_); rintro e wX ⟨rfl, hbX⟩; have Bz := bel_trans (a := W3) (by first | assumption | exact Below.drew (by assumption)) hbX; obtain ⟨f0, f1, f2, f3, f4⟩ := (C.CBox.b HS3.out Bz).five)))
          all_goals go_wp2
          all_goals go_roundw
          all_goals first | (exact ⟨_, k + 1, rfl, by omega, by go_num, Lib.hid (by first | exact bel_trans hbr3 Bz | exact (bel_trans hbr3 Bz).drew)⟩) | (simp [intOf]; omega)
        · obtain rfl : k = mL := by omega
          have hBw := hB.out
          clear hB HC HX
          go_wp2_with (first
            | (go_at_call 19; ((with_reducible refine (cNm _ (by assumption)).mono ?_); rintro e w5 ⟨v5, rfl, ho5, hb5⟩; obtain ⟨A5, C5, rfl, hs5⟩ := own_slK ho5; have H5 := Lib.hid hs5; clear ho5 hs5; have B5 := bel_trans hBw hb5))
            | (go_at_call 20; ((with_reducible refine (cRn _ (by assumption)).mono ?_); rintro e w6 ⟨A6, C6, rfl, hs6, hb6⟩; have H6 := Lib.hid hs6; clear hs6; have B6 := bel_trans B5 hb6))
            | (go_at_call 18; ((with_reducible refine (cS _ _ _ _ _ _ hnl (SlS_bK H5.out hb6) H6.out).mono ?_); rintro e w7 ⟨rfl, hb7⟩; have B7 := bel_trans B6 hb7))
            | (go_at_call 22; ((with_reducible refine (cAt _ (by assumption)).mono ?_); rintro e w8 ⟨A8, N8, C8, rfl, hs8, hb8⟩; have H8 := Lib.hid hs8; clear hs8; have B8 := bel_trans B7 hb8))
            | (go_at_call 23; ((with_reducible refine (cRa _ (by assumption)).mono ?_); rintro e w9 ⟨A9, N9, C9, rfl, hs9, hb9⟩; have H9 := Lib.hid hs9; clear hs9; have B9 := bel_trans B8 hb9))
            | (go_at_call 21; ((with_reducible refine (cE _ _ _ _ _ _ _ _ (C.CsW.b H8.out hb9) H9.out).mono ?_); rintro e w10 ⟨rfl, hb10⟩; have B10 := bel_trans B9 hb10))
            | (go_at_call 7; ((with_reducible refine (g0 _).mono ?_); rintro e w11 ⟨rfl, hb11⟩; have B11 := bel_trans B10 hb11)))
          go_ret
          exact ⟨rfl, B11⟩
    | false =>
      rw [hfw] at zF
      clear HC HWt HL hlen hfw
      go_enter Tryz.func4, Tryz.ntmps4
      go_wp2_with (first
        | (go_at_call 14; ((with_reducible refine zF.mono ?_); rintro e wF ⟨rfl, hbF⟩))
        | (go_at_call 7; ((with_reducible refine (g0 _).mono ?_); rintro e wX ⟨rfl, hbX⟩)))
      go_ret
      exact ⟨rfl, bel_trans hbF hbX⟩
  · have p1 : decide ((mL : Int) > 20) = true := decide_eq_true (by omega)
    clear HC HL zF hlen
    go_enter Tryz.func4, Tryz.ntmps4
    go_wp2_with (go_at_call 7; ((with_reducible refine (g0 _).mono ?_); rintro e wX ⟨rfl, hbX⟩))
    go_ret
    exact ⟨rfl, hbX⟩
theorem claimGathers (AL : Option Addr) (mL cL : Nat) (L0 : List Cl) (w : World) (_ : mL ≤ 9223372036854775807) (HL : CsW w AL mL cL L0) :
    Calls Tryz.prog 4 #[.slice AL mL cL] w fun e w' => e = .returned (.bool true) ∧ Below w.heap.size w w' :=
  gathersB L0 AL mL cL w HL
end Go.Proofs.YtjjfbgadpgckeaaGreat.K
