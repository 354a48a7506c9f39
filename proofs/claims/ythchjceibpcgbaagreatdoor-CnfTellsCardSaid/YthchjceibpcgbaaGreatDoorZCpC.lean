/-
  What is proved: what package cnf's reader does with a clause's line.
-/
import Derived.Test.YthchjceibpcgbaaGreatDoorZCpF
import Derived.Test.YthchjceibpcgbaaGreatDoorLB
import Derived.Deep.RegionLaw
import Derived.Deep.AppendLies
namespace Go.Proofs.YthchjceibpcgbaaGreatDoor.Cn
open Go.RowKit L Lt
set_option linter.unusedVariables false
set_option linter.unusedSimpArgs false

/-- what is returned of a clause's line, and left in the reader -/
def CsP (b : Nat) (w : World) (n : Int) (G : List (List Int)) (cl : Int) (R : Except Int (List Int)) (e : Ending) (w' : World) : Prop := match R with
  | .error k => e = .returned (.int .i64 k) ∧ Below w.heap.size w w'
  | .ok l => e = .returned (.int .i64 0) ∧ Below b w w' ∧ ∃ A' c', RM2 b w' n A' (G.length + 1) c' (G ++ [l]) cl
def csR (G : List (List Int)) (cl : Int) (x : List UInt8) (n : Int) : Except Int (List Int) := if (G.length : Int) = cl then .error 7 else clR' x n
/-- a row that was read lies apart from the reader's -/
theorem RM2.row {b : Nat} {w w' : World} {n : Int} {A : Option Addr} {r c : Nat} {G : List (List Int)} {cl : Int} (h : RM2 b w n A r c G cl) {g o k c2 : Nat} {X : List Int} (hS : SlI w' (some ⟨g, o, none⟩) k c2 X) (hg : w.heap.size ≤ g) (hg2 : g < w'.heap.size) :
    RwI (fun q => b + 1 ≤ q ∧ q < w'.heap.size ∧ (Value.slice A r c).ownBlock ≠ some q) w' (.slice (some ⟨g, o, none⟩) k c2) X :=
  ⟨some ⟨g, o, none⟩, k, c2, rfl, hS, fun hm ad ha => by
    injection ha with ha
    subst ha
    have h1 := h.lt
    refine ⟨?_, hg2, fun e => ?_⟩
    · show b + 1 ≤ g; omega
    · have := (h.2.1.lt g e).2; omega⟩
set_option maxRecDepth 100000 in
set_option maxHeartbeats 16000000 in
theorem Clause_any (b : Nat) (x : ByteArray) (w : World) (n : Int) (A : Option Addr) (r c : Nat) (G : List (List Int)) (cl : Int) (h : RM2 b w n A r c G cl) (hx : x.size ≤ 10000000) (hG : G.length ≤ 5000) :
    Calls Tryz.prog 79 #[.pointer (some ⟨b, 0, none⟩), .string x] w (CsP b w n G cl (csR G cl x.data.toList n)) := by
  obtain rfl : r = G.length := h.2.2
  have cn := Numbers_any x w hx
  have hR0 : csR G cl x.data.toList n = if (G.length : Int) = cl then .error 7 else clR' x.data.toList n := rfl
  have hR1 := clR_numL x.data.toList n
  have hLr := numL_r x.data.toList
  have hLl := numL_len x.data.toList
  rw [Dig.len_list] at hLl
  rw [hR1] at hR0
  obtain ⟨L, hL⟩ : ∃ L, numL x.data.toList = L := ⟨_, rfl⟩
  rw [hL] at cn hR0 hLr hLl
  obtain ⟨R, hR⟩ : ∃ R, csR G cl x.data.toList n = R := ⟨_, rfl⟩
  rw [hR] at hR0 ⊢
  have HR0 := Lib.hid hR0
  have H := Lib.hid h
  have HLr := Lib.hid hLr
  have lb := h.lt
  clear hR0 hR1 hL hR h hLr
  by_cases h1 : (G.length : Int) = cl
  · have q1 : ((G.length : Int) == cl) = true := by simp [h1]
    have HF : Hid (R = .error 7) := Lib.hid (by rw [HR0.out, if_pos h1])
    clear h1
    go_enter Tryz.func79, Tryz.ntmps79
    go_wp2_with (go_at_call 97; ((with_reducible refine cn.mono ?_); rintro e w2 ⟨A2, m2, c2, rfl, hS, hN, hB⟩; have H2 := Lib.hid (H.out.b hB); obtain ⟨t0, t1, t2⟩ := H2.out.cells; have HB := Lib.hid hB; clear hS hN hB))
    go_quiet (fail)
    go_wp2
    go_ret
    rw [HF.out]
    exact ⟨rfl, below_drewN HB.out _⟩
  · have q1 : ((G.length : Int) == cl) = false := by simp [h1]
    have HR1 : Hid (R = if L = [] then .error 7 else if L.getLast? = some 0 ∧ L.dropLast.any (· == 0) = false then (if rg1 L.dropLast n = 0 then .ok L.dropLast else .error (rg1 L.dropLast n)) else .error 7) := Lib.hid (by rw [HR0.out, if_neg h1])
    clear HR0 h1
    by_cases h2 : L = []
    · have HF : Hid (R = .error 7) := Lib.hid (by rw [HR1.out, if_pos h2])
      subst h2
      have q2 : IntKind.i64.wrap (-1) = -1 := rfl
      have q3 : decide ((-1 : Int) < 0) = true := rfl
      have q4 : IntKind.i64.wrap (((0 : Nat) : Int) - 1) = -1 := rfl
      clear HR1
      go_enter Tryz.func79, Tryz.ntmps79
      go_wp2_with (go_at_call 97; ((with_reducible refine cn.mono ?_); rintro e w2 ⟨A2, m2, c2, rfl, hS, hN, hB⟩; obtain rfl : m2 = 0 := hS.1; have H2 := Lib.hid (H.out.b hB); obtain ⟨t0, t1, t2⟩ := H2.out.cells; have HB := Lib.hid hB; clear hS hN hB))
      go_quiet (fail)
      go_wp2
      go_ret
      rw [HF.out]
      exact ⟨rfl, below_drewN HB.out _⟩
    · have hix := idx_last h2
      obtain ⟨k, hk⟩ : ∃ k, L.length = k + 1 := ⟨L.length - 1, by have := List.length_pos_iff.2 h2; omega⟩
      have hdl : L.dropLast = L.take k := by rw [List.dropLast_eq_take, hk]; rfl
      rw [if_neg h2] at HR1
      rw [hdl] at HR1 hix
      rw [show (L.length : Int) - 1 = k by omega] at hix
      have hkb : k ≤ 10000000 := by omega
      have q2 : IntKind.i64.wrap ((k : Int) + 1 - 1) = k := (wrap_id (z := (k : Int) + 1 - 1) ⟨by omega, by omega⟩).trans (by omega)
      have q3 : wrap64 ((k : Int) + 1 - 1) = k := by rw [w64]; exact q2
      have q4 : IntKind.i64.wrap (k : Int) = k := wrap_id ⟨by omega, by omega⟩
      have q5 : wrap64 (k : Int) = k := by rw [w64]; exact q4
      have q6 : decide ((k : Int) < 0) = false := decide_eq_false (by omega)
      have CI := Lib.hid (fun (g o c2 : Nat) (W : World) (hc : ∀ j, j < L.length → W.cell? ⟨g, o + j, none⟩ = some (.int .i64 (L.getD j 0))) => by
        have := Tryz.slices_Index_int g o (k + 1) c2 L 0 W (by omega) (by omega) hc
        rw [← hk, List.take_length, hk] at this
        exact this)
      have Hk := Lib.hid hk
      obtain ⟨ix, hixe⟩ : ∃ ix, Lib.idxOf L 0 = ix := ⟨_, rfl⟩
      rw [hixe] at hix CI
      have hk0 : 0 ≤ (k : Int) := by omega
      have hk1 : (k : Int) ≤ (k : Int) + 1 := by omega
      have hk2 : k ≤ k + 1 := by omega
      by_cases h3 : ix = (k : Int)
      · have HX : Hid (R = if rg1 (L.take k) n = 0 then .ok (L.take k) else .error (rg1 (L.take k) n)) := Lib.hid (by rw [HR1.out, if_pos (hix.1 h3)])
        have q7 : (ix != (k : Int)) = false := by simp [h3]
        have CR := Lib.hid (fun (g o c2 : Nat) (W : World) (hS : SlI W (some ⟨g, o, none⟩) k c2 (L.take k)) => Right_any (some ⟨g, o, none⟩) k c2 (L.take k) n W hS (fun y hy => HLr.out y (List.take_subset _ _ hy)) (by omega))
        have hrg : ∀ m, rgL (L.take k) m = rg1 (L.take k) m := fun _ => rfl
        rw [hrg n] at CR
        obtain ⟨v, hv⟩ : ∃ v, rg1 (L.take k) n = v := ⟨_, rfl⟩
        rw [hv] at HX CR
        clear HR1 hix hixe h3 hv hrg hdl h2
        have HSt := Lib.hid (show ∀ (w2 W : World) (g o c2 : Nat), SlI w2 (some ⟨g, o, none⟩) (k + 1) c2 L → Below w2.heap.size w2 W → SlI W (some ⟨g, o, none⟩) k c2 (L.take k) from fun w2 W g o c2 hS hb => (sub1 hS k (by omega)).below hb)
        have HLc := Lib.hid (show ∀ (w2 : World) (g o c2 : Nat), SlI w2 (some ⟨g, o, none⟩) (k + 1) c2 L → (∀ j, j < L.length → w2.cell? ⟨g, o + j, none⟩ = some (.int .i64 (L.getD j 0))) ∧ g < w2.heap.size ∧ k + 1 ≤ c2 from fun w2 g o c2 hS => by
          obtain ⟨g', o', e, hlt, hc⟩ := hS.2.2.2 (by omega)
          injection e with e
          injection e with e1 e2
          subst e1 e2
          exact ⟨fun j hj => by rw [hc j hj, List.getD_eq_getElem?_getD, List.getElem?_eq_getElem hj]; rfl, hlt, hS.2.1⟩)
        by_cases hv0 : v = 0
        · have q8 : (v == 0) = true := by simp [hv0]
          have HF : Hid (R = .ok (L.take k)) := Lib.hid (by rw [HX.out, if_pos hv0])
          subst hv0
          clear HX
          generalize L.take k = X at *
          go_enter Tryz.func79, Tryz.ntmps79
          go_wp2_with (go_at_call 97; ((with_reducible refine cn.mono ?_); rintro e w2 ⟨A2, m2, c2, rfl, hS, hN, hB⟩; obtain rfl : m2 = k + 1 := (hS.1.trans Hk.out); obtain ⟨g, o, _, rfl, _, _, _⟩ := SlI.at hS (k := 0) (by omega); obtain ⟨hLc, hg, hc2⟩ := HLc.out w2 g o c2 hS; have cI := CI.out g o c2 w2 hLc; have cR := Lib.hid (fun W hb => CR.out g o c2 W (HSt.out w2 W g o c2 hS hb)); have HS2 := Lib.hid (HSt.out w2 w2 g o c2 hS (Below.refl _ _)); have hgn : w.heap.size ≤ g := hN _ rfl; have H2 := Lib.hid (H.out.b hB); obtain ⟨t0, t1, t2⟩ := H2.out.cells; have HB := Lib.hid hB; have hkc : k ≤ c2 := (by omega); have hkc2 : (k : Int) ≤ (c2 : Int) := (by omega); have HLC := Lib.hid hLc; clear hS hN hB hLc))
          go_quiet ((go_at_call 98; exact Calls.quiet_of_same (CI.out g o c2 _ HLC.out)))
          go_wp2_with fail
          go_region_with (go_at_call 73; ((with_reducible refine (cR.out _ (below_drewN (Below.refl _ _) _)).mono ?_); rintro e w3 ⟨rfl, b3⟩; have B3 := Lib.hid (bel_trans (below_drewN (Below.refl _ _) _) b3 : Below w2.heap.size w2 w3); have H3 := Lib.hid (H2.out.b B3.out); obtain ⟨u0, u1, u2⟩ := H3.out.cells; obtain ⟨f0, f1, f2⟩ := H3.out.free; clear b3 t0 t1 t2))
          all_goals
            have hg3 : g < w3.heap.size := Nat.lt_of_lt_of_le hg B3.out.size
            have hb4 : Below w3.heap.size w3 (w3.alloc (.cells #[.slice (some ⟨g, o, none⟩) k c2] 34)).drew := (bel_alloc (Below.refl _ _) _).drew
            have H4 := Lib.hid (H3.out.b hb4)
            have r1 : (w3.alloc (.cells #[.slice (some ⟨g, o, none⟩) k c2] 34)).cell? ⟨b, 1, none⟩ = some (.slice A G.length c) := H4.out.cells.2.1
            have hX4 := Lib.hid (H.out.row ((HS2.out.below B3.out).below hb4) hgn (Nat.lt_of_lt_of_le hg3 hb4.size))
            have hu4 := Lib.hid (show (w3.alloc (.cells #[.slice (some ⟨g, o, none⟩) k c2] 34)).drew.cell? ⟨w3.heap.size, 0, none⟩ = some (.slice (some ⟨g, o, none⟩) k c2) from Blk.cell (Blk.new w3 #[.slice (some ⟨g, o, none⟩) k c2] 34) 0)
            have hs4 : b + 1 ≤ (w3.alloc (.cells #[.slice (some ⟨g, o, none⟩) k c2] 34)).drew.heap.size := Nat.le_trans (show b + 1 ≤ w3.heap.size from H3.out.lt) hb4.size
            have HS4 := Lib.hid hs4
            have Hb4 := Lib.hid hb4
            clear hb4 hs4 hg3 hgn hg
            go_wp2_with fail
            go_region_law ((refine step_app_grid (by rfl) _ _ (by rfl) (b + 1) (.slice A G.length c) G (by rfl) H4.out.2.1 ⟨w3.heap.size, 0, none⟩ 1 (.slice (some ⟨g, o, none⟩) k c2) X (by rfl) hu4.out hX4.out (by omega) HS4.out ?_; intro gn cn w5 hown5 hgrow hlt5; have S5 : Blk w5 b #[.int .i64 n, .slice A G.length c, .int .i64 cl] 74 := Blk.grown H4.out.1 hgrow (fun e => Nat.not_succ_le_self _ (H4.out.2.1.lt _ e.symm).1); have p1 := Blk.cell S5 1; have f5 := Blk.free S5 1))
            all_goals
              have B5 := Lib.hid (((bel_trans (bel_trans HB.out B3.out) Hb4.out).mono (Nat.le_of_lt lb)).grown hgrow (Nat.le_trans (Nat.le_of_lt H4.out.lt) (Nat.le_refl _)) (fun q hq => Nat.le_of_succ_le (H4.out.2.1.lt q hq).1))
              have H5 := Lib.hid (show RM2 b (w5.setCell ⟨b, 1, none⟩ (.slice (some ⟨gn, 0, none⟩) (G.length + 1) cn)) n (some ⟨gn, 0, none⟩) (G.length + 1) cn (G ++ [X]) cl from ⟨Blk.set S5 1 _, hown5.far (Nat.lt_succ_self _) 1 _, by simp⟩)
              clear hown5 hgrow S5
              go_wp2
              go_ret
              rw [HF.out]
              exact ⟨rfl, B5.out.setCell (p := ⟨b, 1, none⟩) (Nat.le_refl _) _, _, _, H5.out⟩
        · have q8 : (v == 0) = false := by simp [hv0]
          have HF : Hid (R = .error v) := Lib.hid (by rw [HX.out, if_neg hv0])
          clear HX hv0
          generalize L.take k = X at *
          go_enter Tryz.func79, Tryz.ntmps79
          go_wp2_with (go_at_call 97; ((with_reducible refine cn.mono ?_); rintro e w2 ⟨A2, m2, c2, rfl, hS, hN, hB⟩; obtain rfl : m2 = k + 1 := (hS.1.trans Hk.out); obtain ⟨g, o, _, rfl, _, _, _⟩ := SlI.at hS (k := 0) (by omega); obtain ⟨hLc, hg, hc2⟩ := HLc.out w2 g o c2 hS; have cR := Lib.hid (fun W hb => CR.out g o c2 W (HSt.out w2 W g o c2 hS hb)); have H2 := Lib.hid (H.out.b hB); obtain ⟨t0, t1, t2⟩ := H2.out.cells; have HB := Lib.hid hB; have hkc : k ≤ c2 := (by omega); have hkc2 : (k : Int) ≤ (c2 : Int) := (by omega); have HLC := Lib.hid hLc; clear hS hN hB hLc))
          go_quiet ((go_at_call 98; exact Calls.quiet_of_same (CI.out g o c2 _ HLC.out)))
          go_wp2_with fail
          go_region_with (go_at_call 73; ((with_reducible refine (cR.out _ (below_drewN (Below.refl _ _) _)).mono ?_); rintro e w3 ⟨rfl, b3⟩; have B3 := Lib.hid (bel_trans (below_drewN (Below.refl _ _) _) b3 : Below w2.heap.size w2 w3); clear b3 t0 t1 t2))
          all_goals go_wp2
          all_goals go_ret
          all_goals rw [HF.out]
          all_goals exact ⟨rfl, bel_trans HB.out B3.out⟩
      · have HF : Hid (R = .error 7) := Lib.hid (by rw [HR1.out, if_neg (fun h => h3 (hix.2 h))])
        have q7 : (ix != (k : Int)) = true := by simp [h3]
        clear HR1 hix h3 hixe
        have HLc := Lib.hid (show ∀ (w2 : World) (g o c2 : Nat), SlI w2 (some ⟨g, o, none⟩) (k + 1) c2 L → (∀ j, j < L.length → w2.cell? ⟨g, o + j, none⟩ = some (.int .i64 (L.getD j 0))) from fun w2 g o c2 hS => by
          obtain ⟨g', o', e, hlt, hc⟩ := hS.2.2.2 (by omega)
          injection e with e
          injection e with e1 e2
          subst e1 e2
          exact fun j hj => by rw [hc j hj, List.getD_eq_getElem?_getD, List.getElem?_eq_getElem hj]; rfl)
        go_enter Tryz.func79, Tryz.ntmps79
        go_wp2_with (go_at_call 97; ((with_reducible refine cn.mono ?_); rintro e w2 ⟨A2, m2, c2, rfl, hS, hN, hB⟩; obtain rfl : m2 = k + 1 := (hS.1.trans Hk.out); obtain ⟨g, o, _, rfl, _, _, _⟩ := SlI.at hS (k := 0) (by omega); have HLC := Lib.hid (HLc.out w2 g o c2 hS); have H2 := Lib.hid (H.out.b hB); obtain ⟨t0, t1, t2⟩ := H2.out.cells; have HB := Lib.hid hB; clear hS hN hB))
        go_quiet ((go_at_call 98; exact Calls.quiet_of_same (CI.out g o c2 _ HLC.out)))
        go_wp2
        go_ret
        rw [HF.out]
        exact ⟨rfl, below_drewN HB.out _⟩
end Go.Proofs.YthchjceibpcgbaaGreatDoor.Cn
