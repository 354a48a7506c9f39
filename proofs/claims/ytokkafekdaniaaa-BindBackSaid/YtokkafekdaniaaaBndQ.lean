/-
  What is proved: the document's loose numbers of claims.
-/
import Derived.Test.YtokkafekdaniaaaBndP
import Derived.Deep.RegionHeld3
namespace Go.Proofs.Ytokkafekdaniaaa.B
open Go.RowKit L T C
set_option linter.unusedVariables false
set_option linter.unusedSimpArgs false

def LcOk (t : Cl) : Prop := ∀ (X : List Int) (A : Option Addr) (n c : Nat) (kk : SS) (a : Option Addr) (m d : Nat) (k : Int) (w : World), NsW w A n c X → ArWC w t kk a m d → X.length + wt t ≤ 1000000 → 0 ≤ k → k + wt t ≤ 1000000 →
  Calls Try.prog 114 #[.slice A n c, .agg #[.int .i64 (opC t), .string (nmC t), .string (soC t), .slice kk.a kk.n kk.c, .slice a m d], .int .i64 k] w fun e w' => RtI (puts X (lsC k t)) w e w'
theorem wts_take_le {l : List Cl} {i : Nat} {x : Cl} (h : l[i]? = some x) (k : Int) : (lsCs k (l.take i)).length + wt x ≤ wts l := lsCs_take_le k h
set_option maxRecDepth 100000 in
set_option maxHeartbeats 8000000 in
theorem looseC_step (t : Cl) (hok : ∀ x ∈ subC t, LcOk x) : LcOk t := by
  intro X A n c kk a m d k w hX hA hl hk0 hkK
  obtain ⟨W, hW, hB, hs, S⟩ := cbox1 w (opC t) (nmC t) (soC t) kk a m d
  have hsz := wt_mk t
  have hT := ArWC.terms (ArWC.b hA hB)
  have hC := ArWC.subs (ArWC.b hA hB)
  have hkm : kk.n ≤ 9223372036854775807 := by have h1 := hT.2.1; have h2 := hT.2.2.1; unfold maxLen at h2; omega
  have hm : m ≤ 9223372036854775807 := by have h1 := hC.2.1; have h2 := hC.2.2.1; unfold maxLen at h2; omega
  have hdc : m ≤ d := hC.2.1
  have hkc : kk.n ≤ kk.c := hT.2.1
  have HT := Lib.hid hT
  have HC := Lib.hid hC
  have HS := Lib.hid S
  have HB := Lib.hid hB
  obtain ⟨ka1, ka2⟩ := kin_le (opC t) k
  have HK := Lib.hid (show ∀ i x, (subC t)[i]? = some x → LcOk x ∧ 0 ≤ kin (opC t) k ∧ kin (opC t) k + wt x ≤ 1000000 from fun i x h => ⟨hok x (List.mem_of_getElem? h), by omega, by have := wts_mem (List.mem_of_getElem? h); omega⟩)
  have cW := fun (w' : World) => within_any (opC t) (nmC t) (soC t) kk a m d k hk0 (by omega) w'
  have HLen1 := Lib.hid (show ∀ i x, (tsC t)[i]? = some x → (puts X (lsTs k ((tsC t).take i))).length + size x ≤ 1000000 from fun i x hx => by
    have h1 := puts_len (lsTs k ((tsC t).take i)) X
    have h2 := sizes_take_le hx
    have h3 := lsTs_len k ((tsC t).take i)
    omega)
  have HLen2 := Lib.hid (show ∀ i x, (subC t)[i]? = some x → (puts X (lsTs k (tsC t) ++ lsCs (kin (opC t) k) ((subC t).take i))).length + wt x ≤ 1000000 from fun i x hx => by
    have h1 := puts_len (lsTs k (tsC t) ++ lsCs (kin (opC t) k) ((subC t).take i)) X
    have h2 := wts_take_le hx (kin (opC t) k)
    have h3 := lsTs_len k (tsC t)
    rw [List.length_append] at h1
    omega)
  have HN0 : Hid (NsW W A n c (puts X (lsTs k ((tsC t).take 0)))) := Lib.hid (by rw [List.take_zero, lsTs]; exact NsW.b hX hB)
  have HB0 : Hid (Below W.heap.size W W) := Lib.hid (Below.refl _ _)
  rw [lsC_mk]
  obtain ⟨s0, s1, s2, s3, s4⟩ := S.five
  clear hX hA hT hC hok S hsz hl ka1 ka2 hk0 hkK
  generalize kin (opC t) k = k2 at *
  generalize tsC t = lt at *
  generalize subC t = l at *
  generalize opC t = op at *
  generalize nmC t = nm at *
  generalize soC t = so at *
  obtain ⟨ka, kn, kc⟩ := kk
  dsimp only at *
  have hlw : w.heap.size < W.heap.size := by omega
  go_enter Try.func114, Try.ntmps114
  go_wp2
  go_loopw [0, 7] (fun v i wr0 => ∃ (wr : World) (j : Nat) (A' : Option Addr) (n' c' : Nat), wr = wr0 ∧ j ≤ kn ∧ .slice A' n' c' = v ∧ i = .int .i64 j ∧ Hid (NsW wr A' n' c' (puts X (lsTs k (lt.take j)))) ∧ Hid (Below W.heap.size W wr)) (fun _ i _ => kn - (intOf i).toNat)
  case atStart => exact ⟨_, 0, _, _, _, rfl, by omega, rfl, rfl, HN0, HB0⟩
  case round =>
    obtain ⟨wr, j, A', n', c', rfl, hj, rfl, rfl, hN, hBr⟩ := hrel
    have Sr := CBox.b HS.out hBr.out
    obtain ⟨e0, e1, e2, e3, e4⟩ := Sr.five
    clear Sr
    by_cases hlt : j < kn
    · obtain ⟨bb, o, x, AA, M, Cc, rfl, hbb, z0, z1, z2, z3, hx, hax⟩ := HT.out.at hlt
      have y0 := (hBr.out.cell (p := ⟨bb, _, none⟩) hbb).trans z0
      have y1 := (hBr.out.cell (p := ⟨bb, _, none⟩) hbb).trans z1
      have y2 := (hBr.out.cell (p := ⟨bb, _, none⟩) hbb).trans z2
      have y3 := (hBr.out.cell (p := ⟨bb, _, none⟩) hbb).trans z3
      have cV := looseIn_any x _ A' n' c' AA M Cc k wr hN.out (ArW.b hax hBr.out) (HLen1.out j x hx)
      have Hst := Lib.hid (show puts X (lsTs k (lt.take (j + 1))) = puts (puts X (lsTs k (lt.take j))) (lsT k x) by rw [lsTs_step k hx, puts_app])
      clear z0 z1 z2 z3 hax HK hx HT hN
      generalize opT x = op' at *
      generalize nameT x = nm' at *
      generalize numT x = nu' at *
      have hj0 : 0 ≤ (j : Int) := by omega
      have hj1 : (j : Int) < (kn : Int) := by omega
      go_wp2_with (go_at_call 113; ((with_reducible refine cV.mono ?_); rintro e w5 h5; obtain ⟨A5, n5, c5, rfl, hN5, hb5⟩ := h5.open; have HN5 := Lib.hid hN5; have HB5 := Lib.hid (bel_trans hBr.out hb5); clear h5 hN5 hb5))
      go_roundw
      case rel => exact ⟨_, j + 1, _, _, _, rfl, by omega, rfl, by go_num, Lib.hid (by rw [Hst.out]; exact HN5.out), HB5⟩
      case measure => simp [intOf]; omega
    · obtain rfl : j = kn := by omega
      have HN1 : Hid (NsW wr A' n' c' (puts X (lsTs k lt ++ lsCs k2 (l.take 0)))) := Lib.hid (by have := hN.out; rw [List.take_of_length_le (by have h := HT.out.1; dsimp only at h; omega)] at this; rw [List.take_zero, lsCs, List.append_nil]; exact this)
      have HB1 := hBr
      clear hN hBr HN0 HB0
      go_wp2
      go_loopw [0, 8] (fun v i wr0 => ∃ (wr : World) (j : Nat) (A' : Option Addr) (n' c' : Nat), wr = wr0 ∧ j ≤ m ∧ .slice A' n' c' = v ∧ i = .int .i64 j ∧ Hid (NsW wr A' n' c' (puts X (lsTs k lt ++ lsCs k2 (l.take j)))) ∧ Hid (Below W.heap.size W wr)) (fun _ i _ => m - (intOf i).toNat)
      case atStart => exact ⟨_, 0, _, _, _, rfl, by omega, rfl, rfl, HN1, HB1⟩
      case round =>
        clear e0 e1 e2 e3 e4 HN1 HB1
        obtain ⟨wr, i, A', n', c', rfl, hi, rfl, rfl, hN, hBr⟩ := hrel
        have Sr := CBox.b HS.out hBr.out
        obtain ⟨e0, e1, e2, e3, e4⟩ := Sr.five
        have lw := Blk.lt Sr
        clear Sr
        by_cases hlt : i < m
        · obtain ⟨bb, o, x, xk, AA, M, Cc, rfl, hbb, z0, z1, z2, z3, z4, hx, hax⟩ := HC.out.at hlt
          have y0 := (hBr.out.cell (p := ⟨bb, _, none⟩) hbb).trans z0
          have y1 := (hBr.out.cell (p := ⟨bb, _, none⟩) hbb).trans z1
          have y2 := (hBr.out.cell (p := ⟨bb, _, none⟩) hbb).trans z2
          have y3 := (hBr.out.cell (p := ⟨bb, _, none⟩) hbb).trans z3
          have y4 := (hBr.out.cell (p := ⟨bb, _, none⟩) hbb).trans z4
          have hbw : bb < wr.heap.size := by have := hBr.out.size; omega
          obtain ⟨cK, hk20, hkx⟩ := HK.out i x hx
          have cV := fun (w' : World) (hb : Below wr.heap.size wr w') => cK _ A' n' c' xk AA M Cc k2 w' (NsW.b hN.out hb) (ArWC.b (ArWC.b hax hBr.out) hb) (HLen2.out i x hx) hk20 hkx
          have Hst := Lib.hid (show puts X (lsTs k lt ++ lsCs k2 (l.take (i + 1))) = puts (puts X (lsTs k lt ++ lsCs k2 (l.take i))) (lsC k2 x) by rw [lsCs_step k2 hx, ← puts_app, List.append_assoc])
          clear z0 z1 z2 z3 z4 hax HK hx HC hN cK hkx hk20
          generalize opC x = op' at *
          generalize nmC x = nm' at *
          generalize soC x = so' at *
          obtain ⟨xa, xn, xc⟩ := xk
          dsimp only at *
          have hi0 : 0 ≤ (i : Int) := by omega
          have hi1 : (i : Int) < (m : Int) := by omega
          have hBd : Below wr.heap.size wr wr.drew := (Below.refl _ _).drew
          go_wp2_with fail
          go_region_held3 (fun w' => w'.cell? ⟨w.heap.size, 0, none⟩ = some (.int .i64 op) ∧ w'.cell? ⟨w.heap.size, 1, none⟩ = some (.string nm) ∧ w'.cell? ⟨w.heap.size, 2, none⟩ = some (.string so) ∧ w'.cell? ⟨w.heap.size, 3, none⟩ = some (.slice ka j kc) ∧ w'.cell? ⟨w.heap.size, 4, none⟩ = some (.slice (some ⟨bb, o, none⟩) m d) ∧
            w'.cell? ⟨bb, o + i * 5, none⟩ = some (.int .i64 op') ∧ w'.cell? ⟨bb, o + i * 5 + 1, none⟩ = some (.string nm') ∧ w'.cell? ⟨bb, o + i * 5 + 1 + 1, none⟩ = some (.string so') ∧ w'.cell? ⟨bb, o + i * 5 + 1 + 1 + 1, none⟩ = some (.slice xa xn xc) ∧ w'.cell? ⟨bb, o + i * 5 + 1 + 1 + 1 + 1, none⟩ = some (.slice AA M Cc))
            (first | (exact ⟨(Bz.cell (p := ⟨w.heap.size, _, none⟩) lw).trans e0, (Bz.cell (p := ⟨w.heap.size, _, none⟩) lw).trans e1, (Bz.cell (p := ⟨w.heap.size, _, none⟩) lw).trans e2, (Bz.cell (p := ⟨w.heap.size, _, none⟩) lw).trans e3, (Bz.cell (p := ⟨w.heap.size, _, none⟩) lw).trans e4, (Bz.cell (p := ⟨bb, _, none⟩) hbw).trans y0, (Bz.cell (p := ⟨bb, _, none⟩) hbw).trans y1, (Bz.cell (p := ⟨bb, _, none⟩) hbw).trans y2, (Bz.cell (p := ⟨bb, _, none⟩) hbw).trans y3, (Bz.cell (p := ⟨bb, _, none⟩) hbw).trans y4⟩) | go_keep)
            (first
              | (go_at_call 173; ((with_reducible refine (cW _).mono ?_); rintro e w3 ⟨rfl, hb3⟩; have Bz : Below wr.heap.size wr w3 := bel_trans (by first | assumption | exact Below.drew (by assumption) | exact Below.refl _ _) hb3))
              | (go_at_call 114; ((with_reducible refine (cV _ (by first | assumption | exact Below.drew (by assumption))).mono ?_); rintro e w5 h5; obtain ⟨A5, n5, c5, rfl, hN5, hb5⟩ := h5.open; have HN5 := Lib.hid hN5; have Bz : Below wr.heap.size wr w5 := bel_trans (by first | assumption | exact Below.drew (by assumption)) hb5; clear h5 hN5)))
          all_goals go_wp2
          all_goals go_roundw
          case rel => exact ⟨_, i + 1, _, _, _, rfl, by omega, rfl, by go_num, Lib.hid (by rw [Hst.out]; exact HN5.out), Lib.hid (bel_trans hBr.out Bz)⟩
          case measure => simp [intOf]; omega
        · obtain rfl : i = m := by omega
          have Hfin := Lib.hid (show RtI (puts X (lsTs k lt ++ lsCs k2 l)) w (.returned (.slice A' n' c')) wr from by have := hN.out; rw [List.take_of_length_le (by have := HC.out.1; omega)] at this; exact NsW.ret this (bel_trans HB.out hBr.out))
          clear hN HC
          go_wp2
          go_ret
          exact Hfin.out
theorem looseC_any (t : Cl) : LcOk t := Cl.ind looseC_step t
set_option maxHeartbeats 1000000 in
theorem refLoose_any (t : Cl) (k : SS) (a : Option Addr) (n c : Nat) (w : World) (hsz : wt t ≤ 1000000) (hA : ArWC w t k a n c) :
    Calls Try.prog 52 #[.agg #[.int .i64 (opC t), .string (nmC t), .string (soC t), .slice k.a k.n k.c, .slice a n c]] w fun e w' => RtI (looseL t) w e w' := by
  obtain ⟨W, hW, hB, hs, S⟩ := cbox1 w (opC t) (nmC t) (soC t) k a n c
  have cL := looseC_any t [] none 0 0 k a n c 0 W (OwnI.nil W 0).ns (ArWC.b hA hB) (by simpa using hsz) (Int.le_refl _) (by omega)
  rw [looseL_puts]
  obtain ⟨s0, s1, s2, s3, s4⟩ := S.five
  obtain ⟨ka, kn, kc⟩ := k
  dsimp only at *
  clear hA S
  generalize puts [] (lsC 0 t) = X at *
  generalize opC t = op at *
  generalize nmC t = nm at *
  generalize soC t = so at *
  go_enter Try.func52, Try.ntmps52
  go_wp2_with (go_at_call 114; ((with_reducible refine cL.mono ?_); rintro e w4 ⟨A, C, rfl, hN4, hb4⟩; have HN4 := Lib.hid hN4; clear hN4))
  go_ret
  exact ⟨A, C, rfl, HN4.out, bel_trans hB hb4⟩
theorem lsC_lone (t : Tm) : lsC 0 (lone t) = lsT 0 t := by unfold lone; rw [lsC, lsTs, lsTs, lsCs, List.append_nil, List.append_nil]
set_option maxHeartbeats 1000000 in
theorem refLooseTerm_any (t : Tm) (a : Option Addr) (n c : Nat) (w : World) (hsz : 1 + size t ≤ 1000000) (hA : ArW w t a n c) :
    Calls Try.prog 51 #[.agg #[.int .i64 (opT t), .string (nameT t), .int .i64 (numT t), .slice a n c]] w fun e w' => RtI (looseL (lone t)) w e w' := by
  obtain ⟨W, hW, hB, hs, S⟩ := box1 w (opT t) (nameT t) (numT t) a n c
  have cL := looseIn_any t [] none 0 0 a n c 0 W (OwnI.nil W 0).ns (ArW.b hA hB) (by simp; omega)
  rw [looseL_puts, lsC_lone]
  obtain ⟨s0, s1, s2, s3⟩ := S.four
  clear hA S
  generalize puts [] (lsT 0 t) = X at *
  generalize opT t = op at *
  generalize nameT t = nm at *
  generalize numT t = nu at *
  go_enter Try.func51, Try.ntmps51
  go_wp2_with (go_at_call 113; ((with_reducible refine cL.mono ?_); rintro e w4 ⟨A, C, rfl, hN4, hb4⟩; have HN4 := Lib.hid hN4; clear hN4))
  go_ret
  exact ⟨A, C, rfl, HN4.out, bel_trans hB hb4⟩
end Go.Proofs.Ytokkafekdaniaaa.B
