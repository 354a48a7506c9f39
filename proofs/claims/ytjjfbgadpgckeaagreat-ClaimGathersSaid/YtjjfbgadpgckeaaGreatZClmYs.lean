/-
  What is proved: the terms of a claim as package claim tells them; the document's Terms, Atoms and Names.
-/
import Derived.Test.YtjjfbgadpgckeaaGreatK3
import Derived.Test.YtjjfbgadpgckeaaGreatZRgtN
import Derived.Test.YtjjfbgadpgckeaaGreatD2
namespace Go.Proofs.YtjjfbgadpgckeaaGreat.K
open Go.RowKit L T
open C (Cl atC cmpC eqC CsW wt wt_mk wts wts_mem wts_len opC nmC soC tsC subC SS OwnC Hc CBox cbox1 ArC ArWC take_c wts_app nmsT nmsTs nmsC nmsCs nmsCs_step putsN putsN_app RtS names8_any)
open U (HdsT tsAll tsAlls)
set_option linter.unusedVariables false
set_option linter.unusedSimpArgs false

mutual
theorem nmsT_eq : ∀ t : Tm, nmsT t = ((all t).filter (fun u => opT u == 1)).map nameT
  | .mk o s z l => by
    rw [nmsT, all, List.filter_cons, nmsTs_eq l]
    by_cases h : o = 1
    · subst h; rfl
    · rw [if_neg h, if_neg (by show ¬ ((o == 1) = true); simpa using h)]; rfl
theorem nmsTs_eq : ∀ l : List Tm, nmsTs l = ((alls l).filter (fun u => opT u == 1)).map nameT
  | [] => rfl
  | t :: l => by rw [nmsTs, alls, List.filter_append, List.map_append, nmsT_eq t, nmsTs_eq l]
end
theorem alls_appK (l m : List Tm) : alls (l ++ m) = alls l ++ alls m := by
  induction l with
  | nil => rfl
  | cons t l ih => rw [List.cons_append, alls, alls, ih, List.append_assoc]
mutual
theorem nmsC_eq : ∀ t : Cl, nmsC t = ((alls (tsAll t)).filter (fun u => opT u == 1)).map nameT
  | .mk o s z ts l => by rw [nmsC, tsAll, alls_appK, List.filter_append, List.map_append, nmsTs_eq ts, nmsCs_eq l]
theorem nmsCs_eq : ∀ l : List Cl, nmsCs l = ((alls (tsAlls l)).filter (fun u => opT u == 1)).map nameT
  | [] => rfl
  | t :: l => by rw [nmsCs, tsAlls, alls_appK, List.filter_append, List.map_append, nmsC_eq t, nmsCs_eq l]
end
theorem names_cs (l : List Cl) : putsN [] (nmsCs l) = names (tsAlls l) :=
  names_only (C.up_putsN _ _ (by unfold Up; simp)) fun x => by
    rw [C.mem_putsN, nmsCs_eq]
    simp only [List.not_mem_nil, false_or, List.mem_map, List.mem_filter, beq_iff_eq]
    constructor
    · rintro ⟨a, ⟨h1, h2⟩, h3⟩; exact ⟨a, h1, h2, h3⟩
    · rintro ⟨a, h1, h2, h3⟩; exact ⟨a, ⟨h1, h2⟩, h3⟩

set_option maxRecDepth 100000 in
set_option maxHeartbeats 8000000 in
theorem Names8_any (l : List Cl) (A : Option Addr) (n c : Nat) (w : World) (hC : CsW w A n c l) (hw : wts l ≤ 900000) :
    Calls Tryz.prog 20 #[.slice A n c] w fun e w' => RtS (putsN [] (nmsCs l)) w e w' := by
  have hn : n ≤ 9223372036854775807 := by have h1 := hC.2.1; have h2 := hC.2.2.1; unfold maxLen at h2; omega
  have HLen := Lib.hid (show ∀ i x, l[i]? = some x → (putsN [] (nmsCs (l.take i))).length + wt x ≤ 1000000 from fun i x hx => by
    have h2 := C.putsN_len (nmsCs (l.take i)) []
    have h4 := C.wts_take_leN hx
    simp at h2
    omega)
  have HC := Lib.hid hC
  have H0 : Hid (SlS w none 0 0 (putsN [] (nmsCs (l.take 0)))) := Lib.hid (by rw [List.take_zero]; exact ⟨IsS.nil _ _, Nat.le_refl _, fun _ => rfl⟩)
  have HEnd := Lib.hid (show ∀ j, n ≤ j → l.take j = l from fun j h => List.take_of_length_le (by have := hC.1; omega))
  clear hC hw
  go_enter Tryz.func20, Tryz.ntmps20
  go_wp2
  go_loopw [3, 4] (fun v i wr0 => ∃ (wr : World) (j : Nat) (A' : Option Addr) (n' c' : Nat), wr = wr0 ∧ j ≤ n ∧ .slice A' n' c' = v ∧ i = .int .i64 j ∧ Hid (SlS wr A' n' c' (putsN [] (nmsCs (l.take j)))) ∧ Hid (Below w.heap.size w wr)) (fun _ i _ => n - (intOf i).toNat)
  case atStart => exact ⟨_, 0, _, _, _, rfl, by omega, rfl, rfl, H0, Lib.hid (Below.refl _ _)⟩
  case round =>
    clear H0
    obtain ⟨wr, j, A', n', c', rfl, hj, rfl, rfl, hN, hBr⟩ := hrel
    by_cases hlt : j < n
    · obtain ⟨bb, o, x, ⟨xa, xn, xc⟩, AA, M, Cc, rfl, hbb, z0, z1, z2, z3, z4, hx, hax⟩ := HC.out.at hlt
      dsimp only at z3
      have y0 := (hBr.out.cell (p := ⟨bb, _, none⟩) hbb).trans z0
      have y1 := (hBr.out.cell (p := ⟨bb, _, none⟩) hbb).trans z1
      have y2 := (hBr.out.cell (p := ⟨bb, _, none⟩) hbb).trans z2
      have y3 := (hBr.out.cell (p := ⟨bb, _, none⟩) hbb).trans z3
      have y4 := (hBr.out.cell (p := ⟨bb, _, none⟩) hbb).trans z4
      have cV := names8_any x _ A' n' c' ⟨xa, xn, xc⟩ AA M Cc wr hN.out (C.ArWC.b hax hBr.out) (HLen.out j x hx)
      have Hst := Lib.hid (show putsN [] (nmsCs (l.take (j + 1))) = putsN (putsN [] (nmsCs (l.take j))) (nmsC x) by rw [nmsCs_step hx, putsN_app])
      dsimp only at cV
      clear z0 z1 z2 z3 z4 hax hx HC hN
      generalize opC x = op' at *
      generalize nmC x = nm' at *
      generalize soC x = so' at *
      have hj0 : 0 ≤ (j : Int) := by omega
      have hj1 : (j : Int) < (n : Int) := by omega
      go_wp2_with (go_at_call 47; ((with_reducible refine cV.mono ?_); rintro e w5 ⟨A5, c5, rfl, hN5, hb5⟩; have HN5 := Lib.hid hN5; have HB5 := Lib.hid (bel_trans hBr.out hb5); clear hN5 hb5))
      go_roundw
      case rel => exact ⟨_, j + 1, _, _, _, rfl, by omega, rfl, by go_num, Lib.hid (by rw [Hst.out]; exact HN5.out), HB5⟩
      case measure => simp [intOf]; omega
    · have hjm : j = n := by omega
      have Hfin := Lib.hid (show RtS (putsN [] (nmsCs l)) w (.returned (.slice A' n' c')) wr from by have h := hN.out; rw [HEnd.out j (by omega)] at h; exact C.slS_ret h hBr.out)
      clear hN HC hjm
      go_wp2
      go_ret
      exact Hfin.out
set_option maxRecDepth 100000 in
set_option maxHeartbeats 8000000 in
theorem refAtoms_any (l : List Cl) (A : Option Addr) (n c : Nat) (w : World) (hC : CsW w A n c l) (hw : wts l ≤ 400000) :
    Calls Tryz.prog 23 #[.slice A n c] w fun e w' => ∃ A' n' C', e = .returned (.slice A' n' C') ∧ CsW w' A' n' C' (uqC [] (atomsL l)) ∧ Below w.heap.size w w' := by
  have hn : n ≤ 9223372036854775807 := by have h1 := hC.2.1; have h2 := hC.2.2.1; unfold maxLen at h2; omega
  have HLen := Lib.hid (show ∀ i x, l[i]? = some x → (uqC [] (atomsL (l.take i))).length + wt x ≤ 900000 from fun i x hx => by
    have h2 := uq_len2 [] (l.take i)
    have h3 := C.wts_takeF l i
    have h4 := wts_mem (List.mem_of_getElem? hx)
    simp at h2
    omega)
  have HC := Lib.hid hC
  have H0 : Hid (AtR w w none 0 0 (uqC [] (atomsL (l.take 0)))) := Lib.hid ⟨[], C.OwnC.nil _ _, rfl, by rw [List.take_zero]; exact C.HdL.nil _, Below.refl _ _⟩
  have HSt := Lib.hid (show ∀ j x, l[j]? = some x → uqC [] (atomsL (l.take (j + 1))) = uqC (uqC [] (atomsL (l.take j))) (atomsL [x]) from fun j x h => by rw [take_c h, atomsL_app, uqC_app])
  have HEnd := Lib.hid (show ∀ j, n ≤ j → l.take j = l from fun j h => List.take_of_length_le (by have := hC.1; omega))
  clear hC hw
  go_enter Tryz.func23, Tryz.ntmps23
  go_wp2
  go_loopw [3, 4] (fun v i wr0 => ∃ (wr : World) (j : Nat) (A' : Option Addr) (n' c' : Nat), wr = wr0 ∧ j ≤ n ∧ .slice A' n' c' = v ∧ i = .int .i64 j ∧ Hid (AtR w wr A' n' c' (uqC [] (atomsL (l.take j))))) (fun _ i _ => n - (intOf i).toNat)
  case atStart => exact ⟨_, 0, _, _, _, rfl, by omega, rfl, rfl, H0⟩
  case round =>
    clear H0
    obtain ⟨wr, j, A', n', c', rfl, hj, rfl, rfl, hN⟩ := hrel
    have hbr : Below w.heap.size w wr := by obtain ⟨_, _, _, _, h⟩ := hN.out; exact h
    by_cases hlt : j < n
    · obtain ⟨bb, o, x, ⟨xa, xn, xc⟩, AA, M, Cc, rfl, hbb, z0, z1, z2, z3, z4, hx, hax⟩ := HC.out.at hlt
      dsimp only at z3
      have y0 := (hbr.cell (p := ⟨bb, _, none⟩) hbb).trans z0
      have y1 := (hbr.cell (p := ⟨bb, _, none⟩) hbb).trans z1
      have y2 := (hbr.cell (p := ⟨bb, _, none⟩) hbb).trans z2
      have y3 := (hbr.cell (p := ⟨bb, _, none⟩) hbb).trans z3
      have y4 := (hbr.cell (p := ⟨bb, _, none⟩) hbb).trans z4
      have cV := atoms8_any w x _ A' n' c' ⟨xa, xn, xc⟩ AA M Cc wr hN.out hax (HLen.out j x hx)
      have Hst := Lib.hid (HSt.out j x hx)
      dsimp only at cV
      clear z0 z1 z2 z3 z4 hax hx HC hN
      generalize opC x = op' at *
      generalize nmC x = nm' at *
      generalize soC x = so' at *
      have hj0 : 0 ≤ (j : Int) := by omega
      have hj1 : (j : Int) < (n : Int) := by omega
      go_wp2_with (go_at_call 55; ((with_reducible refine cV.mono ?_); rintro e w5 ⟨A5, n5, c5, rfl, hN5, -⟩; have HN5 := Lib.hid hN5; clear hN5))
      go_roundw
      case rel => exact ⟨_, j + 1, _, _, _, rfl, by omega, rfl, by go_num, Lib.hid (by rw [Hst.out]; exact HN5.out)⟩
      case measure => simp [intOf]; omega
    · have hjm : j = n := by omega
      have Hfin := Lib.hid (show CsW wr A' n' c' (uqC [] (atomsL l)) ∧ Below w.heap.size w wr from by
        obtain ⟨hs, q1, q2, q3, q4⟩ := hN.out
        rw [HEnd.out j (by omega)] at q3
        obtain ⟨A7, n7, C7, hv7, hT7⟩ := C.HdL.csW q3 q1 q4
        injection hv7 with a1 a2 a3
        subst a1 a2 a3
        exact ⟨hT7, q4⟩)
      clear hN HC hjm
      go_wp2
      go_ret
      exact ⟨_, _, _, rfl, Hfin.out.1, Hfin.out.2⟩
theorem TrR.ts {w0 wr : World} {A : Option Addr} {n c : Nat} {X : List Tm} (h : TrR w0 wr A n c X) : TsW wr A n c X := by
  obtain ⟨hs, h1, h2, h3, h4⟩ := h
  refine OwnT.isT h1 (Nat.le_refl _) h3.1.symm fun k hk hk2 => ?_
  obtain ⟨e1, e2, e3, e4⟩ := h3.2 k hs[k] X[k] (List.getElem?_eq_getElem hk2) (List.getElem?_eq_getElem hk)
  exact ⟨e1, e2, e3, ArP.ar (P := fun b => b < w0.heap.size) (fun b hb => by have := h4.size; omega) _ (ArP.to (fun b hb => h4.block b hb) (fun b hb => hb) _ e4)⟩
set_option maxRecDepth 100000 in
set_option maxHeartbeats 8000000 in
theorem refTerms_any (t : Cl) (k : SS) (a : Option Addr) (m c : Nat) (w : World) (hA : ArWC w t k a m c) (hw : wt t ≤ 900000) :
    Calls Tryz.prog 17 #[.agg #[.int .i64 (opC t), .string (nmC t), .string (soC t), .slice k.a k.n k.c, .slice a m c]] w fun e w' => ∃ A' n' C', e = .returned (.slice A' n' C') ∧ TsW w' A' n' C' (uq [] (tsAll t)) ∧ Below w.heap.size w w' := by
  obtain ⟨W1, hW1, hB1, hs1, S1⟩ := cbox1 w (opC t) (nmC t) (soC t) k a m c
  have cV := terms8_any w t [] none 0 0 k a m c W1 ⟨[], OwnT.nil _ _, rfl, HdsT.nil _ _, hB1⟩ hA (by simpa using hw)
  obtain ⟨s0, s1, s2, s3, s4⟩ := S1.five
  clear hA S1
  generalize tsAll t = R at *
  generalize opC t = op at *
  generalize nmC t = nm at *
  generalize soC t = so at *
  go_enter Tryz.func17, Tryz.ntmps17
  go_wp2_with (go_at_call 45; ((with_reducible refine cV.mono ?_); rintro e w5 ⟨A5, n5, c5, rfl, hN5, -⟩; have HN5 := Lib.hid hN5; clear hN5))
  go_ret
  exact ⟨_, _, _, rfl, HN5.out.ts, by obtain ⟨_, _, _, _, h⟩ := HN5.out; exact h⟩
theorem made_tsK {w4 w5 : World} {A : Option Addr} {m C : Nat} {l : List Tm} (hc : m ≤ C ∧ C ≤ maxLen ∧ (A = none → C = 0)) (hr : ∃ g hs, A = some ⟨g, 0, none⟩ ∧ w4.heap.size ≤ g ∧ Row w5 g hs ∧ FrL w5 l (g + 1) w5.heap.size hs) (hm : m = l.length) : TsW w5 A m C l := by
  obtain ⟨g, hs, e1, e2, e3, e4⟩ := hr
  have hg : g < w5.heap.size := by have := e3.lt; omega
  have hf : Fr w5 (.mk 0 ⟨#[]⟩ 0 l) 0 w5.heap.size ⟨0, ⟨#[]⟩, 0, A, m, C⟩ := by
    rw [Fr]
    exact ⟨⟨rfl, rfl, rfl⟩, ⟨hm, hc⟩, Nat.zero_le _, fun _ => ⟨g, hs, e1, Nat.zero_le _, e3, e4⟩⟩
  exact ArW.args (Fr.ar (.mk 0 ⟨#[]⟩ 0 l) (Nat.le_refl _) hf)
/-- a new list of terms reads as this list -/
theorem newTs_read {w w' : World} {l : List Tm} {A : Option Addr} {m C : Nat} (hm : m = l.length) (h1 : m ≤ C ∧ C ≤ maxLen ∧ (A = none → C = 0)) (h2 : 0 < m → ∃ g hs, A = some ⟨g, 0, none⟩ ∧ w.heap.size ≤ g ∧ Row w' g hs ∧ FrL w' l (g + 1) w'.heap.size hs) : TsW w' A m C l := by
  by_cases h0 : m = 0
  · subst h0
    have : l = [] := List.eq_nil_of_length_eq_zero hm.symm
    subst this
    exact ⟨rfl, h1.1, h1.2.1, h1.2.2, fun h => absurd h (by omega)⟩
  · exact made_tsK h1 (h2 (by omega)) hm
set_option maxRecDepth 100000 in
set_option maxHeartbeats 8000000 in
theorem Terms_any (t : Cl) (k : SS) (a : Option Addr) (m c : Nat) (w : World) (hA : ArWC w t k a m c) (hw : wt t ≤ 10000) :
    Calls Tryz.prog 16 #[.agg #[.int .i64 (opC t), .string (nmC t), .string (soC t), .slice k.a k.n k.c, .slice a m c]] w fun e w' => ∃ A' n' C', e = .returned (.slice A' n' C') ∧ TsW w' A' n' C' (uq [] (tsAll t)) ∧ Below w.heap.size w w' := by
  obtain ⟨W1, hW1, hB1, hs1, S1⟩ := cbox1 w (opC t) (nmC t) (soC t) k a m c
  have cV := U.allTerms_any t k a m c w W1 hB1 hA hw
  have hsz : sizes (uq [] (tsAll t)) ≤ 1000000 := by
    have h1 := uq_szT (tsAll t) []
    have h2 := U.tsAll_size t
    simp only [sizes] at h1
    omega
  have hll : (tsAll t).length ≤ 1000000 := by
    have h1 := U.len_sizes (tsAll t)
    have h2 := U.tsAll_size t
    omega
  have HT := Lib.hid (show ∀ (w' : World) (v : Value) (hs : List Hd), OwnT w' W1.heap.size v hs → HdsT w.heap.size w hs (tsAll t) → Below W1.heap.size W1 w' → ∃ A' n' C', v = .slice A' n' C' ∧ TsW w' A' n' C' (tsAll t) ∧ n' ≤ 1000000 from fun w' v hs h1 h2 h3 => by
    obtain ⟨A', C', hv, -⟩ := OwnT.slice h1
    have hbw := bel_trans hB1 h3
    refine ⟨A', _, C', hv, ?_, by rw [h2.1]; exact hll⟩
    subst hv
    exact TrR.ts (w0 := w) ⟨hs, OwnT.base h1 hB1.size, rfl, h2, hbw⟩)
  have HS := Lib.hid hsz
  obtain ⟨s0, s1, s2, s3, s4⟩ := S1.five
  clear hA S1 hsz hll
  generalize tsAll t = R at *
  generalize opC t = op at *
  generalize nmC t = nm at *
  generalize soC t = so at *
  go_enter Tryz.func16, Tryz.ntmps16
  go_wp2_with (first
    | (go_at_call 42; ((with_reducible refine cV.mono ?_); rintro e w5 ⟨v5, hs5, rfl, ho5, hd5, hb5⟩; obtain ⟨A5, n5, c5, rfl, hT5, hn5⟩ := HT.out w5 v5 hs5 ho5 hd5 hb5; have HT5 := Lib.hid hT5; clear hT5 ho5 hd5))
    | (go_at_call 41; ((with_reducible refine (firsts_anyT _ _ _ _ _ HT5.out hn5).mono ?_); rintro e w6 ⟨A6, m6, c6, rfl, -, hT6, hb6⟩; have HT6 := Lib.hid hT6; clear hT6))
    | (go_at_call 40; ((with_reducible refine (mapCopy_of _ (fun t _ => Copy_any t) HS.out _ _ _ _ HT6.out).mono ?_); rintro e w7 ⟨A7, C7, rfl, hc7, hr7, hb7⟩; have H7 := Lib.hid (newTs_read (w := w6) HT6.out.1 hc7 hr7); clear hc7 hr7)))
  go_ret
  exact ⟨_, _, _, rfl, H7.out, bel_trans hB1 (bel_trans hb5 (bel_trans hb6 hb7))⟩
end Go.Proofs.YtjjfbgadpgckeaaGreat.K
