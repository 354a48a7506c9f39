/-
  What is proved: package match's fits: whether a claim turns into another one, and what is put in the map for it; match.Claim.
-/
import Derived.Test.YtnhemglpbhnmdaaGreatME
import Derived.Test.YtnhemglpbhnmdaaGreatBK
import Derived.Test.YtnhemglpbhnmdaaGreatMD
import Derived.Test.YtnhemglpbhnmdaaGreatMG
namespace Go.Proofs.YtnhemglpbhnmdaaGreat.Mt
open Go.RowKit L T C B U
set_option linter.unusedVariables false
set_option linter.unusedSimpArgs false

/-- fits, at this pattern -/
def FcOk (X : List ByteArray) (p : Cl) : Prop := ∀ (B bv bm bo gs g : Nat) (l : List Pr) (t : Cl) (k : SS) (a : Option Addr) (n c : Nat) (k' : SS) (a' : Option Addr) (n' c' : Nat) (W : World),
  Ctx B X bv bm bo gs g W → MapM B W g l → l.length + wt p ≤ 1000000 → smC p → wt t ≤ 4096 → ArC B W p k a n c → ArC B W t k' a' n' c' →
  Calls Tryz.prog 41 #[.agg #[.int .i64 (opC p), .string (nmC p), .string (soC p), .slice k.a k.n k.c, .slice a n c], .agg #[.int .i64 (opC t), .string (nmC t), .string (soC t), .slice k'.a k'.n k'.c, .slice a' n' c'], clo bv bm bo] W fun e W' => RtM B g W (matC X p l t) e W'
set_option maxRecDepth 100000 in
set_option maxHeartbeats 8000000 in
theorem fits_clo (X : List ByteArray) (p : Cl) (hok : FcOk X p) : GcOk X p := by
  intro B bv bm bo gs g bx l t k a n c k' a' n' c' W hC hBx hbx hM hl hsm hsz hA hA'
  obtain ⟨W2, hW2, hB2, hs2, S2, T2⟩ := cbox2 W (opC p) (nmC p) (soC p) k a n c (opC t) (nmC t) (soC t) k' a' n' c'
  have hg2 := gr_of g hB2
  have cF := hok B bv bm bo gs g l t k a n c k' a' n' c' W2 (hC.kept hg2) (hM.b hC.BW hB2) hl hsm hsz (ArC.bel (hB2.mono hC.BW) _ hA) (ArC.bel (hB2.mono hC.BW) _ hA')
  have HG := Lib.hid hg2
  have y0 := Blk.cell (Blk.below hBx hB2) 0
  obtain ⟨ka, kn, kc⟩ := k
  obtain ⟨ka', kn', kc'⟩ := k'
  obtain ⟨s0, s1, s2, s3, s4⟩ := S2.five
  obtain ⟨t0, t1, t2, t3, t4⟩ := T2.five
  dsimp only at *
  unfold RtM at cF ⊢
  clear hC hBx hM hl hsm hsz hA hA' S2 T2 hok hs2 hg2
  generalize matC X p l t = R at *
  generalize opC p = op at *
  generalize nmC p = mp at *
  generalize soC p = zp at *
  generalize opC t = ot at *
  generalize nmC t = mt at *
  generalize soC t = zt at *
  go_enter Tryz.func74, Tryz.ntmps74
  go_wp2_with (go_at_call 41; ((with_reducible refine cF.mono ?_); rintro e w5 ⟨rfl, hm5, hg5⟩; have HM5 := Lib.hid hm5; have HG5 := Lib.hid hg5; clear hm5 hg5))
  go_ret
  exact ⟨rfl, HM5.out, HG.out.trans HG5.out⟩
theorem bare_eq (o : Int) (s z : ByteArray) (o' : Int) (s' z' : ByteArray) : eqC (.mk o s z [] []) (.mk o' s' z' [] []) = decide (o = o' ∧ (o = 11 ∨ o = 12 ∨ s = s') ∧ z = z') := by
  have e1 : (s.toList == s'.toList) = decide (s = s') := by
    cases h : (s.toList == s'.toList) with
    | true => exact (decide_eq_true (eqS_iff.1 h)).symm
    | false => exact (decide_eq_false (fun e => by rw [e, eqS_refl] at h; cases h)).symm
  have e2 : (z.toList == z'.toList) = decide (z = z') := by
    cases h : (z.toList == z'.toList) with
    | true => exact (decide_eq_true (eqS_iff.1 h)).symm
    | false => exact (decide_eq_false (fun e => by rw [e, eqS_refl] at h; cases h)).symm
  rw [eqC, e1, e2, eqTs, eqCs]
  by_cases h1 : o = o' <;> by_cases h2 : z = z' <;> by_cases h3 : s = s' <;> by_cases h4 : o = 11 <;> by_cases h5 : o = 12 <;> simp [h1, h2, h3, h4, h5] <;> simp_all
theorem bare_ar (B : Nat) (w : World) (o : Int) (s z : ByteArray) : ArC B w (.mk o s z [] []) SS.nil none 0 0 := by
  rw [ArC]; exact ⟨⟨rfl, Nat.le_refl _, Nat.zero_le _, fun _ => rfl, fun h => absurd h (by simp [SS.nil])⟩, rfl, Nat.le_refl _, Nat.zero_le _, fun _ => rfl, fun h => absurd h (by omega)⟩
theorem same_bare (o : Int) (s z : ByteArray) (o' : Int) (s' z' : ByteArray) (w : World) :
    Calls Tryz.prog 70 #[.agg #[.int .i64 o, .string s, .string z, .slice none 0 0, .slice none 0 0], .agg #[.int .i64 o', .string s', .string z', .slice none 0 0, .slice none 0 0]] w fun e w' => e = .returned (.bool (decide (o = o' ∧ (o = 11 ∨ o = 12 ∨ s = s') ∧ z = z'))) ∧ Below w.heap.size w w' := by
  have h := SameC_any (.mk o s z [] []) (.mk o' s' z' [] []) SS.nil none 0 0 SS.nil none 0 0 w (bare_ar _ _ _ _ _) (bare_ar _ _ _ _ _)
  rw [bare_eq] at h
  exact h
set_option maxRecDepth 100000 in
set_option maxHeartbeats 32000000 in
theorem fits_step (X : List ByteArray) (p : Cl) (hok : ∀ x ∈ subC p, FcOk X x) : FcOk X p := by
  intro B bv bm bo gs g l t k a n c k' a' n' c' W hC hM hl hsm hsz hA hA'
  obtain ⟨W2, hW2, hB2, hs2, S2, T2⟩ := cbox2 W (opC p) (nmC p) (soC p) k a n c (opC t) (nmC t) (soC t) k' a' n' c'
  obtain ⟨W3, hW3⟩ : ∃ W3, W2.alloc (.cells #[clo bv bm bo] 45) = W3 := ⟨_, rfl⟩
  have hB23 : Below W2.heap.size W2 W3 := by rw [← hW3]; exact bel_alloc (Below.refl _ _) _
  have hB3 := bel_trans hB2 hB23
  have M3 : Blk W3 (W2.heap.size) #[clo bv bm bo] 45 := by rw [← hW3]; exact Blk.new W2 _ _
  have S3 := CBox.b S2 hB23
  have T3 := CBox.b T2 hB23
  have hC3 := hC.kept (gr_of g hB3)
  have hM3 := hM.b hC.BW hB3
  have hP3 := ArC.bel (hB3.mono hC.BW) _ hA
  have hT3 := ArC.bel (hB3.mono hC.BW) _ hA'
  obtain ⟨hPt, hPc⟩ := ar_isC.1 hP3
  obtain ⟨hTt, hTc⟩ := ar_isC.1 hT3
  have hwp := wt_mk p
  have hwt := wt_mk t
  have hsp := smC_parts hsm
  have hgl : g < W.heap.size := hC.gl
  have cS := fun (w' : World) => same_bare (opC p) (nmC p) (soC p) (opC t) (nmC t) (soC t) w'
  have cE := fun (w' : World) (hb : Below W3.heap.size W3 w') (h : k.n = k'.n) => equal_of X (tsC p) (fun x _ => match_any X x) B bv bm bo gs g l (tsC t) k.a k.n k.c k'.a k'.n k'.c w' h (hC3.kept (gr_of g hb)) (hM3.b hC3.BW hb) (by omega) hsp.1 (by omega) (IsT.bel hPt (hb.mono hC3.BW)) (IsT.bel hTt (hb.mono hC3.BW))
  have cEn := fun (w' : World) (h : k.n ≠ k'.n) => equal_ne k.a k.n k.c k'.a k'.n k'.c (clo bv bm bo) w' h (isT_bound hPt) (isT_bound hTt)
  have hne3 : W2.heap.size ≠ g := by omega
  have hBS : B ≤ W3.heap.size := hC3.BW
  have cG := fun (w' : World) (l1 : List Pr) (hg : W3.grownBy w' (some g)) (hM1 : MapM B w' g l1) (hl1 : l1.length + wts (subC p) ≤ 1000000) (h : n = n') => equalC_of X (subC p) (fun x hx => fits_clo X x (hok x hx)) B bv bm bo gs g (W2.heap.size) l1 (subC t) a n c a' n' c' w' h (hC3.kept hg) (Blk.grown M3 hg (fun e => by injection e with e; omega)) hne3 hM1 hl1 hsp.2 (by omega) (IsC.bel hPc (gr_b hg hBS hC3.Bg)) (IsC.bel hTc (gr_b hg hBS hC3.Bg))
  have cGn := fun (w' : World) (h : n ≠ n') => equalC_ne a n c a' n' c' (.func (.func 74) #[] #[.pointer (some ⟨W2.heap.size, 0, none⟩)]) w' h (by have h1 := hPc.2.1; have h2 := hPc.2.2.1; unfold maxLen at h2; omega) (by have h1 := hTc.2.1; have h2 := hTc.2.2.1; unfold maxLen at h2; omega)
  have hMk := matC_mk X p l t
  have hkn : k.n = (tsC p).length := hPt.1
  have hkn' : k'.n = (tsC t).length := hTt.1
  have hnn : n = (subC p).length := hPc.1
  have hnn' : n' = (subC t).length := hTc.1
  have hlen1 : ∀ l1, mats X (tsC p) l (tsC t) = some l1 → l1.length + wts (subC p) ≤ 1000000 := fun l1 h => by have := mats_len X (tsC p) l (tsC t) l1 h; omega
  rw [← hkn, ← hkn', ← hnn, ← hnn'] at hMk
  have HQ := Lib.hid (show ∀ (w' : World), W3.grownBy w' (some g) → w'.cell? ⟨W.heap.size, 0, none⟩ = some (.int .i64 (opC p)) ∧ w'.cell? ⟨W.heap.size, 1, none⟩ = some (.string (nmC p)) ∧ w'.cell? ⟨W.heap.size, 2, none⟩ = some (.string (soC p)) ∧ w'.cell? ⟨W.heap.size, 3, none⟩ = some (.slice k.a k.n k.c) ∧ w'.cell? ⟨W.heap.size, 4, none⟩ = some (.slice a n c) ∧ w'.cell? ⟨W.heap.size + 1, 0, none⟩ = some (.int .i64 (opC t)) ∧ w'.cell? ⟨W.heap.size + 1, 1, none⟩ = some (.string (nmC t)) ∧ w'.cell? ⟨W.heap.size + 1, 2, none⟩ = some (.string (soC t)) ∧ w'.cell? ⟨W.heap.size + 1, 3, none⟩ = some (.slice k'.a k'.n k'.c) ∧ w'.cell? ⟨W.heap.size + 1, 4, none⟩ = some (.slice a' n' c') ∧ w'.cell? ⟨W2.heap.size, 0, none⟩ = some (clo bv bm bo) from fun w' h => by
    obtain ⟨q0, q1, q2, q3, q4⟩ := (show CBox w' _ _ _ _ _ _ _ _ from Blk.grown S3 h (fun e => by injection e with e; omega)).five
    obtain ⟨r0, r1, r2, r3, r4⟩ := (show CBox w' _ _ _ _ _ _ _ _ from Blk.grown T3 h (fun e => by injection e with e; omega)).five
    exact ⟨q0, q1, q2, q3, q4, r0, r1, r2, r3, r4, Blk.cell (Blk.grown M3 h (fun e => by injection e with e; omega)) 0⟩)
  have HMk := Lib.hid hMk
  have HG3 := Lib.hid (gr_of g hB3)
  have HLen := Lib.hid hlen1
  unfold RtM at cE cG ⊢
  obtain ⟨ka, kn, kc⟩ := k
  obtain ⟨ka', kn', kc'⟩ := k'
  dsimp only [SS.nil] at *
  clear hC hM hl hsm hsz hA hA' S2 T2 S3 T3 M3 hok hs2 hC3 hM3 hP3 hT3 hPt hPc hTt hTc hwp hwt hsp hMk hkn hkn' hnn hnn' hlen1 hB2 hB23
  generalize hsame : decide (opC p = opC t ∧ (opC p = 11 ∨ opC p = 12 ∨ nmC p = nmC t) ∧ soC p = soC t) = same at *
  generalize matC X p l t = R at *
  generalize hRT : mats X (tsC p) l (tsC t) = RT at *
  have Hsame := Lib.hid hsame
  clear hsame hRT
  have cB := fun (o : Int) (s z : ByteArray) (ka : Option Addr) (kn kc : Nat) (a : Option Addr) (n c : Nat) (w' : World) => bare_any o s z ⟨ka, kn, kc⟩ a n c w'
  dsimp only at cB
  have hNo : (same = false ∨ kn ≠ kn' ∨ n ≠ n' ∨ RT = none) → Hid (R = none) := fun h => Lib.hid (by
    have h2 := HMk.out
    by_cases hc : opC p = opC t ∧ (opC p = 11 ∨ opC p = 12 ∨ nmC p = nmC t) ∧ soC p = soC t ∧ kn = kn' ∧ n = n'
    · rw [if_pos hc] at h2
      rcases h with h | h | h | h
      · rw [← Hsame.out] at h; exact absurd (of_decide_eq_false h) (fun q => q ⟨hc.1, hc.2.1, hc.2.2.1⟩)
      · exact absurd hc.2.2.2.1 h
      · exact absurd hc.2.2.2.2 h
      · rw [h] at h2; exact h2
    · rw [if_neg hc] at h2; exact h2)
  have hYes : ∀ l1, same = true → kn = kn' → n = n' → RT = some l1 → Hid (R = matCs X (subC p) l1 (subC t)) := fun l1 h1 h2 h3 h4 => Lib.hid (by
    have h5 := HMk.out
    rw [← Hsame.out] at h1
    have h6 := of_decide_eq_true h1
    rw [if_pos ⟨h6.1, h6.2.1, h6.2.2, h2, h3⟩, h4] at h5
    exact h5)
  have HNo := Lib.hid hNo
  have HYes := Lib.hid hYes
  clear hNo hYes HMk
  generalize opC p = op at *
  generalize nmC p = mp at *
  generalize soC p = zp at *
  generalize opC t = ot at *
  generalize nmC t = mt at *
  generalize soC t = zt at *
  have Bd : Below W3.heap.size W3 W3.drew := (Below.refl _ _).drew
  obtain ⟨s0, s1, s2, s3, s4, t0, t1, t2, t3, t4, m0⟩ := HQ.out W3 (gr_of g (Below.refl _ _))
  unfold clo at *
  cases same with
  | false =>
    have hR := HNo.out (.inl rfl)
    clear cE cEn cG cGn HYes HNo
    go_enter Tryz.func41, Tryz.ntmps41
    go_wp2_with fail
    refine wp_region_noPanic ?_
    refine wp_region_held_drew (S := fun w' => w'.cell? ⟨W.heap.size, 0, none⟩ = some (.int .i64 op) ∧ w'.cell? ⟨W.heap.size, 1, none⟩ = some (.string mp) ∧ w'.cell? ⟨W.heap.size, 2, none⟩ = some (.string zp) ∧ w'.cell? ⟨W.heap.size, 3, none⟩ = some (.slice ka kn kc) ∧ w'.cell? ⟨W.heap.size, 4, none⟩ = some (.slice a n c) ∧ w'.cell? ⟨W.heap.size + 1, 0, none⟩ = some (.int .i64 ot) ∧ w'.cell? ⟨W.heap.size + 1, 1, none⟩ = some (.string mt) ∧ w'.cell? ⟨W.heap.size + 1, 2, none⟩ = some (.string zt) ∧ w'.cell? ⟨W.heap.size + 1, 3, none⟩ = some (.slice ka' kn' kc') ∧ w'.cell? ⟨W.heap.size + 1, 4, none⟩ = some (.slice a' n' c') ∧ w'.cell? ⟨W2.heap.size, 0, none⟩ = some (.func (.func 75) #[] #[.pointer (some ⟨bv, 0, none⟩), .pointer (some ⟨bm, 0, none⟩), .pointer (some ⟨bo, 0, none⟩)])) (by kernel_rfl) (by exact HQ.out _ (gr_of g Bd)) (fun hHeld => ?_)
    refine wpAnyH_take (i := 0) (v := ?_) rfl (by kernel_rfl) (by kernel_rfl) (by kernel_rfl) (fun _ _ _ h => h) (Or.inl ⟨by rfl, ?hy⟩) (by assumption) ?_
    case hy => (intro w hSw; (try dsimp only at hSw); go_simp; try (with_reducible rfl))
    (try simp only [List.getElem_toArray, List.getElem_cons_succ, List.getElem_cons_zero, Act.put, List.setIfInBounds_toArray, List.set_cons_zero, List.set_cons_succ])
    refine wpAnyH_take (i := 2) (v := ?_) rfl (by kernel_rfl) (by kernel_rfl) (by kernel_rfl) (fun _ _ _ h => h) (Or.inl ⟨by rfl, ?hy⟩) (by assumption) ?_
    case hy => (intro w hSw; (try dsimp only at hSw); go_simp; try (with_reducible rfl))
    (try simp only [List.getElem_toArray, List.getElem_cons_succ, List.getElem_cons_zero, Act.put, List.setIfInBounds_toArray, List.set_cons_zero, List.set_cons_succ])
    refine wpAnyH_ready (rs := [1]) (by kernel_rfl) (by simp) ?_
    refine AllReadyH.cons rfl (fun KK hKK => ?_) AllReadyH.nil
    go_simp
    (go_at_call 71; ((with_reducible refine (cB _ _ _ _ _ _ _ _ _ _).mono ?_); rintro e w4 ⟨rfl, hb4⟩; have Bn : Below W3.heap.size W3 w4 := bel_trans Bd hb4))
    refine hKK.out _ _ (by exact HQ.out _ (gr_of g Bn)) (fun hHeld => ?_)
    clear hKK KK
    (try simp only [List.getElem_toArray, List.getElem_cons_succ, List.getElem_cons_zero, Act.put, List.setIfInBounds_toArray, List.set_cons_zero, List.set_cons_succ])
    refine wpAnyH_ready (rs := [3]) (by kernel_rfl) (by simp) ?_
    refine AllReadyH.cons rfl (fun KK hKK => ?_) AllReadyH.nil
    go_simp
    (go_at_call 71; ((with_reducible refine (cB _ _ _ _ _ _ _ _ _ _).mono ?_); rintro e w4 ⟨rfl, hb4⟩; have Bn : Below W3.heap.size W3 w4 := bel_trans Bn hb4))
    refine hKK.out _ _ (by exact HQ.out _ (gr_of g Bn)) (fun hHeld => ?_)
    clear hKK KK
    (try simp only [List.getElem_toArray, List.getElem_cons_succ, List.getElem_cons_zero, Act.put, List.setIfInBounds_toArray, List.set_cons_zero, List.set_cons_succ])
    refine wpAnyH_ready (rs := [4]) (by kernel_rfl) (by simp) ?_
    refine AllReadyH.cons rfl (fun KK hKK => ?_) AllReadyH.nil
    go_simp
    (go_at_call 70; ((with_reducible refine (cS _).mono ?_); rintro e w5 ⟨rfl, hb5⟩; have Bn : Below W3.heap.size W3 w5 := bel_trans Bn hb5))
    refine hKK.out _ _ (by exact HQ.out _ (gr_of g Bn)) (fun hHeld => ?_)
    clear hKK KK
    (try simp only [List.getElem_toArray, List.getElem_cons_succ, List.getElem_cons_zero, Act.put, List.setIfInBounds_toArray, List.set_cons_zero, List.set_cons_succ])
    refine wpAnyH_take (i := 5) (v := ?_) rfl (by kernel_rfl) (by kernel_rfl) (by kernel_rfl) (fun _ _ _ h => h) (Or.inl ⟨by rfl, ?hy⟩) (by assumption) ?_
    case hy => (intro w hSw; (try dsimp only at hSw); go_simp; try (with_reducible rfl))
    (try simp only [List.getElem_toArray, List.getElem_cons_succ, List.getElem_cons_zero, Act.put, List.setIfInBounds_toArray, List.set_cons_zero, List.set_cons_succ])
    refine wpAnyH_take (i := 6) (v := undef) rfl (by kernel_rfl) (by kernel_rfl) (by kernel_rfl) (fun _ _ _ h => h) (Or.inr ⟨by rfl, rfl⟩) (by assumption) ?_
    (try simp only [List.getElem_toArray, List.getElem_cons_succ, List.getElem_cons_zero, Act.put, List.setIfInBounds_toArray, List.set_cons_zero, List.set_cons_succ])
    refine wpAnyH_take (i := 7) (v := undef) rfl (by kernel_rfl) (by kernel_rfl) (by kernel_rfl) (fun _ _ _ h => h) (Or.inr ⟨by rfl, rfl⟩) (by assumption) ?_
    (try simp only [List.getElem_toArray, List.getElem_cons_succ, List.getElem_cons_zero, Act.put, List.setIfInBounds_toArray, List.set_cons_zero, List.set_cons_succ])
    refine wpAnyH_take (i := 8) (v := undef) rfl (by kernel_rfl) (by kernel_rfl) (by kernel_rfl) (fun _ _ _ h => h) (Or.inr ⟨by rfl, rfl⟩) (by assumption) ?_
    (try simp only [List.getElem_toArray, List.getElem_cons_succ, List.getElem_cons_zero, Act.put, List.setIfInBounds_toArray, List.set_cons_zero, List.set_cons_succ])
    refine wpAnyH_take (i := 9) (v := undef) rfl (by kernel_rfl) (by kernel_rfl) (by kernel_rfl) (fun _ _ _ h => h) (Or.inr ⟨by rfl, rfl⟩) (by assumption) ?_
    (try simp only [List.getElem_toArray, List.getElem_cons_succ, List.getElem_cons_zero, Act.put, List.setIfInBounds_toArray, List.set_cons_zero, List.set_cons_succ])
    refine wpAnyH_take (i := 10) (v := undef) rfl (by kernel_rfl) (by kernel_rfl) (by kernel_rfl) (fun _ _ _ h => h) (Or.inr ⟨by rfl, rfl⟩) (by assumption) ?_
    (try simp only [List.getElem_toArray, List.getElem_cons_succ, List.getElem_cons_zero, Act.put, List.setIfInBounds_toArray, List.set_cons_zero, List.set_cons_succ])
    refine wpAnyH_take (i := 11) (v := undef) rfl (by kernel_rfl) (by kernel_rfl) (by kernel_rfl) (fun _ _ _ h => h) (Or.inr ⟨by rfl, rfl⟩) (by assumption) ?_
    (try simp only [List.getElem_toArray, List.getElem_cons_succ, List.getElem_cons_zero, Act.put, List.setIfInBounds_toArray, List.set_cons_zero, List.set_cons_succ])
    refine wpAnyH_take (i := 12) (v := ?_) rfl (by kernel_rfl) (by kernel_rfl) (by kernel_rfl) (fun _ _ _ h => h) (Or.inl ⟨by rfl, ?hy⟩) (by assumption) ?_
    case hy => (intro w hSw; (try dsimp only at hSw); go_simp; try (with_reducible rfl))
    (try simp only [List.getElem_toArray, List.getElem_cons_succ, List.getElem_cons_zero, Act.put, List.setIfInBounds_toArray, List.set_cons_zero, List.set_cons_succ])
    refine wpAnyH_take (i := 13) (v := ?_) rfl (by kernel_rfl) (by kernel_rfl) (by kernel_rfl) (fun _ _ _ h => h) (Or.inl ⟨by rfl, ?hy⟩) (by assumption) ?_
    case hy => (intro w hSw; (try dsimp only at hSw); go_simp; try (with_reducible rfl))
    (try simp only [List.getElem_toArray, List.getElem_cons_succ, List.getElem_cons_zero, Act.put, List.setIfInBounds_toArray, List.set_cons_zero, List.set_cons_succ])
    refine wpAnyH_take (i := 14) (v := undef) rfl (by kernel_rfl) (by kernel_rfl) (by kernel_rfl) (fun _ _ _ h => h) (Or.inr ⟨by rfl, rfl⟩) (by assumption) ?_
    (try simp only [List.getElem_toArray, List.getElem_cons_succ, List.getElem_cons_zero, Act.put, List.setIfInBounds_toArray, List.set_cons_zero, List.set_cons_succ])
    refine wpAnyH_take (i := 15) (v := undef) rfl (by kernel_rfl) (by kernel_rfl) (by kernel_rfl) (fun _ _ _ h => h) (Or.inr ⟨by rfl, rfl⟩) (by assumption) ?_
    (try simp only [List.getElem_toArray, List.getElem_cons_succ, List.getElem_cons_zero, Act.put, List.setIfInBounds_toArray, List.set_cons_zero, List.set_cons_succ])
    refine wpAnyH_take (i := 16) (v := undef) rfl (by kernel_rfl) (by kernel_rfl) (by kernel_rfl) (fun _ _ _ h => h) (Or.inr ⟨by rfl, rfl⟩) (by assumption) ?_
    (try simp only [List.getElem_toArray, List.getElem_cons_succ, List.getElem_cons_zero, Act.put, List.setIfInBounds_toArray, List.set_cons_zero, List.set_cons_succ])
    refine wpAnyH_take (i := 17) (v := undef) rfl (by kernel_rfl) (by kernel_rfl) (by kernel_rfl) (fun _ _ _ h => h) (Or.inr ⟨by rfl, rfl⟩) (by assumption) ?_
    (try simp only [List.getElem_toArray, List.getElem_cons_succ, List.getElem_cons_zero, Act.put, List.setIfInBounds_toArray, List.set_cons_zero, List.set_cons_succ])
    refine wpAnyH_take (i := 18) (v := undef) rfl (by kernel_rfl) (by kernel_rfl) (by kernel_rfl) (fun _ _ _ h => h) (Or.inr ⟨by rfl, rfl⟩) (by assumption) ?_
    (try simp only [List.getElem_toArray, List.getElem_cons_succ, List.getElem_cons_zero, Act.put, List.setIfInBounds_toArray, List.set_cons_zero, List.set_cons_succ])
    refine wpAnyH_take (i := 19) (v := undef) rfl (by kernel_rfl) (by kernel_rfl) (by kernel_rfl) (fun _ _ _ h => h) (Or.inr ⟨by rfl, rfl⟩) (by assumption) ?_
    (try simp only [List.getElem_toArray, List.getElem_cons_succ, List.getElem_cons_zero, Act.put, List.setIfInBounds_toArray, List.set_cons_zero, List.set_cons_succ])
    refine wpAnyH_take (i := 20) (v := ?_) rfl (by kernel_rfl) (by kernel_rfl) (by kernel_rfl) (fun _ _ _ h => h) (Or.inl ⟨by rfl, ?hy⟩) (by assumption) ?_
    case hy => (intro w hSw; (try dsimp only at hSw); go_simp; try (with_reducible rfl))
    (try simp only [List.getElem_toArray, List.getElem_cons_succ, List.getElem_cons_zero, Act.put, List.setIfInBounds_toArray, List.set_cons_zero, List.set_cons_succ])
    refine wpAnyH_take (i := 21) (v := ?_) rfl (by kernel_rfl) (by kernel_rfl) (by kernel_rfl) (fun _ _ _ h => h) (Or.inl ⟨by rfl, ?hy⟩) (by assumption) ?_
    case hy => (intro w hSw; (try dsimp only at hSw); go_simp; try (with_reducible rfl))
    (try simp only [List.getElem_toArray, List.getElem_cons_succ, List.getElem_cons_zero, Act.put, List.setIfInBounds_toArray, List.set_cons_zero, List.set_cons_succ])
    (try simp only [List.getElem_toArray, List.getElem_cons_succ, List.getElem_cons_zero, Act.put, List.setIfInBounds_toArray, List.set_cons_zero, List.set_cons_succ])
    refine wpAnyH_done (by kernel_rfl) ?_ _
    refine NoPanic.normal ?_
    go_wp2
    go_ret
    exact ⟨by rw [hR.out]; rfl, fun l' h => (by rw [hR.out] at h; cases h), HG3.out.trans (gr_of g Bn)⟩
  | true =>
    by_cases hk : kn = kn'
    · subst hk
      cases RT with
      | none =>
        have hR := HNo.out (.inr (.inr (.inr rfl)))
        clear cEn cG cGn HYes HNo
        go_enter Tryz.func41, Tryz.ntmps41
        go_wp2_with fail
        refine wp_region_noPanic ?_
        refine wp_region_held_drew (S := fun w' => w'.cell? ⟨W.heap.size, 0, none⟩ = some (.int .i64 op) ∧ w'.cell? ⟨W.heap.size, 1, none⟩ = some (.string mp) ∧ w'.cell? ⟨W.heap.size, 2, none⟩ = some (.string zp) ∧ w'.cell? ⟨W.heap.size, 3, none⟩ = some (.slice ka kn kc) ∧ w'.cell? ⟨W.heap.size, 4, none⟩ = some (.slice a n c) ∧ w'.cell? ⟨W.heap.size + 1, 0, none⟩ = some (.int .i64 ot) ∧ w'.cell? ⟨W.heap.size + 1, 1, none⟩ = some (.string mt) ∧ w'.cell? ⟨W.heap.size + 1, 2, none⟩ = some (.string zt) ∧ w'.cell? ⟨W.heap.size + 1, 3, none⟩ = some (.slice ka' kn kc') ∧ w'.cell? ⟨W.heap.size + 1, 4, none⟩ = some (.slice a' n' c') ∧ w'.cell? ⟨W2.heap.size, 0, none⟩ = some (.func (.func 75) #[] #[.pointer (some ⟨bv, 0, none⟩), .pointer (some ⟨bm, 0, none⟩), .pointer (some ⟨bo, 0, none⟩)])) (by kernel_rfl) (by exact HQ.out _ (gr_of g Bd)) (fun hHeld => ?_)
        refine wpAnyH_take (i := 0) (v := ?_) rfl (by kernel_rfl) (by kernel_rfl) (by kernel_rfl) (fun _ _ _ h => h) (Or.inl ⟨by rfl, ?hy⟩) (by assumption) ?_
        case hy => (intro w hSw; (try dsimp only at hSw); go_simp; try (with_reducible rfl))
        (try simp only [List.getElem_toArray, List.getElem_cons_succ, List.getElem_cons_zero, Act.put, List.setIfInBounds_toArray, List.set_cons_zero, List.set_cons_succ])
        refine wpAnyH_take (i := 2) (v := ?_) rfl (by kernel_rfl) (by kernel_rfl) (by kernel_rfl) (fun _ _ _ h => h) (Or.inl ⟨by rfl, ?hy⟩) (by assumption) ?_
        case hy => (intro w hSw; (try dsimp only at hSw); go_simp; try (with_reducible rfl))
        (try simp only [List.getElem_toArray, List.getElem_cons_succ, List.getElem_cons_zero, Act.put, List.setIfInBounds_toArray, List.set_cons_zero, List.set_cons_succ])
        refine wpAnyH_ready (rs := [1]) (by kernel_rfl) (by simp) ?_
        refine AllReadyH.cons rfl (fun KK hKK => ?_) AllReadyH.nil
        go_simp
        (go_at_call 71; ((with_reducible refine (cB _ _ _ _ _ _ _ _ _ _).mono ?_); rintro e w4 ⟨rfl, hb4⟩; have Bn : Below W3.heap.size W3 w4 := bel_trans Bd hb4))
        refine hKK.out _ _ (by exact HQ.out _ (gr_of g Bn)) (fun hHeld => ?_)
        clear hKK KK
        (try simp only [List.getElem_toArray, List.getElem_cons_succ, List.getElem_cons_zero, Act.put, List.setIfInBounds_toArray, List.set_cons_zero, List.set_cons_succ])
        refine wpAnyH_ready (rs := [3]) (by kernel_rfl) (by simp) ?_
        refine AllReadyH.cons rfl (fun KK hKK => ?_) AllReadyH.nil
        go_simp
        (go_at_call 71; ((with_reducible refine (cB _ _ _ _ _ _ _ _ _ _).mono ?_); rintro e w4 ⟨rfl, hb4⟩; have Bn : Below W3.heap.size W3 w4 := bel_trans Bn hb4))
        refine hKK.out _ _ (by exact HQ.out _ (gr_of g Bn)) (fun hHeld => ?_)
        clear hKK KK
        (try simp only [List.getElem_toArray, List.getElem_cons_succ, List.getElem_cons_zero, Act.put, List.setIfInBounds_toArray, List.set_cons_zero, List.set_cons_succ])
        refine wpAnyH_ready (rs := [4]) (by kernel_rfl) (by simp) ?_
        refine AllReadyH.cons rfl (fun KK hKK => ?_) AllReadyH.nil
        go_simp
        (go_at_call 70; ((with_reducible refine (cS _).mono ?_); rintro e w5 ⟨rfl, hb5⟩; have Bn : Below W3.heap.size W3 w5 := bel_trans Bn hb5))
        refine hKK.out _ _ (by exact HQ.out _ (gr_of g Bn)) (fun hHeld => ?_)
        clear hKK KK
        (try simp only [List.getElem_toArray, List.getElem_cons_succ, List.getElem_cons_zero, Act.put, List.setIfInBounds_toArray, List.set_cons_zero, List.set_cons_succ])
        refine wpAnyH_take (i := 5) (v := ?_) rfl (by kernel_rfl) (by kernel_rfl) (by kernel_rfl) (fun _ _ _ h => h) (Or.inl ⟨by rfl, ?hy⟩) (by assumption) ?_
        case hy => (intro w hSw; (try dsimp only at hSw); go_simp; try (with_reducible rfl))
        (try simp only [List.getElem_toArray, List.getElem_cons_succ, List.getElem_cons_zero, Act.put, List.setIfInBounds_toArray, List.set_cons_zero, List.set_cons_succ])
        refine wpAnyH_take (i := 6) (v := ?_) rfl (by kernel_rfl) (by kernel_rfl) (by kernel_rfl) (fun _ _ _ h => h) (Or.inl ⟨by rfl, ?hy⟩) (by assumption) ?_
        case hy => (intro w hSw; (try dsimp only at hSw); go_simp; try (with_reducible rfl))
        (try simp only [List.getElem_toArray, List.getElem_cons_succ, List.getElem_cons_zero, Act.put, List.setIfInBounds_toArray, List.set_cons_zero, List.set_cons_succ])
        refine wpAnyH_take (i := 7) (v := ?_) rfl (by kernel_rfl) (by kernel_rfl) (by kernel_rfl) (fun _ _ _ h => h) (Or.inl ⟨by rfl, ?hy⟩) (by assumption) ?_
        case hy => (intro w hSw; (try dsimp only at hSw); go_simp; try (with_reducible rfl))
        (try simp only [List.getElem_toArray, List.getElem_cons_succ, List.getElem_cons_zero, Act.put, List.setIfInBounds_toArray, List.set_cons_zero, List.set_cons_succ])
        refine wpAnyH_take (i := 8) (v := ?_) rfl (by kernel_rfl) (by kernel_rfl) (by kernel_rfl) (fun _ _ _ h => h) (Or.inl ⟨by rfl, ?hy⟩) (by assumption) ?_
        case hy => (intro w hSw; (try dsimp only at hSw); go_simp; try (with_reducible rfl))
        (try simp only [List.getElem_toArray, List.getElem_cons_succ, List.getElem_cons_zero, Act.put, List.setIfInBounds_toArray, List.set_cons_zero, List.set_cons_succ])
        refine wpAnyH_take (i := 9) (v := ?_) rfl (by kernel_rfl) (by kernel_rfl) (by kernel_rfl) (fun _ _ _ h => h) (Or.inl ⟨by rfl, ?hy⟩) (by assumption) ?_
        case hy => (intro w hSw; (try dsimp only at hSw); go_simp; try (with_reducible rfl))
        (try simp only [List.getElem_toArray, List.getElem_cons_succ, List.getElem_cons_zero, Act.put, List.setIfInBounds_toArray, List.set_cons_zero, List.set_cons_succ])
        refine wpAnyH_take (i := 10) (v := ?_) rfl (by kernel_rfl) (by kernel_rfl) (by kernel_rfl) (fun _ _ _ h => h) (Or.inl ⟨by rfl, ?hy⟩) (by assumption) ?_
        case hy => (intro w hSw; (try dsimp only at hSw); go_simp; try (with_reducible rfl))
        (try simp only [List.getElem_toArray, List.getElem_cons_succ, List.getElem_cons_zero, Act.put, List.setIfInBounds_toArray, List.set_cons_zero, List.set_cons_succ])
        refine wpAnyH_ready (rs := [11]) (by kernel_rfl) (by simp) ?_
        refine AllReadyH.cons rfl (fun KK hKK => ?_) AllReadyH.nil
        go_simp
        (go_at_call 72; ((with_reducible refine (cE _ Bn (by trivial)).mono ?_); rintro e w6 ⟨rfl, hm6, hg6⟩; have Gn : W3.grownBy w6 (some g) := (gr_of g Bn).trans hg6; clear hm6))
        refine hKK.out _ _ (by exact HQ.out _ Gn) (fun hHeld => ?_)
        clear hKK KK
        (try simp only [List.getElem_toArray, List.getElem_cons_succ, List.getElem_cons_zero, Act.put, List.setIfInBounds_toArray, List.set_cons_zero, List.set_cons_succ])
        refine wpAnyH_take (i := 12) (v := ?_) rfl (by kernel_rfl) (by kernel_rfl) (by kernel_rfl) (fun _ _ _ h => h) (Or.inl ⟨by rfl, ?hy⟩) (by assumption) ?_
        case hy => (intro w hSw; (try dsimp only at hSw); go_simp; try (with_reducible rfl))
        (try simp only [List.getElem_toArray, List.getElem_cons_succ, List.getElem_cons_zero, Act.put, List.setIfInBounds_toArray, List.set_cons_zero, List.set_cons_succ])
        refine wpAnyH_take (i := 13) (v := ?_) rfl (by kernel_rfl) (by kernel_rfl) (by kernel_rfl) (fun _ _ _ h => h) (Or.inl ⟨by rfl, ?hy⟩) (by assumption) ?_
        case hy => (intro w hSw; (try dsimp only at hSw); go_simp; try (with_reducible rfl))
        (try simp only [List.getElem_toArray, List.getElem_cons_succ, List.getElem_cons_zero, Act.put, List.setIfInBounds_toArray, List.set_cons_zero, List.set_cons_succ])
        refine wpAnyH_take (i := 14) (v := undef) rfl (by kernel_rfl) (by kernel_rfl) (by kernel_rfl) (fun _ _ _ h => h) (Or.inr ⟨by rfl, rfl⟩) (by assumption) ?_
        (try simp only [List.getElem_toArray, List.getElem_cons_succ, List.getElem_cons_zero, Act.put, List.setIfInBounds_toArray, List.set_cons_zero, List.set_cons_succ])
        refine wpAnyH_take (i := 15) (v := undef) rfl (by kernel_rfl) (by kernel_rfl) (by kernel_rfl) (fun _ _ _ h => h) (Or.inr ⟨by rfl, rfl⟩) (by assumption) ?_
        (try simp only [List.getElem_toArray, List.getElem_cons_succ, List.getElem_cons_zero, Act.put, List.setIfInBounds_toArray, List.set_cons_zero, List.set_cons_succ])
        refine wpAnyH_take (i := 16) (v := undef) rfl (by kernel_rfl) (by kernel_rfl) (by kernel_rfl) (fun _ _ _ h => h) (Or.inr ⟨by rfl, rfl⟩) (by assumption) ?_
        (try simp only [List.getElem_toArray, List.getElem_cons_succ, List.getElem_cons_zero, Act.put, List.setIfInBounds_toArray, List.set_cons_zero, List.set_cons_succ])
        refine wpAnyH_take (i := 17) (v := undef) rfl (by kernel_rfl) (by kernel_rfl) (by kernel_rfl) (fun _ _ _ h => h) (Or.inr ⟨by rfl, rfl⟩) (by assumption) ?_
        (try simp only [List.getElem_toArray, List.getElem_cons_succ, List.getElem_cons_zero, Act.put, List.setIfInBounds_toArray, List.set_cons_zero, List.set_cons_succ])
        refine wpAnyH_take (i := 18) (v := undef) rfl (by kernel_rfl) (by kernel_rfl) (by kernel_rfl) (fun _ _ _ h => h) (Or.inr ⟨by rfl, rfl⟩) (by assumption) ?_
        (try simp only [List.getElem_toArray, List.getElem_cons_succ, List.getElem_cons_zero, Act.put, List.setIfInBounds_toArray, List.set_cons_zero, List.set_cons_succ])
        refine wpAnyH_take (i := 19) (v := undef) rfl (by kernel_rfl) (by kernel_rfl) (by kernel_rfl) (fun _ _ _ h => h) (Or.inr ⟨by rfl, rfl⟩) (by assumption) ?_
        (try simp only [List.getElem_toArray, List.getElem_cons_succ, List.getElem_cons_zero, Act.put, List.setIfInBounds_toArray, List.set_cons_zero, List.set_cons_succ])
        refine wpAnyH_take (i := 20) (v := ?_) rfl (by kernel_rfl) (by kernel_rfl) (by kernel_rfl) (fun _ _ _ h => h) (Or.inl ⟨by rfl, ?hy⟩) (by assumption) ?_
        case hy => (intro w hSw; (try dsimp only at hSw); go_simp; try (with_reducible rfl))
        (try simp only [List.getElem_toArray, List.getElem_cons_succ, List.getElem_cons_zero, Act.put, List.setIfInBounds_toArray, List.set_cons_zero, List.set_cons_succ])
        refine wpAnyH_take (i := 21) (v := ?_) rfl (by kernel_rfl) (by kernel_rfl) (by kernel_rfl) (fun _ _ _ h => h) (Or.inl ⟨by rfl, ?hy⟩) (by assumption) ?_
        case hy => (intro w hSw; (try dsimp only at hSw); go_simp; try (with_reducible rfl))
        (try simp only [List.getElem_toArray, List.getElem_cons_succ, List.getElem_cons_zero, Act.put, List.setIfInBounds_toArray, List.set_cons_zero, List.set_cons_succ])
        (try simp only [List.getElem_toArray, List.getElem_cons_succ, List.getElem_cons_zero, Act.put, List.setIfInBounds_toArray, List.set_cons_zero, List.set_cons_succ])
        refine wpAnyH_done (by kernel_rfl) ?_ _
        refine NoPanic.normal ?_
        go_wp2
        go_ret
        exact ⟨by rw [hR.out]; rfl, fun l' h => (by rw [hR.out] at h; cases h), HG3.out.trans Gn⟩
      | some l1 =>
        have hl1 := HLen.out l1 rfl
        by_cases hn : n = n'
        · subst hn
          have hR := HYes.out l1 rfl rfl rfl rfl
          clear cEn cGn HYes HNo
          go_enter Tryz.func41, Tryz.ntmps41
          go_wp2_with fail
          refine wp_region_noPanic ?_
          refine wp_region_held_drew (S := fun w' => w'.cell? ⟨W.heap.size, 0, none⟩ = some (.int .i64 op) ∧ w'.cell? ⟨W.heap.size, 1, none⟩ = some (.string mp) ∧ w'.cell? ⟨W.heap.size, 2, none⟩ = some (.string zp) ∧ w'.cell? ⟨W.heap.size, 3, none⟩ = some (.slice ka kn kc) ∧ w'.cell? ⟨W.heap.size, 4, none⟩ = some (.slice a n c) ∧ w'.cell? ⟨W.heap.size + 1, 0, none⟩ = some (.int .i64 ot) ∧ w'.cell? ⟨W.heap.size + 1, 1, none⟩ = some (.string mt) ∧ w'.cell? ⟨W.heap.size + 1, 2, none⟩ = some (.string zt) ∧ w'.cell? ⟨W.heap.size + 1, 3, none⟩ = some (.slice ka' kn kc') ∧ w'.cell? ⟨W.heap.size + 1, 4, none⟩ = some (.slice a' n c') ∧ w'.cell? ⟨W2.heap.size, 0, none⟩ = some (.func (.func 75) #[] #[.pointer (some ⟨bv, 0, none⟩), .pointer (some ⟨bm, 0, none⟩), .pointer (some ⟨bo, 0, none⟩)])) (by kernel_rfl) (by exact HQ.out _ (gr_of g Bd)) (fun hHeld => ?_)
          refine wpAnyH_take (i := 0) (v := ?_) rfl (by kernel_rfl) (by kernel_rfl) (by kernel_rfl) (fun _ _ _ h => h) (Or.inl ⟨by rfl, ?hy⟩) (by assumption) ?_
          case hy => (intro w hSw; (try dsimp only at hSw); go_simp; try (with_reducible rfl))
          (try simp only [List.getElem_toArray, List.getElem_cons_succ, List.getElem_cons_zero, Act.put, List.setIfInBounds_toArray, List.set_cons_zero, List.set_cons_succ])
          refine wpAnyH_take (i := 2) (v := ?_) rfl (by kernel_rfl) (by kernel_rfl) (by kernel_rfl) (fun _ _ _ h => h) (Or.inl ⟨by rfl, ?hy⟩) (by assumption) ?_
          case hy => (intro w hSw; (try dsimp only at hSw); go_simp; try (with_reducible rfl))
          (try simp only [List.getElem_toArray, List.getElem_cons_succ, List.getElem_cons_zero, Act.put, List.setIfInBounds_toArray, List.set_cons_zero, List.set_cons_succ])
          refine wpAnyH_ready (rs := [1]) (by kernel_rfl) (by simp) ?_
          refine AllReadyH.cons rfl (fun KK hKK => ?_) AllReadyH.nil
          go_simp
          (go_at_call 71; ((with_reducible refine (cB _ _ _ _ _ _ _ _ _ _).mono ?_); rintro e w4 ⟨rfl, hb4⟩; have Bn : Below W3.heap.size W3 w4 := bel_trans Bd hb4))
          refine hKK.out _ _ (by exact HQ.out _ (gr_of g Bn)) (fun hHeld => ?_)
          clear hKK KK
          (try simp only [List.getElem_toArray, List.getElem_cons_succ, List.getElem_cons_zero, Act.put, List.setIfInBounds_toArray, List.set_cons_zero, List.set_cons_succ])
          refine wpAnyH_ready (rs := [3]) (by kernel_rfl) (by simp) ?_
          refine AllReadyH.cons rfl (fun KK hKK => ?_) AllReadyH.nil
          go_simp
          (go_at_call 71; ((with_reducible refine (cB _ _ _ _ _ _ _ _ _ _).mono ?_); rintro e w4 ⟨rfl, hb4⟩; have Bn : Below W3.heap.size W3 w4 := bel_trans Bn hb4))
          refine hKK.out _ _ (by exact HQ.out _ (gr_of g Bn)) (fun hHeld => ?_)
          clear hKK KK
          (try simp only [List.getElem_toArray, List.getElem_cons_succ, List.getElem_cons_zero, Act.put, List.setIfInBounds_toArray, List.set_cons_zero, List.set_cons_succ])
          refine wpAnyH_ready (rs := [4]) (by kernel_rfl) (by simp) ?_
          refine AllReadyH.cons rfl (fun KK hKK => ?_) AllReadyH.nil
          go_simp
          (go_at_call 70; ((with_reducible refine (cS _).mono ?_); rintro e w5 ⟨rfl, hb5⟩; have Bn : Below W3.heap.size W3 w5 := bel_trans Bn hb5))
          refine hKK.out _ _ (by exact HQ.out _ (gr_of g Bn)) (fun hHeld => ?_)
          clear hKK KK
          (try simp only [List.getElem_toArray, List.getElem_cons_succ, List.getElem_cons_zero, Act.put, List.setIfInBounds_toArray, List.set_cons_zero, List.set_cons_succ])
          refine wpAnyH_take (i := 5) (v := ?_) rfl (by kernel_rfl) (by kernel_rfl) (by kernel_rfl) (fun _ _ _ h => h) (Or.inl ⟨by rfl, ?hy⟩) (by assumption) ?_
          case hy => (intro w hSw; (try dsimp only at hSw); go_simp; try (with_reducible rfl))
          (try simp only [List.getElem_toArray, List.getElem_cons_succ, List.getElem_cons_zero, Act.put, List.setIfInBounds_toArray, List.set_cons_zero, List.set_cons_succ])
          refine wpAnyH_take (i := 6) (v := ?_) rfl (by kernel_rfl) (by kernel_rfl) (by kernel_rfl) (fun _ _ _ h => h) (Or.inl ⟨by rfl, ?hy⟩) (by assumption) ?_
          case hy => (intro w hSw; (try dsimp only at hSw); go_simp; try (with_reducible rfl))
          (try simp only [List.getElem_toArray, List.getElem_cons_succ, List.getElem_cons_zero, Act.put, List.setIfInBounds_toArray, List.set_cons_zero, List.set_cons_succ])
          refine wpAnyH_take (i := 7) (v := ?_) rfl (by kernel_rfl) (by kernel_rfl) (by kernel_rfl) (fun _ _ _ h => h) (Or.inl ⟨by rfl, ?hy⟩) (by assumption) ?_
          case hy => (intro w hSw; (try dsimp only at hSw); go_simp; try (with_reducible rfl))
          (try simp only [List.getElem_toArray, List.getElem_cons_succ, List.getElem_cons_zero, Act.put, List.setIfInBounds_toArray, List.set_cons_zero, List.set_cons_succ])
          refine wpAnyH_take (i := 8) (v := ?_) rfl (by kernel_rfl) (by kernel_rfl) (by kernel_rfl) (fun _ _ _ h => h) (Or.inl ⟨by rfl, ?hy⟩) (by assumption) ?_
          case hy => (intro w hSw; (try dsimp only at hSw); go_simp; try (with_reducible rfl))
          (try simp only [List.getElem_toArray, List.getElem_cons_succ, List.getElem_cons_zero, Act.put, List.setIfInBounds_toArray, List.set_cons_zero, List.set_cons_succ])
          refine wpAnyH_take (i := 9) (v := ?_) rfl (by kernel_rfl) (by kernel_rfl) (by kernel_rfl) (fun _ _ _ h => h) (Or.inl ⟨by rfl, ?hy⟩) (by assumption) ?_
          case hy => (intro w hSw; (try dsimp only at hSw); go_simp; try (with_reducible rfl))
          (try simp only [List.getElem_toArray, List.getElem_cons_succ, List.getElem_cons_zero, Act.put, List.setIfInBounds_toArray, List.set_cons_zero, List.set_cons_succ])
          refine wpAnyH_take (i := 10) (v := ?_) rfl (by kernel_rfl) (by kernel_rfl) (by kernel_rfl) (fun _ _ _ h => h) (Or.inl ⟨by rfl, ?hy⟩) (by assumption) ?_
          case hy => (intro w hSw; (try dsimp only at hSw); go_simp; try (with_reducible rfl))
          (try simp only [List.getElem_toArray, List.getElem_cons_succ, List.getElem_cons_zero, Act.put, List.setIfInBounds_toArray, List.set_cons_zero, List.set_cons_succ])
          refine wpAnyH_ready (rs := [11]) (by kernel_rfl) (by simp) ?_
          refine AllReadyH.cons rfl (fun KK hKK => ?_) AllReadyH.nil
          go_simp
          (go_at_call 72; ((with_reducible refine (cE _ Bn (by trivial)).mono ?_); rintro e w6 ⟨rfl, hm6, hg6⟩; have Gn : W3.grownBy w6 (some g) := (gr_of g Bn).trans hg6; have HM6 := Lib.hid (hm6 l1 rfl); clear hm6))
          refine hKK.out _ _ (by exact HQ.out _ Gn) (fun hHeld => ?_)
          clear hKK KK
          (try simp only [List.getElem_toArray, List.getElem_cons_succ, List.getElem_cons_zero, Act.put, List.setIfInBounds_toArray, List.set_cons_zero, List.set_cons_succ])
          refine wpAnyH_take (i := 12) (v := ?_) rfl (by kernel_rfl) (by kernel_rfl) (by kernel_rfl) (fun _ _ _ h => h) (Or.inl ⟨by rfl, ?hy⟩) (by assumption) ?_
          case hy => (intro w hSw; (try dsimp only at hSw); go_simp; try (with_reducible rfl))
          (try simp only [List.getElem_toArray, List.getElem_cons_succ, List.getElem_cons_zero, Act.put, List.setIfInBounds_toArray, List.set_cons_zero, List.set_cons_succ])
          refine wpAnyH_take (i := 13) (v := ?_) rfl (by kernel_rfl) (by kernel_rfl) (by kernel_rfl) (fun _ _ _ h => h) (Or.inl ⟨by rfl, ?hy⟩) (by assumption) ?_
          case hy => (intro w hSw; (try dsimp only at hSw); go_simp; try (with_reducible rfl))
          (try simp only [List.getElem_toArray, List.getElem_cons_succ, List.getElem_cons_zero, Act.put, List.setIfInBounds_toArray, List.set_cons_zero, List.set_cons_succ])
          refine wpAnyH_take (i := 14) (v := ?_) rfl (by kernel_rfl) (by kernel_rfl) (by kernel_rfl) (fun _ _ _ h => h) (Or.inl ⟨by rfl, ?hy⟩) (by assumption) ?_
          case hy => (intro w hSw; (try dsimp only at hSw); go_simp; try (with_reducible rfl))
          (try simp only [List.getElem_toArray, List.getElem_cons_succ, List.getElem_cons_zero, Act.put, List.setIfInBounds_toArray, List.set_cons_zero, List.set_cons_succ])
          refine wpAnyH_take (i := 15) (v := ?_) rfl (by kernel_rfl) (by kernel_rfl) (by kernel_rfl) (fun _ _ _ h => h) (Or.inl ⟨by rfl, ?hy⟩) (by assumption) ?_
          case hy => (intro w hSw; (try dsimp only at hSw); go_simp; try (with_reducible rfl))
          (try simp only [List.getElem_toArray, List.getElem_cons_succ, List.getElem_cons_zero, Act.put, List.setIfInBounds_toArray, List.set_cons_zero, List.set_cons_succ])
          refine wpAnyH_take (i := 16) (v := ?_) rfl (by kernel_rfl) (by kernel_rfl) (by kernel_rfl) (fun _ _ _ h => h) (Or.inl ⟨by rfl, ?hy⟩) (by assumption) ?_
          case hy => (intro w hSw; (try dsimp only at hSw); go_simp; try (with_reducible rfl))
          (try simp only [List.getElem_toArray, List.getElem_cons_succ, List.getElem_cons_zero, Act.put, List.setIfInBounds_toArray, List.set_cons_zero, List.set_cons_succ])
          refine wpAnyH_take (i := 17) (v := ?_) rfl (by kernel_rfl) (by kernel_rfl) (by kernel_rfl) (fun _ _ _ h => h) (Or.inl ⟨by rfl, ?hy⟩) (by assumption) ?_
          case hy => (intro w hSw; (try dsimp only at hSw); go_simp; try (with_reducible rfl))
          (try simp only [List.getElem_toArray, List.getElem_cons_succ, List.getElem_cons_zero, Act.put, List.setIfInBounds_toArray, List.set_cons_zero, List.set_cons_succ])
          refine wpAnyH_take (i := 18) (v := ?_) rfl (by kernel_rfl) (by kernel_rfl) (by kernel_rfl) (fun _ _ _ h => h) (Or.inl ⟨by rfl, ?hy⟩) (by assumption) ?_
          case hy => (intro w hSw; (try dsimp only at hSw); go_simp; try (with_reducible rfl))
          (try simp only [List.getElem_toArray, List.getElem_cons_succ, List.getElem_cons_zero, Act.put, List.setIfInBounds_toArray, List.set_cons_zero, List.set_cons_succ])
          refine wpAnyH_ready (rs := [19]) (by kernel_rfl) (by simp) ?_
          refine AllReadyH.cons rfl (fun KK hKK => ?_) AllReadyH.nil
          go_simp
          (go_at_call 73; ((with_reducible refine (cG _ l1 Gn HM6.out hl1 (by trivial)).mono ?_); rintro e w7 ⟨rfl, hm7, hg7⟩; have Gn : W3.grownBy w7 (some g) := Gn.trans hg7; have HM7 := Lib.hid hm7; clear hm7))
          refine hKK.out _ _ (by exact HQ.out _ Gn) (fun hHeld => ?_)
          clear hKK KK
          (try simp only [List.getElem_toArray, List.getElem_cons_succ, List.getElem_cons_zero, Act.put, List.setIfInBounds_toArray, List.set_cons_zero, List.set_cons_succ])
          refine wpAnyH_take (i := 20) (v := ?_) rfl (by kernel_rfl) (by kernel_rfl) (by kernel_rfl) (fun _ _ _ h => h) (Or.inl ⟨by rfl, ?hy⟩) (by assumption) ?_
          case hy => (intro w hSw; (try dsimp only at hSw); go_simp; try (with_reducible rfl))
          (try simp only [List.getElem_toArray, List.getElem_cons_succ, List.getElem_cons_zero, Act.put, List.setIfInBounds_toArray, List.set_cons_zero, List.set_cons_succ])
          refine wpAnyH_take (i := 21) (v := ?_) rfl (by kernel_rfl) (by kernel_rfl) (by kernel_rfl) (fun _ _ _ h => h) (Or.inl ⟨by rfl, ?hy⟩) (by assumption) ?_
          case hy => (intro w hSw; (try dsimp only at hSw); go_simp; try (with_reducible rfl))
          (try simp only [List.getElem_toArray, List.getElem_cons_succ, List.getElem_cons_zero, Act.put, List.setIfInBounds_toArray, List.set_cons_zero, List.set_cons_succ])
          (try simp only [List.getElem_toArray, List.getElem_cons_succ, List.getElem_cons_zero, Act.put, List.setIfInBounds_toArray, List.set_cons_zero, List.set_cons_succ])
          refine wpAnyH_done (by kernel_rfl) ?_ _
          refine NoPanic.normal ?_
          go_wp2
          go_ret
          exact ⟨by rw [hR.out]; (try rfl), fun l' h => (by rw [hR.out] at h; exact HM7.out l' h), HG3.out.trans Gn⟩
        · have hR := HNo.out (.inr (.inr (.inl hn)))
          clear cEn cG HYes HNo
          go_enter Tryz.func41, Tryz.ntmps41
          go_wp2_with fail
          refine wp_region_noPanic ?_
          refine wp_region_held_drew (S := fun w' => w'.cell? ⟨W.heap.size, 0, none⟩ = some (.int .i64 op) ∧ w'.cell? ⟨W.heap.size, 1, none⟩ = some (.string mp) ∧ w'.cell? ⟨W.heap.size, 2, none⟩ = some (.string zp) ∧ w'.cell? ⟨W.heap.size, 3, none⟩ = some (.slice ka kn kc) ∧ w'.cell? ⟨W.heap.size, 4, none⟩ = some (.slice a n c) ∧ w'.cell? ⟨W.heap.size + 1, 0, none⟩ = some (.int .i64 ot) ∧ w'.cell? ⟨W.heap.size + 1, 1, none⟩ = some (.string mt) ∧ w'.cell? ⟨W.heap.size + 1, 2, none⟩ = some (.string zt) ∧ w'.cell? ⟨W.heap.size + 1, 3, none⟩ = some (.slice ka' kn kc') ∧ w'.cell? ⟨W.heap.size + 1, 4, none⟩ = some (.slice a' n' c') ∧ w'.cell? ⟨W2.heap.size, 0, none⟩ = some (.func (.func 75) #[] #[.pointer (some ⟨bv, 0, none⟩), .pointer (some ⟨bm, 0, none⟩), .pointer (some ⟨bo, 0, none⟩)])) (by kernel_rfl) (by exact HQ.out _ (gr_of g Bd)) (fun hHeld => ?_)
          refine wpAnyH_take (i := 0) (v := ?_) rfl (by kernel_rfl) (by kernel_rfl) (by kernel_rfl) (fun _ _ _ h => h) (Or.inl ⟨by rfl, ?hy⟩) (by assumption) ?_
          case hy => (intro w hSw; (try dsimp only at hSw); go_simp; try (with_reducible rfl))
          (try simp only [List.getElem_toArray, List.getElem_cons_succ, List.getElem_cons_zero, Act.put, List.setIfInBounds_toArray, List.set_cons_zero, List.set_cons_succ])
          refine wpAnyH_take (i := 2) (v := ?_) rfl (by kernel_rfl) (by kernel_rfl) (by kernel_rfl) (fun _ _ _ h => h) (Or.inl ⟨by rfl, ?hy⟩) (by assumption) ?_
          case hy => (intro w hSw; (try dsimp only at hSw); go_simp; try (with_reducible rfl))
          (try simp only [List.getElem_toArray, List.getElem_cons_succ, List.getElem_cons_zero, Act.put, List.setIfInBounds_toArray, List.set_cons_zero, List.set_cons_succ])
          refine wpAnyH_ready (rs := [1]) (by kernel_rfl) (by simp) ?_
          refine AllReadyH.cons rfl (fun KK hKK => ?_) AllReadyH.nil
          go_simp
          (go_at_call 71; ((with_reducible refine (cB _ _ _ _ _ _ _ _ _ _).mono ?_); rintro e w4 ⟨rfl, hb4⟩; have Bn : Below W3.heap.size W3 w4 := bel_trans Bd hb4))
          refine hKK.out _ _ (by exact HQ.out _ (gr_of g Bn)) (fun hHeld => ?_)
          clear hKK KK
          (try simp only [List.getElem_toArray, List.getElem_cons_succ, List.getElem_cons_zero, Act.put, List.setIfInBounds_toArray, List.set_cons_zero, List.set_cons_succ])
          refine wpAnyH_ready (rs := [3]) (by kernel_rfl) (by simp) ?_
          refine AllReadyH.cons rfl (fun KK hKK => ?_) AllReadyH.nil
          go_simp
          (go_at_call 71; ((with_reducible refine (cB _ _ _ _ _ _ _ _ _ _).mono ?_); rintro e w4 ⟨rfl, hb4⟩; have Bn : Below W3.heap.size W3 w4 := bel_trans Bn hb4))
          refine hKK.out _ _ (by exact HQ.out _ (gr_of g Bn)) (fun hHeld => ?_)
          clear hKK KK
          (try simp only [List.getElem_toArray, List.getElem_cons_succ, List.getElem_cons_zero, Act.put, List.setIfInBounds_toArray, List.set_cons_zero, List.set_cons_succ])
          refine wpAnyH_ready (rs := [4]) (by kernel_rfl) (by simp) ?_
          refine AllReadyH.cons rfl (fun KK hKK => ?_) AllReadyH.nil
          go_simp
          (go_at_call 70; ((with_reducible refine (cS _).mono ?_); rintro e w5 ⟨rfl, hb5⟩; have Bn : Below W3.heap.size W3 w5 := bel_trans Bn hb5))
          refine hKK.out _ _ (by exact HQ.out _ (gr_of g Bn)) (fun hHeld => ?_)
          clear hKK KK
          (try simp only [List.getElem_toArray, List.getElem_cons_succ, List.getElem_cons_zero, Act.put, List.setIfInBounds_toArray, List.set_cons_zero, List.set_cons_succ])
          refine wpAnyH_take (i := 5) (v := ?_) rfl (by kernel_rfl) (by kernel_rfl) (by kernel_rfl) (fun _ _ _ h => h) (Or.inl ⟨by rfl, ?hy⟩) (by assumption) ?_
          case hy => (intro w hSw; (try dsimp only at hSw); go_simp; try (with_reducible rfl))
          (try simp only [List.getElem_toArray, List.getElem_cons_succ, List.getElem_cons_zero, Act.put, List.setIfInBounds_toArray, List.set_cons_zero, List.set_cons_succ])
          refine wpAnyH_take (i := 6) (v := ?_) rfl (by kernel_rfl) (by kernel_rfl) (by kernel_rfl) (fun _ _ _ h => h) (Or.inl ⟨by rfl, ?hy⟩) (by assumption) ?_
          case hy => (intro w hSw; (try dsimp only at hSw); go_simp; try (with_reducible rfl))
          (try simp only [List.getElem_toArray, List.getElem_cons_succ, List.getElem_cons_zero, Act.put, List.setIfInBounds_toArray, List.set_cons_zero, List.set_cons_succ])
          refine wpAnyH_take (i := 7) (v := ?_) rfl (by kernel_rfl) (by kernel_rfl) (by kernel_rfl) (fun _ _ _ h => h) (Or.inl ⟨by rfl, ?hy⟩) (by assumption) ?_
          case hy => (intro w hSw; (try dsimp only at hSw); go_simp; try (with_reducible rfl))
          (try simp only [List.getElem_toArray, List.getElem_cons_succ, List.getElem_cons_zero, Act.put, List.setIfInBounds_toArray, List.set_cons_zero, List.set_cons_succ])
          refine wpAnyH_take (i := 8) (v := ?_) rfl (by kernel_rfl) (by kernel_rfl) (by kernel_rfl) (fun _ _ _ h => h) (Or.inl ⟨by rfl, ?hy⟩) (by assumption) ?_
          case hy => (intro w hSw; (try dsimp only at hSw); go_simp; try (with_reducible rfl))
          (try simp only [List.getElem_toArray, List.getElem_cons_succ, List.getElem_cons_zero, Act.put, List.setIfInBounds_toArray, List.set_cons_zero, List.set_cons_succ])
          refine wpAnyH_take (i := 9) (v := ?_) rfl (by kernel_rfl) (by kernel_rfl) (by kernel_rfl) (fun _ _ _ h => h) (Or.inl ⟨by rfl, ?hy⟩) (by assumption) ?_
          case hy => (intro w hSw; (try dsimp only at hSw); go_simp; try (with_reducible rfl))
          (try simp only [List.getElem_toArray, List.getElem_cons_succ, List.getElem_cons_zero, Act.put, List.setIfInBounds_toArray, List.set_cons_zero, List.set_cons_succ])
          refine wpAnyH_take (i := 10) (v := ?_) rfl (by kernel_rfl) (by kernel_rfl) (by kernel_rfl) (fun _ _ _ h => h) (Or.inl ⟨by rfl, ?hy⟩) (by assumption) ?_
          case hy => (intro w hSw; (try dsimp only at hSw); go_simp; try (with_reducible rfl))
          (try simp only [List.getElem_toArray, List.getElem_cons_succ, List.getElem_cons_zero, Act.put, List.setIfInBounds_toArray, List.set_cons_zero, List.set_cons_succ])
          refine wpAnyH_ready (rs := [11]) (by kernel_rfl) (by simp) ?_
          refine AllReadyH.cons rfl (fun KK hKK => ?_) AllReadyH.nil
          go_simp
          (go_at_call 72; ((with_reducible refine (cE _ Bn (by trivial)).mono ?_); rintro e w6 ⟨rfl, hm6, hg6⟩; have Gn : W3.grownBy w6 (some g) := (gr_of g Bn).trans hg6; have HM6 := Lib.hid (hm6 l1 rfl); clear hm6))
          refine hKK.out _ _ (by exact HQ.out _ Gn) (fun hHeld => ?_)
          clear hKK KK
          (try simp only [List.getElem_toArray, List.getElem_cons_succ, List.getElem_cons_zero, Act.put, List.setIfInBounds_toArray, List.set_cons_zero, List.set_cons_succ])
          refine wpAnyH_take (i := 12) (v := ?_) rfl (by kernel_rfl) (by kernel_rfl) (by kernel_rfl) (fun _ _ _ h => h) (Or.inl ⟨by rfl, ?hy⟩) (by assumption) ?_
          case hy => (intro w hSw; (try dsimp only at hSw); go_simp; try (with_reducible rfl))
          (try simp only [List.getElem_toArray, List.getElem_cons_succ, List.getElem_cons_zero, Act.put, List.setIfInBounds_toArray, List.set_cons_zero, List.set_cons_succ])
          refine wpAnyH_take (i := 13) (v := ?_) rfl (by kernel_rfl) (by kernel_rfl) (by kernel_rfl) (fun _ _ _ h => h) (Or.inl ⟨by rfl, ?hy⟩) (by assumption) ?_
          case hy => (intro w hSw; (try dsimp only at hSw); go_simp; try (with_reducible rfl))
          (try simp only [List.getElem_toArray, List.getElem_cons_succ, List.getElem_cons_zero, Act.put, List.setIfInBounds_toArray, List.set_cons_zero, List.set_cons_succ])
          refine wpAnyH_take (i := 14) (v := ?_) rfl (by kernel_rfl) (by kernel_rfl) (by kernel_rfl) (fun _ _ _ h => h) (Or.inl ⟨by rfl, ?hy⟩) (by assumption) ?_
          case hy => (intro w hSw; (try dsimp only at hSw); go_simp; try (with_reducible rfl))
          (try simp only [List.getElem_toArray, List.getElem_cons_succ, List.getElem_cons_zero, Act.put, List.setIfInBounds_toArray, List.set_cons_zero, List.set_cons_succ])
          refine wpAnyH_take (i := 15) (v := ?_) rfl (by kernel_rfl) (by kernel_rfl) (by kernel_rfl) (fun _ _ _ h => h) (Or.inl ⟨by rfl, ?hy⟩) (by assumption) ?_
          case hy => (intro w hSw; (try dsimp only at hSw); go_simp; try (with_reducible rfl))
          (try simp only [List.getElem_toArray, List.getElem_cons_succ, List.getElem_cons_zero, Act.put, List.setIfInBounds_toArray, List.set_cons_zero, List.set_cons_succ])
          refine wpAnyH_take (i := 16) (v := ?_) rfl (by kernel_rfl) (by kernel_rfl) (by kernel_rfl) (fun _ _ _ h => h) (Or.inl ⟨by rfl, ?hy⟩) (by assumption) ?_
          case hy => (intro w hSw; (try dsimp only at hSw); go_simp; try (with_reducible rfl))
          (try simp only [List.getElem_toArray, List.getElem_cons_succ, List.getElem_cons_zero, Act.put, List.setIfInBounds_toArray, List.set_cons_zero, List.set_cons_succ])
          refine wpAnyH_take (i := 17) (v := ?_) rfl (by kernel_rfl) (by kernel_rfl) (by kernel_rfl) (fun _ _ _ h => h) (Or.inl ⟨by rfl, ?hy⟩) (by assumption) ?_
          case hy => (intro w hSw; (try dsimp only at hSw); go_simp; try (with_reducible rfl))
          (try simp only [List.getElem_toArray, List.getElem_cons_succ, List.getElem_cons_zero, Act.put, List.setIfInBounds_toArray, List.set_cons_zero, List.set_cons_succ])
          refine wpAnyH_take (i := 18) (v := ?_) rfl (by kernel_rfl) (by kernel_rfl) (by kernel_rfl) (fun _ _ _ h => h) (Or.inl ⟨by rfl, ?hy⟩) (by assumption) ?_
          case hy => (intro w hSw; (try dsimp only at hSw); go_simp; try (with_reducible rfl))
          (try simp only [List.getElem_toArray, List.getElem_cons_succ, List.getElem_cons_zero, Act.put, List.setIfInBounds_toArray, List.set_cons_zero, List.set_cons_succ])
          refine wpAnyH_ready (rs := [19]) (by kernel_rfl) (by simp) ?_
          refine AllReadyH.cons rfl (fun KK hKK => ?_) AllReadyH.nil
          go_simp
          (go_at_call 73; ((with_reducible refine (cGn _ hn).mono ?_); rintro e w7 ⟨rfl, rfl⟩))
          refine hKK.out _ _ (by exact HQ.out _ Gn) (fun hHeld => ?_)
          clear hKK KK
          (try simp only [List.getElem_toArray, List.getElem_cons_succ, List.getElem_cons_zero, Act.put, List.setIfInBounds_toArray, List.set_cons_zero, List.set_cons_succ])
          refine wpAnyH_take (i := 20) (v := ?_) rfl (by kernel_rfl) (by kernel_rfl) (by kernel_rfl) (fun _ _ _ h => h) (Or.inl ⟨by rfl, ?hy⟩) (by assumption) ?_
          case hy => (intro w hSw; (try dsimp only at hSw); go_simp; try (with_reducible rfl))
          (try simp only [List.getElem_toArray, List.getElem_cons_succ, List.getElem_cons_zero, Act.put, List.setIfInBounds_toArray, List.set_cons_zero, List.set_cons_succ])
          refine wpAnyH_take (i := 21) (v := ?_) rfl (by kernel_rfl) (by kernel_rfl) (by kernel_rfl) (fun _ _ _ h => h) (Or.inl ⟨by rfl, ?hy⟩) (by assumption) ?_
          case hy => (intro w hSw; (try dsimp only at hSw); go_simp; try (with_reducible rfl))
          (try simp only [List.getElem_toArray, List.getElem_cons_succ, List.getElem_cons_zero, Act.put, List.setIfInBounds_toArray, List.set_cons_zero, List.set_cons_succ])
          (try simp only [List.getElem_toArray, List.getElem_cons_succ, List.getElem_cons_zero, Act.put, List.setIfInBounds_toArray, List.set_cons_zero, List.set_cons_succ])
          refine wpAnyH_done (by kernel_rfl) ?_ _
          refine NoPanic.normal ?_
          go_wp2
          go_ret
          exact ⟨by rw [hR.out]; rfl, fun l' h => (by rw [hR.out] at h; cases h), HG3.out.trans Gn⟩
    · have hR := HNo.out (.inr (.inl hk))
      clear cE cG cGn HYes HNo
      go_enter Tryz.func41, Tryz.ntmps41
      go_wp2_with fail
      refine wp_region_noPanic ?_
      refine wp_region_held_drew (S := fun w' => w'.cell? ⟨W.heap.size, 0, none⟩ = some (.int .i64 op) ∧ w'.cell? ⟨W.heap.size, 1, none⟩ = some (.string mp) ∧ w'.cell? ⟨W.heap.size, 2, none⟩ = some (.string zp) ∧ w'.cell? ⟨W.heap.size, 3, none⟩ = some (.slice ka kn kc) ∧ w'.cell? ⟨W.heap.size, 4, none⟩ = some (.slice a n c) ∧ w'.cell? ⟨W.heap.size + 1, 0, none⟩ = some (.int .i64 ot) ∧ w'.cell? ⟨W.heap.size + 1, 1, none⟩ = some (.string mt) ∧ w'.cell? ⟨W.heap.size + 1, 2, none⟩ = some (.string zt) ∧ w'.cell? ⟨W.heap.size + 1, 3, none⟩ = some (.slice ka' kn' kc') ∧ w'.cell? ⟨W.heap.size + 1, 4, none⟩ = some (.slice a' n' c') ∧ w'.cell? ⟨W2.heap.size, 0, none⟩ = some (.func (.func 75) #[] #[.pointer (some ⟨bv, 0, none⟩), .pointer (some ⟨bm, 0, none⟩), .pointer (some ⟨bo, 0, none⟩)])) (by kernel_rfl) (by exact HQ.out _ (gr_of g Bd)) (fun hHeld => ?_)
      refine wpAnyH_take (i := 0) (v := ?_) rfl (by kernel_rfl) (by kernel_rfl) (by kernel_rfl) (fun _ _ _ h => h) (Or.inl ⟨by rfl, ?hy⟩) (by assumption) ?_
      case hy => (intro w hSw; (try dsimp only at hSw); go_simp; try (with_reducible rfl))
      (try simp only [List.getElem_toArray, List.getElem_cons_succ, List.getElem_cons_zero, Act.put, List.setIfInBounds_toArray, List.set_cons_zero, List.set_cons_succ])
      refine wpAnyH_take (i := 2) (v := ?_) rfl (by kernel_rfl) (by kernel_rfl) (by kernel_rfl) (fun _ _ _ h => h) (Or.inl ⟨by rfl, ?hy⟩) (by assumption) ?_
      case hy => (intro w hSw; (try dsimp only at hSw); go_simp; try (with_reducible rfl))
      (try simp only [List.getElem_toArray, List.getElem_cons_succ, List.getElem_cons_zero, Act.put, List.setIfInBounds_toArray, List.set_cons_zero, List.set_cons_succ])
      refine wpAnyH_ready (rs := [1]) (by kernel_rfl) (by simp) ?_
      refine AllReadyH.cons rfl (fun KK hKK => ?_) AllReadyH.nil
      go_simp
      (go_at_call 71; ((with_reducible refine (cB _ _ _ _ _ _ _ _ _ _).mono ?_); rintro e w4 ⟨rfl, hb4⟩; have Bn : Below W3.heap.size W3 w4 := bel_trans Bd hb4))
      refine hKK.out _ _ (by exact HQ.out _ (gr_of g Bn)) (fun hHeld => ?_)
      clear hKK KK
      (try simp only [List.getElem_toArray, List.getElem_cons_succ, List.getElem_cons_zero, Act.put, List.setIfInBounds_toArray, List.set_cons_zero, List.set_cons_succ])
      refine wpAnyH_ready (rs := [3]) (by kernel_rfl) (by simp) ?_
      refine AllReadyH.cons rfl (fun KK hKK => ?_) AllReadyH.nil
      go_simp
      (go_at_call 71; ((with_reducible refine (cB _ _ _ _ _ _ _ _ _ _).mono ?_); rintro e w4 ⟨rfl, hb4⟩; have Bn : Below W3.heap.size W3 w4 := bel_trans Bn hb4))
      refine hKK.out _ _ (by exact HQ.out _ (gr_of g Bn)) (fun hHeld => ?_)
      clear hKK KK
      (try simp only [List.getElem_toArray, List.getElem_cons_succ, List.getElem_cons_zero, Act.put, List.setIfInBounds_toArray, List.set_cons_zero, List.set_cons_succ])
      refine wpAnyH_ready (rs := [4]) (by kernel_rfl) (by simp) ?_
      refine AllReadyH.cons rfl (fun KK hKK => ?_) AllReadyH.nil
      go_simp
      (go_at_call 70; ((with_reducible refine (cS _).mono ?_); rintro e w5 ⟨rfl, hb5⟩; have Bn : Below W3.heap.size W3 w5 := bel_trans Bn hb5))
      refine hKK.out _ _ (by exact HQ.out _ (gr_of g Bn)) (fun hHeld => ?_)
      clear hKK KK
      (try simp only [List.getElem_toArray, List.getElem_cons_succ, List.getElem_cons_zero, Act.put, List.setIfInBounds_toArray, List.set_cons_zero, List.set_cons_succ])
      refine wpAnyH_take (i := 5) (v := ?_) rfl (by kernel_rfl) (by kernel_rfl) (by kernel_rfl) (fun _ _ _ h => h) (Or.inl ⟨by rfl, ?hy⟩) (by assumption) ?_
      case hy => (intro w hSw; (try dsimp only at hSw); go_simp; try (with_reducible rfl))
      (try simp only [List.getElem_toArray, List.getElem_cons_succ, List.getElem_cons_zero, Act.put, List.setIfInBounds_toArray, List.set_cons_zero, List.set_cons_succ])
      refine wpAnyH_take (i := 6) (v := ?_) rfl (by kernel_rfl) (by kernel_rfl) (by kernel_rfl) (fun _ _ _ h => h) (Or.inl ⟨by rfl, ?hy⟩) (by assumption) ?_
      case hy => (intro w hSw; (try dsimp only at hSw); go_simp; try (with_reducible rfl))
      (try simp only [List.getElem_toArray, List.getElem_cons_succ, List.getElem_cons_zero, Act.put, List.setIfInBounds_toArray, List.set_cons_zero, List.set_cons_succ])
      refine wpAnyH_take (i := 7) (v := ?_) rfl (by kernel_rfl) (by kernel_rfl) (by kernel_rfl) (fun _ _ _ h => h) (Or.inl ⟨by rfl, ?hy⟩) (by assumption) ?_
      case hy => (intro w hSw; (try dsimp only at hSw); go_simp; try (with_reducible rfl))
      (try simp only [List.getElem_toArray, List.getElem_cons_succ, List.getElem_cons_zero, Act.put, List.setIfInBounds_toArray, List.set_cons_zero, List.set_cons_succ])
      refine wpAnyH_take (i := 8) (v := ?_) rfl (by kernel_rfl) (by kernel_rfl) (by kernel_rfl) (fun _ _ _ h => h) (Or.inl ⟨by rfl, ?hy⟩) (by assumption) ?_
      case hy => (intro w hSw; (try dsimp only at hSw); go_simp; try (with_reducible rfl))
      (try simp only [List.getElem_toArray, List.getElem_cons_succ, List.getElem_cons_zero, Act.put, List.setIfInBounds_toArray, List.set_cons_zero, List.set_cons_succ])
      refine wpAnyH_take (i := 9) (v := ?_) rfl (by kernel_rfl) (by kernel_rfl) (by kernel_rfl) (fun _ _ _ h => h) (Or.inl ⟨by rfl, ?hy⟩) (by assumption) ?_
      case hy => (intro w hSw; (try dsimp only at hSw); go_simp; try (with_reducible rfl))
      (try simp only [List.getElem_toArray, List.getElem_cons_succ, List.getElem_cons_zero, Act.put, List.setIfInBounds_toArray, List.set_cons_zero, List.set_cons_succ])
      refine wpAnyH_take (i := 10) (v := ?_) rfl (by kernel_rfl) (by kernel_rfl) (by kernel_rfl) (fun _ _ _ h => h) (Or.inl ⟨by rfl, ?hy⟩) (by assumption) ?_
      case hy => (intro w hSw; (try dsimp only at hSw); go_simp; try (with_reducible rfl))
      (try simp only [List.getElem_toArray, List.getElem_cons_succ, List.getElem_cons_zero, Act.put, List.setIfInBounds_toArray, List.set_cons_zero, List.set_cons_succ])
      refine wpAnyH_ready (rs := [11]) (by kernel_rfl) (by simp) ?_
      refine AllReadyH.cons rfl (fun KK hKK => ?_) AllReadyH.nil
      go_simp
      (go_at_call 72; ((with_reducible refine (cEn _ hk).mono ?_); rintro e w6 ⟨rfl, rfl⟩))
      refine hKK.out _ _ (by exact HQ.out _ (gr_of g Bn)) (fun hHeld => ?_)
      clear hKK KK
      (try simp only [List.getElem_toArray, List.getElem_cons_succ, List.getElem_cons_zero, Act.put, List.setIfInBounds_toArray, List.set_cons_zero, List.set_cons_succ])
      refine wpAnyH_take (i := 12) (v := ?_) rfl (by kernel_rfl) (by kernel_rfl) (by kernel_rfl) (fun _ _ _ h => h) (Or.inl ⟨by rfl, ?hy⟩) (by assumption) ?_
      case hy => (intro w hSw; (try dsimp only at hSw); go_simp; try (with_reducible rfl))
      (try simp only [List.getElem_toArray, List.getElem_cons_succ, List.getElem_cons_zero, Act.put, List.setIfInBounds_toArray, List.set_cons_zero, List.set_cons_succ])
      refine wpAnyH_take (i := 13) (v := ?_) rfl (by kernel_rfl) (by kernel_rfl) (by kernel_rfl) (fun _ _ _ h => h) (Or.inl ⟨by rfl, ?hy⟩) (by assumption) ?_
      case hy => (intro w hSw; (try dsimp only at hSw); go_simp; try (with_reducible rfl))
      (try simp only [List.getElem_toArray, List.getElem_cons_succ, List.getElem_cons_zero, Act.put, List.setIfInBounds_toArray, List.set_cons_zero, List.set_cons_succ])
      refine wpAnyH_take (i := 14) (v := undef) rfl (by kernel_rfl) (by kernel_rfl) (by kernel_rfl) (fun _ _ _ h => h) (Or.inr ⟨by rfl, rfl⟩) (by assumption) ?_
      (try simp only [List.getElem_toArray, List.getElem_cons_succ, List.getElem_cons_zero, Act.put, List.setIfInBounds_toArray, List.set_cons_zero, List.set_cons_succ])
      refine wpAnyH_take (i := 15) (v := undef) rfl (by kernel_rfl) (by kernel_rfl) (by kernel_rfl) (fun _ _ _ h => h) (Or.inr ⟨by rfl, rfl⟩) (by assumption) ?_
      (try simp only [List.getElem_toArray, List.getElem_cons_succ, List.getElem_cons_zero, Act.put, List.setIfInBounds_toArray, List.set_cons_zero, List.set_cons_succ])
      refine wpAnyH_take (i := 16) (v := undef) rfl (by kernel_rfl) (by kernel_rfl) (by kernel_rfl) (fun _ _ _ h => h) (Or.inr ⟨by rfl, rfl⟩) (by assumption) ?_
      (try simp only [List.getElem_toArray, List.getElem_cons_succ, List.getElem_cons_zero, Act.put, List.setIfInBounds_toArray, List.set_cons_zero, List.set_cons_succ])
      refine wpAnyH_take (i := 17) (v := undef) rfl (by kernel_rfl) (by kernel_rfl) (by kernel_rfl) (fun _ _ _ h => h) (Or.inr ⟨by rfl, rfl⟩) (by assumption) ?_
      (try simp only [List.getElem_toArray, List.getElem_cons_succ, List.getElem_cons_zero, Act.put, List.setIfInBounds_toArray, List.set_cons_zero, List.set_cons_succ])
      refine wpAnyH_take (i := 18) (v := undef) rfl (by kernel_rfl) (by kernel_rfl) (by kernel_rfl) (fun _ _ _ h => h) (Or.inr ⟨by rfl, rfl⟩) (by assumption) ?_
      (try simp only [List.getElem_toArray, List.getElem_cons_succ, List.getElem_cons_zero, Act.put, List.setIfInBounds_toArray, List.set_cons_zero, List.set_cons_succ])
      refine wpAnyH_take (i := 19) (v := undef) rfl (by kernel_rfl) (by kernel_rfl) (by kernel_rfl) (fun _ _ _ h => h) (Or.inr ⟨by rfl, rfl⟩) (by assumption) ?_
      (try simp only [List.getElem_toArray, List.getElem_cons_succ, List.getElem_cons_zero, Act.put, List.setIfInBounds_toArray, List.set_cons_zero, List.set_cons_succ])
      refine wpAnyH_take (i := 20) (v := ?_) rfl (by kernel_rfl) (by kernel_rfl) (by kernel_rfl) (fun _ _ _ h => h) (Or.inl ⟨by rfl, ?hy⟩) (by assumption) ?_
      case hy => (intro w hSw; (try dsimp only at hSw); go_simp; try (with_reducible rfl))
      (try simp only [List.getElem_toArray, List.getElem_cons_succ, List.getElem_cons_zero, Act.put, List.setIfInBounds_toArray, List.set_cons_zero, List.set_cons_succ])
      refine wpAnyH_take (i := 21) (v := ?_) rfl (by kernel_rfl) (by kernel_rfl) (by kernel_rfl) (fun _ _ _ h => h) (Or.inl ⟨by rfl, ?hy⟩) (by assumption) ?_
      case hy => (intro w hSw; (try dsimp only at hSw); go_simp; try (with_reducible rfl))
      (try simp only [List.getElem_toArray, List.getElem_cons_succ, List.getElem_cons_zero, Act.put, List.setIfInBounds_toArray, List.set_cons_zero, List.set_cons_succ])
      (try simp only [List.getElem_toArray, List.getElem_cons_succ, List.getElem_cons_zero, Act.put, List.setIfInBounds_toArray, List.set_cons_zero, List.set_cons_succ])
      refine wpAnyH_done (by kernel_rfl) ?_ _
      refine NoPanic.normal ?_
      go_wp2
      go_ret
      exact ⟨by rw [hR.out]; rfl, fun l' h => (by rw [hR.out] at h; cases h), HG3.out.trans (gr_of g Bn)⟩
theorem fits_any (X : List ByteArray) (p : Cl) : FcOk X p := Cl.ind (fits_step X) p
set_option maxRecDepth 100000 in
set_option maxHeartbeats 16000000 in
theorem ClaimM_any (X : List ByteArray) (p t : Cl) (k : SS) (a : Option Addr) (n c : Nat) (k' : SS) (a' : Option Addr) (n' c' : Nat) (aX : Option Addr) (nX cX : Nat) (w : World) (hP : ArWC w p k a n c) (hsp : smC p) (hzp : wt p ≤ 4096) (hT : ArWC w t k' a' n' c') (hzt : wt t ≤ 4096) (hX : IsS w aX nX X) (hnX : nX ≤ 1000000) (hsX : ∀ x ∈ X, x.size ≤ maxLen) :
    Calls Tryz.prog 17 #[.agg #[.int .i64 (opC p), .string (nmC p), .string (soC p), .slice k.a k.n k.c, .slice a n c], .agg #[.int .i64 (opC t), .string (nmC t), .string (soC t), .slice k'.a k'.n k'.c, .slice a' n' c'], .slice aX nX cX] w fun e w' => RtPs (matC X p [] t) w e w' := by
  obtain ⟨W2, hW2, hB2, hs2, S2, T2⟩ := cbox2 w (opC p) (nmC p) (soC p) k a n c (opC t) (nmC t) (soC t) k' a' n' c'
  have hmm := @run_makeMap Tryz.prog
  obtain ⟨wr, hwr⟩ : ∃ wr, W2.alloc (.map #[] 0) = wr := ⟨_, rfl⟩
  have Bw : Below W2.heap.size W2 wr := by rw [← hwr]; exact bel_alloc (Below.refl _ _) _
  have HMl := Lib.hid (show MapM W2.heap.size wr W2.heap.size [] from by rw [← hwr]; exact MapM.made W2.heap.size W2)
  have hgw : W2.heap.size < wr.heap.size := HMl.out.lt
  have HGood := Lib.hid (show ∀ l', matC X p [] t = some l' → good 4096 l' ∧ l'.length ≤ 10000 from fun l' h => ⟨matC_good 4096 X p [] t l' h hsp hzt ⟨trivial, fun q hq => by cases hq⟩, by have := matC_len X p [] t l' h; simp at this; omega⟩)
  have HSt := Lib.hid (show ∀ w', Below W2.heap.size W2 w' → _ from fun w' h => setOf_any X aX nX cX w' ((hX.below hB2).below h) hnX hsX)
  have HFi := Lib.hid (show ∀ (bv bm bo gs : Nat) (W' : World), Below W2.heap.size W2 W' → Ctx W2.heap.size X bv bm bo gs W2.heap.size W' → MapM W2.heap.size W' W2.heap.size [] → _ from fun bv bm bo gs W' hb hC hM => fits_any X p W2.heap.size bv bm bo gs W2.heap.size [] t k a n c k' a' n' c' W' hC hM (by simp; omega) hsp hzt (ArC.bel hb _ (ArWC.b hP hB2)) (ArC.bel hb _ (ArWC.b hT hB2)))
  have HPr := Lib.hid (show ∀ (l' : List Pr) (W' : World), matC X p [] t = some l' → MapM W2.heap.size W' W2.heap.size l' → W2.heap.size ≤ W'.heap.size → _ from fun l' W' h hM hB => pairs_any l' (rises_pair (HGood.out l' h).1.1) (fun q hq => ⟨by have := ((HGood.out l' h).1.2 q hq).1; omega, ((HGood.out l' h).1.2 q hq).2⟩) W2.heap.size W2.heap.size W' (by have := (HGood.out l' h).2; omega) hM hB)
  have HS := Lib.hid S2
  have HT2 := Lib.hid T2
  have HQ := Lib.hid (show ∀ (w' : World), Below W2.heap.size W2 w' → w'.cell? ⟨w.heap.size, 0, none⟩ = some (.int .i64 (opC p)) ∧ w'.cell? ⟨w.heap.size, 1, none⟩ = some (.string (nmC p)) ∧ w'.cell? ⟨w.heap.size, 2, none⟩ = some (.string (soC p)) ∧ w'.cell? ⟨w.heap.size, 3, none⟩ = some (.slice k.a k.n k.c) ∧ w'.cell? ⟨w.heap.size, 4, none⟩ = some (.slice a n c) ∧ w'.cell? ⟨w.heap.size + 1, 0, none⟩ = some (.int .i64 (opC t)) ∧ w'.cell? ⟨w.heap.size + 1, 1, none⟩ = some (.string (nmC t)) ∧ w'.cell? ⟨w.heap.size + 1, 2, none⟩ = some (.string (soC t)) ∧ w'.cell? ⟨w.heap.size + 1, 3, none⟩ = some (.slice k'.a k'.n k'.c) ∧ w'.cell? ⟨w.heap.size + 1, 4, none⟩ = some (.slice a' n' c') from fun w' h => (by
    obtain ⟨q0, q1, q2, q3, q4⟩ := (CBox.b HS.out h).five
    obtain ⟨r0, r1, r2, r3, r4⟩ := (CBox.b HT2.out h).five
    exact ⟨q0, q1, q2, q3, q4, r0, r1, r2, r3, r4⟩))
  obtain ⟨ka, kn, kc⟩ := k
  obtain ⟨ka', kn', kc'⟩ := k'
  dsimp only at *
  unfold clo at HFi
  unfold RtM at HFi
  clear hP hT hX S2 T2 hs2 hsp hzp hzt hsX HGood HS HT2
  generalize matC X p [] t = R at *
  generalize opC p = op at *
  generalize nmC p = mp at *
  generalize soC p = zp at *
  generalize opC t = ot at *
  generalize nmC t = mt at *
  generalize soC t = zt at *
  obtain ⟨k0, k1, k2, k3, k4, k5, k6, k7, k8, k9⟩ := HQ.out wr Bw
  go_enter Tryz.func17, Tryz.ntmps17
  go_wp2_with fail
  go_region_held3 (fun w' => w'.cell? ⟨w.heap.size, 0, none⟩ = some (.int .i64 op) ∧ w'.cell? ⟨w.heap.size, 1, none⟩ = some (.string mp) ∧ w'.cell? ⟨w.heap.size, 2, none⟩ = some (.string zp) ∧ w'.cell? ⟨w.heap.size, 3, none⟩ = some (.slice ka kn kc) ∧ w'.cell? ⟨w.heap.size, 4, none⟩ = some (.slice a n c) ∧ w'.cell? ⟨w.heap.size + 1, 0, none⟩ = some (.int .i64 ot) ∧ w'.cell? ⟨w.heap.size + 1, 1, none⟩ = some (.string mt) ∧ w'.cell? ⟨w.heap.size + 1, 2, none⟩ = some (.string zt) ∧ w'.cell? ⟨w.heap.size + 1, 3, none⟩ = some (.slice ka' kn' kc') ∧ w'.cell? ⟨w.heap.size + 1, 4, none⟩ = some (.slice a' n' c'))
    (first | (exact HQ.out _ (by first | assumption | exact Below.drew (by assumption) | exact Below.refl _ _ | exact (Below.refl _ _).drew)) | go_keep)
    (first
      | (go_at_call 43; ((with_reducible refine (HSt.out _ (by first | assumption | exact Below.drew (by assumption) | exact Below.refl _ _ | exact (Below.refl _ _).drew)).mono ?_); rintro e w7 ⟨rfl, hS7, hb7⟩; have Bn : Below W2.heap.size W2 w7 := bel_trans (a := W2) (by first | assumption | exact Below.drew (by assumption) | exact Below.refl _ _ | exact (Below.refl _ _).drew) hb7; have HS7 := Lib.hid (show SetM w7 wr.heap.size X from hS7); have HM7 := Lib.hid (show MapM W2.heap.size w7 W2.heap.size [] from (MapM.b (by first | exact HMl.out | exact HMl.out.b (Nat.le_of_lt hgw) (Below.refl _ _).drew) (by exact Nat.le_of_lt hgw) hb7)); have hg7 : W2.heap.size < w7.heap.size := Nat.lt_of_lt_of_le hgw hb7.size; clear hS7))
      | (go_at_call 42; ((with_reducible refine (matcher_clo W2.heap.size X W2.heap.size _ _ (by first | exact HS7.out | exact HS7.out.b (Below.refl _ _).drew) (Nat.ne_of_gt hgw) hg7 (Nat.le_refl _)).mono ?_); rintro e w8 ⟨rfl, hC8, hb8⟩; have Bn : Below W2.heap.size W2 w8 := bel_trans (a := W2) (by first | assumption | exact Below.drew (by assumption) | exact Below.refl _ _ | exact (Below.refl _ _).drew) hb8; have HC8 := Lib.hid hC8; have HM8 := Lib.hid (show MapM W2.heap.size w8 W2.heap.size [] from (MapM.b (by first | exact HM7.out | exact HM7.out.b (Nat.le_of_lt hg7) (Below.refl _ _).drew) (by exact Nat.le_of_lt hg7) hb8)); have hg8 : W2.heap.size < w8.heap.size := Nat.lt_of_lt_of_le hg7 hb8.size; clear hC8))
      | (go_at_call 41; ((with_reducible refine (HFi.out _ _ _ _ _ (by first | assumption | exact Below.drew (by assumption) | exact Below.refl _ _ | exact (Below.refl _ _).drew) (by first | exact HC8.out | exact HC8.out.kept (gr_of _ (Below.refl _ _).drew)) (by first | exact HM8.out | exact HM8.out.b (Nat.le_of_lt hg8) (Below.refl _ _).drew)).mono ?_); rintro e w9 ⟨rfl, hm9, hg9⟩; have Bn : Below W2.heap.size W2 w9 := (show Below W2.heap.size W2 _ from (by first | assumption | exact Below.drew (by assumption) | exact Below.refl _ _ | exact (Below.refl _ _).drew)).grown hg9 (by exact Nat.le_of_lt hg8) (fun q hq => by injection hq with hq; omega); have Hm9 := Lib.hid hm9; have hB9 : W2.heap.size ≤ w9.heap.size := Nat.le_trans (Nat.le_of_lt hg8) hg9.size; clear hm9)))
  all_goals (
    cases R with
    | none =>
      go_wp2
      go_ret2
      exact ⟨none, 0, 0, rfl, UsW.nil _, bel_trans hB2 Bn⟩
    | some l' =>
      have cP := HPr.out l' w9 rfl (Hm9.out l' rfl) hB9
      go_wp2_with (go_at_call 44; ((with_reducible refine cP.mono ?_); rintro e w10 ⟨A10, C10, rfl, hU10, hb10⟩; have HU10 := Lib.hid hU10; clear hU10))
      go_ret2
      exact ⟨_, _, _, rfl, HU10.out, bel_trans hB2 (bel_trans Bn hb10)⟩)
end Go.Proofs.YtnhemglpbhnmdaaGreat.Mt
