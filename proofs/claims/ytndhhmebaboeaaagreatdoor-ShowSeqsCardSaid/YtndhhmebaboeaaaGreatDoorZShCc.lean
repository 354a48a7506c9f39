/-
  What is proved: the texts of claims of a binder, by a scope.
-/
import Derived.Test.YtndhhmebaboeaaaGreatDoorZShCb
import Derived.Deep.Cut
import Derived.Deep.CutRange
namespace Go.Proofs.YtndhhmebaboeaaaGreatDoor.Sh
open Go.RowKit L T C
set_option linter.unusedVariables false
set_option linter.unusedSimpArgs false
set_option maxRecDepth 100000

set_option maxHeartbeats 8000000 in
theorem claim_bind11 {W : World} (E : Env W) {fr bs : List ByteArray} (hb : shB bs) (hf : ∀ x ∈ fr ++ bs, x.size ≤ maxLen) (hfl : (fr ++ bs).length ≤ 1000000) (x : Cl) (hx : ClaimOk W fr x) (hl : bs.length + 1 + wt x ≤ 10000) (s so : ByteArray)
    (z : Sv) (m : Int) (ks : SS) (a : Option Addr) (n c : Nat) (w : World) (hw : Below W.heap.size W w) (hz : z.ok w fr bs) (hs : s.size ≤ 100) (hso : so.size ≤ 100) (hC : CsW w a n c [x]) (hsx : (cT fr x (bs ++ [(bname (fr ++ bs) s)]) 5 false).size ≤ 1000000000) (m0 : decide ((0 : Int) > m) = false) :
    Calls Tryz.prog 39 #[z.val, .agg #[.int .i64 11, .string s, .string so, .slice ks.a ks.n ks.c, .slice a n c], .int .i64 m, .bool false] w fun e w' => e = .returned (.string (⟨#[33]⟩ ++ (((bname (fr ++ bs) s) ++ (⟨#[58, 32]⟩ ++ so)) ++ (⟨#[46, 32]⟩ ++ cT fr x (bs ++ [(bname (fr ++ bs) s)]) 5 false)))) ∧ Below w.heap.size w w' := by
  obtain ⟨W1, hW1, hB1, hs1, S1, T1⟩ := scbox w z.a z.n z.c z.b z.m z.d 11 s so ks a n c
  obtain ⟨W2, hW2, hB2, hs2, p0, p1, i0, i1, f0, f1⟩ := obox2 W1 ⟨#[33]⟩ 0
  have hB12 : Below w.heap.size w W2 := bel_trans hB1 hB2
  have hw1 : Below W.heap.size W W1 := hw.trans (hB1.mono hw.size)
  have hww : Below W.heap.size W W2 := hw.trans (hB12.mono hw.size)
  obtain ⟨g0, g1⟩ : W1.cell? ⟨1, 22, none⟩ = some (.string ⟨#[33]⟩) ∧ W1.cell? ⟨1, 23, none⟩ = some (.int .i64 0) := E.cop W1 hw1 11 (by decide)
  obtain ⟨s0, s1⟩ := (S1.bl hB2).two
  obtain ⟨t0, t1, t2, t3, t4⟩ := (CBox.b T1 hB2).five
  obtain ⟨u0, u1, u2, u3, u4⟩ := T1.five
  rw [hs1] at p0 p1 i0 i1 f0 f1
  have hml : z.m ≤ 1000000 := by have := hz.2.1.1.1; have := hb.1; omega
  have hcl : z.m ≤ z.d := hz.2.1.2.1
  have hnl : z.b = none → z.d = 0 := hz.2.1.2.2
  have hnl2 : z.b = none → z.m = 0 := fun h => by have := hnl h; omega
  have hzc : z.c ≤ maxLen := hz.2.2.1
  have cF := fresh_any E z fr bs s hs hf hfl W2 hww (hz.bl hB12)
  have hNs : (bname (fr ++ bs) s).size ≤ 32 := bname_size (by omega) s
  have hb2 := shB_snoc (K := 0) hb (by omega) (show (bname (fr ++ bs) s).size ≤ 40 by omega)
  have HI := Lib.hid (show ∀ w', Below W2.heap.size W2 w' → IsS w' z.b z.m bs from fun w' h => (hz.bl (bel_trans hB12 h)).2.1.1)
  have HFr := Lib.hid (show ∀ w', Below W2.heap.size W2 w' → SlS w' z.a z.n z.c fr from fun w' h => (hz.bl (bel_trans hB12 h)).1)
  have cV := fun w => Var_any (bname (fr ++ bs) s) so (by omega) (by omega) w
  obtain ⟨bb, oo, ⟨qa, qn, qc⟩, a', n', c', rfl, rfl, hbb, ⟨y0, y1, y2, y3, y4⟩, hAx⟩ := subs1 (CsW.b hC hB12)
  have HX := Lib.hid (show ∀ (P : Sv) (w' : World), Below W2.heap.size W2 w' → P.ok w' fr (bs ++ [bname (fr ++ bs) s]) → _ from fun P w' h hp => hx P (bs ++ [bname (fr ++ bs) s]) 5 false ⟨qa, qn, qc⟩ a' n' c' w' (hww.trans (h.mono hww.size)) hp hb2 (by rw [List.length_append, List.length_singleton]; exact hl) (ArWC.b hAx h) (by omega) (by omega))
  have hvs : (bname (fr ++ bs) s ++ (⟨#[58, 32]⟩ ++ so)).size ≤ 200 := by
    rw [ByteArray.size_append, ByteArray.size_append]
    have : (⟨#[58, 32]⟩ : ByteArray).size = 2 := rfl
    omega
  unfold Sv.val at cF ⊢
  obtain ⟨NMv, hNM⟩ : ∃ v, bname (fr ++ bs) s = v := ⟨_, rfl⟩
  rw [hNM] at cF hNs hb2 cV HX hvs hsx ⊢
  clear hNM hx hl hC hAx hb2 hb hf hfl hz S1 T1 E hw hww hw1 hs hB1 hB2
  have hd : (⟨#[46, 32]⟩ : ByteArray).size = 2 := rfl
  obtain ⟨V, hV⟩ : ∃ v, NMv ++ (⟨#[58, 32]⟩ ++ so) = v := ⟨_, rfl⟩
  obtain ⟨Y, hY⟩ : ∃ v, cT fr x (bs ++ [NMv]) 5 false = v := ⟨_, rfl⟩
  rw [hV] at cV hvs
  rw [hY] at hsx HX
  obtain ⟨sg, hsg⟩ : ∃ v : ByteArray, ⟨#[33]⟩ = v := ⟨_, rfl⟩
  have hsgz : sg.size = 1 := by rw [← hsg]; rfl
  obtain ⟨X1, e1⟩ : ∃ v, sg ++ V = v := ⟨_, rfl⟩
  obtain ⟨X2, e2⟩ : ∃ v, X1 ++ (⟨#[46, 32]⟩ : ByteArray) = v := ⟨_, rfl⟩
  have e3 : X2 ++ Y = ⟨#[33]⟩ ++ ((NMv ++ (⟨#[58, 32]⟩ ++ so)) ++ (⟨#[46, 32]⟩ ++ cT fr x (bs ++ [NMv]) 5 false)) := by
    rw [hV, hY, ← e2, ← e1, hsg]; simp only [ByteArray.append_assoc]
  have z1 : X1.size ≤ 201 := by rw [← e1, ByteArray.size_append]; omega
  have z2 : X2.size ≤ 203 := by rw [← e2, ByteArray.size_append]; omega
  have r1 : ∀ w, (Op.stringOp .add sg V).run Tryz.prog w = .ok (.string X1) w := fun w => by rw [run_string_add_sum w _ _ (by omega), e1]
  have r2 : ∀ w, (Op.stringOp .add X1 ⟨#[46, 32]⟩).run Tryz.prog w = .ok (.string X2) w := fun w => by rw [run_string_add_sum w _ _ (by omega), e2]
  have r3 : ∀ w, (Op.stringOp .add X2 Y).run Tryz.prog w = .ok (.string (X2 ++ Y)) w := fun w => by rw [run_string_add_sum w _ _ (by omega)]
  rw [← e3]
  clear e1 e2 e3 z1 z2 hd hV hsgz hsx
  generalize X2 ++ Y = R at *
  rw [hsg] at p0 i0 g0 hW2
  clear hsg hY
  generalize opC x = xo at *
  generalize nmC x = xs at *
  generalize soC x = xz at *
  obtain ⟨za, zn, zc, zb, zm, zd⟩ := z
  obtain ⟨ka, kn, kc⟩ := ks
  dsimp only at *
  have l1 : w.heap.size < W2.heap.size := by omega
  have l2 : w.heap.size + 1 < W2.heap.size := by omega
  have l3 : w.heap.size + 2 < W2.heap.size := by omega
  have HS := Lib.hid (show ∀ w', Below W2.heap.size W2 w' → (w'.cell? ⟨w.heap.size, 0, none⟩ = some (.slice za zn zc) ∧ w'.cell? ⟨w.heap.size, 1, none⟩ = some (.slice zb zm zd)) from fun w' h =>
    ⟨(h.cell (p := ⟨w.heap.size, 0, none⟩) l1).trans s0, (h.cell (p := ⟨w.heap.size, 1, none⟩) l1).trans s1⟩)
  have HQ := Lib.hid (show ∀ w', Below W2.heap.size W2 w' → (w'.cell? ⟨w.heap.size + 1, 2, none⟩ = some (.string so) ∧ w'.cell? ⟨w.heap.size + 1, 4, none⟩ = some (.slice (some ⟨bb, oo, none⟩) 1 c) ∧ w'.cell? ⟨w.heap.size + 2, 0, none⟩ = some (.string sg) ∧ w'.cell? ⟨bb, oo, none⟩ = some (.int .i64 xo) ∧ w'.cell? ⟨bb, oo + 1, none⟩ = some (.string xs) ∧ w'.cell? ⟨bb, oo + 1 + 1, none⟩ = some (.string xz) ∧ w'.cell? ⟨bb, oo + 1 + 1 + 1, none⟩ = some (.slice qa qn qc) ∧ w'.cell? ⟨bb, oo + 1 + 1 + 1 + 1, none⟩ = some (.slice a' n' c')) from fun w' h =>
    ⟨(h.cell (p := ⟨w.heap.size + 1, 2, none⟩) l2).trans t2, (h.cell (p := ⟨w.heap.size + 1, 4, none⟩) l2).trans t4, (h.cell (p := ⟨w.heap.size + 2, 0, none⟩) l3).trans p0,
      (h.cell (p := ⟨bb, _, none⟩) hbb).trans y0, (h.cell (p := ⟨bb, _, none⟩) hbb).trans y1, (h.cell (p := ⟨bb, _, none⟩) hbb).trans y2, (h.cell (p := ⟨bb, _, none⟩) hbb).trans y3, (h.cell (p := ⟨bb, _, none⟩) hbb).trans y4⟩)
  have HB := Lib.hid hB12
  go_enter Tryz.func39, Tryz.ntmps39
  go_upto_region 20 with (go_at_call 75; ((with_reducible refine cF.mono ?_); rintro e w4 ⟨rfl, B4⟩; clear cF; have k4 := HS.out w4 B4; obtain ⟨s40, s41⟩ := k4))
  go_cut [12] from 12 to 101 (fun v wc => ∃ P A9 C9, v = .pointer (some ⟨P, 0, none⟩) ∧ Hid (ScB wc P za zn zc A9 (zm + 1) C9 ∧ Below w4.heap.size w4 wc ∧ SlS wc A9 (zm + 1) C9 (bs ++ [NMv]) ∧ C9 ≤ maxLen))
  case first =>
    refine wp_region_noPanic ?_
    refine wp_region_held_drew (S := fun w' => w'.cell? ⟨w.heap.size, 0, none⟩ = some (.slice za zn zc) ∧ w'.cell? ⟨w.heap.size, 1, none⟩ = some (.slice zb zm zd)) (by kernel_rfl) (by exact HS.out _ (bel_trans B4 (Below.refl _ _).drew)) (fun hHeld => ?_)
    refine wpAnyH_take (i := 0) (v := ?_) rfl (by kernel_rfl) (by kernel_rfl) (by kernel_rfl) (fun _ _ _ h => h) (Or.inl ⟨by rfl, ?hy⟩) (by assumption) ?_
    case hy => (intro w hSw; (try dsimp only at hSw); go_simp; try (with_reducible rfl))
    (try simp only [List.getElem_toArray, List.getElem_cons_succ, List.getElem_cons_zero, Act.put, List.setIfInBounds_toArray, List.set_cons_zero, List.set_cons_succ])
    refine wpAnyH_take (i := 1) (v := ?_) rfl (by kernel_rfl) (by kernel_rfl) (by kernel_rfl) (fun _ _ _ h => h) (Or.inl ⟨by rfl, ?hy⟩) (by assumption) ?_
    case hy => (intro w hSw; (try dsimp only at hSw); go_simp; try (with_reducible rfl))
    (try simp only [List.getElem_toArray, List.getElem_cons_succ, List.getElem_cons_zero, Act.put, List.setIfInBounds_toArray, List.set_cons_zero, List.set_cons_succ])
    refine wpAnyH_take (i := 2) (v := ?_) rfl (by kernel_rfl) (by kernel_rfl) (by kernel_rfl) (fun _ _ _ h => h) (Or.inl ⟨by rfl, ?hy⟩) (by assumption) ?_
    case hy => (intro w hSw; (try dsimp only at hSw); go_simp; try (with_reducible rfl))
    (try simp only [List.getElem_toArray, List.getElem_cons_succ, List.getElem_cons_zero, Act.put, List.setIfInBounds_toArray, List.set_cons_zero, List.set_cons_succ])
    refine wpAnyH_take (i := 3) (v := ?_) rfl (by kernel_rfl) (by kernel_rfl) (by kernel_rfl) (fun _ _ _ h => h) (Or.inl ⟨by rfl, ?hy⟩) (by assumption) ?_
    case hy => (intro w hSw; (try dsimp only at hSw); go_simp; try (with_reducible rfl))
    (try simp only [List.getElem_toArray, List.getElem_cons_succ, List.getElem_cons_zero, Act.put, List.setIfInBounds_toArray, List.set_cons_zero, List.set_cons_succ])
    refine wpAnyH_take (i := 5) (v := ?_) rfl (by kernel_rfl) (by kernel_rfl) (by kernel_rfl) (fun _ _ _ h => h) (Or.inl ⟨by rfl, ?hy⟩) (by assumption) ?_
    case hy => (intro w hSw; (try dsimp only at hSw); go_simp; try (with_reducible rfl))
    (try simp only [List.getElem_toArray, List.getElem_cons_succ, List.getElem_cons_zero, Act.put, List.setIfInBounds_toArray, List.set_cons_zero, List.set_cons_succ])
    refine wpAnyH_ready (rs := [4, 6, 9]) (by kernel_rfl) (by simp) ?_
    refine AllReadyH.cons rfl (fun KK hKK => ?_) (AllReadyH.cons rfl (fun KK hKK => ?_) (AllReadyH.cons rfl (fun KK hKK => ?_) (AllReadyH.nil)))
    · go_simp
      (go_at_call 76; ((with_reducible refine (Clip_any zb zm zd _ hcl hnl).mono ?_); rintro e wK ⟨rfl, hwK⟩; subst hwK))
      refine hKK.out _ _ (by exact HS.out _ (bel_trans B4 ((Below.refl w4.heap.size w4).drew))) (fun hHeld => ?_)
      clear hKK KK
      (try simp only [List.getElem_toArray, List.getElem_cons_succ, List.getElem_cons_zero, Act.put, List.setIfInBounds_toArray, List.set_cons_zero, List.set_cons_succ])
      refine wpAnyH_ready (rs := [6, 9]) (by kernel_rfl) (by simp) ?_
      refine AllReadyH.cons rfl (fun KK hKK => ?_) (AllReadyH.cons rfl (fun KK hKK => ?_) (AllReadyH.nil))
      · go_simp
        refine hKK.out _ _ (by exact HS.out _ (bel_trans B4 (bel_alloc ((Below.refl w4.heap.size w4).drew) _))) (fun hHeld => ?_)
        clear hKK KK
        (try simp only [List.getElem_toArray, List.getElem_cons_succ, List.getElem_cons_zero, Act.put, List.setIfInBounds_toArray, List.set_cons_zero, List.set_cons_succ])
        refine wpAnyH_ready (rs := [7, 9]) (by kernel_rfl) (by simp) ?_
        refine AllReadyH.cons rfl (fun KK hKK => ?_) (AllReadyH.cons rfl (fun KK hKK => ?_) (AllReadyH.nil))
        · (refine push_step rfl (.tmp 97) (.tmp 99) rfl zb zm bs NMv (w4.heap.size) rfl (HI.out _ (bel_trans B4 (bel_alloc ((Below.refl w4.heap.size w4).drew) _))) hnl2 hml rfl (Blk.cell (show Blk (w4.drew.alloc (.cells #[.string NMv] 9)) (w4.heap.size) #[.string NMv] 9 from blkAt (by simp) _ _) 0) ?_; intro A9 C9 w9 hO9 hc9 hb9)
          refine hKK.out _ _ (by exact HS.out _ (bel_trans B4 (bel_trans (bel_alloc ((Below.refl w4.heap.size w4).drew) _) hb9))) (fun hHeld => ?_)
          clear hKK KK
          (try simp only [List.getElem_toArray, List.getElem_cons_succ, List.getElem_cons_zero, Act.put, List.setIfInBounds_toArray, List.set_cons_zero, List.set_cons_succ])
          refine wpAnyH_take (i := 8) (v := ?_) rfl (by kernel_rfl) (by kernel_rfl) (by kernel_rfl) (fun _ _ _ h => h) (Or.inl ⟨by rfl, ?hy⟩) (by assumption) ?_
          case hy => (intro w hSw; (try dsimp only at hSw); go_simp; try (with_reducible rfl))
          (try simp only [List.getElem_toArray, List.getElem_cons_succ, List.getElem_cons_zero, Act.put, List.setIfInBounds_toArray, List.set_cons_zero, List.set_cons_succ])
          refine wpAnyH_ready (rs := [9]) (by kernel_rfl) (by simp) ?_
          refine AllReadyH.cons rfl (fun KK hKK => ?_) (AllReadyH.nil)
          go_simp
          refine hKK.out _ _ (by exact HS.out _ (bel_trans B4 (bel_alloc (bel_trans (bel_alloc ((Below.refl w4.heap.size w4).drew) _) hb9) _))) (fun hHeld => ?_)
          clear hKK KK
          (try simp only [List.getElem_toArray, List.getElem_cons_succ, List.getElem_cons_zero, Act.put, List.setIfInBounds_toArray, List.set_cons_zero, List.set_cons_succ])
          refine wpAnyH_ready (rs := [10]) (by kernel_rfl) (by simp) ?_
          refine AllReadyH.cons rfl (fun KK hKK => ?_) (AllReadyH.nil)
          go_simp
          refine hKK.out _ _ (by exact HS.out _ (bel_trans B4 (inner_b (bel_trans (bel_alloc ((Below.refl w4.heap.size w4).drew) _) hb9) hO9).2.1)) (fun hHeld => ?_)
          clear hKK KK
          (try simp only [List.getElem_toArray, List.getElem_cons_succ, List.getElem_cons_zero, Act.put, List.setIfInBounds_toArray, List.set_cons_zero, List.set_cons_succ])
          refine wpAnyH_done (by kernel_rfl) ?_ _
          refine NoPanic.normal ?_
          all_goals (try go_wp2_with fail)
          go_meet
          exact ⟨_, A9, C9, rfl, Lib.hid ⟨(inner_b (bel_trans (bel_alloc ((Below.refl w4.heap.size w4).drew) _) hb9) hO9).1, (inner_b (bel_trans (bel_alloc ((Below.refl w4.heap.size w4).drew) _) hb9) hO9).2.1, (inner_b (bel_trans (bel_alloc ((Below.refl w4.heap.size w4).drew) _) hb9) hO9).2.2, hc9⟩⟩
        · go_simp
          refine hKK.out _ _ (by exact HS.out _ (bel_trans B4 (bel_alloc (bel_alloc ((Below.refl w4.heap.size w4).drew) _) _))) (fun hHeld => ?_)
          clear hKK KK
          (try simp only [List.getElem_toArray, List.getElem_cons_succ, List.getElem_cons_zero, Act.put, List.setIfInBounds_toArray, List.set_cons_zero, List.set_cons_succ])
          refine wpAnyH_ready (rs := [7]) (by kernel_rfl) (by simp) ?_
          refine AllReadyH.cons rfl (fun KK hKK => ?_) (AllReadyH.nil)
          (refine push_step rfl (.tmp 97) (.tmp 99) rfl zb zm bs NMv (w4.heap.size) rfl (HI.out _ (bel_trans B4 (bel_alloc (bel_alloc ((Below.refl w4.heap.size w4).drew) _) _))) hnl2 hml rfl (Blk.cell (show Blk ((w4.drew.alloc (.cells #[.string NMv] 9)).alloc (.cells #[.slice none 0 0, .slice none 0 0] 59)) (w4.heap.size) #[.string NMv] 9 from Blk.alloc (blkAt (by simp) _ _) _) 0) ?_; intro A9 C9 w9 hO9 hc9 hb9; have hp8 : Blk ((w4.drew.alloc (.cells #[.string NMv] 9)).alloc (.cells #[.slice none 0 0, .slice none 0 0] 59)) (w4.heap.size + 1) #[.slice none 0 0, .slice none 0 0] 59 := blkAt (by simp) _ _; have hp9 := Blk.below hp8 hb9; have p0 := Blk.cell hp9 0; have p1 := Blk.cell hp9 1; have q0 := Blk.free hp9 0; have q1 := Blk.free hp9 1; have HP8 := Lib.hid hp8; clear hp8 hp9)
          refine hKK.out _ _ (by exact HS.out _ (bel_trans B4 (bel_trans (bel_alloc (bel_alloc ((Below.refl w4.heap.size w4).drew) _) _) hb9))) (fun hHeld => ?_)
          clear hKK KK
          (try simp only [List.getElem_toArray, List.getElem_cons_succ, List.getElem_cons_zero, Act.put, List.setIfInBounds_toArray, List.set_cons_zero, List.set_cons_succ])
          refine wpAnyH_take (i := 8) (v := ?_) rfl (by kernel_rfl) (by kernel_rfl) (by kernel_rfl) (fun _ _ _ h => h) (Or.inl ⟨by rfl, ?hy⟩) (by assumption) ?_
          case hy => (intro w hSw; (try dsimp only at hSw); go_simp; try (with_reducible rfl))
          (try simp only [List.getElem_toArray, List.getElem_cons_succ, List.getElem_cons_zero, Act.put, List.setIfInBounds_toArray, List.set_cons_zero, List.set_cons_succ])
          refine wpAnyH_ready (rs := [10]) (by kernel_rfl) (by simp) ?_
          refine AllReadyH.cons rfl (fun KK hKK => ?_) (AllReadyH.nil)
          go_simp
          refine hKK.out _ _ (by exact HS.out _ (bel_trans B4 (inner_a (bel_alloc (bel_alloc ((Below.refl w4.heap.size w4).drew) _) _) HP8.out (by omega) hb9 hO9).2.1)) (fun hHeld => ?_)
          clear hKK KK
          (try simp only [List.getElem_toArray, List.getElem_cons_succ, List.getElem_cons_zero, Act.put, List.setIfInBounds_toArray, List.set_cons_zero, List.set_cons_succ])
          refine wpAnyH_done (by kernel_rfl) ?_ _
          refine NoPanic.normal ?_
          all_goals (try go_wp2_with fail)
          go_meet
          exact ⟨_, A9, C9, rfl, Lib.hid ⟨(inner_a (bel_alloc (bel_alloc ((Below.refl w4.heap.size w4).drew) _) _) HP8.out (by omega) hb9 hO9).1, (inner_a (bel_alloc (bel_alloc ((Below.refl w4.heap.size w4).drew) _) _) HP8.out (by omega) hb9 hO9).2.1, (inner_a (bel_alloc (bel_alloc ((Below.refl w4.heap.size w4).drew) _) _) HP8.out (by omega) hb9 hO9).2.2, hc9⟩⟩
      · go_simp
        refine hKK.out _ _ (by exact HS.out _ (bel_trans B4 (bel_alloc ((Below.refl w4.heap.size w4).drew) _))) (fun hHeld => ?_)
        clear hKK KK
        (try simp only [List.getElem_toArray, List.getElem_cons_succ, List.getElem_cons_zero, Act.put, List.setIfInBounds_toArray, List.set_cons_zero, List.set_cons_succ])
        refine wpAnyH_ready (rs := [6]) (by kernel_rfl) (by simp) ?_
        refine AllReadyH.cons rfl (fun KK hKK => ?_) (AllReadyH.nil)
        go_simp
        refine hKK.out _ _ (by exact HS.out _ (bel_trans B4 (bel_alloc (bel_alloc ((Below.refl w4.heap.size w4).drew) _) _))) (fun hHeld => ?_)
        clear hKK KK
        (try simp only [List.getElem_toArray, List.getElem_cons_succ, List.getElem_cons_zero, Act.put, List.setIfInBounds_toArray, List.set_cons_zero, List.set_cons_succ])
        refine wpAnyH_ready (rs := [7]) (by kernel_rfl) (by simp) ?_
        refine AllReadyH.cons rfl (fun KK hKK => ?_) (AllReadyH.nil)
        (refine push_step rfl (.tmp 97) (.tmp 99) rfl zb zm bs NMv (w4.heap.size + 1) rfl (HI.out _ (bel_trans B4 (bel_alloc (bel_alloc ((Below.refl w4.heap.size w4).drew) _) _))) hnl2 hml rfl (Blk.cell (show Blk ((w4.drew.alloc (.cells #[.slice none 0 0, .slice none 0 0] 59)).alloc (.cells #[.string NMv] 9)) (w4.heap.size + 1) #[.string NMv] 9 from blkAt (by simp) _ _) 0) ?_; intro A9 C9 w9 hO9 hc9 hb9; have hp8 : Blk ((w4.drew.alloc (.cells #[.slice none 0 0, .slice none 0 0] 59)).alloc (.cells #[.string NMv] 9)) (w4.heap.size) #[.slice none 0 0, .slice none 0 0] 59 := Blk.alloc (blkAt (by simp) _ _) _; have hp9 := Blk.below hp8 hb9; have p0 := Blk.cell hp9 0; have p1 := Blk.cell hp9 1; have q0 := Blk.free hp9 0; have q1 := Blk.free hp9 1; have HP8 := Lib.hid hp8; clear hp8 hp9)
        refine hKK.out _ _ (by exact HS.out _ (bel_trans B4 (bel_trans (bel_alloc (bel_alloc ((Below.refl w4.heap.size w4).drew) _) _) hb9))) (fun hHeld => ?_)
        clear hKK KK
        (try simp only [List.getElem_toArray, List.getElem_cons_succ, List.getElem_cons_zero, Act.put, List.setIfInBounds_toArray, List.set_cons_zero, List.set_cons_succ])
        refine wpAnyH_take (i := 8) (v := ?_) rfl (by kernel_rfl) (by kernel_rfl) (by kernel_rfl) (fun _ _ _ h => h) (Or.inl ⟨by rfl, ?hy⟩) (by assumption) ?_
        case hy => (intro w hSw; (try dsimp only at hSw); go_simp; try (with_reducible rfl))
        (try simp only [List.getElem_toArray, List.getElem_cons_succ, List.getElem_cons_zero, Act.put, List.setIfInBounds_toArray, List.set_cons_zero, List.set_cons_succ])
        refine wpAnyH_ready (rs := [10]) (by kernel_rfl) (by simp) ?_
        refine AllReadyH.cons rfl (fun KK hKK => ?_) (AllReadyH.nil)
        go_simp
        refine hKK.out _ _ (by exact HS.out _ (bel_trans B4 (inner_a (bel_alloc (bel_alloc ((Below.refl w4.heap.size w4).drew) _) _) HP8.out (by omega) hb9 hO9).2.1)) (fun hHeld => ?_)
        clear hKK KK
        (try simp only [List.getElem_toArray, List.getElem_cons_succ, List.getElem_cons_zero, Act.put, List.setIfInBounds_toArray, List.set_cons_zero, List.set_cons_succ])
        refine wpAnyH_done (by kernel_rfl) ?_ _
        refine NoPanic.normal ?_
        all_goals (try go_wp2_with fail)
        go_meet
        exact ⟨_, A9, C9, rfl, Lib.hid ⟨(inner_a (bel_alloc (bel_alloc ((Below.refl w4.heap.size w4).drew) _) _) HP8.out (by omega) hb9 hO9).1, (inner_a (bel_alloc (bel_alloc ((Below.refl w4.heap.size w4).drew) _) _) HP8.out (by omega) hb9 hO9).2.1, (inner_a (bel_alloc (bel_alloc ((Below.refl w4.heap.size w4).drew) _) _) HP8.out (by omega) hb9 hO9).2.2, hc9⟩⟩
    · go_simp
      refine hKK.out _ _ (by exact HS.out _ (bel_trans B4 (bel_alloc ((Below.refl w4.heap.size w4).drew) _))) (fun hHeld => ?_)
      clear hKK KK
      (try simp only [List.getElem_toArray, List.getElem_cons_succ, List.getElem_cons_zero, Act.put, List.setIfInBounds_toArray, List.set_cons_zero, List.set_cons_succ])
      refine wpAnyH_ready (rs := [4, 9]) (by kernel_rfl) (by simp) ?_
      refine AllReadyH.cons rfl (fun KK hKK => ?_) (AllReadyH.cons rfl (fun KK hKK => ?_) (AllReadyH.nil))
      · go_simp
        (go_at_call 76; ((with_reducible refine (Clip_any zb zm zd _ hcl hnl).mono ?_); rintro e wK ⟨rfl, hwK⟩; subst hwK))
        refine hKK.out _ _ (by exact HS.out _ (bel_trans B4 (bel_alloc ((Below.refl w4.heap.size w4).drew) _))) (fun hHeld => ?_)
        clear hKK KK
        (try simp only [List.getElem_toArray, List.getElem_cons_succ, List.getElem_cons_zero, Act.put, List.setIfInBounds_toArray, List.set_cons_zero, List.set_cons_succ])
        refine wpAnyH_ready (rs := [7, 9]) (by kernel_rfl) (by simp) ?_
        refine AllReadyH.cons rfl (fun KK hKK => ?_) (AllReadyH.cons rfl (fun KK hKK => ?_) (AllReadyH.nil))
        · (refine push_step rfl (.tmp 97) (.tmp 99) rfl zb zm bs NMv (w4.heap.size) rfl (HI.out _ (bel_trans B4 (bel_alloc ((Below.refl w4.heap.size w4).drew) _))) hnl2 hml rfl (Blk.cell (show Blk (w4.drew.alloc (.cells #[.string NMv] 9)) (w4.heap.size) #[.string NMv] 9 from blkAt (by simp) _ _) 0) ?_; intro A9 C9 w9 hO9 hc9 hb9)
          refine hKK.out _ _ (by exact HS.out _ (bel_trans B4 (bel_trans (bel_alloc ((Below.refl w4.heap.size w4).drew) _) hb9))) (fun hHeld => ?_)
          clear hKK KK
          (try simp only [List.getElem_toArray, List.getElem_cons_succ, List.getElem_cons_zero, Act.put, List.setIfInBounds_toArray, List.set_cons_zero, List.set_cons_succ])
          refine wpAnyH_take (i := 8) (v := ?_) rfl (by kernel_rfl) (by kernel_rfl) (by kernel_rfl) (fun _ _ _ h => h) (Or.inl ⟨by rfl, ?hy⟩) (by assumption) ?_
          case hy => (intro w hSw; (try dsimp only at hSw); go_simp; try (with_reducible rfl))
          (try simp only [List.getElem_toArray, List.getElem_cons_succ, List.getElem_cons_zero, Act.put, List.setIfInBounds_toArray, List.set_cons_zero, List.set_cons_succ])
          refine wpAnyH_ready (rs := [9]) (by kernel_rfl) (by simp) ?_
          refine AllReadyH.cons rfl (fun KK hKK => ?_) (AllReadyH.nil)
          go_simp
          refine hKK.out _ _ (by exact HS.out _ (bel_trans B4 (bel_alloc (bel_trans (bel_alloc ((Below.refl w4.heap.size w4).drew) _) hb9) _))) (fun hHeld => ?_)
          clear hKK KK
          (try simp only [List.getElem_toArray, List.getElem_cons_succ, List.getElem_cons_zero, Act.put, List.setIfInBounds_toArray, List.set_cons_zero, List.set_cons_succ])
          refine wpAnyH_ready (rs := [10]) (by kernel_rfl) (by simp) ?_
          refine AllReadyH.cons rfl (fun KK hKK => ?_) (AllReadyH.nil)
          go_simp
          refine hKK.out _ _ (by exact HS.out _ (bel_trans B4 (inner_b (bel_trans (bel_alloc ((Below.refl w4.heap.size w4).drew) _) hb9) hO9).2.1)) (fun hHeld => ?_)
          clear hKK KK
          (try simp only [List.getElem_toArray, List.getElem_cons_succ, List.getElem_cons_zero, Act.put, List.setIfInBounds_toArray, List.set_cons_zero, List.set_cons_succ])
          refine wpAnyH_done (by kernel_rfl) ?_ _
          refine NoPanic.normal ?_
          all_goals (try go_wp2_with fail)
          go_meet
          exact ⟨_, A9, C9, rfl, Lib.hid ⟨(inner_b (bel_trans (bel_alloc ((Below.refl w4.heap.size w4).drew) _) hb9) hO9).1, (inner_b (bel_trans (bel_alloc ((Below.refl w4.heap.size w4).drew) _) hb9) hO9).2.1, (inner_b (bel_trans (bel_alloc ((Below.refl w4.heap.size w4).drew) _) hb9) hO9).2.2, hc9⟩⟩
        · go_simp
          refine hKK.out _ _ (by exact HS.out _ (bel_trans B4 (bel_alloc (bel_alloc ((Below.refl w4.heap.size w4).drew) _) _))) (fun hHeld => ?_)
          clear hKK KK
          (try simp only [List.getElem_toArray, List.getElem_cons_succ, List.getElem_cons_zero, Act.put, List.setIfInBounds_toArray, List.set_cons_zero, List.set_cons_succ])
          refine wpAnyH_ready (rs := [7]) (by kernel_rfl) (by simp) ?_
          refine AllReadyH.cons rfl (fun KK hKK => ?_) (AllReadyH.nil)
          (refine push_step rfl (.tmp 97) (.tmp 99) rfl zb zm bs NMv (w4.heap.size) rfl (HI.out _ (bel_trans B4 (bel_alloc (bel_alloc ((Below.refl w4.heap.size w4).drew) _) _))) hnl2 hml rfl (Blk.cell (show Blk ((w4.drew.alloc (.cells #[.string NMv] 9)).alloc (.cells #[.slice none 0 0, .slice none 0 0] 59)) (w4.heap.size) #[.string NMv] 9 from Blk.alloc (blkAt (by simp) _ _) _) 0) ?_; intro A9 C9 w9 hO9 hc9 hb9; have hp8 : Blk ((w4.drew.alloc (.cells #[.string NMv] 9)).alloc (.cells #[.slice none 0 0, .slice none 0 0] 59)) (w4.heap.size + 1) #[.slice none 0 0, .slice none 0 0] 59 := blkAt (by simp) _ _; have hp9 := Blk.below hp8 hb9; have p0 := Blk.cell hp9 0; have p1 := Blk.cell hp9 1; have q0 := Blk.free hp9 0; have q1 := Blk.free hp9 1; have HP8 := Lib.hid hp8; clear hp8 hp9)
          refine hKK.out _ _ (by exact HS.out _ (bel_trans B4 (bel_trans (bel_alloc (bel_alloc ((Below.refl w4.heap.size w4).drew) _) _) hb9))) (fun hHeld => ?_)
          clear hKK KK
          (try simp only [List.getElem_toArray, List.getElem_cons_succ, List.getElem_cons_zero, Act.put, List.setIfInBounds_toArray, List.set_cons_zero, List.set_cons_succ])
          refine wpAnyH_take (i := 8) (v := ?_) rfl (by kernel_rfl) (by kernel_rfl) (by kernel_rfl) (fun _ _ _ h => h) (Or.inl ⟨by rfl, ?hy⟩) (by assumption) ?_
          case hy => (intro w hSw; (try dsimp only at hSw); go_simp; try (with_reducible rfl))
          (try simp only [List.getElem_toArray, List.getElem_cons_succ, List.getElem_cons_zero, Act.put, List.setIfInBounds_toArray, List.set_cons_zero, List.set_cons_succ])
          refine wpAnyH_ready (rs := [10]) (by kernel_rfl) (by simp) ?_
          refine AllReadyH.cons rfl (fun KK hKK => ?_) (AllReadyH.nil)
          go_simp
          refine hKK.out _ _ (by exact HS.out _ (bel_trans B4 (inner_a (bel_alloc (bel_alloc ((Below.refl w4.heap.size w4).drew) _) _) HP8.out (by omega) hb9 hO9).2.1)) (fun hHeld => ?_)
          clear hKK KK
          (try simp only [List.getElem_toArray, List.getElem_cons_succ, List.getElem_cons_zero, Act.put, List.setIfInBounds_toArray, List.set_cons_zero, List.set_cons_succ])
          refine wpAnyH_done (by kernel_rfl) ?_ _
          refine NoPanic.normal ?_
          all_goals (try go_wp2_with fail)
          go_meet
          exact ⟨_, A9, C9, rfl, Lib.hid ⟨(inner_a (bel_alloc (bel_alloc ((Below.refl w4.heap.size w4).drew) _) _) HP8.out (by omega) hb9 hO9).1, (inner_a (bel_alloc (bel_alloc ((Below.refl w4.heap.size w4).drew) _) _) HP8.out (by omega) hb9 hO9).2.1, (inner_a (bel_alloc (bel_alloc ((Below.refl w4.heap.size w4).drew) _) _) HP8.out (by omega) hb9 hO9).2.2, hc9⟩⟩
      · go_simp
        refine hKK.out _ _ (by exact HS.out _ (bel_trans B4 (bel_alloc (bel_alloc ((Below.refl w4.heap.size w4).drew) _) _))) (fun hHeld => ?_)
        clear hKK KK
        (try simp only [List.getElem_toArray, List.getElem_cons_succ, List.getElem_cons_zero, Act.put, List.setIfInBounds_toArray, List.set_cons_zero, List.set_cons_succ])
        refine wpAnyH_ready (rs := [4]) (by kernel_rfl) (by simp) ?_
        refine AllReadyH.cons rfl (fun KK hKK => ?_) (AllReadyH.nil)
        go_simp
        (go_at_call 76; ((with_reducible refine (Clip_any zb zm zd _ hcl hnl).mono ?_); rintro e wK ⟨rfl, hwK⟩; subst hwK))
        refine hKK.out _ _ (by exact HS.out _ (bel_trans B4 (bel_alloc (bel_alloc ((Below.refl w4.heap.size w4).drew) _) _))) (fun hHeld => ?_)
        clear hKK KK
        (try simp only [List.getElem_toArray, List.getElem_cons_succ, List.getElem_cons_zero, Act.put, List.setIfInBounds_toArray, List.set_cons_zero, List.set_cons_succ])
        refine wpAnyH_ready (rs := [7]) (by kernel_rfl) (by simp) ?_
        refine AllReadyH.cons rfl (fun KK hKK => ?_) (AllReadyH.nil)
        (refine push_step rfl (.tmp 97) (.tmp 99) rfl zb zm bs NMv (w4.heap.size) rfl (HI.out _ (bel_trans B4 (bel_alloc (bel_alloc ((Below.refl w4.heap.size w4).drew) _) _))) hnl2 hml rfl (Blk.cell (show Blk ((w4.drew.alloc (.cells #[.string NMv] 9)).alloc (.cells #[.slice none 0 0, .slice none 0 0] 59)) (w4.heap.size) #[.string NMv] 9 from Blk.alloc (blkAt (by simp) _ _) _) 0) ?_; intro A9 C9 w9 hO9 hc9 hb9; have hp8 : Blk ((w4.drew.alloc (.cells #[.string NMv] 9)).alloc (.cells #[.slice none 0 0, .slice none 0 0] 59)) (w4.heap.size + 1) #[.slice none 0 0, .slice none 0 0] 59 := blkAt (by simp) _ _; have hp9 := Blk.below hp8 hb9; have p0 := Blk.cell hp9 0; have p1 := Blk.cell hp9 1; have q0 := Blk.free hp9 0; have q1 := Blk.free hp9 1; have HP8 := Lib.hid hp8; clear hp8 hp9)
        refine hKK.out _ _ (by exact HS.out _ (bel_trans B4 (bel_trans (bel_alloc (bel_alloc ((Below.refl w4.heap.size w4).drew) _) _) hb9))) (fun hHeld => ?_)
        clear hKK KK
        (try simp only [List.getElem_toArray, List.getElem_cons_succ, List.getElem_cons_zero, Act.put, List.setIfInBounds_toArray, List.set_cons_zero, List.set_cons_succ])
        refine wpAnyH_take (i := 8) (v := ?_) rfl (by kernel_rfl) (by kernel_rfl) (by kernel_rfl) (fun _ _ _ h => h) (Or.inl ⟨by rfl, ?hy⟩) (by assumption) ?_
        case hy => (intro w hSw; (try dsimp only at hSw); go_simp; try (with_reducible rfl))
        (try simp only [List.getElem_toArray, List.getElem_cons_succ, List.getElem_cons_zero, Act.put, List.setIfInBounds_toArray, List.set_cons_zero, List.set_cons_succ])
        refine wpAnyH_ready (rs := [10]) (by kernel_rfl) (by simp) ?_
        refine AllReadyH.cons rfl (fun KK hKK => ?_) (AllReadyH.nil)
        go_simp
        refine hKK.out _ _ (by exact HS.out _ (bel_trans B4 (inner_a (bel_alloc (bel_alloc ((Below.refl w4.heap.size w4).drew) _) _) HP8.out (by omega) hb9 hO9).2.1)) (fun hHeld => ?_)
        clear hKK KK
        (try simp only [List.getElem_toArray, List.getElem_cons_succ, List.getElem_cons_zero, Act.put, List.setIfInBounds_toArray, List.set_cons_zero, List.set_cons_succ])
        refine wpAnyH_done (by kernel_rfl) ?_ _
        refine NoPanic.normal ?_
        all_goals (try go_wp2_with fail)
        go_meet
        exact ⟨_, A9, C9, rfl, Lib.hid ⟨(inner_a (bel_alloc (bel_alloc ((Below.refl w4.heap.size w4).drew) _) _) HP8.out (by omega) hb9 hO9).1, (inner_a (bel_alloc (bel_alloc ((Below.refl w4.heap.size w4).drew) _) _) HP8.out (by omega) hb9 hO9).2.1, (inner_a (bel_alloc (bel_alloc ((Below.refl w4.heap.size w4).drew) _) _) HP8.out (by omega) hb9 hO9).2.2, hc9⟩⟩
    · go_simp
      refine hKK.out _ _ (by exact HS.out _ (bel_trans B4 (bel_alloc ((Below.refl w4.heap.size w4).drew) _))) (fun hHeld => ?_)
      clear hKK KK
      (try simp only [List.getElem_toArray, List.getElem_cons_succ, List.getElem_cons_zero, Act.put, List.setIfInBounds_toArray, List.set_cons_zero, List.set_cons_succ])
      refine wpAnyH_ready (rs := [4, 6]) (by kernel_rfl) (by simp) ?_
      refine AllReadyH.cons rfl (fun KK hKK => ?_) (AllReadyH.cons rfl (fun KK hKK => ?_) (AllReadyH.nil))
      · go_simp
        (go_at_call 76; ((with_reducible refine (Clip_any zb zm zd _ hcl hnl).mono ?_); rintro e wK ⟨rfl, hwK⟩; subst hwK))
        refine hKK.out _ _ (by exact HS.out _ (bel_trans B4 (bel_alloc ((Below.refl w4.heap.size w4).drew) _))) (fun hHeld => ?_)
        clear hKK KK
        (try simp only [List.getElem_toArray, List.getElem_cons_succ, List.getElem_cons_zero, Act.put, List.setIfInBounds_toArray, List.set_cons_zero, List.set_cons_succ])
        refine wpAnyH_ready (rs := [6]) (by kernel_rfl) (by simp) ?_
        refine AllReadyH.cons rfl (fun KK hKK => ?_) (AllReadyH.nil)
        go_simp
        refine hKK.out _ _ (by exact HS.out _ (bel_trans B4 (bel_alloc (bel_alloc ((Below.refl w4.heap.size w4).drew) _) _))) (fun hHeld => ?_)
        clear hKK KK
        (try simp only [List.getElem_toArray, List.getElem_cons_succ, List.getElem_cons_zero, Act.put, List.setIfInBounds_toArray, List.set_cons_zero, List.set_cons_succ])
        refine wpAnyH_ready (rs := [7]) (by kernel_rfl) (by simp) ?_
        refine AllReadyH.cons rfl (fun KK hKK => ?_) (AllReadyH.nil)
        (refine push_step rfl (.tmp 97) (.tmp 99) rfl zb zm bs NMv (w4.heap.size + 1) rfl (HI.out _ (bel_trans B4 (bel_alloc (bel_alloc ((Below.refl w4.heap.size w4).drew) _) _))) hnl2 hml rfl (Blk.cell (show Blk ((w4.drew.alloc (.cells #[.slice none 0 0, .slice none 0 0] 59)).alloc (.cells #[.string NMv] 9)) (w4.heap.size + 1) #[.string NMv] 9 from blkAt (by simp) _ _) 0) ?_; intro A9 C9 w9 hO9 hc9 hb9; have hp8 : Blk ((w4.drew.alloc (.cells #[.slice none 0 0, .slice none 0 0] 59)).alloc (.cells #[.string NMv] 9)) (w4.heap.size) #[.slice none 0 0, .slice none 0 0] 59 := Blk.alloc (blkAt (by simp) _ _) _; have hp9 := Blk.below hp8 hb9; have p0 := Blk.cell hp9 0; have p1 := Blk.cell hp9 1; have q0 := Blk.free hp9 0; have q1 := Blk.free hp9 1; have HP8 := Lib.hid hp8; clear hp8 hp9)
        refine hKK.out _ _ (by exact HS.out _ (bel_trans B4 (bel_trans (bel_alloc (bel_alloc ((Below.refl w4.heap.size w4).drew) _) _) hb9))) (fun hHeld => ?_)
        clear hKK KK
        (try simp only [List.getElem_toArray, List.getElem_cons_succ, List.getElem_cons_zero, Act.put, List.setIfInBounds_toArray, List.set_cons_zero, List.set_cons_succ])
        refine wpAnyH_take (i := 8) (v := ?_) rfl (by kernel_rfl) (by kernel_rfl) (by kernel_rfl) (fun _ _ _ h => h) (Or.inl ⟨by rfl, ?hy⟩) (by assumption) ?_
        case hy => (intro w hSw; (try dsimp only at hSw); go_simp; try (with_reducible rfl))
        (try simp only [List.getElem_toArray, List.getElem_cons_succ, List.getElem_cons_zero, Act.put, List.setIfInBounds_toArray, List.set_cons_zero, List.set_cons_succ])
        refine wpAnyH_ready (rs := [10]) (by kernel_rfl) (by simp) ?_
        refine AllReadyH.cons rfl (fun KK hKK => ?_) (AllReadyH.nil)
        go_simp
        refine hKK.out _ _ (by exact HS.out _ (bel_trans B4 (inner_a (bel_alloc (bel_alloc ((Below.refl w4.heap.size w4).drew) _) _) HP8.out (by omega) hb9 hO9).2.1)) (fun hHeld => ?_)
        clear hKK KK
        (try simp only [List.getElem_toArray, List.getElem_cons_succ, List.getElem_cons_zero, Act.put, List.setIfInBounds_toArray, List.set_cons_zero, List.set_cons_succ])
        refine wpAnyH_done (by kernel_rfl) ?_ _
        refine NoPanic.normal ?_
        all_goals (try go_wp2_with fail)
        go_meet
        exact ⟨_, A9, C9, rfl, Lib.hid ⟨(inner_a (bel_alloc (bel_alloc ((Below.refl w4.heap.size w4).drew) _) _) HP8.out (by omega) hb9 hO9).1, (inner_a (bel_alloc (bel_alloc ((Below.refl w4.heap.size w4).drew) _) _) HP8.out (by omega) hb9 hO9).2.1, (inner_a (bel_alloc (bel_alloc ((Below.refl w4.heap.size w4).drew) _) _) HP8.out (by omega) hb9 hO9).2.2, hc9⟩⟩
      · go_simp
        refine hKK.out _ _ (by exact HS.out _ (bel_trans B4 (bel_alloc (bel_alloc ((Below.refl w4.heap.size w4).drew) _) _))) (fun hHeld => ?_)
        clear hKK KK
        (try simp only [List.getElem_toArray, List.getElem_cons_succ, List.getElem_cons_zero, Act.put, List.setIfInBounds_toArray, List.set_cons_zero, List.set_cons_succ])
        refine wpAnyH_ready (rs := [4]) (by kernel_rfl) (by simp) ?_
        refine AllReadyH.cons rfl (fun KK hKK => ?_) (AllReadyH.nil)
        go_simp
        (go_at_call 76; ((with_reducible refine (Clip_any zb zm zd _ hcl hnl).mono ?_); rintro e wK ⟨rfl, hwK⟩; subst hwK))
        refine hKK.out _ _ (by exact HS.out _ (bel_trans B4 (bel_alloc (bel_alloc ((Below.refl w4.heap.size w4).drew) _) _))) (fun hHeld => ?_)
        clear hKK KK
        (try simp only [List.getElem_toArray, List.getElem_cons_succ, List.getElem_cons_zero, Act.put, List.setIfInBounds_toArray, List.set_cons_zero, List.set_cons_succ])
        refine wpAnyH_ready (rs := [7]) (by kernel_rfl) (by simp) ?_
        refine AllReadyH.cons rfl (fun KK hKK => ?_) (AllReadyH.nil)
        (refine push_step rfl (.tmp 97) (.tmp 99) rfl zb zm bs NMv (w4.heap.size + 1) rfl (HI.out _ (bel_trans B4 (bel_alloc (bel_alloc ((Below.refl w4.heap.size w4).drew) _) _))) hnl2 hml rfl (Blk.cell (show Blk ((w4.drew.alloc (.cells #[.slice none 0 0, .slice none 0 0] 59)).alloc (.cells #[.string NMv] 9)) (w4.heap.size + 1) #[.string NMv] 9 from blkAt (by simp) _ _) 0) ?_; intro A9 C9 w9 hO9 hc9 hb9; have hp8 : Blk ((w4.drew.alloc (.cells #[.slice none 0 0, .slice none 0 0] 59)).alloc (.cells #[.string NMv] 9)) (w4.heap.size) #[.slice none 0 0, .slice none 0 0] 59 := Blk.alloc (blkAt (by simp) _ _) _; have hp9 := Blk.below hp8 hb9; have p0 := Blk.cell hp9 0; have p1 := Blk.cell hp9 1; have q0 := Blk.free hp9 0; have q1 := Blk.free hp9 1; have HP8 := Lib.hid hp8; clear hp8 hp9)
        refine hKK.out _ _ (by exact HS.out _ (bel_trans B4 (bel_trans (bel_alloc (bel_alloc ((Below.refl w4.heap.size w4).drew) _) _) hb9))) (fun hHeld => ?_)
        clear hKK KK
        (try simp only [List.getElem_toArray, List.getElem_cons_succ, List.getElem_cons_zero, Act.put, List.setIfInBounds_toArray, List.set_cons_zero, List.set_cons_succ])
        refine wpAnyH_take (i := 8) (v := ?_) rfl (by kernel_rfl) (by kernel_rfl) (by kernel_rfl) (fun _ _ _ h => h) (Or.inl ⟨by rfl, ?hy⟩) (by assumption) ?_
        case hy => (intro w hSw; (try dsimp only at hSw); go_simp; try (with_reducible rfl))
        (try simp only [List.getElem_toArray, List.getElem_cons_succ, List.getElem_cons_zero, Act.put, List.setIfInBounds_toArray, List.set_cons_zero, List.set_cons_succ])
        refine wpAnyH_ready (rs := [10]) (by kernel_rfl) (by simp) ?_
        refine AllReadyH.cons rfl (fun KK hKK => ?_) (AllReadyH.nil)
        go_simp
        refine hKK.out _ _ (by exact HS.out _ (bel_trans B4 (inner_a (bel_alloc (bel_alloc ((Below.refl w4.heap.size w4).drew) _) _) HP8.out (by omega) hb9 hO9).2.1)) (fun hHeld => ?_)
        clear hKK KK
        (try simp only [List.getElem_toArray, List.getElem_cons_succ, List.getElem_cons_zero, Act.put, List.setIfInBounds_toArray, List.set_cons_zero, List.set_cons_succ])
        refine wpAnyH_done (by kernel_rfl) ?_ _
        refine NoPanic.normal ?_
        all_goals (try go_wp2_with fail)
        go_meet
        exact ⟨_, A9, C9, rfl, Lib.hid ⟨(inner_a (bel_alloc (bel_alloc ((Below.refl w4.heap.size w4).drew) _) _) HP8.out (by omega) hb9 hO9).1, (inner_a (bel_alloc (bel_alloc ((Below.refl w4.heap.size w4).drew) _) _) HP8.out (by omega) hb9 hO9).2.1, (inner_a (bel_alloc (bel_alloc ((Below.refl w4.heap.size w4).drew) _) _) HP8.out (by omega) hb9 hO9).2.2, hc9⟩⟩
  case rest =>
    obtain ⟨P, A9, C9, rfl, hcut⟩ := hcut
    obtain ⟨hP, hBc, hSc, hC9⟩ := hcut.out
    have Bc : Below W2.heap.size W2 wc := bel_trans B4 hBc
    have cX := HX.out ⟨za, zn, zc, A9, zm + 1, C9⟩
    have HX2 := Lib.hid (show ∀ w', Below wc.heap.size wc w' → _ from fun w' h => cX w' (bel_trans Bc h) ⟨HFr.out w' (bel_trans Bc h), hSc.below h, hzc, hC9⟩)
    have HPc := Lib.hid (show ∀ w', Below wc.heap.size wc w' → (w'.cell? ⟨P, 0, none⟩ = some (.slice za zn zc) ∧ w'.cell? ⟨P, 1, none⟩ = some (.slice A9 (zm + 1) C9)) from fun w' h => (ScB.bl hP h).two)
    have HK := Lib.hid (show ∀ w', Below wc.heap.size wc w' → (w'.cell? ⟨w.heap.size + 1, 2, none⟩ = some (.string so) ∧ w'.cell? ⟨w.heap.size + 1, 4, none⟩ = some (.slice (some ⟨bb, oo, none⟩) 1 c) ∧ w'.cell? ⟨w.heap.size + 2, 0, none⟩ = some (.string sg) ∧ w'.cell? ⟨bb, oo, none⟩ = some (.int .i64 xo) ∧ w'.cell? ⟨bb, oo + 1, none⟩ = some (.string xs) ∧ w'.cell? ⟨bb, oo + 1 + 1, none⟩ = some (.string xz) ∧ w'.cell? ⟨bb, oo + 1 + 1 + 1, none⟩ = some (.slice qa qn qc) ∧ w'.cell? ⟨bb, oo + 1 + 1 + 1 + 1, none⟩ = some (.slice a' n' c') ∧ w'.cell? ⟨P, 0, none⟩ = some (.slice za zn zc) ∧ w'.cell? ⟨P, 1, none⟩ = some (.slice A9 (zm + 1) C9)) from fun w' h => by
      obtain ⟨k0, k1, k2, k3, k4, k5, k6, k7⟩ := HQ.out w' (bel_trans Bc h)
      exact ⟨k0, k1, k2, k3, k4, k5, k6, k7, HPc.out w' h⟩)
    have Bd : Below wc.heap.size wc wc.drew := (Below.refl _ _).drew
    have HBc := Lib.hid Bc
    clear cX HX HFr HS HI hP hBc hSc hcut HPc HQ s40 s41
    unfold Sv.val at HX2
    dsimp only at HX2
    go_wp2
    go_region_held3 (fun w' => w'.cell? ⟨w.heap.size + 1, 2, none⟩ = some (.string so) ∧ w'.cell? ⟨w.heap.size + 1, 4, none⟩ = some (.slice (some ⟨bb, oo, none⟩) 1 c) ∧ w'.cell? ⟨w.heap.size + 2, 0, none⟩ = some (.string sg) ∧ w'.cell? ⟨bb, oo, none⟩ = some (.int .i64 xo) ∧ w'.cell? ⟨bb, oo + 1, none⟩ = some (.string xs) ∧ w'.cell? ⟨bb, oo + 1 + 1, none⟩ = some (.string xz) ∧ w'.cell? ⟨bb, oo + 1 + 1 + 1, none⟩ = some (.slice qa qn qc) ∧ w'.cell? ⟨bb, oo + 1 + 1 + 1 + 1, none⟩ = some (.slice a' n' c') ∧ w'.cell? ⟨P, 0, none⟩ = some (.slice za zn zc) ∧ w'.cell? ⟨P, 1, none⟩ = some (.slice A9 (zm + 1) C9))
      (first | exact HK.out _ B7 | exact HK.out _ B6 | exact HK.out _ Bd | go_keep)
      (first
        | (go_at_call 18; ((with_reducible refine (cV _).mono ?_); rintro e w6 ⟨rfl, hb6⟩; have B6 := bel_trans Bd hb6))
        | (go_at_call 39; ((with_reducible refine (HX2.out _ B6).mono ?_); rintro e w7 ⟨rfl, hb7⟩; have B7 := bel_trans B6 hb7)))
    go_wp2
    go_ret
    exact ⟨rfl, bel_trans (bel_trans HB.out HBc.out) B7⟩

set_option maxHeartbeats 8000000 in
theorem claim_bind12 {W : World} (E : Env W) {fr bs : List ByteArray} (hb : shB bs) (hf : ∀ x ∈ fr ++ bs, x.size ≤ maxLen) (hfl : (fr ++ bs).length ≤ 1000000) (x : Cl) (hx : ClaimOk W fr x) (hl : bs.length + 1 + wt x ≤ 10000) (s so : ByteArray)
    (z : Sv) (m : Int) (ks : SS) (a : Option Addr) (n c : Nat) (w : World) (hw : Below W.heap.size W w) (hz : z.ok w fr bs) (hs : s.size ≤ 100) (hso : so.size ≤ 100) (hC : CsW w a n c [x]) (hsx : (cT fr x (bs ++ [(bname (fr ++ bs) s)]) 5 false).size ≤ 1000000000) (m0 : decide ((0 : Int) > m) = false) :
    Calls Tryz.prog 39 #[z.val, .agg #[.int .i64 12, .string s, .string so, .slice ks.a ks.n ks.c, .slice a n c], .int .i64 m, .bool false] w fun e w' => e = .returned (.string (⟨#[63]⟩ ++ (((bname (fr ++ bs) s) ++ (⟨#[58, 32]⟩ ++ so)) ++ (⟨#[46, 32]⟩ ++ cT fr x (bs ++ [(bname (fr ++ bs) s)]) 5 false)))) ∧ Below w.heap.size w w' := by
  obtain ⟨W1, hW1, hB1, hs1, S1, T1⟩ := scbox w z.a z.n z.c z.b z.m z.d 12 s so ks a n c
  obtain ⟨W2, hW2, hB2, hs2, p0, p1, i0, i1, f0, f1⟩ := obox2 W1 ⟨#[63]⟩ 0
  have hB12 : Below w.heap.size w W2 := bel_trans hB1 hB2
  have hw1 : Below W.heap.size W W1 := hw.trans (hB1.mono hw.size)
  have hww : Below W.heap.size W W2 := hw.trans (hB12.mono hw.size)
  obtain ⟨g0, g1⟩ : W1.cell? ⟨1, 24, none⟩ = some (.string ⟨#[63]⟩) ∧ W1.cell? ⟨1, 25, none⟩ = some (.int .i64 0) := E.cop W1 hw1 12 (by decide)
  obtain ⟨s0, s1⟩ := (S1.bl hB2).two
  obtain ⟨t0, t1, t2, t3, t4⟩ := (CBox.b T1 hB2).five
  obtain ⟨u0, u1, u2, u3, u4⟩ := T1.five
  rw [hs1] at p0 p1 i0 i1 f0 f1
  have hml : z.m ≤ 1000000 := by have := hz.2.1.1.1; have := hb.1; omega
  have hcl : z.m ≤ z.d := hz.2.1.2.1
  have hnl : z.b = none → z.d = 0 := hz.2.1.2.2
  have hnl2 : z.b = none → z.m = 0 := fun h => by have := hnl h; omega
  have hzc : z.c ≤ maxLen := hz.2.2.1
  have cF := fresh_any E z fr bs s hs hf hfl W2 hww (hz.bl hB12)
  have hNs : (bname (fr ++ bs) s).size ≤ 32 := bname_size (by omega) s
  have hb2 := shB_snoc (K := 0) hb (by omega) (show (bname (fr ++ bs) s).size ≤ 40 by omega)
  have HI := Lib.hid (show ∀ w', Below W2.heap.size W2 w' → IsS w' z.b z.m bs from fun w' h => (hz.bl (bel_trans hB12 h)).2.1.1)
  have HFr := Lib.hid (show ∀ w', Below W2.heap.size W2 w' → SlS w' z.a z.n z.c fr from fun w' h => (hz.bl (bel_trans hB12 h)).1)
  have cV := fun w => Var_any (bname (fr ++ bs) s) so (by omega) (by omega) w
  obtain ⟨bb, oo, ⟨qa, qn, qc⟩, a', n', c', rfl, rfl, hbb, ⟨y0, y1, y2, y3, y4⟩, hAx⟩ := subs1 (CsW.b hC hB12)
  have HX := Lib.hid (show ∀ (P : Sv) (w' : World), Below W2.heap.size W2 w' → P.ok w' fr (bs ++ [bname (fr ++ bs) s]) → _ from fun P w' h hp => hx P (bs ++ [bname (fr ++ bs) s]) 5 false ⟨qa, qn, qc⟩ a' n' c' w' (hww.trans (h.mono hww.size)) hp hb2 (by rw [List.length_append, List.length_singleton]; exact hl) (ArWC.b hAx h) (by omega) (by omega))
  have hvs : (bname (fr ++ bs) s ++ (⟨#[58, 32]⟩ ++ so)).size ≤ 200 := by
    rw [ByteArray.size_append, ByteArray.size_append]
    have : (⟨#[58, 32]⟩ : ByteArray).size = 2 := rfl
    omega
  unfold Sv.val at cF ⊢
  obtain ⟨NMv, hNM⟩ : ∃ v, bname (fr ++ bs) s = v := ⟨_, rfl⟩
  rw [hNM] at cF hNs hb2 cV HX hvs hsx ⊢
  clear hNM hx hl hC hAx hb2 hb hf hfl hz S1 T1 E hw hww hw1 hs hB1 hB2
  have hd : (⟨#[46, 32]⟩ : ByteArray).size = 2 := rfl
  obtain ⟨V, hV⟩ : ∃ v, NMv ++ (⟨#[58, 32]⟩ ++ so) = v := ⟨_, rfl⟩
  obtain ⟨Y, hY⟩ : ∃ v, cT fr x (bs ++ [NMv]) 5 false = v := ⟨_, rfl⟩
  rw [hV] at cV hvs
  rw [hY] at hsx HX
  obtain ⟨sg, hsg⟩ : ∃ v : ByteArray, ⟨#[63]⟩ = v := ⟨_, rfl⟩
  have hsgz : sg.size = 1 := by rw [← hsg]; rfl
  obtain ⟨X1, e1⟩ : ∃ v, sg ++ V = v := ⟨_, rfl⟩
  obtain ⟨X2, e2⟩ : ∃ v, X1 ++ (⟨#[46, 32]⟩ : ByteArray) = v := ⟨_, rfl⟩
  have e3 : X2 ++ Y = ⟨#[63]⟩ ++ ((NMv ++ (⟨#[58, 32]⟩ ++ so)) ++ (⟨#[46, 32]⟩ ++ cT fr x (bs ++ [NMv]) 5 false)) := by
    rw [hV, hY, ← e2, ← e1, hsg]; simp only [ByteArray.append_assoc]
  have z1 : X1.size ≤ 201 := by rw [← e1, ByteArray.size_append]; omega
  have z2 : X2.size ≤ 203 := by rw [← e2, ByteArray.size_append]; omega
  have r1 : ∀ w, (Op.stringOp .add sg V).run Tryz.prog w = .ok (.string X1) w := fun w => by rw [run_string_add_sum w _ _ (by omega), e1]
  have r2 : ∀ w, (Op.stringOp .add X1 ⟨#[46, 32]⟩).run Tryz.prog w = .ok (.string X2) w := fun w => by rw [run_string_add_sum w _ _ (by omega), e2]
  have r3 : ∀ w, (Op.stringOp .add X2 Y).run Tryz.prog w = .ok (.string (X2 ++ Y)) w := fun w => by rw [run_string_add_sum w _ _ (by omega)]
  rw [← e3]
  clear e1 e2 e3 z1 z2 hd hV hsgz hsx
  generalize X2 ++ Y = R at *
  rw [hsg] at p0 i0 g0 hW2
  clear hsg hY
  generalize opC x = xo at *
  generalize nmC x = xs at *
  generalize soC x = xz at *
  obtain ⟨za, zn, zc, zb, zm, zd⟩ := z
  obtain ⟨ka, kn, kc⟩ := ks
  dsimp only at *
  have l1 : w.heap.size < W2.heap.size := by omega
  have l2 : w.heap.size + 1 < W2.heap.size := by omega
  have l3 : w.heap.size + 2 < W2.heap.size := by omega
  have HS := Lib.hid (show ∀ w', Below W2.heap.size W2 w' → (w'.cell? ⟨w.heap.size, 0, none⟩ = some (.slice za zn zc) ∧ w'.cell? ⟨w.heap.size, 1, none⟩ = some (.slice zb zm zd)) from fun w' h =>
    ⟨(h.cell (p := ⟨w.heap.size, 0, none⟩) l1).trans s0, (h.cell (p := ⟨w.heap.size, 1, none⟩) l1).trans s1⟩)
  have HQ := Lib.hid (show ∀ w', Below W2.heap.size W2 w' → (w'.cell? ⟨w.heap.size + 1, 2, none⟩ = some (.string so) ∧ w'.cell? ⟨w.heap.size + 1, 4, none⟩ = some (.slice (some ⟨bb, oo, none⟩) 1 c) ∧ w'.cell? ⟨w.heap.size + 2, 0, none⟩ = some (.string sg) ∧ w'.cell? ⟨bb, oo, none⟩ = some (.int .i64 xo) ∧ w'.cell? ⟨bb, oo + 1, none⟩ = some (.string xs) ∧ w'.cell? ⟨bb, oo + 1 + 1, none⟩ = some (.string xz) ∧ w'.cell? ⟨bb, oo + 1 + 1 + 1, none⟩ = some (.slice qa qn qc) ∧ w'.cell? ⟨bb, oo + 1 + 1 + 1 + 1, none⟩ = some (.slice a' n' c')) from fun w' h =>
    ⟨(h.cell (p := ⟨w.heap.size + 1, 2, none⟩) l2).trans t2, (h.cell (p := ⟨w.heap.size + 1, 4, none⟩) l2).trans t4, (h.cell (p := ⟨w.heap.size + 2, 0, none⟩) l3).trans p0,
      (h.cell (p := ⟨bb, _, none⟩) hbb).trans y0, (h.cell (p := ⟨bb, _, none⟩) hbb).trans y1, (h.cell (p := ⟨bb, _, none⟩) hbb).trans y2, (h.cell (p := ⟨bb, _, none⟩) hbb).trans y3, (h.cell (p := ⟨bb, _, none⟩) hbb).trans y4⟩)
  have HB := Lib.hid hB12
  go_enter Tryz.func39, Tryz.ntmps39
  go_upto_region 20 with (go_at_call 75; ((with_reducible refine cF.mono ?_); rintro e w4 ⟨rfl, B4⟩; clear cF; have k4 := HS.out w4 B4; obtain ⟨s40, s41⟩ := k4))
  go_cut [12] from 12 to 101 (fun v wc => ∃ P A9 C9, v = .pointer (some ⟨P, 0, none⟩) ∧ Hid (ScB wc P za zn zc A9 (zm + 1) C9 ∧ Below w4.heap.size w4 wc ∧ SlS wc A9 (zm + 1) C9 (bs ++ [NMv]) ∧ C9 ≤ maxLen))
  case first =>
    refine wp_region_noPanic ?_
    refine wp_region_held_drew (S := fun w' => w'.cell? ⟨w.heap.size, 0, none⟩ = some (.slice za zn zc) ∧ w'.cell? ⟨w.heap.size, 1, none⟩ = some (.slice zb zm zd)) (by kernel_rfl) (by exact HS.out _ (bel_trans B4 (Below.refl _ _).drew)) (fun hHeld => ?_)
    refine wpAnyH_take (i := 0) (v := ?_) rfl (by kernel_rfl) (by kernel_rfl) (by kernel_rfl) (fun _ _ _ h => h) (Or.inl ⟨by rfl, ?hy⟩) (by assumption) ?_
    case hy => (intro w hSw; (try dsimp only at hSw); go_simp; try (with_reducible rfl))
    (try simp only [List.getElem_toArray, List.getElem_cons_succ, List.getElem_cons_zero, Act.put, List.setIfInBounds_toArray, List.set_cons_zero, List.set_cons_succ])
    refine wpAnyH_take (i := 1) (v := ?_) rfl (by kernel_rfl) (by kernel_rfl) (by kernel_rfl) (fun _ _ _ h => h) (Or.inl ⟨by rfl, ?hy⟩) (by assumption) ?_
    case hy => (intro w hSw; (try dsimp only at hSw); go_simp; try (with_reducible rfl))
    (try simp only [List.getElem_toArray, List.getElem_cons_succ, List.getElem_cons_zero, Act.put, List.setIfInBounds_toArray, List.set_cons_zero, List.set_cons_succ])
    refine wpAnyH_take (i := 2) (v := ?_) rfl (by kernel_rfl) (by kernel_rfl) (by kernel_rfl) (fun _ _ _ h => h) (Or.inl ⟨by rfl, ?hy⟩) (by assumption) ?_
    case hy => (intro w hSw; (try dsimp only at hSw); go_simp; try (with_reducible rfl))
    (try simp only [List.getElem_toArray, List.getElem_cons_succ, List.getElem_cons_zero, Act.put, List.setIfInBounds_toArray, List.set_cons_zero, List.set_cons_succ])
    refine wpAnyH_take (i := 3) (v := ?_) rfl (by kernel_rfl) (by kernel_rfl) (by kernel_rfl) (fun _ _ _ h => h) (Or.inl ⟨by rfl, ?hy⟩) (by assumption) ?_
    case hy => (intro w hSw; (try dsimp only at hSw); go_simp; try (with_reducible rfl))
    (try simp only [List.getElem_toArray, List.getElem_cons_succ, List.getElem_cons_zero, Act.put, List.setIfInBounds_toArray, List.set_cons_zero, List.set_cons_succ])
    refine wpAnyH_take (i := 5) (v := ?_) rfl (by kernel_rfl) (by kernel_rfl) (by kernel_rfl) (fun _ _ _ h => h) (Or.inl ⟨by rfl, ?hy⟩) (by assumption) ?_
    case hy => (intro w hSw; (try dsimp only at hSw); go_simp; try (with_reducible rfl))
    (try simp only [List.getElem_toArray, List.getElem_cons_succ, List.getElem_cons_zero, Act.put, List.setIfInBounds_toArray, List.set_cons_zero, List.set_cons_succ])
    refine wpAnyH_ready (rs := [4, 6, 9]) (by kernel_rfl) (by simp) ?_
    refine AllReadyH.cons rfl (fun KK hKK => ?_) (AllReadyH.cons rfl (fun KK hKK => ?_) (AllReadyH.cons rfl (fun KK hKK => ?_) (AllReadyH.nil)))
    · go_simp
      (go_at_call 76; ((with_reducible refine (Clip_any zb zm zd _ hcl hnl).mono ?_); rintro e wK ⟨rfl, hwK⟩; subst hwK))
      refine hKK.out _ _ (by exact HS.out _ (bel_trans B4 ((Below.refl w4.heap.size w4).drew))) (fun hHeld => ?_)
      clear hKK KK
      (try simp only [List.getElem_toArray, List.getElem_cons_succ, List.getElem_cons_zero, Act.put, List.setIfInBounds_toArray, List.set_cons_zero, List.set_cons_succ])
      refine wpAnyH_ready (rs := [6, 9]) (by kernel_rfl) (by simp) ?_
      refine AllReadyH.cons rfl (fun KK hKK => ?_) (AllReadyH.cons rfl (fun KK hKK => ?_) (AllReadyH.nil))
      · go_simp
        refine hKK.out _ _ (by exact HS.out _ (bel_trans B4 (bel_alloc ((Below.refl w4.heap.size w4).drew) _))) (fun hHeld => ?_)
        clear hKK KK
        (try simp only [List.getElem_toArray, List.getElem_cons_succ, List.getElem_cons_zero, Act.put, List.setIfInBounds_toArray, List.set_cons_zero, List.set_cons_succ])
        refine wpAnyH_ready (rs := [7, 9]) (by kernel_rfl) (by simp) ?_
        refine AllReadyH.cons rfl (fun KK hKK => ?_) (AllReadyH.cons rfl (fun KK hKK => ?_) (AllReadyH.nil))
        · (refine push_step rfl (.tmp 97) (.tmp 99) rfl zb zm bs NMv (w4.heap.size) rfl (HI.out _ (bel_trans B4 (bel_alloc ((Below.refl w4.heap.size w4).drew) _))) hnl2 hml rfl (Blk.cell (show Blk (w4.drew.alloc (.cells #[.string NMv] 9)) (w4.heap.size) #[.string NMv] 9 from blkAt (by simp) _ _) 0) ?_; intro A9 C9 w9 hO9 hc9 hb9)
          refine hKK.out _ _ (by exact HS.out _ (bel_trans B4 (bel_trans (bel_alloc ((Below.refl w4.heap.size w4).drew) _) hb9))) (fun hHeld => ?_)
          clear hKK KK
          (try simp only [List.getElem_toArray, List.getElem_cons_succ, List.getElem_cons_zero, Act.put, List.setIfInBounds_toArray, List.set_cons_zero, List.set_cons_succ])
          refine wpAnyH_take (i := 8) (v := ?_) rfl (by kernel_rfl) (by kernel_rfl) (by kernel_rfl) (fun _ _ _ h => h) (Or.inl ⟨by rfl, ?hy⟩) (by assumption) ?_
          case hy => (intro w hSw; (try dsimp only at hSw); go_simp; try (with_reducible rfl))
          (try simp only [List.getElem_toArray, List.getElem_cons_succ, List.getElem_cons_zero, Act.put, List.setIfInBounds_toArray, List.set_cons_zero, List.set_cons_succ])
          refine wpAnyH_ready (rs := [9]) (by kernel_rfl) (by simp) ?_
          refine AllReadyH.cons rfl (fun KK hKK => ?_) (AllReadyH.nil)
          go_simp
          refine hKK.out _ _ (by exact HS.out _ (bel_trans B4 (bel_alloc (bel_trans (bel_alloc ((Below.refl w4.heap.size w4).drew) _) hb9) _))) (fun hHeld => ?_)
          clear hKK KK
          (try simp only [List.getElem_toArray, List.getElem_cons_succ, List.getElem_cons_zero, Act.put, List.setIfInBounds_toArray, List.set_cons_zero, List.set_cons_succ])
          refine wpAnyH_ready (rs := [10]) (by kernel_rfl) (by simp) ?_
          refine AllReadyH.cons rfl (fun KK hKK => ?_) (AllReadyH.nil)
          go_simp
          refine hKK.out _ _ (by exact HS.out _ (bel_trans B4 (inner_b (bel_trans (bel_alloc ((Below.refl w4.heap.size w4).drew) _) hb9) hO9).2.1)) (fun hHeld => ?_)
          clear hKK KK
          (try simp only [List.getElem_toArray, List.getElem_cons_succ, List.getElem_cons_zero, Act.put, List.setIfInBounds_toArray, List.set_cons_zero, List.set_cons_succ])
          refine wpAnyH_done (by kernel_rfl) ?_ _
          refine NoPanic.normal ?_
          all_goals (try go_wp2_with fail)
          go_meet
          exact ⟨_, A9, C9, rfl, Lib.hid ⟨(inner_b (bel_trans (bel_alloc ((Below.refl w4.heap.size w4).drew) _) hb9) hO9).1, (inner_b (bel_trans (bel_alloc ((Below.refl w4.heap.size w4).drew) _) hb9) hO9).2.1, (inner_b (bel_trans (bel_alloc ((Below.refl w4.heap.size w4).drew) _) hb9) hO9).2.2, hc9⟩⟩
        · go_simp
          refine hKK.out _ _ (by exact HS.out _ (bel_trans B4 (bel_alloc (bel_alloc ((Below.refl w4.heap.size w4).drew) _) _))) (fun hHeld => ?_)
          clear hKK KK
          (try simp only [List.getElem_toArray, List.getElem_cons_succ, List.getElem_cons_zero, Act.put, List.setIfInBounds_toArray, List.set_cons_zero, List.set_cons_succ])
          refine wpAnyH_ready (rs := [7]) (by kernel_rfl) (by simp) ?_
          refine AllReadyH.cons rfl (fun KK hKK => ?_) (AllReadyH.nil)
          (refine push_step rfl (.tmp 97) (.tmp 99) rfl zb zm bs NMv (w4.heap.size) rfl (HI.out _ (bel_trans B4 (bel_alloc (bel_alloc ((Below.refl w4.heap.size w4).drew) _) _))) hnl2 hml rfl (Blk.cell (show Blk ((w4.drew.alloc (.cells #[.string NMv] 9)).alloc (.cells #[.slice none 0 0, .slice none 0 0] 59)) (w4.heap.size) #[.string NMv] 9 from Blk.alloc (blkAt (by simp) _ _) _) 0) ?_; intro A9 C9 w9 hO9 hc9 hb9; have hp8 : Blk ((w4.drew.alloc (.cells #[.string NMv] 9)).alloc (.cells #[.slice none 0 0, .slice none 0 0] 59)) (w4.heap.size + 1) #[.slice none 0 0, .slice none 0 0] 59 := blkAt (by simp) _ _; have hp9 := Blk.below hp8 hb9; have p0 := Blk.cell hp9 0; have p1 := Blk.cell hp9 1; have q0 := Blk.free hp9 0; have q1 := Blk.free hp9 1; have HP8 := Lib.hid hp8; clear hp8 hp9)
          refine hKK.out _ _ (by exact HS.out _ (bel_trans B4 (bel_trans (bel_alloc (bel_alloc ((Below.refl w4.heap.size w4).drew) _) _) hb9))) (fun hHeld => ?_)
          clear hKK KK
          (try simp only [List.getElem_toArray, List.getElem_cons_succ, List.getElem_cons_zero, Act.put, List.setIfInBounds_toArray, List.set_cons_zero, List.set_cons_succ])
          refine wpAnyH_take (i := 8) (v := ?_) rfl (by kernel_rfl) (by kernel_rfl) (by kernel_rfl) (fun _ _ _ h => h) (Or.inl ⟨by rfl, ?hy⟩) (by assumption) ?_
          case hy => (intro w hSw; (try dsimp only at hSw); go_simp; try (with_reducible rfl))
          (try simp only [List.getElem_toArray, List.getElem_cons_succ, List.getElem_cons_zero, Act.put, List.setIfInBounds_toArray, List.set_cons_zero, List.set_cons_succ])
          refine wpAnyH_ready (rs := [10]) (by kernel_rfl) (by simp) ?_
          refine AllReadyH.cons rfl (fun KK hKK => ?_) (AllReadyH.nil)
          go_simp
          refine hKK.out _ _ (by exact HS.out _ (bel_trans B4 (inner_a (bel_alloc (bel_alloc ((Below.refl w4.heap.size w4).drew) _) _) HP8.out (by omega) hb9 hO9).2.1)) (fun hHeld => ?_)
          clear hKK KK
          (try simp only [List.getElem_toArray, List.getElem_cons_succ, List.getElem_cons_zero, Act.put, List.setIfInBounds_toArray, List.set_cons_zero, List.set_cons_succ])
          refine wpAnyH_done (by kernel_rfl) ?_ _
          refine NoPanic.normal ?_
          all_goals (try go_wp2_with fail)
          go_meet
          exact ⟨_, A9, C9, rfl, Lib.hid ⟨(inner_a (bel_alloc (bel_alloc ((Below.refl w4.heap.size w4).drew) _) _) HP8.out (by omega) hb9 hO9).1, (inner_a (bel_alloc (bel_alloc ((Below.refl w4.heap.size w4).drew) _) _) HP8.out (by omega) hb9 hO9).2.1, (inner_a (bel_alloc (bel_alloc ((Below.refl w4.heap.size w4).drew) _) _) HP8.out (by omega) hb9 hO9).2.2, hc9⟩⟩
      · go_simp
        refine hKK.out _ _ (by exact HS.out _ (bel_trans B4 (bel_alloc ((Below.refl w4.heap.size w4).drew) _))) (fun hHeld => ?_)
        clear hKK KK
        (try simp only [List.getElem_toArray, List.getElem_cons_succ, List.getElem_cons_zero, Act.put, List.setIfInBounds_toArray, List.set_cons_zero, List.set_cons_succ])
        refine wpAnyH_ready (rs := [6]) (by kernel_rfl) (by simp) ?_
        refine AllReadyH.cons rfl (fun KK hKK => ?_) (AllReadyH.nil)
        go_simp
        refine hKK.out _ _ (by exact HS.out _ (bel_trans B4 (bel_alloc (bel_alloc ((Below.refl w4.heap.size w4).drew) _) _))) (fun hHeld => ?_)
        clear hKK KK
        (try simp only [List.getElem_toArray, List.getElem_cons_succ, List.getElem_cons_zero, Act.put, List.setIfInBounds_toArray, List.set_cons_zero, List.set_cons_succ])
        refine wpAnyH_ready (rs := [7]) (by kernel_rfl) (by simp) ?_
        refine AllReadyH.cons rfl (fun KK hKK => ?_) (AllReadyH.nil)
        (refine push_step rfl (.tmp 97) (.tmp 99) rfl zb zm bs NMv (w4.heap.size + 1) rfl (HI.out _ (bel_trans B4 (bel_alloc (bel_alloc ((Below.refl w4.heap.size w4).drew) _) _))) hnl2 hml rfl (Blk.cell (show Blk ((w4.drew.alloc (.cells #[.slice none 0 0, .slice none 0 0] 59)).alloc (.cells #[.string NMv] 9)) (w4.heap.size + 1) #[.string NMv] 9 from blkAt (by simp) _ _) 0) ?_; intro A9 C9 w9 hO9 hc9 hb9; have hp8 : Blk ((w4.drew.alloc (.cells #[.slice none 0 0, .slice none 0 0] 59)).alloc (.cells #[.string NMv] 9)) (w4.heap.size) #[.slice none 0 0, .slice none 0 0] 59 := Blk.alloc (blkAt (by simp) _ _) _; have hp9 := Blk.below hp8 hb9; have p0 := Blk.cell hp9 0; have p1 := Blk.cell hp9 1; have q0 := Blk.free hp9 0; have q1 := Blk.free hp9 1; have HP8 := Lib.hid hp8; clear hp8 hp9)
        refine hKK.out _ _ (by exact HS.out _ (bel_trans B4 (bel_trans (bel_alloc (bel_alloc ((Below.refl w4.heap.size w4).drew) _) _) hb9))) (fun hHeld => ?_)
        clear hKK KK
        (try simp only [List.getElem_toArray, List.getElem_cons_succ, List.getElem_cons_zero, Act.put, List.setIfInBounds_toArray, List.set_cons_zero, List.set_cons_succ])
        refine wpAnyH_take (i := 8) (v := ?_) rfl (by kernel_rfl) (by kernel_rfl) (by kernel_rfl) (fun _ _ _ h => h) (Or.inl ⟨by rfl, ?hy⟩) (by assumption) ?_
        case hy => (intro w hSw; (try dsimp only at hSw); go_simp; try (with_reducible rfl))
        (try simp only [List.getElem_toArray, List.getElem_cons_succ, List.getElem_cons_zero, Act.put, List.setIfInBounds_toArray, List.set_cons_zero, List.set_cons_succ])
        refine wpAnyH_ready (rs := [10]) (by kernel_rfl) (by simp) ?_
        refine AllReadyH.cons rfl (fun KK hKK => ?_) (AllReadyH.nil)
        go_simp
        refine hKK.out _ _ (by exact HS.out _ (bel_trans B4 (inner_a (bel_alloc (bel_alloc ((Below.refl w4.heap.size w4).drew) _) _) HP8.out (by omega) hb9 hO9).2.1)) (fun hHeld => ?_)
        clear hKK KK
        (try simp only [List.getElem_toArray, List.getElem_cons_succ, List.getElem_cons_zero, Act.put, List.setIfInBounds_toArray, List.set_cons_zero, List.set_cons_succ])
        refine wpAnyH_done (by kernel_rfl) ?_ _
        refine NoPanic.normal ?_
        all_goals (try go_wp2_with fail)
        go_meet
        exact ⟨_, A9, C9, rfl, Lib.hid ⟨(inner_a (bel_alloc (bel_alloc ((Below.refl w4.heap.size w4).drew) _) _) HP8.out (by omega) hb9 hO9).1, (inner_a (bel_alloc (bel_alloc ((Below.refl w4.heap.size w4).drew) _) _) HP8.out (by omega) hb9 hO9).2.1, (inner_a (bel_alloc (bel_alloc ((Below.refl w4.heap.size w4).drew) _) _) HP8.out (by omega) hb9 hO9).2.2, hc9⟩⟩
    · go_simp
      refine hKK.out _ _ (by exact HS.out _ (bel_trans B4 (bel_alloc ((Below.refl w4.heap.size w4).drew) _))) (fun hHeld => ?_)
      clear hKK KK
      (try simp only [List.getElem_toArray, List.getElem_cons_succ, List.getElem_cons_zero, Act.put, List.setIfInBounds_toArray, List.set_cons_zero, List.set_cons_succ])
      refine wpAnyH_ready (rs := [4, 9]) (by kernel_rfl) (by simp) ?_
      refine AllReadyH.cons rfl (fun KK hKK => ?_) (AllReadyH.cons rfl (fun KK hKK => ?_) (AllReadyH.nil))
      · go_simp
        (go_at_call 76; ((with_reducible refine (Clip_any zb zm zd _ hcl hnl).mono ?_); rintro e wK ⟨rfl, hwK⟩; subst hwK))
        refine hKK.out _ _ (by exact HS.out _ (bel_trans B4 (bel_alloc ((Below.refl w4.heap.size w4).drew) _))) (fun hHeld => ?_)
        clear hKK KK
        (try simp only [List.getElem_toArray, List.getElem_cons_succ, List.getElem_cons_zero, Act.put, List.setIfInBounds_toArray, List.set_cons_zero, List.set_cons_succ])
        refine wpAnyH_ready (rs := [7, 9]) (by kernel_rfl) (by simp) ?_
        refine AllReadyH.cons rfl (fun KK hKK => ?_) (AllReadyH.cons rfl (fun KK hKK => ?_) (AllReadyH.nil))
        · (refine push_step rfl (.tmp 97) (.tmp 99) rfl zb zm bs NMv (w4.heap.size) rfl (HI.out _ (bel_trans B4 (bel_alloc ((Below.refl w4.heap.size w4).drew) _))) hnl2 hml rfl (Blk.cell (show Blk (w4.drew.alloc (.cells #[.string NMv] 9)) (w4.heap.size) #[.string NMv] 9 from blkAt (by simp) _ _) 0) ?_; intro A9 C9 w9 hO9 hc9 hb9)
          refine hKK.out _ _ (by exact HS.out _ (bel_trans B4 (bel_trans (bel_alloc ((Below.refl w4.heap.size w4).drew) _) hb9))) (fun hHeld => ?_)
          clear hKK KK
          (try simp only [List.getElem_toArray, List.getElem_cons_succ, List.getElem_cons_zero, Act.put, List.setIfInBounds_toArray, List.set_cons_zero, List.set_cons_succ])
          refine wpAnyH_take (i := 8) (v := ?_) rfl (by kernel_rfl) (by kernel_rfl) (by kernel_rfl) (fun _ _ _ h => h) (Or.inl ⟨by rfl, ?hy⟩) (by assumption) ?_
          case hy => (intro w hSw; (try dsimp only at hSw); go_simp; try (with_reducible rfl))
          (try simp only [List.getElem_toArray, List.getElem_cons_succ, List.getElem_cons_zero, Act.put, List.setIfInBounds_toArray, List.set_cons_zero, List.set_cons_succ])
          refine wpAnyH_ready (rs := [9]) (by kernel_rfl) (by simp) ?_
          refine AllReadyH.cons rfl (fun KK hKK => ?_) (AllReadyH.nil)
          go_simp
          refine hKK.out _ _ (by exact HS.out _ (bel_trans B4 (bel_alloc (bel_trans (bel_alloc ((Below.refl w4.heap.size w4).drew) _) hb9) _))) (fun hHeld => ?_)
          clear hKK KK
          (try simp only [List.getElem_toArray, List.getElem_cons_succ, List.getElem_cons_zero, Act.put, List.setIfInBounds_toArray, List.set_cons_zero, List.set_cons_succ])
          refine wpAnyH_ready (rs := [10]) (by kernel_rfl) (by simp) ?_
          refine AllReadyH.cons rfl (fun KK hKK => ?_) (AllReadyH.nil)
          go_simp
          refine hKK.out _ _ (by exact HS.out _ (bel_trans B4 (inner_b (bel_trans (bel_alloc ((Below.refl w4.heap.size w4).drew) _) hb9) hO9).2.1)) (fun hHeld => ?_)
          clear hKK KK
          (try simp only [List.getElem_toArray, List.getElem_cons_succ, List.getElem_cons_zero, Act.put, List.setIfInBounds_toArray, List.set_cons_zero, List.set_cons_succ])
          refine wpAnyH_done (by kernel_rfl) ?_ _
          refine NoPanic.normal ?_
          all_goals (try go_wp2_with fail)
          go_meet
          exact ⟨_, A9, C9, rfl, Lib.hid ⟨(inner_b (bel_trans (bel_alloc ((Below.refl w4.heap.size w4).drew) _) hb9) hO9).1, (inner_b (bel_trans (bel_alloc ((Below.refl w4.heap.size w4).drew) _) hb9) hO9).2.1, (inner_b (bel_trans (bel_alloc ((Below.refl w4.heap.size w4).drew) _) hb9) hO9).2.2, hc9⟩⟩
        · go_simp
          refine hKK.out _ _ (by exact HS.out _ (bel_trans B4 (bel_alloc (bel_alloc ((Below.refl w4.heap.size w4).drew) _) _))) (fun hHeld => ?_)
          clear hKK KK
          (try simp only [List.getElem_toArray, List.getElem_cons_succ, List.getElem_cons_zero, Act.put, List.setIfInBounds_toArray, List.set_cons_zero, List.set_cons_succ])
          refine wpAnyH_ready (rs := [7]) (by kernel_rfl) (by simp) ?_
          refine AllReadyH.cons rfl (fun KK hKK => ?_) (AllReadyH.nil)
          (refine push_step rfl (.tmp 97) (.tmp 99) rfl zb zm bs NMv (w4.heap.size) rfl (HI.out _ (bel_trans B4 (bel_alloc (bel_alloc ((Below.refl w4.heap.size w4).drew) _) _))) hnl2 hml rfl (Blk.cell (show Blk ((w4.drew.alloc (.cells #[.string NMv] 9)).alloc (.cells #[.slice none 0 0, .slice none 0 0] 59)) (w4.heap.size) #[.string NMv] 9 from Blk.alloc (blkAt (by simp) _ _) _) 0) ?_; intro A9 C9 w9 hO9 hc9 hb9; have hp8 : Blk ((w4.drew.alloc (.cells #[.string NMv] 9)).alloc (.cells #[.slice none 0 0, .slice none 0 0] 59)) (w4.heap.size + 1) #[.slice none 0 0, .slice none 0 0] 59 := blkAt (by simp) _ _; have hp9 := Blk.below hp8 hb9; have p0 := Blk.cell hp9 0; have p1 := Blk.cell hp9 1; have q0 := Blk.free hp9 0; have q1 := Blk.free hp9 1; have HP8 := Lib.hid hp8; clear hp8 hp9)
          refine hKK.out _ _ (by exact HS.out _ (bel_trans B4 (bel_trans (bel_alloc (bel_alloc ((Below.refl w4.heap.size w4).drew) _) _) hb9))) (fun hHeld => ?_)
          clear hKK KK
          (try simp only [List.getElem_toArray, List.getElem_cons_succ, List.getElem_cons_zero, Act.put, List.setIfInBounds_toArray, List.set_cons_zero, List.set_cons_succ])
          refine wpAnyH_take (i := 8) (v := ?_) rfl (by kernel_rfl) (by kernel_rfl) (by kernel_rfl) (fun _ _ _ h => h) (Or.inl ⟨by rfl, ?hy⟩) (by assumption) ?_
          case hy => (intro w hSw; (try dsimp only at hSw); go_simp; try (with_reducible rfl))
          (try simp only [List.getElem_toArray, List.getElem_cons_succ, List.getElem_cons_zero, Act.put, List.setIfInBounds_toArray, List.set_cons_zero, List.set_cons_succ])
          refine wpAnyH_ready (rs := [10]) (by kernel_rfl) (by simp) ?_
          refine AllReadyH.cons rfl (fun KK hKK => ?_) (AllReadyH.nil)
          go_simp
          refine hKK.out _ _ (by exact HS.out _ (bel_trans B4 (inner_a (bel_alloc (bel_alloc ((Below.refl w4.heap.size w4).drew) _) _) HP8.out (by omega) hb9 hO9).2.1)) (fun hHeld => ?_)
          clear hKK KK
          (try simp only [List.getElem_toArray, List.getElem_cons_succ, List.getElem_cons_zero, Act.put, List.setIfInBounds_toArray, List.set_cons_zero, List.set_cons_succ])
          refine wpAnyH_done (by kernel_rfl) ?_ _
          refine NoPanic.normal ?_
          all_goals (try go_wp2_with fail)
          go_meet
          exact ⟨_, A9, C9, rfl, Lib.hid ⟨(inner_a (bel_alloc (bel_alloc ((Below.refl w4.heap.size w4).drew) _) _) HP8.out (by omega) hb9 hO9).1, (inner_a (bel_alloc (bel_alloc ((Below.refl w4.heap.size w4).drew) _) _) HP8.out (by omega) hb9 hO9).2.1, (inner_a (bel_alloc (bel_alloc ((Below.refl w4.heap.size w4).drew) _) _) HP8.out (by omega) hb9 hO9).2.2, hc9⟩⟩
      · go_simp
        refine hKK.out _ _ (by exact HS.out _ (bel_trans B4 (bel_alloc (bel_alloc ((Below.refl w4.heap.size w4).drew) _) _))) (fun hHeld => ?_)
        clear hKK KK
        (try simp only [List.getElem_toArray, List.getElem_cons_succ, List.getElem_cons_zero, Act.put, List.setIfInBounds_toArray, List.set_cons_zero, List.set_cons_succ])
        refine wpAnyH_ready (rs := [4]) (by kernel_rfl) (by simp) ?_
        refine AllReadyH.cons rfl (fun KK hKK => ?_) (AllReadyH.nil)
        go_simp
        (go_at_call 76; ((with_reducible refine (Clip_any zb zm zd _ hcl hnl).mono ?_); rintro e wK ⟨rfl, hwK⟩; subst hwK))
        refine hKK.out _ _ (by exact HS.out _ (bel_trans B4 (bel_alloc (bel_alloc ((Below.refl w4.heap.size w4).drew) _) _))) (fun hHeld => ?_)
        clear hKK KK
        (try simp only [List.getElem_toArray, List.getElem_cons_succ, List.getElem_cons_zero, Act.put, List.setIfInBounds_toArray, List.set_cons_zero, List.set_cons_succ])
        refine wpAnyH_ready (rs := [7]) (by kernel_rfl) (by simp) ?_
        refine AllReadyH.cons rfl (fun KK hKK => ?_) (AllReadyH.nil)
        (refine push_step rfl (.tmp 97) (.tmp 99) rfl zb zm bs NMv (w4.heap.size) rfl (HI.out _ (bel_trans B4 (bel_alloc (bel_alloc ((Below.refl w4.heap.size w4).drew) _) _))) hnl2 hml rfl (Blk.cell (show Blk ((w4.drew.alloc (.cells #[.string NMv] 9)).alloc (.cells #[.slice none 0 0, .slice none 0 0] 59)) (w4.heap.size) #[.string NMv] 9 from Blk.alloc (blkAt (by simp) _ _) _) 0) ?_; intro A9 C9 w9 hO9 hc9 hb9; have hp8 : Blk ((w4.drew.alloc (.cells #[.string NMv] 9)).alloc (.cells #[.slice none 0 0, .slice none 0 0] 59)) (w4.heap.size + 1) #[.slice none 0 0, .slice none 0 0] 59 := blkAt (by simp) _ _; have hp9 := Blk.below hp8 hb9; have p0 := Blk.cell hp9 0; have p1 := Blk.cell hp9 1; have q0 := Blk.free hp9 0; have q1 := Blk.free hp9 1; have HP8 := Lib.hid hp8; clear hp8 hp9)
        refine hKK.out _ _ (by exact HS.out _ (bel_trans B4 (bel_trans (bel_alloc (bel_alloc ((Below.refl w4.heap.size w4).drew) _) _) hb9))) (fun hHeld => ?_)
        clear hKK KK
        (try simp only [List.getElem_toArray, List.getElem_cons_succ, List.getElem_cons_zero, Act.put, List.setIfInBounds_toArray, List.set_cons_zero, List.set_cons_succ])
        refine wpAnyH_take (i := 8) (v := ?_) rfl (by kernel_rfl) (by kernel_rfl) (by kernel_rfl) (fun _ _ _ h => h) (Or.inl ⟨by rfl, ?hy⟩) (by assumption) ?_
        case hy => (intro w hSw; (try dsimp only at hSw); go_simp; try (with_reducible rfl))
        (try simp only [List.getElem_toArray, List.getElem_cons_succ, List.getElem_cons_zero, Act.put, List.setIfInBounds_toArray, List.set_cons_zero, List.set_cons_succ])
        refine wpAnyH_ready (rs := [10]) (by kernel_rfl) (by simp) ?_
        refine AllReadyH.cons rfl (fun KK hKK => ?_) (AllReadyH.nil)
        go_simp
        refine hKK.out _ _ (by exact HS.out _ (bel_trans B4 (inner_a (bel_alloc (bel_alloc ((Below.refl w4.heap.size w4).drew) _) _) HP8.out (by omega) hb9 hO9).2.1)) (fun hHeld => ?_)
        clear hKK KK
        (try simp only [List.getElem_toArray, List.getElem_cons_succ, List.getElem_cons_zero, Act.put, List.setIfInBounds_toArray, List.set_cons_zero, List.set_cons_succ])
        refine wpAnyH_done (by kernel_rfl) ?_ _
        refine NoPanic.normal ?_
        all_goals (try go_wp2_with fail)
        go_meet
        exact ⟨_, A9, C9, rfl, Lib.hid ⟨(inner_a (bel_alloc (bel_alloc ((Below.refl w4.heap.size w4).drew) _) _) HP8.out (by omega) hb9 hO9).1, (inner_a (bel_alloc (bel_alloc ((Below.refl w4.heap.size w4).drew) _) _) HP8.out (by omega) hb9 hO9).2.1, (inner_a (bel_alloc (bel_alloc ((Below.refl w4.heap.size w4).drew) _) _) HP8.out (by omega) hb9 hO9).2.2, hc9⟩⟩
    · go_simp
      refine hKK.out _ _ (by exact HS.out _ (bel_trans B4 (bel_alloc ((Below.refl w4.heap.size w4).drew) _))) (fun hHeld => ?_)
      clear hKK KK
      (try simp only [List.getElem_toArray, List.getElem_cons_succ, List.getElem_cons_zero, Act.put, List.setIfInBounds_toArray, List.set_cons_zero, List.set_cons_succ])
      refine wpAnyH_ready (rs := [4, 6]) (by kernel_rfl) (by simp) ?_
      refine AllReadyH.cons rfl (fun KK hKK => ?_) (AllReadyH.cons rfl (fun KK hKK => ?_) (AllReadyH.nil))
      · go_simp
        (go_at_call 76; ((with_reducible refine (Clip_any zb zm zd _ hcl hnl).mono ?_); rintro e wK ⟨rfl, hwK⟩; subst hwK))
        refine hKK.out _ _ (by exact HS.out _ (bel_trans B4 (bel_alloc ((Below.refl w4.heap.size w4).drew) _))) (fun hHeld => ?_)
        clear hKK KK
        (try simp only [List.getElem_toArray, List.getElem_cons_succ, List.getElem_cons_zero, Act.put, List.setIfInBounds_toArray, List.set_cons_zero, List.set_cons_succ])
        refine wpAnyH_ready (rs := [6]) (by kernel_rfl) (by simp) ?_
        refine AllReadyH.cons rfl (fun KK hKK => ?_) (AllReadyH.nil)
        go_simp
        refine hKK.out _ _ (by exact HS.out _ (bel_trans B4 (bel_alloc (bel_alloc ((Below.refl w4.heap.size w4).drew) _) _))) (fun hHeld => ?_)
        clear hKK KK
        (try simp only [List.getElem_toArray, List.getElem_cons_succ, List.getElem_cons_zero, Act.put, List.setIfInBounds_toArray, List.set_cons_zero, List.set_cons_succ])
        refine wpAnyH_ready (rs := [7]) (by kernel_rfl) (by simp) ?_
        refine AllReadyH.cons rfl (fun KK hKK => ?_) (AllReadyH.nil)
        (refine push_step rfl (.tmp 97) (.tmp 99) rfl zb zm bs NMv (w4.heap.size + 1) rfl (HI.out _ (bel_trans B4 (bel_alloc (bel_alloc ((Below.refl w4.heap.size w4).drew) _) _))) hnl2 hml rfl (Blk.cell (show Blk ((w4.drew.alloc (.cells #[.slice none 0 0, .slice none 0 0] 59)).alloc (.cells #[.string NMv] 9)) (w4.heap.size + 1) #[.string NMv] 9 from blkAt (by simp) _ _) 0) ?_; intro A9 C9 w9 hO9 hc9 hb9; have hp8 : Blk ((w4.drew.alloc (.cells #[.slice none 0 0, .slice none 0 0] 59)).alloc (.cells #[.string NMv] 9)) (w4.heap.size) #[.slice none 0 0, .slice none 0 0] 59 := Blk.alloc (blkAt (by simp) _ _) _; have hp9 := Blk.below hp8 hb9; have p0 := Blk.cell hp9 0; have p1 := Blk.cell hp9 1; have q0 := Blk.free hp9 0; have q1 := Blk.free hp9 1; have HP8 := Lib.hid hp8; clear hp8 hp9)
        refine hKK.out _ _ (by exact HS.out _ (bel_trans B4 (bel_trans (bel_alloc (bel_alloc ((Below.refl w4.heap.size w4).drew) _) _) hb9))) (fun hHeld => ?_)
        clear hKK KK
        (try simp only [List.getElem_toArray, List.getElem_cons_succ, List.getElem_cons_zero, Act.put, List.setIfInBounds_toArray, List.set_cons_zero, List.set_cons_succ])
        refine wpAnyH_take (i := 8) (v := ?_) rfl (by kernel_rfl) (by kernel_rfl) (by kernel_rfl) (fun _ _ _ h => h) (Or.inl ⟨by rfl, ?hy⟩) (by assumption) ?_
        case hy => (intro w hSw; (try dsimp only at hSw); go_simp; try (with_reducible rfl))
        (try simp only [List.getElem_toArray, List.getElem_cons_succ, List.getElem_cons_zero, Act.put, List.setIfInBounds_toArray, List.set_cons_zero, List.set_cons_succ])
        refine wpAnyH_ready (rs := [10]) (by kernel_rfl) (by simp) ?_
        refine AllReadyH.cons rfl (fun KK hKK => ?_) (AllReadyH.nil)
        go_simp
        refine hKK.out _ _ (by exact HS.out _ (bel_trans B4 (inner_a (bel_alloc (bel_alloc ((Below.refl w4.heap.size w4).drew) _) _) HP8.out (by omega) hb9 hO9).2.1)) (fun hHeld => ?_)
        clear hKK KK
        (try simp only [List.getElem_toArray, List.getElem_cons_succ, List.getElem_cons_zero, Act.put, List.setIfInBounds_toArray, List.set_cons_zero, List.set_cons_succ])
        refine wpAnyH_done (by kernel_rfl) ?_ _
        refine NoPanic.normal ?_
        all_goals (try go_wp2_with fail)
        go_meet
        exact ⟨_, A9, C9, rfl, Lib.hid ⟨(inner_a (bel_alloc (bel_alloc ((Below.refl w4.heap.size w4).drew) _) _) HP8.out (by omega) hb9 hO9).1, (inner_a (bel_alloc (bel_alloc ((Below.refl w4.heap.size w4).drew) _) _) HP8.out (by omega) hb9 hO9).2.1, (inner_a (bel_alloc (bel_alloc ((Below.refl w4.heap.size w4).drew) _) _) HP8.out (by omega) hb9 hO9).2.2, hc9⟩⟩
      · go_simp
        refine hKK.out _ _ (by exact HS.out _ (bel_trans B4 (bel_alloc (bel_alloc ((Below.refl w4.heap.size w4).drew) _) _))) (fun hHeld => ?_)
        clear hKK KK
        (try simp only [List.getElem_toArray, List.getElem_cons_succ, List.getElem_cons_zero, Act.put, List.setIfInBounds_toArray, List.set_cons_zero, List.set_cons_succ])
        refine wpAnyH_ready (rs := [4]) (by kernel_rfl) (by simp) ?_
        refine AllReadyH.cons rfl (fun KK hKK => ?_) (AllReadyH.nil)
        go_simp
        (go_at_call 76; ((with_reducible refine (Clip_any zb zm zd _ hcl hnl).mono ?_); rintro e wK ⟨rfl, hwK⟩; subst hwK))
        refine hKK.out _ _ (by exact HS.out _ (bel_trans B4 (bel_alloc (bel_alloc ((Below.refl w4.heap.size w4).drew) _) _))) (fun hHeld => ?_)
        clear hKK KK
        (try simp only [List.getElem_toArray, List.getElem_cons_succ, List.getElem_cons_zero, Act.put, List.setIfInBounds_toArray, List.set_cons_zero, List.set_cons_succ])
        refine wpAnyH_ready (rs := [7]) (by kernel_rfl) (by simp) ?_
        refine AllReadyH.cons rfl (fun KK hKK => ?_) (AllReadyH.nil)
        (refine push_step rfl (.tmp 97) (.tmp 99) rfl zb zm bs NMv (w4.heap.size + 1) rfl (HI.out _ (bel_trans B4 (bel_alloc (bel_alloc ((Below.refl w4.heap.size w4).drew) _) _))) hnl2 hml rfl (Blk.cell (show Blk ((w4.drew.alloc (.cells #[.slice none 0 0, .slice none 0 0] 59)).alloc (.cells #[.string NMv] 9)) (w4.heap.size + 1) #[.string NMv] 9 from blkAt (by simp) _ _) 0) ?_; intro A9 C9 w9 hO9 hc9 hb9; have hp8 : Blk ((w4.drew.alloc (.cells #[.slice none 0 0, .slice none 0 0] 59)).alloc (.cells #[.string NMv] 9)) (w4.heap.size) #[.slice none 0 0, .slice none 0 0] 59 := Blk.alloc (blkAt (by simp) _ _) _; have hp9 := Blk.below hp8 hb9; have p0 := Blk.cell hp9 0; have p1 := Blk.cell hp9 1; have q0 := Blk.free hp9 0; have q1 := Blk.free hp9 1; have HP8 := Lib.hid hp8; clear hp8 hp9)
        refine hKK.out _ _ (by exact HS.out _ (bel_trans B4 (bel_trans (bel_alloc (bel_alloc ((Below.refl w4.heap.size w4).drew) _) _) hb9))) (fun hHeld => ?_)
        clear hKK KK
        (try simp only [List.getElem_toArray, List.getElem_cons_succ, List.getElem_cons_zero, Act.put, List.setIfInBounds_toArray, List.set_cons_zero, List.set_cons_succ])
        refine wpAnyH_take (i := 8) (v := ?_) rfl (by kernel_rfl) (by kernel_rfl) (by kernel_rfl) (fun _ _ _ h => h) (Or.inl ⟨by rfl, ?hy⟩) (by assumption) ?_
        case hy => (intro w hSw; (try dsimp only at hSw); go_simp; try (with_reducible rfl))
        (try simp only [List.getElem_toArray, List.getElem_cons_succ, List.getElem_cons_zero, Act.put, List.setIfInBounds_toArray, List.set_cons_zero, List.set_cons_succ])
        refine wpAnyH_ready (rs := [10]) (by kernel_rfl) (by simp) ?_
        refine AllReadyH.cons rfl (fun KK hKK => ?_) (AllReadyH.nil)
        go_simp
        refine hKK.out _ _ (by exact HS.out _ (bel_trans B4 (inner_a (bel_alloc (bel_alloc ((Below.refl w4.heap.size w4).drew) _) _) HP8.out (by omega) hb9 hO9).2.1)) (fun hHeld => ?_)
        clear hKK KK
        (try simp only [List.getElem_toArray, List.getElem_cons_succ, List.getElem_cons_zero, Act.put, List.setIfInBounds_toArray, List.set_cons_zero, List.set_cons_succ])
        refine wpAnyH_done (by kernel_rfl) ?_ _
        refine NoPanic.normal ?_
        all_goals (try go_wp2_with fail)
        go_meet
        exact ⟨_, A9, C9, rfl, Lib.hid ⟨(inner_a (bel_alloc (bel_alloc ((Below.refl w4.heap.size w4).drew) _) _) HP8.out (by omega) hb9 hO9).1, (inner_a (bel_alloc (bel_alloc ((Below.refl w4.heap.size w4).drew) _) _) HP8.out (by omega) hb9 hO9).2.1, (inner_a (bel_alloc (bel_alloc ((Below.refl w4.heap.size w4).drew) _) _) HP8.out (by omega) hb9 hO9).2.2, hc9⟩⟩
  case rest =>
    obtain ⟨P, A9, C9, rfl, hcut⟩ := hcut
    obtain ⟨hP, hBc, hSc, hC9⟩ := hcut.out
    have Bc : Below W2.heap.size W2 wc := bel_trans B4 hBc
    have cX := HX.out ⟨za, zn, zc, A9, zm + 1, C9⟩
    have HX2 := Lib.hid (show ∀ w', Below wc.heap.size wc w' → _ from fun w' h => cX w' (bel_trans Bc h) ⟨HFr.out w' (bel_trans Bc h), hSc.below h, hzc, hC9⟩)
    have HPc := Lib.hid (show ∀ w', Below wc.heap.size wc w' → (w'.cell? ⟨P, 0, none⟩ = some (.slice za zn zc) ∧ w'.cell? ⟨P, 1, none⟩ = some (.slice A9 (zm + 1) C9)) from fun w' h => (ScB.bl hP h).two)
    have HK := Lib.hid (show ∀ w', Below wc.heap.size wc w' → (w'.cell? ⟨w.heap.size + 1, 2, none⟩ = some (.string so) ∧ w'.cell? ⟨w.heap.size + 1, 4, none⟩ = some (.slice (some ⟨bb, oo, none⟩) 1 c) ∧ w'.cell? ⟨w.heap.size + 2, 0, none⟩ = some (.string sg) ∧ w'.cell? ⟨bb, oo, none⟩ = some (.int .i64 xo) ∧ w'.cell? ⟨bb, oo + 1, none⟩ = some (.string xs) ∧ w'.cell? ⟨bb, oo + 1 + 1, none⟩ = some (.string xz) ∧ w'.cell? ⟨bb, oo + 1 + 1 + 1, none⟩ = some (.slice qa qn qc) ∧ w'.cell? ⟨bb, oo + 1 + 1 + 1 + 1, none⟩ = some (.slice a' n' c') ∧ w'.cell? ⟨P, 0, none⟩ = some (.slice za zn zc) ∧ w'.cell? ⟨P, 1, none⟩ = some (.slice A9 (zm + 1) C9)) from fun w' h => by
      obtain ⟨k0, k1, k2, k3, k4, k5, k6, k7⟩ := HQ.out w' (bel_trans Bc h)
      exact ⟨k0, k1, k2, k3, k4, k5, k6, k7, HPc.out w' h⟩)
    have Bd : Below wc.heap.size wc wc.drew := (Below.refl _ _).drew
    have HBc := Lib.hid Bc
    clear cX HX HFr HS HI hP hBc hSc hcut HPc HQ s40 s41
    unfold Sv.val at HX2
    dsimp only at HX2
    go_wp2
    go_region_held3 (fun w' => w'.cell? ⟨w.heap.size + 1, 2, none⟩ = some (.string so) ∧ w'.cell? ⟨w.heap.size + 1, 4, none⟩ = some (.slice (some ⟨bb, oo, none⟩) 1 c) ∧ w'.cell? ⟨w.heap.size + 2, 0, none⟩ = some (.string sg) ∧ w'.cell? ⟨bb, oo, none⟩ = some (.int .i64 xo) ∧ w'.cell? ⟨bb, oo + 1, none⟩ = some (.string xs) ∧ w'.cell? ⟨bb, oo + 1 + 1, none⟩ = some (.string xz) ∧ w'.cell? ⟨bb, oo + 1 + 1 + 1, none⟩ = some (.slice qa qn qc) ∧ w'.cell? ⟨bb, oo + 1 + 1 + 1 + 1, none⟩ = some (.slice a' n' c') ∧ w'.cell? ⟨P, 0, none⟩ = some (.slice za zn zc) ∧ w'.cell? ⟨P, 1, none⟩ = some (.slice A9 (zm + 1) C9))
      (first | exact HK.out _ B7 | exact HK.out _ B6 | exact HK.out _ Bd | go_keep)
      (first
        | (go_at_call 18; ((with_reducible refine (cV _).mono ?_); rintro e w6 ⟨rfl, hb6⟩; have B6 := bel_trans Bd hb6))
        | (go_at_call 39; ((with_reducible refine (HX2.out _ B6).mono ?_); rintro e w7 ⟨rfl, hb7⟩; have B7 := bel_trans B6 hb7)))
    go_wp2
    go_ret
    exact ⟨rfl, bel_trans (bel_trans HB.out HBc.out) B7⟩

end Go.Proofs.YtndhhmebaboeaaaGreatDoor.Sh
