/-
  What is proved: what package claim's joined returns, walked.
-/
import Derived.Test.YtjjfbgadpgckeaaGreatC8
namespace Go.Proofs.YtjjfbgadpgckeaaGreat.C
open Go.RowKit Go.Shelf L T
set_option linter.unusedVariables false
set_option linter.unusedSimpArgs false
attribute [local go_sem] Oper.semAt_some

theorem isC_take {B : Nat} {w : World} {A : Option Addr} {m c M : Nat} {l : List Cl} (h : IsC B w A m c l) (hM : M ≤ m) : IsC B w A M c (l.take M) := by
  refine ⟨by rw [List.length_take]; have := h.1; omega, by have := h.2.1; omega, h.2.2.1, h.2.2.2.1, fun hn => ?_⟩
  obtain ⟨b, o, ha, hlt, hr⟩ := h.2.2.2.2 (by omega)
  refine ⟨b, o, ha, hlt, rwc_at.2 fun i hi => ?_⟩
  rw [List.length_take] at hi
  have := rwc_at.1 hr i (by omega)
  rwa [List.getElem_take]
set_option maxRecDepth 100000 in
set_option maxHeartbeats 8000000 in
theorem joined_in (op none0 : Int) (l : List Cl) (A : Option Addr) (M c : Nat) (w : World) (hsz : wts l ≤ 1000000) (hG : CsW w A (M + 1) c l) :
    CallsIn Fence.wide 6 Tryz.prog 56 #[.slice A (M + 1) c, .int .i64 op, .int .i64 none0] w fun e w' => RdC (joinL op none0 l) w e w' := by
  have hml : M + 1 = l.length := hG.1
  obtain ⟨bb, o, x, kx, XA, Xn, Xc, rfl, hb, y0, y1, y2, y3, y4, hx, hok⟩ := hG.at (show M < M + 1 by omega)
  have hmb : M + 1 ≤ 1000000 := by have := wts_len l; omega
  have hmn : ((M : Int) + 1 == 0) = false := by simp; omega
  have hwr : IntKind.i64.wrap (M : Int) = (M : Int) := by rw [IntKind.wrap_i64]; omega
  have hwr2 : IntKind.i64.wrap ((M : Int) + 1 - 1) = (M : Int) := by rw [IntKind.wrap_i64]; omega
  have hMm : (M : Int) < (M : Int) + 1 := by omega
  have hMc : (M : Int) ≤ (c : Int) := by have := hG.2.1; omega
  have hM0 : 0 ≤ (M : Int) := by omega
  obtain ⟨W1, hW1⟩ : ∃ W1, w.alloc (.cells #[.int .i64 op] 3) = W1 := ⟨_, rfl⟩
  have hB1 : Below w.heap.size w W1 := by rw [← hW1]; exact bel_alloc (Below.refl _ _) _
  have hs1 : W1.heap.size = w.heap.size + 1 := by rw [← hW1]; simp
  have O1 : Blk W1 w.heap.size #[.int .i64 op] 3 := by rw [← hW1]; exact Blk.new w _ _
  obtain ⟨W2, hW2, hB2, hs2, R2⟩ := cbox1 W1 0 ⟨#[]⟩ ⟨#[]⟩ SS.nil none 0 0
  dsimp only [SS.nil] at hW2
  have hB12 := bel_trans hB1 hB2
  have x0 := (hB12.cell (p := ⟨bb, _, none⟩) hb).trans y0
  have x1 := (hB12.cell (p := ⟨bb, _, none⟩) hb).trans y1
  have x2 := (hB12.cell (p := ⟨bb, _, none⟩) hb).trans y2
  have x3 := (hB12.cell (p := ⟨bb, _, none⟩) hb).trans y3
  have x4 := (hB12.cell (p := ⟨bb, _, none⟩) hb).trans y4
  have cX := CopyC_any x kx XA Xn Xc W2 (by have := wts_mem (List.mem_of_getElem? hx); omega) (ArWC.b hok hB12)
  have hjl : joinL op none0 l = joinD op x (l.take M).reverse := by
    rw [← joinL_D op none0]
    congr 1
    rw [← take_c hx, List.take_of_length_le (by omega)]
  rw [hjl]
  have hT := isC_take hG (show M ≤ M + 1 by omega)
  have hNl : (l.take M).length ≤ 1000000 := by rw [List.length_take]; omega
  have hCk : ∀ y ∈ l.take M, wt y ≤ 1000000 := fun y hy => by have := wts_mem (List.mem_of_mem_take hy); omega
  have HT := Lib.hid hT
  have HO := Lib.hid (Blk.below O1 hB2)
  have HR := Lib.hid R2
  have HHX := Lib.hid hx
  clear hG hT R2 O1 hok hx hml hsz hjl y0 y1 y2 y3 y4
  rw [hs1] at HR hs2
  generalize hlt : l.take M = lt at *
  clear hlt
  generalize hox : opC x = ox at *
  generalize hnx : nmC x = nx at *
  generalize hsx : soC x = sx at *
  have HX := Lib.hid (show opC x = ox ∧ nmC x = nx ∧ soC x = sx from ⟨hox, hnx, hsx⟩)
  clear hox hnx hsx
  refine callsIn_of_wp_marks Tryz.func56 rfl trivial ?_ rfl
  simp only [Tryz.ntmps56, List.size_toArray, List.length_cons, List.length_nil, Nat.reduceAdd, Nat.reduceSub, Array.replicate_succ, Array.replicate_zero, List.push_toArray, List.append_toArray, List.nil_append, List.cons_append]
  gi_wp2_with (first
    | (refine ⟨trivial, ?_⟩; gi_at_call 54; refine (callsIn_wide.2 cX).mono ?_; rintro e w3 ⟨h, rfl, hF, hb3⟩;
       obtain ⟨Z, hZ, hbZ, hsZ, BZ⟩ := cbox1 w3 0 ⟨#[]⟩ ⟨#[]⟩ SS.nil none 0 0; dsimp only [SS.nil] at hZ;
       obtain ⟨v0, v1, v2, v3, v4⟩ := BZ.five; obtain ⟨f0, f1, f2, f3, f4⟩ := BZ.free;
       obtain ⟨W4, hW4⟩ : ∃ W4, put5 Z w3.heap.size (.int .i64 h.op) (.string h.nm) (.string h.so) (.slice h.k.a h.k.n h.k.c) (.slice h.a h.n h.c) = W4 := ⟨_, rfl⟩;
       have HW4 := Lib.hid hW4; have HF := Lib.hid hF; have HBZ := Lib.hid BZ; clear hF BZ; unfold put5 at hW4)
    | (refine ⟨trivial, ?_⟩; gi_at_call 96; refine (callsIn_wide.2 (back_any _ _ _ W4)).mono ?_; rintro e w' ⟨rfl, hw'⟩; have HW5 := Lib.hid hw'; clear hw'))
  have hs4 : W4.heap.size = w3.heap.size + 1 := by rw [← HW4.out, put5_size, hsZ]
  have hB3 : Below w.heap.size w w3 := bel_trans hB12 hb3
  have hs3 : w.heap.size + 2 ≤ w3.heap.size := by have := hb3.size; omega
  have hB4 : Below w.heap.size w W4 := by rw [← HW4.out]; exact put5_below (bel_trans hB3 hbZ) (by omega) _ _ _ _ _
  have h34 : ∀ b, b < w3.heap.size → W4.heap[b]? = w3.heap[b]? := fun b hb => by rw [← HW4.out, put5_other _ _ _ _ _ _ _ _ (by omega)]; exact hbZ.block b hb
  have hb5 : Below W4.heap.size W4 w' := by rw [HW5.out]; exact bel_alloc (Below.refl _ _) _
  have hB5 : Below w.heap.size w w' := bel_trans hB4 hb5
  have C4 : CBox W4 w3.heap.size h.op h.nm h.so h.k h.a h.n h.c := by rw [← HW4.out]; exact CBox.put HBZ.out _ _ _ _ _ _ _
  have J5 : JC w3.heap.size (w.heap.size + 1) w.heap.size (joinD op x []) w' := JC.below ⟨h, C4, FrC.hd HF.out, ArCP.to (P := fun b => w.heap.size + 2 ≤ b ∧ b < w3.heap.size) (fun b hb => h34 b hb.2) (fun b hb => ⟨⟨by omega, by omega, by omega⟩, by omega⟩) _ (FrC.arP _ (fun b hb1 hb => ⟨by omega, hb⟩) HF.out)⟩ hb5
  have O5 : Blk w' w.heap.size #[.int .i64 op] 3 := Blk.below ((h34 _ (by omega)).trans (Blk.below HO.out hb3)) hb5
  have R5 : CBox w' (w.heap.size + 1) 0 ⟨#[]⟩ ⟨#[]⟩ SS.nil none 0 0 := CBox.b ((h34 _ (by omega)).trans (CBox.b HR.out hb3)) hb5
  have G5 : Blk w' W4.heap.size #[.slice (some ⟨bb, o, none⟩) M c] 23 := by rw [HW5.out]; exact Blk.new W4 _ _
  have hst := back_stops (5 : Nat) w.heap.size W4.heap.size w w' (some ⟨bb, o, none⟩) M c lt HT.out hCk hB5 hB5.size G5
  rw [hs4] at hst
  have hlg : w3.heap.size < w'.heap.size := by have := hb5.size; omega
  (try rw [hs4])
  clear HW5 HW4 HF HBZ G5 C4 h34 hb5 v0 v1 v2 v3 v4 f0 f1 f2 f3 f4 hb3 HO HR x0 x1 x2 x3 x4 hbZ hB4 hB3 hmn hwr hwr2 hMm hMc hM0
  clear hs4
  generalize w3.heap.size = g8 at *
  refine wpIn_rangeFunc_ownH rfl (by decide) (gf := 115) (lb := #[.pointer (some ⟨g8 + 1, 0, none⟩)]) rfl trivial (enters_of Tryz.func115 (by kernel_rfl) rfl)
    hst KpS.trans (KpS.obj hB5.size) (Below.refl _ _) (fun _ => rfl)
    (fun pre W => ((JC g8 (w.heap.size + 1) w.heap.size (joinD op x (pre.map tI)) W ∧ Blk W w.heap.size #[.int .i64 op] 3) ∧ CBox W (w.heap.size + 1) 0 ⟨#[]⟩ ⟨#[]⟩ SS.nil none 0 0) ∧ Below w.heap.size w W)
    (fun cd pre W => False)
    (OwnFrom.and (OwnFrom.and (OwnFrom.and (Own.from (jc_own g8 (w.heap.size + 1) w.heap.size (fun pre : List (PtI w.heap.size w) => joinD op x (pre.map tI))) _) (Own.from (own_blk _ _ _) _)) (Own.from (own_blk _ _ _) _)) (ownFrom_below (Nat.le_refl _) hB5.size))
    (fun cd _ _ _ _ hs _ _ => hs)
    ⟨⟨⟨J5, O5⟩, R5⟩, hB5⟩
    (fun y a2 W => ∃ Bx, CBox W Bx (opC y.x.t) (nmC y.x.t) (soC y.x.t) y.x.k y.x.a y.x.n y.x.c ∧ a2 = { tmps := #[.slice (some ⟨bb, o, none⟩) (M + 1) c, .int .i64 op, .int .i64 none0, undef, .pointer (some ⟨w.heap.size, 0, none⟩), undef, .pointer (some ⟨w.heap.size + 1, 0, none⟩), .int .i64 M, .pointer (some ⟨g8, 0, none⟩), undef, .pointer (some ⟨Bx, 0, none⟩), .slice (some ⟨bb, o, none⟩) (M + 1) c, .int .i64 ((M : Int) + 1), .bool false, undef, undef, .slice (some ⟨bb, o, none⟩) (M + 1) c, .int .i64 ((M : Int) + 1), .int .i64 M, .slice (some ⟨bb, o, none⟩) (M + 1) c, .int .i64 M, .pointer (some ⟨bb, o + M * 5, none⟩), .agg #[.int .i64 ox, .string nx, .string sx, .slice kx.a kx.n kx.c, .slice XA Xn Xc], .agg #[.int .i64 h.op, .string h.nm, .string h.so, .slice h.k.a h.k.n h.k.c, .slice h.a h.n h.c], .slice (some ⟨bb, o, none⟩) (M + 1) c, .int .i64 M, .slice (some ⟨bb, o, none⟩) M c, .func (.func 115) #[] #[.pointer (some ⟨g8 + 1, 0, none⟩)], .int .i64 (y.i : Int), .agg #[.int .i64 (opC y.x.t), .string (nmC y.x.t), .string (soC y.x.t), .slice y.x.k.a y.x.k.n y.x.k.c, .slice y.x.a y.x.n y.x.c], undef, undef, undef, undef, undef, undef, undef], defers := [] })
    (fun x a2 _ X Y row hs hg hr => by obtain ⟨Bx, h2, h3⟩ := hs; exact ⟨Bx, own_blk Bx _ _ () X Y row h2 hg (fun r e => (hr r e).2), h3⟩)
    ?assign ?body ?done ?stop
  case assign =>
    rintro lp pre y W K ⟨⟨⟨hJ, hO⟩, hR⟩, hB⟩ hK
    have hb : Below W.heap.size W (W.alloc (.cells #[.int .i64 (opC y.x.t), .string (nmC y.x.t), .string (soC y.x.t), .slice y.x.k.a y.x.k.n y.x.k.c, .slice y.x.a y.x.n y.x.c] 25)) := bel_alloc (Below.refl _ _) _
    unfold encI
    gi_wp2
    exact hK _ _ (keepsF hb) (KpS.of_below hB.size hb) ⟨⟨⟨hJ.below hb, Blk.below hO hb⟩, CBox.b hR hb⟩, hB.trans (hb.mono hB.size)⟩ ⟨W.heap.size, CBox.new W _ _ _ _ _ _ _, rfl⟩
  case body =>
    rintro lp pre y a2 W hl hr ⟨⟨⟨hJ, hO⟩, hR⟩, hB⟩ ⟨Bx, hX, rfl⟩ hlt
    have hjs : joinD op x ((pre ++ [y]).map tI) = .mk op ⟨#[]⟩ ⟨#[]⟩ [] [y.x.t, joinD op x (pre.map tI)] := by rw [List.map_append]; exact joinD_snoc _ _ _ _
    have hBd : Below W.heap.size W W.drew := (Below.refl _ _).drew
    have cC := CopyC_any y.x.t y.x.k y.x.a y.x.n y.x.c W.drew y.sz (ArC.mono hB.size _ (ArC.bel (hB.trans (hBd.mono hB.size)) _ y.x.ok))
    obtain ⟨hd, hG8, he8, hA8⟩ := hJ
    obtain ⟨x0, x1, x2, x3, x4⟩ := hX.five
    obtain ⟨q0, q1, q2, q3, q4⟩ := hG8.five
    have o0 := Blk.cell hO 0
    have HF := Lib.hid (fun (w5 : World) (h5 : Hc) (hF5 : FrC w5 y.x.t W.heap.size w5.heap.size h5) (hb5 : Below W.heap.size W.drew w5) => jb_facts (op := op) hG8 he8 hA8 hO hR hB hB.size (show w.heap.size ≤ g8 by omega) (show w.heap.size + 1 < g8 by omega) hF5 (hBd.trans hb5))
    rw [← hjs] at HF
    clear hG8 he8 hA8 hO hR hX hBd
    gi_wp2
    refine wpIn_region_any (by kernel_rfl) ?_
    try (change wpAnyIn _ _ _ _ _ _ _ _ _ (World.drew _))
    refine wpAnyIn_ready (rs := [0, 1, 3]) (by kernel_rfl) (by simp) (AllReadyIn.cons rfl (fun K hK => ?_) (AllReadyIn.cons rfl (fun K hK => ?_) (AllReadyIn.cons rfl (fun K hK => ?_) (AllReadyIn.nil))))
    · go_simp
      refine hK _ _ ?_
      clear hK K
      refine wpAnyIn_ready (rs := [1, 3]) (by kernel_rfl) (by simp) (AllReadyIn.cons rfl (fun K hK => ?_) (AllReadyIn.cons rfl (fun K hK => ?_) (AllReadyIn.nil)))
      · go_simp
        refine hK _ _ ?_
        clear hK K
        refine wpAnyIn_ready (rs := [2, 3]) (by kernel_rfl) (by simp) (AllReadyIn.cons rfl (fun K hK => ?_) (AllReadyIn.cons rfl (fun K hK => ?_) (AllReadyIn.nil)))
        · go_simp
          gi_wp2_with (refine ⟨trivial, ?_⟩; gi_at_call 54; refine (CallsIn.inRound lp (callsIn_wide.2 cC)).mono ?_; rintro e w5 ⟨h5, rfl, hF5, hb5⟩; obtain ⟨W6, hW6, ⟨a0, a1, a2, a3, a4, a5⟩, ⟨b0, b1, b2, b3, b4, b5⟩, ⟨e0, e1, e2, e3, e4⟩, HX⟩ := HF.out w5 h5 hF5 hb5; clear hF5)
          refine wpAnyIn_ready (rs := [3]) (by kernel_rfl) (by simp) (AllReadyIn.cons rfl (fun K hK => ?_) (AllReadyIn.nil))
          · go_simp
            refine hK _ _ ?_
            clear hK K
            refine wpAnyIn_ready (rs := [4]) (by kernel_rfl) (by simp) (AllReadyIn.cons rfl (fun K hK => ?_) (AllReadyIn.nil))
            · go_simp
              refine hK _ _ ?_
              clear hK K
              refine wpAnyIn_ready (rs := [5]) (by kernel_rfl) (by simp) (AllReadyIn.cons rfl (fun K hK => ?_) (AllReadyIn.nil))
              · go_simp
                refine hK _ _ ?_
                clear hK K
                refine wpAnyIn_ready (rs := [6]) (by kernel_rfl) (by simp) (AllReadyIn.cons rfl (fun K hK => ?_) (AllReadyIn.nil))
                · go_simp
                  refine hK _ _ ?_
                  clear hK K
                  refine wpAnyIn_done (by kernel_rfl) ?_ _
                  (have F := HX.out _ rfl; unfold put5 at F; obtain ⟨F1, F2, F3⟩ := F; (refine And.intro ?_ (And.intro ?_ ?_)); with_reducible exact F1 _; with_reducible exact F2; with_reducible exact F3)
        · go_simp
          refine hK _ _ ?_
          clear hK K
          refine wpAnyIn_ready (rs := [2]) (by kernel_rfl) (by simp) (AllReadyIn.cons rfl (fun K hK => ?_) (AllReadyIn.nil))
          · go_simp
            gi_wp2_with (refine ⟨trivial, ?_⟩; gi_at_call 54; refine (CallsIn.inRound lp (callsIn_wide.2 cC)).mono ?_; rintro e w5 ⟨h5, rfl, hF5, hb5⟩; obtain ⟨W6, hW6, ⟨a0, a1, a2, a3, a4, a5⟩, ⟨b0, b1, b2, b3, b4, b5⟩, ⟨e0, e1, e2, e3, e4⟩, HX⟩ := HF.out w5 h5 hF5 hb5; clear hF5)
            refine wpAnyIn_ready (rs := [4]) (by kernel_rfl) (by simp) (AllReadyIn.cons rfl (fun K hK => ?_) (AllReadyIn.nil))
            · go_simp
              refine hK _ _ ?_
              clear hK K
              refine wpAnyIn_ready (rs := [5]) (by kernel_rfl) (by simp) (AllReadyIn.cons rfl (fun K hK => ?_) (AllReadyIn.nil))
              · go_simp
                refine hK _ _ ?_
                clear hK K
                refine wpAnyIn_ready (rs := [6]) (by kernel_rfl) (by simp) (AllReadyIn.cons rfl (fun K hK => ?_) (AllReadyIn.nil))
                · go_simp
                  refine hK _ _ ?_
                  clear hK K
                  refine wpAnyIn_done (by kernel_rfl) ?_ _
                  (have F := HX.out _ rfl; unfold put5 at F; obtain ⟨F1, F2, F3⟩ := F; (refine And.intro ?_ (And.intro ?_ ?_)); with_reducible exact F1 _; with_reducible exact F2; with_reducible exact F3)
      · go_simp
        refine hK _ _ ?_
        clear hK K
        refine wpAnyIn_ready (rs := [1]) (by kernel_rfl) (by simp) (AllReadyIn.cons rfl (fun K hK => ?_) (AllReadyIn.nil))
        · go_simp
          refine hK _ _ ?_
          clear hK K
          refine wpAnyIn_ready (rs := [2]) (by kernel_rfl) (by simp) (AllReadyIn.cons rfl (fun K hK => ?_) (AllReadyIn.nil))
          · go_simp
            gi_wp2_with (refine ⟨trivial, ?_⟩; gi_at_call 54; refine (CallsIn.inRound lp (callsIn_wide.2 cC)).mono ?_; rintro e w5 ⟨h5, rfl, hF5, hb5⟩; obtain ⟨W6, hW6, ⟨a0, a1, a2, a3, a4, a5⟩, ⟨b0, b1, b2, b3, b4, b5⟩, ⟨e0, e1, e2, e3, e4⟩, HX⟩ := HF.out w5 h5 hF5 hb5; clear hF5)
            refine wpAnyIn_ready (rs := [4]) (by kernel_rfl) (by simp) (AllReadyIn.cons rfl (fun K hK => ?_) (AllReadyIn.nil))
            · go_simp
              refine hK _ _ ?_
              clear hK K
              refine wpAnyIn_ready (rs := [5]) (by kernel_rfl) (by simp) (AllReadyIn.cons rfl (fun K hK => ?_) (AllReadyIn.nil))
              · go_simp
                refine hK _ _ ?_
                clear hK K
                refine wpAnyIn_ready (rs := [6]) (by kernel_rfl) (by simp) (AllReadyIn.cons rfl (fun K hK => ?_) (AllReadyIn.nil))
                · go_simp
                  refine hK _ _ ?_
                  clear hK K
                  refine wpAnyIn_done (by kernel_rfl) ?_ _
                  (have F := HX.out _ rfl; unfold put5 at F; obtain ⟨F1, F2, F3⟩ := F; (refine And.intro ?_ (And.intro ?_ ?_)); with_reducible exact F1 _; with_reducible exact F2; with_reducible exact F3)
    · go_simp
      refine hK _ _ ?_
      clear hK K
      refine wpAnyIn_ready (rs := [0, 2, 3]) (by kernel_rfl) (by simp) (AllReadyIn.cons rfl (fun K hK => ?_) (AllReadyIn.cons rfl (fun K hK => ?_) (AllReadyIn.cons rfl (fun K hK => ?_) (AllReadyIn.nil))))
      · go_simp
        refine hK _ _ ?_
        clear hK K
        refine wpAnyIn_ready (rs := [2, 3]) (by kernel_rfl) (by simp) (AllReadyIn.cons rfl (fun K hK => ?_) (AllReadyIn.cons rfl (fun K hK => ?_) (AllReadyIn.nil)))
        · go_simp
          gi_wp2_with (refine ⟨trivial, ?_⟩; gi_at_call 54; refine (CallsIn.inRound lp (callsIn_wide.2 cC)).mono ?_; rintro e w5 ⟨h5, rfl, hF5, hb5⟩; obtain ⟨W6, hW6, ⟨a0, a1, a2, a3, a4, a5⟩, ⟨b0, b1, b2, b3, b4, b5⟩, ⟨e0, e1, e2, e3, e4⟩, HX⟩ := HF.out w5 h5 hF5 hb5; clear hF5)
          refine wpAnyIn_ready (rs := [3]) (by kernel_rfl) (by simp) (AllReadyIn.cons rfl (fun K hK => ?_) (AllReadyIn.nil))
          · go_simp
            refine hK _ _ ?_
            clear hK K
            refine wpAnyIn_ready (rs := [4]) (by kernel_rfl) (by simp) (AllReadyIn.cons rfl (fun K hK => ?_) (AllReadyIn.nil))
            · go_simp
              refine hK _ _ ?_
              clear hK K
              refine wpAnyIn_ready (rs := [5]) (by kernel_rfl) (by simp) (AllReadyIn.cons rfl (fun K hK => ?_) (AllReadyIn.nil))
              · go_simp
                refine hK _ _ ?_
                clear hK K
                refine wpAnyIn_ready (rs := [6]) (by kernel_rfl) (by simp) (AllReadyIn.cons rfl (fun K hK => ?_) (AllReadyIn.nil))
                · go_simp
                  refine hK _ _ ?_
                  clear hK K
                  refine wpAnyIn_done (by kernel_rfl) ?_ _
                  (have F := HX.out _ rfl; unfold put5 at F; obtain ⟨F1, F2, F3⟩ := F; (refine And.intro ?_ (And.intro ?_ ?_)); with_reducible exact F1 _; with_reducible exact F2; with_reducible exact F3)
        · go_simp
          refine hK _ _ ?_
          clear hK K
          refine wpAnyIn_ready (rs := [2]) (by kernel_rfl) (by simp) (AllReadyIn.cons rfl (fun K hK => ?_) (AllReadyIn.nil))
          · go_simp
            gi_wp2_with (refine ⟨trivial, ?_⟩; gi_at_call 54; refine (CallsIn.inRound lp (callsIn_wide.2 cC)).mono ?_; rintro e w5 ⟨h5, rfl, hF5, hb5⟩; obtain ⟨W6, hW6, ⟨a0, a1, a2, a3, a4, a5⟩, ⟨b0, b1, b2, b3, b4, b5⟩, ⟨e0, e1, e2, e3, e4⟩, HX⟩ := HF.out w5 h5 hF5 hb5; clear hF5)
            refine wpAnyIn_ready (rs := [4]) (by kernel_rfl) (by simp) (AllReadyIn.cons rfl (fun K hK => ?_) (AllReadyIn.nil))
            · go_simp
              refine hK _ _ ?_
              clear hK K
              refine wpAnyIn_ready (rs := [5]) (by kernel_rfl) (by simp) (AllReadyIn.cons rfl (fun K hK => ?_) (AllReadyIn.nil))
              · go_simp
                refine hK _ _ ?_
                clear hK K
                refine wpAnyIn_ready (rs := [6]) (by kernel_rfl) (by simp) (AllReadyIn.cons rfl (fun K hK => ?_) (AllReadyIn.nil))
                · go_simp
                  refine hK _ _ ?_
                  clear hK K
                  refine wpAnyIn_done (by kernel_rfl) ?_ _
                  (have F := HX.out _ rfl; unfold put5 at F; obtain ⟨F1, F2, F3⟩ := F; (refine And.intro ?_ (And.intro ?_ ?_)); with_reducible exact F1 _; with_reducible exact F2; with_reducible exact F3)
      · go_simp
        gi_wp2_with (refine ⟨trivial, ?_⟩; gi_at_call 54; refine (CallsIn.inRound lp (callsIn_wide.2 cC)).mono ?_; rintro e w5 ⟨h5, rfl, hF5, hb5⟩; obtain ⟨W6, hW6, ⟨a0, a1, a2, a3, a4, a5⟩, ⟨b0, b1, b2, b3, b4, b5⟩, ⟨e0, e1, e2, e3, e4⟩, HX⟩ := HF.out w5 h5 hF5 hb5; clear hF5)
        refine wpAnyIn_ready (rs := [0, 3]) (by kernel_rfl) (by simp) (AllReadyIn.cons rfl (fun K hK => ?_) (AllReadyIn.cons rfl (fun K hK => ?_) (AllReadyIn.nil)))
        · go_simp
          refine hK _ _ ?_
          clear hK K
          refine wpAnyIn_ready (rs := [3]) (by kernel_rfl) (by simp) (AllReadyIn.cons rfl (fun K hK => ?_) (AllReadyIn.nil))
          · go_simp
            refine hK _ _ ?_
            clear hK K
            refine wpAnyIn_ready (rs := [4]) (by kernel_rfl) (by simp) (AllReadyIn.cons rfl (fun K hK => ?_) (AllReadyIn.nil))
            · go_simp
              refine hK _ _ ?_
              clear hK K
              refine wpAnyIn_ready (rs := [5]) (by kernel_rfl) (by simp) (AllReadyIn.cons rfl (fun K hK => ?_) (AllReadyIn.nil))
              · go_simp
                refine hK _ _ ?_
                clear hK K
                refine wpAnyIn_ready (rs := [6]) (by kernel_rfl) (by simp) (AllReadyIn.cons rfl (fun K hK => ?_) (AllReadyIn.nil))
                · go_simp
                  refine hK _ _ ?_
                  clear hK K
                  refine wpAnyIn_done (by kernel_rfl) ?_ _
                  (have F := HX.out _ rfl; unfold put5 at F; obtain ⟨F1, F2, F3⟩ := F; (refine And.intro ?_ (And.intro ?_ ?_)); with_reducible exact F1 _; with_reducible exact F2; with_reducible exact F3)
        · go_simp
          refine hK _ _ ?_
          clear hK K
          refine wpAnyIn_ready (rs := [0, 4]) (by kernel_rfl) (by simp) (AllReadyIn.cons rfl (fun K hK => ?_) (AllReadyIn.cons rfl (fun K hK => ?_) (AllReadyIn.nil)))
          · go_simp
            refine hK _ _ ?_
            clear hK K
            refine wpAnyIn_ready (rs := [4]) (by kernel_rfl) (by simp) (AllReadyIn.cons rfl (fun K hK => ?_) (AllReadyIn.nil))
            · go_simp
              refine hK _ _ ?_
              clear hK K
              refine wpAnyIn_ready (rs := [5]) (by kernel_rfl) (by simp) (AllReadyIn.cons rfl (fun K hK => ?_) (AllReadyIn.nil))
              · go_simp
                refine hK _ _ ?_
                clear hK K
                refine wpAnyIn_ready (rs := [6]) (by kernel_rfl) (by simp) (AllReadyIn.cons rfl (fun K hK => ?_) (AllReadyIn.nil))
                · go_simp
                  refine hK _ _ ?_
                  clear hK K
                  refine wpAnyIn_done (by kernel_rfl) ?_ _
                  (have F := HX.out _ rfl; unfold put5 at F; obtain ⟨F1, F2, F3⟩ := F; (refine And.intro ?_ (And.intro ?_ ?_)); with_reducible exact F1 _; with_reducible exact F2; with_reducible exact F3)
          · go_simp
            refine hK _ _ ?_
            clear hK K
            refine wpAnyIn_ready (rs := [0]) (by kernel_rfl) (by simp) (AllReadyIn.cons rfl (fun K hK => ?_) (AllReadyIn.nil))
            · go_simp
              refine hK _ _ ?_
              clear hK K
              refine wpAnyIn_ready (rs := [5]) (by kernel_rfl) (by simp) (AllReadyIn.cons rfl (fun K hK => ?_) (AllReadyIn.nil))
              · go_simp
                refine hK _ _ ?_
                clear hK K
                refine wpAnyIn_ready (rs := [6]) (by kernel_rfl) (by simp) (AllReadyIn.cons rfl (fun K hK => ?_) (AllReadyIn.nil))
                · go_simp
                  refine hK _ _ ?_
                  clear hK K
                  refine wpAnyIn_done (by kernel_rfl) ?_ _
                  (have F := HX.out _ rfl; unfold put5 at F; obtain ⟨F1, F2, F3⟩ := F; (refine And.intro ?_ (And.intro ?_ ?_)); with_reducible exact F1 _; with_reducible exact F2; with_reducible exact F3)
      · go_simp
        refine hK _ _ ?_
        clear hK K
        refine wpAnyIn_ready (rs := [0, 2]) (by kernel_rfl) (by simp) (AllReadyIn.cons rfl (fun K hK => ?_) (AllReadyIn.cons rfl (fun K hK => ?_) (AllReadyIn.nil)))
        · go_simp
          refine hK _ _ ?_
          clear hK K
          refine wpAnyIn_ready (rs := [2]) (by kernel_rfl) (by simp) (AllReadyIn.cons rfl (fun K hK => ?_) (AllReadyIn.nil))
          · go_simp
            gi_wp2_with (refine ⟨trivial, ?_⟩; gi_at_call 54; refine (CallsIn.inRound lp (callsIn_wide.2 cC)).mono ?_; rintro e w5 ⟨h5, rfl, hF5, hb5⟩; obtain ⟨W6, hW6, ⟨a0, a1, a2, a3, a4, a5⟩, ⟨b0, b1, b2, b3, b4, b5⟩, ⟨e0, e1, e2, e3, e4⟩, HX⟩ := HF.out w5 h5 hF5 hb5; clear hF5)
            refine wpAnyIn_ready (rs := [4]) (by kernel_rfl) (by simp) (AllReadyIn.cons rfl (fun K hK => ?_) (AllReadyIn.nil))
            · go_simp
              refine hK _ _ ?_
              clear hK K
              refine wpAnyIn_ready (rs := [5]) (by kernel_rfl) (by simp) (AllReadyIn.cons rfl (fun K hK => ?_) (AllReadyIn.nil))
              · go_simp
                refine hK _ _ ?_
                clear hK K
                refine wpAnyIn_ready (rs := [6]) (by kernel_rfl) (by simp) (AllReadyIn.cons rfl (fun K hK => ?_) (AllReadyIn.nil))
                · go_simp
                  refine hK _ _ ?_
                  clear hK K
                  refine wpAnyIn_done (by kernel_rfl) ?_ _
                  (have F := HX.out _ rfl; unfold put5 at F; obtain ⟨F1, F2, F3⟩ := F; (refine And.intro ?_ (And.intro ?_ ?_)); with_reducible exact F1 _; with_reducible exact F2; with_reducible exact F3)
        · go_simp
          gi_wp2_with (refine ⟨trivial, ?_⟩; gi_at_call 54; refine (CallsIn.inRound lp (callsIn_wide.2 cC)).mono ?_; rintro e w5 ⟨h5, rfl, hF5, hb5⟩; obtain ⟨W6, hW6, ⟨a0, a1, a2, a3, a4, a5⟩, ⟨b0, b1, b2, b3, b4, b5⟩, ⟨e0, e1, e2, e3, e4⟩, HX⟩ := HF.out w5 h5 hF5 hb5; clear hF5)
          refine wpAnyIn_ready (rs := [0, 4]) (by kernel_rfl) (by simp) (AllReadyIn.cons rfl (fun K hK => ?_) (AllReadyIn.cons rfl (fun K hK => ?_) (AllReadyIn.nil)))
          · go_simp
            refine hK _ _ ?_
            clear hK K
            refine wpAnyIn_ready (rs := [4]) (by kernel_rfl) (by simp) (AllReadyIn.cons rfl (fun K hK => ?_) (AllReadyIn.nil))
            · go_simp
              refine hK _ _ ?_
              clear hK K
              refine wpAnyIn_ready (rs := [5]) (by kernel_rfl) (by simp) (AllReadyIn.cons rfl (fun K hK => ?_) (AllReadyIn.nil))
              · go_simp
                refine hK _ _ ?_
                clear hK K
                refine wpAnyIn_ready (rs := [6]) (by kernel_rfl) (by simp) (AllReadyIn.cons rfl (fun K hK => ?_) (AllReadyIn.nil))
                · go_simp
                  refine hK _ _ ?_
                  clear hK K
                  refine wpAnyIn_done (by kernel_rfl) ?_ _
                  (have F := HX.out _ rfl; unfold put5 at F; obtain ⟨F1, F2, F3⟩ := F; (refine And.intro ?_ (And.intro ?_ ?_)); with_reducible exact F1 _; with_reducible exact F2; with_reducible exact F3)
          · go_simp
            refine hK _ _ ?_
            clear hK K
            refine wpAnyIn_ready (rs := [0]) (by kernel_rfl) (by simp) (AllReadyIn.cons rfl (fun K hK => ?_) (AllReadyIn.nil))
            · go_simp
              refine hK _ _ ?_
              clear hK K
              refine wpAnyIn_ready (rs := [5]) (by kernel_rfl) (by simp) (AllReadyIn.cons rfl (fun K hK => ?_) (AllReadyIn.nil))
              · go_simp
                refine hK _ _ ?_
                clear hK K
                refine wpAnyIn_ready (rs := [6]) (by kernel_rfl) (by simp) (AllReadyIn.cons rfl (fun K hK => ?_) (AllReadyIn.nil))
                · go_simp
                  refine hK _ _ ?_
                  clear hK K
                  refine wpAnyIn_done (by kernel_rfl) ?_ _
                  (have F := HX.out _ rfl; unfold put5 at F; obtain ⟨F1, F2, F3⟩ := F; (refine And.intro ?_ (And.intro ?_ ?_)); with_reducible exact F1 _; with_reducible exact F2; with_reducible exact F3)
    · go_simp
      refine hK _ _ ?_
      clear hK K
      refine wpAnyIn_ready (rs := [0, 1]) (by kernel_rfl) (by simp) (AllReadyIn.cons rfl (fun K hK => ?_) (AllReadyIn.cons rfl (fun K hK => ?_) (AllReadyIn.nil)))
      · go_simp
        refine hK _ _ ?_
        clear hK K
        refine wpAnyIn_ready (rs := [1]) (by kernel_rfl) (by simp) (AllReadyIn.cons rfl (fun K hK => ?_) (AllReadyIn.nil))
        · go_simp
          refine hK _ _ ?_
          clear hK K
          refine wpAnyIn_ready (rs := [2]) (by kernel_rfl) (by simp) (AllReadyIn.cons rfl (fun K hK => ?_) (AllReadyIn.nil))
          · go_simp
            gi_wp2_with (refine ⟨trivial, ?_⟩; gi_at_call 54; refine (CallsIn.inRound lp (callsIn_wide.2 cC)).mono ?_; rintro e w5 ⟨h5, rfl, hF5, hb5⟩; obtain ⟨W6, hW6, ⟨a0, a1, a2, a3, a4, a5⟩, ⟨b0, b1, b2, b3, b4, b5⟩, ⟨e0, e1, e2, e3, e4⟩, HX⟩ := HF.out w5 h5 hF5 hb5; clear hF5)
            refine wpAnyIn_ready (rs := [4]) (by kernel_rfl) (by simp) (AllReadyIn.cons rfl (fun K hK => ?_) (AllReadyIn.nil))
            · go_simp
              refine hK _ _ ?_
              clear hK K
              refine wpAnyIn_ready (rs := [5]) (by kernel_rfl) (by simp) (AllReadyIn.cons rfl (fun K hK => ?_) (AllReadyIn.nil))
              · go_simp
                refine hK _ _ ?_
                clear hK K
                refine wpAnyIn_ready (rs := [6]) (by kernel_rfl) (by simp) (AllReadyIn.cons rfl (fun K hK => ?_) (AllReadyIn.nil))
                · go_simp
                  refine hK _ _ ?_
                  clear hK K
                  refine wpAnyIn_done (by kernel_rfl) ?_ _
                  (have F := HX.out _ rfl; unfold put5 at F; obtain ⟨F1, F2, F3⟩ := F; (refine And.intro ?_ (And.intro ?_ ?_)); with_reducible exact F1 _; with_reducible exact F2; with_reducible exact F3)
      · go_simp
        refine hK _ _ ?_
        clear hK K
        refine wpAnyIn_ready (rs := [0, 2]) (by kernel_rfl) (by simp) (AllReadyIn.cons rfl (fun K hK => ?_) (AllReadyIn.cons rfl (fun K hK => ?_) (AllReadyIn.nil)))
        · go_simp
          refine hK _ _ ?_
          clear hK K
          refine wpAnyIn_ready (rs := [2]) (by kernel_rfl) (by simp) (AllReadyIn.cons rfl (fun K hK => ?_) (AllReadyIn.nil))
          · go_simp
            gi_wp2_with (refine ⟨trivial, ?_⟩; gi_at_call 54; refine (CallsIn.inRound lp (callsIn_wide.2 cC)).mono ?_; rintro e w5 ⟨h5, rfl, hF5, hb5⟩; obtain ⟨W6, hW6, ⟨a0, a1, a2, a3, a4, a5⟩, ⟨b0, b1, b2, b3, b4, b5⟩, ⟨e0, e1, e2, e3, e4⟩, HX⟩ := HF.out w5 h5 hF5 hb5; clear hF5)
            refine wpAnyIn_ready (rs := [4]) (by kernel_rfl) (by simp) (AllReadyIn.cons rfl (fun K hK => ?_) (AllReadyIn.nil))
            · go_simp
              refine hK _ _ ?_
              clear hK K
              refine wpAnyIn_ready (rs := [5]) (by kernel_rfl) (by simp) (AllReadyIn.cons rfl (fun K hK => ?_) (AllReadyIn.nil))
              · go_simp
                refine hK _ _ ?_
                clear hK K
                refine wpAnyIn_ready (rs := [6]) (by kernel_rfl) (by simp) (AllReadyIn.cons rfl (fun K hK => ?_) (AllReadyIn.nil))
                · go_simp
                  refine hK _ _ ?_
                  clear hK K
                  refine wpAnyIn_done (by kernel_rfl) ?_ _
                  (have F := HX.out _ rfl; unfold put5 at F; obtain ⟨F1, F2, F3⟩ := F; (refine And.intro ?_ (And.intro ?_ ?_)); with_reducible exact F1 _; with_reducible exact F2; with_reducible exact F3)
        · go_simp
          gi_wp2_with (refine ⟨trivial, ?_⟩; gi_at_call 54; refine (CallsIn.inRound lp (callsIn_wide.2 cC)).mono ?_; rintro e w5 ⟨h5, rfl, hF5, hb5⟩; obtain ⟨W6, hW6, ⟨a0, a1, a2, a3, a4, a5⟩, ⟨b0, b1, b2, b3, b4, b5⟩, ⟨e0, e1, e2, e3, e4⟩, HX⟩ := HF.out w5 h5 hF5 hb5; clear hF5)
          refine wpAnyIn_ready (rs := [0, 4]) (by kernel_rfl) (by simp) (AllReadyIn.cons rfl (fun K hK => ?_) (AllReadyIn.cons rfl (fun K hK => ?_) (AllReadyIn.nil)))
          · go_simp
            refine hK _ _ ?_
            clear hK K
            refine wpAnyIn_ready (rs := [4]) (by kernel_rfl) (by simp) (AllReadyIn.cons rfl (fun K hK => ?_) (AllReadyIn.nil))
            · go_simp
              refine hK _ _ ?_
              clear hK K
              refine wpAnyIn_ready (rs := [5]) (by kernel_rfl) (by simp) (AllReadyIn.cons rfl (fun K hK => ?_) (AllReadyIn.nil))
              · go_simp
                refine hK _ _ ?_
                clear hK K
                refine wpAnyIn_ready (rs := [6]) (by kernel_rfl) (by simp) (AllReadyIn.cons rfl (fun K hK => ?_) (AllReadyIn.nil))
                · go_simp
                  refine hK _ _ ?_
                  clear hK K
                  refine wpAnyIn_done (by kernel_rfl) ?_ _
                  (have F := HX.out _ rfl; unfold put5 at F; obtain ⟨F1, F2, F3⟩ := F; (refine And.intro ?_ (And.intro ?_ ?_)); with_reducible exact F1 _; with_reducible exact F2; with_reducible exact F3)
          · go_simp
            refine hK _ _ ?_
            clear hK K
            refine wpAnyIn_ready (rs := [0]) (by kernel_rfl) (by simp) (AllReadyIn.cons rfl (fun K hK => ?_) (AllReadyIn.nil))
            · go_simp
              refine hK _ _ ?_
              clear hK K
              refine wpAnyIn_ready (rs := [5]) (by kernel_rfl) (by simp) (AllReadyIn.cons rfl (fun K hK => ?_) (AllReadyIn.nil))
              · go_simp
                refine hK _ _ ?_
                clear hK K
                refine wpAnyIn_ready (rs := [6]) (by kernel_rfl) (by simp) (AllReadyIn.cons rfl (fun K hK => ?_) (AllReadyIn.nil))
                · go_simp
                  refine hK _ _ ?_
                  clear hK K
                  refine wpAnyIn_done (by kernel_rfl) ?_ _
                  (have F := HX.out _ rfl; unfold put5 at F; obtain ⟨F1, F2, F3⟩ := F; (refine And.intro ?_ (And.intro ?_ ?_)); with_reducible exact F1 _; with_reducible exact F2; with_reducible exact F3)
  case done =>
    rintro D zs W hD hS ⟨⟨⟨hJ, hO⟩, hR⟩, hB⟩ hK
    rw [hS] at hJ
    obtain ⟨hd, hG8, he8, hA8⟩ := hJ
    obtain ⟨q0, q1, q2, q3, q4⟩ := hG8.five
    obtain ⟨r0, r1, r2, r3, r4⟩ := hR.free
    obtain ⟨z0, z1, z2, z3, z4⟩ := hR.five
    have hDr : D ≠ w.heap.size + 1 := fun e => blk_ne hR hK e.symm
    have hK2 : (put5 W (w.heap.size + 1) (.int .i64 hd.op) (.string hd.nm) (.string hd.so) (.slice hd.k.a hd.k.n hd.k.c) (.slice hd.a hd.n hd.c)).heap[D]? = some (.deferred (some [])) := (put5_other _ _ _ _ _ _ _ _ hDr).trans hK
    have hR3 := blk_put (CBox.put hR hd.op hd.nm hd.so hd.k hd.a hd.n hd.c) hK2 (.deferred none)
    have hfin : ArCP (fun b => w.heap.size ≤ b ∧ b < ((put5 W (w.heap.size + 1) (.int .i64 hd.op) (.string hd.nm) (.string hd.so) (.slice hd.k.a hd.k.n hd.k.c) (.slice hd.a hd.n hd.c)).putObj D (.deferred none)).heap.size) ((put5 W (w.heap.size + 1) (.int .i64 hd.op) (.string hd.nm) (.string hd.so) (.slice hd.k.a hd.k.n hd.k.c) (.slice hd.a hd.n hd.c)).putObj D (.deferred none)) (joinD op x lt.reverse) hd.k hd.a hd.n hd.c := by
      have h1 : ArCP (fun b => w.heap.size ≤ b ∧ b < W.heap.size) (put5 W (w.heap.size + 1) (.int .i64 hd.op) (.string hd.nm) (.string hd.so) (.slice hd.k.a hd.k.n hd.k.c) (.slice hd.a hd.n hd.c)) (joinD op x lt.reverse) hd.k hd.a hd.n hd.c := ArCP.to (fun b hb => put5_other _ _ _ _ _ _ _ _ hb.1.2.1) (fun b hb => ⟨hb.1.2.2, hb.2⟩) _ hA8
      have hsz : W.heap.size ≤ ((put5 W (w.heap.size + 1) (.int .i64 hd.op) (.string hd.nm) (.string hd.so) (.slice hd.k.a hd.k.n hd.k.c) (.slice hd.a hd.n hd.c)).putObj D (.deferred none)).heap.size := by
        have := (grownBy_putObj' (put5 W (w.heap.size + 1) (.int .i64 hd.op) (.string hd.nm) (.string hd.so) (.slice hd.k.a hd.k.n hd.k.c) (.slice hd.a hd.n hd.c)) D (.deferred none)).size
        rwa [put5_size] at this
      exact ArCP.toC (fun b o v _ hc => cell_kept hc (grownBy_putObj' _ D (.deferred none)) (fun r e => by cases e; exact ⟨_, hK2, rfl⟩)) (fun b hb => ⟨hb.1, by omega⟩) _ h1
    have hbl : Below w.heap.size w ((put5 W (w.heap.size + 1) (.int .i64 hd.op) (.string hd.nm) (.string hd.so) (.slice hd.k.a hd.k.n hd.k.c) (.slice hd.a hd.n hd.c)).putObj D (.deferred none)) := (put5_below hB (by omega) _ _ _ _ _).trans (belowK_b (w := w) (Nat.le_refl _) _ D _ (.deferred none) (Nat.le_trans hB5.size hD) hK2 rfl rfl)
    obtain ⟨c0, c1, c2, c3, c4⟩ := CBox.five hR3
    have Hf := Lib.hid hfin
    have Hb := Lib.hid hbl
    have Hc := Lib.hid (And.intro c0 (And.intro c1 (And.intro c2 (And.intro c3 c4))))
    have HK2 := Lib.hid hK2
    have He8 := Lib.hid he8
    clear he8 hfin hbl hR3 hA8 hG8 hR hO hB c0 c1 c2 c3 c4 hK2
    unfold put5 at Hf Hb Hc HK2
    gi_wp2
    refine ⟨by simp, .inl ⟨_, _, rfl, run_takeDeferred HK2.out, ?_⟩⟩
    obtain ⟨c0, c1, c2, c3, c4⟩ := Hc.out
    exact ⟨_, by simp [results, Tryz.results56, go_sem, c0, c1, c2, c3, c4], hd, rfl, He8.out, Hf.out, Hb.out⟩
  case stop =>
    rintro D cd pre W hD hS h hK
    exact h.elim
end Go.Proofs.YtjjfbgadpgckeaaGreat.C
