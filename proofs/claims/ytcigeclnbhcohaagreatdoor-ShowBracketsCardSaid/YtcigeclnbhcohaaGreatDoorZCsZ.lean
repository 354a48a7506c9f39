/-
  What is proved: how great a claim of few parts is, as package claim counts it.
-/
import Derived.Test.YtcigeclnbhcohaaGreatDoorBX
import Derived.Test.YtcigeclnbhcohaaGreatDoorZClmWt
import Derived.OrdersIn
namespace Go.Proofs.YtcigeclnbhcohaaGreatDoor.Cs
open Go.RowKit Go.Shelf L T C
set_option linter.unusedVariables false
set_option linter.unusedSimpArgs false
attribute [local go_sem] Oper.semAt_some

theorem setCell_same {w : World} {g k : Nat} {v : Value} {cur : Array Value} {t : TypeId} (hg : w.heap[g]? = some (.cells cur t (0, 0))) (hk : cur[k]? = some v) : w.setCell ⟨g, k, none⟩ v = w := by
  have hlt := (Array.getElem?_eq_some_iff.1 hg).1
  have hx : (w.setCell ⟨g, k, none⟩ v).heap = w.heap := by
    refine Array.ext_getElem? fun i => ?_
    by_cases e : i = g
    · subst e
      rw [heap_setCell_same w i k _ _ v hg, hg]
      congr 2
      refine Array.ext_getElem? fun j => ?_
      rw [Array.getElem?_setIfInBounds]
      by_cases e2 : k = j
      · subst e2
        have := (Array.getElem?_eq_some_iff.1 hk).1
        rw [if_pos rfl, if_pos this, hk]
      · rw [if_neg e2]
    · exact heap_setCell_other w ⟨g, k, none⟩ i v e
  unfold World.setCell at hx ⊢
  cases w
  simp only at hx ⊢
  rw [hx]
/-- the parts of claims, and of their own terms -/
def cntL : List Cl → Nat
  | [] => 0
  | t :: l => 1 + sizes (tsC t) + cntL l
theorem cntL_app (l m : List Cl) : cntL (l ++ m) = cntL l + cntL m := by
  induction l with
  | nil => rw [List.nil_append, cntL]; omega
  | cons t l ih => rw [List.cons_append, cntL, cntL, ih]; omega
mutual
theorem cnt_all : ∀ t : Cl, cntL (allP yes t) = wt t
  | .mk o s z ts l => by
    rw [allP_mk, cntL, kids_yes]
    show 1 + sizes ts + cntL (allPs yes l) = _
    rw [wt, cnt_alls l]
theorem cnt_alls : ∀ l : List Cl, cntL (allPs yes l) = wts l
  | [] => by rw [allPs, cntL, wts]
  | t :: l => by rw [allPs, cntL_app, cnt_all t, cnt_alls l, wts]
end
theorem cnt_pre {l m : List Cl} (h : l <+: m) : cntL l ≤ cntL m := by
  obtain ⟨r, rfl⟩ := h
  rw [cntL_app]; omega
set_option maxRecDepth 100000 in
set_option maxHeartbeats 8000000 in
theorem cSize_in (t : Cl) (ks : SS) (a : Option Addr) (m c : Nat) (w : World) (hA : ArWC w t ks a m c) :
    CallsIn Fence.wide 6 Tryz.prog 67 #[.agg #[.int .i64 (opC t), .string (nmC t), .string (soC t), .slice ks.a ks.n ks.c, .slice a m c]] w fun e w' => e = .returned (.int .i64 ((min (wt t) 4097 : Nat) : Int)) ∧ Below w.heap.size w w' := by
  obtain ⟨W2, hW2, hB2, hs2, S2⟩ := cbox1 w (opC t) (nmC t) (soC t) ks a m c
  obtain ⟨W3, hW3⟩ : ∃ W3, W2.alloc (.cells #[.int .i64 0] 3) = W3 := ⟨_, rfl⟩
  have hB3 : Below W2.heap.size W2 W3 := by rw [← hW3]; exact bel_alloc (Below.refl _ _) _
  have hs3 : W3.heap.size = w.heap.size + 2 := by rw [← hW3, World.size_alloc, hs2]
  have R3 : Blk W3 (w.heap.size + 1) #[.int .i64 0] 3 := by rw [← hW3, ← hs2]; exact Blk.new W2 _ _
  obtain ⟨W4, hW4⟩ : ∃ W4, W3.alloc (.cells #[.int .i64 0] 3) = W4 := ⟨_, rfl⟩
  have hB4 : Below W3.heap.size W3 W4 := by rw [← hW4]; exact bel_alloc (Below.refl _ _) _
  have hs4 : W4.heap.size = w.heap.size + 3 := by rw [← hW4, World.size_alloc, hs3]
  have N4 : Blk W4 (w.heap.size + 2) #[.int .i64 0] 3 := by rw [← hW4, ← hs3]; exact Blk.new W3 _ _
  have e4 : W4.setCell ⟨w.heap.size + 2, 0, none⟩ (.int .i64 0) = W4 := setCell_same N4 rfl
  have R4 : Blk W4 (w.heap.size + 1) #[.int .i64 0] 3 := Blk.below R3 hB4
  have S4 := CBox.b (CBox.b S2 hB3) hB4
  obtain ⟨u0, u1, u2, u3, u4⟩ := S4.five
  have n0 := Blk.cell N4 0
  have f0 := Blk.free N4 0
  obtain ⟨W5, hW5, hB5, hs5, I5, F5⟩ := cbox_all W4 (opC t) (nmC t) (soC t) ks a m c
  have cAll := call_any (opC t) (nmC t) (soC t) ks a m c W4
  rw [hW5, hs4, Nat.add_assoc, Nat.add_assoc] at cAll
  rw [hs4, Nat.add_assoc] at I5 F5
  have B4 : Below w.heap.size w W4 := bel_trans hB2 (bel_trans hB3 hB4)
  have B5 : Below w.heap.size w W5 := bel_trans B4 hB5
  have hst := allC_stops (fun _ => True) (fun _ _ _ _ => trivial) (5 : Nat) yes 0 w.heap.size (w.heap.size + 4) (w.heap.size + 5) w W5 t trivial ks a m c (ends_subs W5) hA B5 B5.size I5 F5
  have N5 := Blk.below N4 hB5
  have R5 := Blk.below R4 hB5
  have hce : ∀ zs : List (PtC (fun _ => True) w.heap.size w), zs.map PtC.t = allP yes t → cntL (zs.map PtC.t) = wt t := fun zs h => by rw [h, cnt_all]
  have hcp : ∀ zs : List (PtC (fun _ => True) w.heap.size w), zs.map PtC.t <+: allP yes t → cntL (zs.map PtC.t) ≤ wt t := fun zs h => by have := cnt_pre h; rwa [cnt_all] at this
  have cS := fun (x : Tm) (xa : Option Addr) (xn xc : Nat) (W : World) (h : ArW W x xa xn xc) => tSize_any x xa xn xc W h
  clear hA S2 R3 R4 N4 S4 hW5 hs5
  refine callsIn_of_wp_marks Tryz.func67 rfl trivial ?_ rfl
  simp only [Tryz.ntmps67, List.size_toArray, List.length_cons, List.length_nil, Nat.reduceAdd, Nat.reduceSub, Array.replicate_succ, Array.replicate_zero, List.push_toArray, List.append_toArray, List.nil_append, List.cons_append]
  gi_wp2_with (refine ⟨trivial, ?_⟩; gi_at_call 68; refine (callsIn_wide.2 cAll).mono ?_; rintro e w' ⟨rfl, rfl⟩)
  refine wpIn_rangeFunc_ownH rfl (by decide) (gf := 99) (lb := #[.pointer (some ⟨w.heap.size + 4, 0, none⟩), .pointer (some ⟨w.heap.size + 5, 0, none⟩)]) rfl trivial (enters_of Tryz.func99 (by kernel_rfl) rfl)
    hst KpC.trans (KpC.obj B5.size) (Below.refl _ _) (fun _ => rfl)
    (fun pre W => ((cntL (pre.map PtC.t) ≤ 4096 ∧ Blk W (w.heap.size + 2) #[.int .i64 ((cntL (pre.map PtC.t) : Nat) : Int)] 3) ∧ Blk W (w.heap.size + 1) #[.int .i64 0] 3) ∧ Below w.heap.size w W)
    (fun cd pre W => ((cd = .ret ∧ 4096 < cntL (pre.map PtC.t)) ∧ Blk W (w.heap.size + 1) #[.int .i64 4097] 3) ∧ Below w.heap.size w W)
    (OwnFrom.and (OwnFrom.and (OwnFrom.and (ownFrom_pure _ _) (Own.from (own_blkF (w.heap.size + 2) (fun pre : List (PtC (fun _ => True) w.heap.size w) => #[.int .i64 ((cntL (pre.map PtC.t) : Nat) : Int)]) 3) _)) (Own.from (own_blk _ _ _) _)) (ownFrom_below (Nat.le_refl _) B5.size))
    (fun cd => OwnFrom.and (OwnFrom.and (ownFrom_pure _ _) (Own.from (own_blk _ _ _) _)) (ownFrom_below (Nat.le_refl _) B5.size))
    ⟨⟨⟨by simp [cntL], N5⟩, R5⟩, B5⟩
    (fun x a2 W => ∃ Bx, CBox W Bx (opC x.t) (nmC x.t) (soC x.t) x.k x.a x.n x.c ∧ a2 = { tmps := #[.agg #[.int .i64 (opC t), .string (nmC t), .string (soC t), .slice ks.a ks.n ks.c, .slice a m c], .pointer (some ⟨w.heap.size, 0, none⟩), .pointer (some ⟨w.heap.size + 1, 0, none⟩), .pointer (some ⟨w.heap.size + 2, 0, none⟩), .pointer (some ⟨Bx, 0, none⟩), undef, .agg #[.int .i64 (opC t), .string (nmC t), .string (soC t), .slice ks.a ks.n ks.c, .slice a m c], .func (.func 99) #[] #[.pointer (some ⟨w.heap.size + 4, 0, none⟩), .pointer (some ⟨w.heap.size + 5, 0, none⟩)], .agg #[.int .i64 (opC x.t), .string (nmC x.t), .string (soC x.t), .slice x.k.a x.k.n x.k.c, .slice x.a x.n x.c], undef, undef, undef, undef, undef, undef, undef, undef, undef, undef, undef, undef, undef, undef, undef, undef, undef, undef, undef, undef, undef, undef, undef, undef], defers := [] })
    (fun x a2 _ X Y row hs hg hr => by obtain ⟨Bx, h2, h3⟩ := hs; exact ⟨Bx, own_blk Bx _ _ () X Y row h2 hg (fun r e => (hr r e).2), h3⟩)
    ?assign ?body ?done ?stop
  case assign =>
    rintro l pre x W K ⟨⟨⟨hq, hN⟩, hR⟩, hB⟩ hK
    have hb : Below W.heap.size W (W.alloc (.cells #[.int .i64 (opC x.t), .string (nmC x.t), .string (soC x.t), .slice x.k.a x.k.n x.k.c, .slice x.a x.n x.c] 33)) := bel_alloc (Below.refl _ _) _
    unfold encC
    gi_wp2
    exact hK _ _ (keepsF hb) (KpC.of_below hB.size hb) ⟨⟨⟨hq, Blk.below hN hb⟩, Blk.below hR hb⟩, hB.trans (hb.mono hB.size)⟩ ⟨W.heap.size, CBox.new W _ _ _ _ _ _ _, rfl⟩
  case body =>
    rintro l pre x a2 W hl hr ⟨⟨⟨hq4, hN⟩, hR⟩, hB⟩ ⟨Bx, hX, rfl⟩ hlt
    have hT : IsT w.heap.size w x.k.a x.k.n x.k.c (tsC x.t) := (ar_isC.1 x.ok).1
    have hcs : cntL ((pre ++ [x]).map PtC.t) = cntL (pre.map PtC.t) + (1 + sizes (tsC x.t)) := by rw [List.map_append, cntL_app, List.map_singleton, cntL, cntL]; omega
    obtain ⟨q, hq⟩ : ∃ q, q = cntL (pre.map PtC.t) := ⟨_, rfl⟩
    rw [← hq] at hq4 hN hcs
    have HX := Lib.hid hX
    obtain ⟨x0, x1, x2, x3, x4⟩ := hX.five
    have c0 := Blk.cell hN 0
    have q0 := Blk.free hN 0
    have N1 := blk_cell_set hN (.int .i64 ((q : Int) + 1))
    have hkp1 : KpC w.heap.size W (W.setCell ⟨w.heap.size + 2, 0, none⟩ (.int .i64 ((q : Int) + 1))) := ⟨(Below.refl _ _).setCell (p := ⟨w.heap.size + 2, 0, none⟩) (by simp) _, keepC_set hN (by simp) _ _⟩
    have R1 : Blk (W.setCell ⟨w.heap.size + 2, 0, none⟩ (.int .i64 ((q : Int) + 1))) (w.heap.size + 1) #[.int .i64 0] 3 := Blk.far hR (by omega) _ _
    have hkn : x.k.n ≤ 9223372036854775807 := by have h1 := hT.2.1; have h2 := hT.2.2.1; unfold maxLen at h2; omega
    have HT := Lib.hid hT
    have HCs := Lib.hid hcs
    have hTe : ∀ j, x.k.n ≤ j → sizes ((tsC x.t).take j) = sizes (tsC x.t) := fun j hj => by rw [List.take_of_length_le (by rw [← hT.1]; exact hj)]
    have hTs : ∀ j y, (tsC x.t)[j]? = some y → sizes ((tsC x.t).take (j + 1)) = sizes ((tsC x.t).take j) + T.size y := fun j y h => by rw [take_t h, sizes_app, sizes, sizes]; omega
    have hTl : ∀ j, sizes ((tsC x.t).take j) ≤ sizes (tsC x.t) := fun j => by
      have := sizes_app ((tsC x.t).take j) ((tsC x.t).drop j)
      rw [List.take_append_drop] at this; omega
    have hT0 : sizes ((tsC x.t).take 0) = 0 := rfl
    have HTe := Lib.hid hTe
    have HTs := Lib.hid hTs
    have HTl := Lib.hid hTl
    clear hcs hT hTe hTs hTl hst hq hX
    gi_wp2
    gi_loopw [5] (fun i wr0 => ∃ (wr : World) (j qv : Nat), wr = wr0 ∧ j ≤ x.k.n ∧ i = .int .i64 j ∧ qv ≤ 8193 ∧ KpC w.heap.size W wr ∧ Hid ((qv ≤ 4096 → qv = q + 1 + sizes ((tsC x.t).take j)) ∧ (4096 < qv → 4096 < q + 1 + sizes ((tsC x.t).take j)) ∧ KeepsFrom w'.heap.size W wr ∧ Blk wr (w.heap.size + 2) #[.int .i64 (qv : Int)] 3 ∧ Blk wr (w.heap.size + 1) #[.int .i64 0] 3)) (fun i _ => x.k.n - (intOf i).toNat)
    case atStart => exact ⟨_, 0, q + 1, rfl, by omega, rfl, by omega, hkp1, Lib.hid ⟨fun _ => by rw [hT0], fun h => by rw [hT0]; omega, (KeepsOthers.setCell _ _ _).from _, by simpa using N1, R1⟩⟩
    case round =>
      obtain ⟨wr, j, qv, rfl, hj, rfl, hq8, hKr, hH⟩ := hrel
      obtain ⟨h1, h2, hkf, hNr, hRr⟩ := hH.out
      have hXr := CBox.keep HX.out hKr
      have HXr := Lib.hid hXr
      have HN := Lib.hid hNr
      obtain ⟨z0, z1, z2, z3, z4⟩ := hXr.five
      have n0 := Blk.cell hNr 0
      have m0 := Blk.free hNr 0
      by_cases hA : j < x.k.n ∧ qv ≤ 4096
      · obtain ⟨hjn, hqv⟩ := hA
        have hBr : Below w.heap.size w wr := hB.trans hKr.1
        obtain ⟨bb, o, y, A, M, Cc, hka, hb, y0, y1, y2, y3, hy, hok⟩ := HT.out.at hjn
        have t0 := (hBr.cell (p := ⟨bb, _, none⟩) hb).trans y0
        have t1 := (hBr.cell (p := ⟨bb, _, none⟩) hb).trans y1
        have t2 := (hBr.cell (p := ⟨bb, _, none⟩) hb).trans y2
        have t3 := (hBr.cell (p := ⟨bb, _, none⟩) hb).trans y3
        have hBd : Below wr.heap.size wr wr.drew := (Below.refl _ _).drew
        have cx := fun (W' : World) (h : Below wr.heap.size wr W') => cS y A M Cc W' (Ar.mono (Nat.le_trans hBr.size h.size) _ (Ar.bel (h.mono hBr.size) _ (Ar.bel hBr _ hok)))
        have hst1 := HTs.out j y hy
        rw [hka] at z3
        clear hka
        generalize hms : min (T.size y) 4097 = ms at *
        have hms2 : ms ≤ 4097 := by omega
        have HLf := Lib.hid (show ∀ w8, Below wr.heap.size wr w8 → KpC w.heap.size W (w8.setCell ⟨w.heap.size + 2, 0, none⟩ (.int .i64 ((qv : Int) + (ms : Int)))) ∧ Hid ((qv + ms ≤ 4096 → qv + ms = q + 1 + sizes ((tsC x.t).take (j + 1))) ∧ (4096 < qv + ms → 4096 < q + 1 + sizes ((tsC x.t).take (j + 1))) ∧ KeepsFrom w'.heap.size W (w8.setCell ⟨w.heap.size + 2, 0, none⟩ (.int .i64 ((qv : Int) + (ms : Int)))) ∧ Blk (w8.setCell ⟨w.heap.size + 2, 0, none⟩ (.int .i64 ((qv : Int) + (ms : Int)))) (w.heap.size + 2) #[.int .i64 ((qv + ms : Nat) : Int)] 3 ∧ Blk (w8.setCell ⟨w.heap.size + 2, 0, none⟩ (.int .i64 ((qv : Int) + (ms : Int)))) (w.heap.size + 1) #[.int .i64 0] 3) from fun w8 b8 => by
          have n8 := Blk.below HN.out b8
          have e1 := h1 hqv
          refine ⟨⟨((hKr.1).trans (b8.mono hBr.size)).setCell (p := ⟨w.heap.size + 2, 0, none⟩) (by simp) _, (hKr.2.trans (KeepC.of_below b8)).trans (keepC_set n8 (by simp) _ _)⟩, Lib.hid ⟨fun h => by omega, fun h => by omega, (hkf.trans (keepsF b8)).trans ((KeepsOthers.setCell _ _ _).from _), ?_, Blk.far (Blk.below hRr b8) (by omega) _ _⟩⟩
          have := blk_cell_set n8 (.int .i64 ((qv : Int) + (ms : Int)))
          rwa [← Int.natCast_add] at this)
        clear y0 y1 y2 y3 hst1 hok hy hH h1 h2 hkf hNr hRr hXr cS HT HTs HTl HTe HCs hR hN hkp1 R1 N1 hce hcp hms
        generalize opT y = op' at *
        generalize nameT y = nm' at *
        generalize numT y = nu' at *
        have hj0 : 0 ≤ (j : Int) := by omega
        have hj1 : (j : Int) < (x.k.n : Int) := by omega
        have hqv2 : (qv : Int) ≤ 4096 := by omega
        gi_wp2
        refine wpIn_region_any (by kernel_rfl) ?_
        try (change wpAnyIn _ _ _ _ _ _ _ _ _ (World.drew _))
        refine wpAnyIn_ready (rs := [0, 1, 3]) (by kernel_rfl) (by simp) (AllReadyIn.cons rfl (fun K hK => ?_) (AllReadyIn.cons rfl (fun K hK => ?_) (AllReadyIn.cons rfl (fun K hK => ?_) AllReadyIn.nil)))
        · go_simp
          refine hK _ _ ?_
          clear hK K
          refine wpAnyIn_ready (rs := [1, 3]) (by kernel_rfl) (by simp) (AllReadyIn.cons rfl (fun K hK => ?_) (AllReadyIn.cons rfl (fun K hK => ?_) AllReadyIn.nil))
          · go_simp
            refine hK _ _ ?_
            clear hK K
            refine wpAnyIn_ready (rs := [2, 3]) (by kernel_rfl) (by simp) (AllReadyIn.cons rfl (fun K hK => ?_) (AllReadyIn.cons rfl (fun K hK => ?_) AllReadyIn.nil))
            · go_simp
              refine hK _ _ ?_
              clear hK K
              refine wpAnyIn_ready (rs := [3]) (by kernel_rfl) (by simp) (AllReadyIn.cons rfl (fun K hK => ?_) AllReadyIn.nil)
              · go_simp
                refine hK _ _ ?_
                clear hK K
                refine wpAnyIn_ready (rs := [4]) (by kernel_rfl) (by simp) (AllReadyIn.cons rfl (fun K hK => ?_) AllReadyIn.nil)
                · go_simp
                  refine hK _ _ ?_
                  clear hK K
                  refine wpAnyIn_ready (rs := [5]) (by kernel_rfl) (by simp) (AllReadyIn.cons rfl (fun K hK => ?_) AllReadyIn.nil)
                  · go_simp
                    refine hK _ _ ?_
                    clear hK K
                    refine wpAnyIn_ready (rs := [6]) (by kernel_rfl) (by simp) (AllReadyIn.cons rfl (fun K hK => ?_) AllReadyIn.nil)
                    · gi_wp2_with (refine ⟨trivial, ?_⟩; gi_at_call 53; refine (CallsIn.inRound l (callsIn_wide.2 (cx _ hBd))).mono ?_; rintro e w8 ⟨rfl, hb8⟩; have b8 := bel_trans hBd hb8; have N8 := Blk.below HN.out b8; have c8 := Blk.cell N8 0; have q8 := Blk.free N8 0; have hL := HLf.out w8 b8)
                      refine wpAnyIn_ready (rs := [7]) (by kernel_rfl) (by simp) (AllReadyIn.cons rfl (fun K hK => ?_) AllReadyIn.nil)
                      · go_simp
                        refine hK _ _ ?_
                        clear hK K
                        refine wpAnyIn_ready (rs := [8]) (by kernel_rfl) (by simp) (AllReadyIn.cons rfl (fun K hK => ?_) AllReadyIn.nil)
                        · go_simp
                          refine hK _ _ ?_
                          clear hK K
                          refine wpAnyIn_done (by kernel_rfl) ?_ _
                          gi_wp2
                          go_roundw
                          case rel => exact ⟨_, j + 1, qv + ms, rfl, by omega, by go_num, by omega, hL.1, hL.2⟩
                          case measure => simp [intOf]; omega
            · go_simp
              refine hK _ _ ?_
              clear hK K
              refine wpAnyIn_ready (rs := [2]) (by kernel_rfl) (by simp) (AllReadyIn.cons rfl (fun K hK => ?_) AllReadyIn.nil)
              · go_simp
                refine hK _ _ ?_
                clear hK K
                refine wpAnyIn_ready (rs := [4]) (by kernel_rfl) (by simp) (AllReadyIn.cons rfl (fun K hK => ?_) AllReadyIn.nil)
                · go_simp
                  refine hK _ _ ?_
                  clear hK K
                  refine wpAnyIn_ready (rs := [5]) (by kernel_rfl) (by simp) (AllReadyIn.cons rfl (fun K hK => ?_) AllReadyIn.nil)
                  · go_simp
                    refine hK _ _ ?_
                    clear hK K
                    refine wpAnyIn_ready (rs := [6]) (by kernel_rfl) (by simp) (AllReadyIn.cons rfl (fun K hK => ?_) AllReadyIn.nil)
                    · gi_wp2_with (refine ⟨trivial, ?_⟩; gi_at_call 53; refine (CallsIn.inRound l (callsIn_wide.2 (cx _ hBd))).mono ?_; rintro e w8 ⟨rfl, hb8⟩; have b8 := bel_trans hBd hb8; have N8 := Blk.below HN.out b8; have c8 := Blk.cell N8 0; have q8 := Blk.free N8 0; have hL := HLf.out w8 b8)
                      refine wpAnyIn_ready (rs := [7]) (by kernel_rfl) (by simp) (AllReadyIn.cons rfl (fun K hK => ?_) AllReadyIn.nil)
                      · go_simp
                        refine hK _ _ ?_
                        clear hK K
                        refine wpAnyIn_ready (rs := [8]) (by kernel_rfl) (by simp) (AllReadyIn.cons rfl (fun K hK => ?_) AllReadyIn.nil)
                        · go_simp
                          refine hK _ _ ?_
                          clear hK K
                          refine wpAnyIn_done (by kernel_rfl) ?_ _
                          gi_wp2
                          go_roundw
                          case rel => exact ⟨_, j + 1, qv + ms, rfl, by omega, by go_num, by omega, hL.1, hL.2⟩
                          case measure => simp [intOf]; omega
          · go_simp
            refine hK _ _ ?_
            clear hK K
            refine wpAnyIn_ready (rs := [1]) (by kernel_rfl) (by simp) (AllReadyIn.cons rfl (fun K hK => ?_) AllReadyIn.nil)
            · go_simp
              refine hK _ _ ?_
              clear hK K
              refine wpAnyIn_ready (rs := [2]) (by kernel_rfl) (by simp) (AllReadyIn.cons rfl (fun K hK => ?_) AllReadyIn.nil)
              · go_simp
                refine hK _ _ ?_
                clear hK K
                refine wpAnyIn_ready (rs := [4]) (by kernel_rfl) (by simp) (AllReadyIn.cons rfl (fun K hK => ?_) AllReadyIn.nil)
                · go_simp
                  refine hK _ _ ?_
                  clear hK K
                  refine wpAnyIn_ready (rs := [5]) (by kernel_rfl) (by simp) (AllReadyIn.cons rfl (fun K hK => ?_) AllReadyIn.nil)
                  · go_simp
                    refine hK _ _ ?_
                    clear hK K
                    refine wpAnyIn_ready (rs := [6]) (by kernel_rfl) (by simp) (AllReadyIn.cons rfl (fun K hK => ?_) AllReadyIn.nil)
                    · gi_wp2_with (refine ⟨trivial, ?_⟩; gi_at_call 53; refine (CallsIn.inRound l (callsIn_wide.2 (cx _ hBd))).mono ?_; rintro e w8 ⟨rfl, hb8⟩; have b8 := bel_trans hBd hb8; have N8 := Blk.below HN.out b8; have c8 := Blk.cell N8 0; have q8 := Blk.free N8 0; have hL := HLf.out w8 b8)
                      refine wpAnyIn_ready (rs := [7]) (by kernel_rfl) (by simp) (AllReadyIn.cons rfl (fun K hK => ?_) AllReadyIn.nil)
                      · go_simp
                        refine hK _ _ ?_
                        clear hK K
                        refine wpAnyIn_ready (rs := [8]) (by kernel_rfl) (by simp) (AllReadyIn.cons rfl (fun K hK => ?_) AllReadyIn.nil)
                        · go_simp
                          refine hK _ _ ?_
                          clear hK K
                          refine wpAnyIn_done (by kernel_rfl) ?_ _
                          gi_wp2
                          go_roundw
                          case rel => exact ⟨_, j + 1, qv + ms, rfl, by omega, by go_num, by omega, hL.1, hL.2⟩
                          case measure => simp [intOf]; omega
        · go_simp
          refine hK _ _ ?_
          clear hK K
          refine wpAnyIn_ready (rs := [0, 2, 3]) (by kernel_rfl) (by simp) (AllReadyIn.cons rfl (fun K hK => ?_) (AllReadyIn.cons rfl (fun K hK => ?_) (AllReadyIn.cons rfl (fun K hK => ?_) AllReadyIn.nil)))
          · go_simp
            refine hK _ _ ?_
            clear hK K
            refine wpAnyIn_ready (rs := [2, 3]) (by kernel_rfl) (by simp) (AllReadyIn.cons rfl (fun K hK => ?_) (AllReadyIn.cons rfl (fun K hK => ?_) AllReadyIn.nil))
            · go_simp
              refine hK _ _ ?_
              clear hK K
              refine wpAnyIn_ready (rs := [3]) (by kernel_rfl) (by simp) (AllReadyIn.cons rfl (fun K hK => ?_) AllReadyIn.nil)
              · go_simp
                refine hK _ _ ?_
                clear hK K
                refine wpAnyIn_ready (rs := [4]) (by kernel_rfl) (by simp) (AllReadyIn.cons rfl (fun K hK => ?_) AllReadyIn.nil)
                · go_simp
                  refine hK _ _ ?_
                  clear hK K
                  refine wpAnyIn_ready (rs := [5]) (by kernel_rfl) (by simp) (AllReadyIn.cons rfl (fun K hK => ?_) AllReadyIn.nil)
                  · go_simp
                    refine hK _ _ ?_
                    clear hK K
                    refine wpAnyIn_ready (rs := [6]) (by kernel_rfl) (by simp) (AllReadyIn.cons rfl (fun K hK => ?_) AllReadyIn.nil)
                    · gi_wp2_with (refine ⟨trivial, ?_⟩; gi_at_call 53; refine (CallsIn.inRound l (callsIn_wide.2 (cx _ hBd))).mono ?_; rintro e w8 ⟨rfl, hb8⟩; have b8 := bel_trans hBd hb8; have N8 := Blk.below HN.out b8; have c8 := Blk.cell N8 0; have q8 := Blk.free N8 0; have hL := HLf.out w8 b8)
                      refine wpAnyIn_ready (rs := [7]) (by kernel_rfl) (by simp) (AllReadyIn.cons rfl (fun K hK => ?_) AllReadyIn.nil)
                      · go_simp
                        refine hK _ _ ?_
                        clear hK K
                        refine wpAnyIn_ready (rs := [8]) (by kernel_rfl) (by simp) (AllReadyIn.cons rfl (fun K hK => ?_) AllReadyIn.nil)
                        · go_simp
                          refine hK _ _ ?_
                          clear hK K
                          refine wpAnyIn_done (by kernel_rfl) ?_ _
                          gi_wp2
                          go_roundw
                          case rel => exact ⟨_, j + 1, qv + ms, rfl, by omega, by go_num, by omega, hL.1, hL.2⟩
                          case measure => simp [intOf]; omega
            · go_simp
              refine hK _ _ ?_
              clear hK K
              refine wpAnyIn_ready (rs := [2]) (by kernel_rfl) (by simp) (AllReadyIn.cons rfl (fun K hK => ?_) AllReadyIn.nil)
              · go_simp
                refine hK _ _ ?_
                clear hK K
                refine wpAnyIn_ready (rs := [4]) (by kernel_rfl) (by simp) (AllReadyIn.cons rfl (fun K hK => ?_) AllReadyIn.nil)
                · go_simp
                  refine hK _ _ ?_
                  clear hK K
                  refine wpAnyIn_ready (rs := [5]) (by kernel_rfl) (by simp) (AllReadyIn.cons rfl (fun K hK => ?_) AllReadyIn.nil)
                  · go_simp
                    refine hK _ _ ?_
                    clear hK K
                    refine wpAnyIn_ready (rs := [6]) (by kernel_rfl) (by simp) (AllReadyIn.cons rfl (fun K hK => ?_) AllReadyIn.nil)
                    · gi_wp2_with (refine ⟨trivial, ?_⟩; gi_at_call 53; refine (CallsIn.inRound l (callsIn_wide.2 (cx _ hBd))).mono ?_; rintro e w8 ⟨rfl, hb8⟩; have b8 := bel_trans hBd hb8; have N8 := Blk.below HN.out b8; have c8 := Blk.cell N8 0; have q8 := Blk.free N8 0; have hL := HLf.out w8 b8)
                      refine wpAnyIn_ready (rs := [7]) (by kernel_rfl) (by simp) (AllReadyIn.cons rfl (fun K hK => ?_) AllReadyIn.nil)
                      · go_simp
                        refine hK _ _ ?_
                        clear hK K
                        refine wpAnyIn_ready (rs := [8]) (by kernel_rfl) (by simp) (AllReadyIn.cons rfl (fun K hK => ?_) AllReadyIn.nil)
                        · go_simp
                          refine hK _ _ ?_
                          clear hK K
                          refine wpAnyIn_done (by kernel_rfl) ?_ _
                          gi_wp2
                          go_roundw
                          case rel => exact ⟨_, j + 1, qv + ms, rfl, by omega, by go_num, by omega, hL.1, hL.2⟩
                          case measure => simp [intOf]; omega
          · go_simp
            refine hK _ _ ?_
            clear hK K
            refine wpAnyIn_ready (rs := [0, 3]) (by kernel_rfl) (by simp) (AllReadyIn.cons rfl (fun K hK => ?_) (AllReadyIn.cons rfl (fun K hK => ?_) AllReadyIn.nil))
            · go_simp
              refine hK _ _ ?_
              clear hK K
              refine wpAnyIn_ready (rs := [3]) (by kernel_rfl) (by simp) (AllReadyIn.cons rfl (fun K hK => ?_) AllReadyIn.nil)
              · go_simp
                refine hK _ _ ?_
                clear hK K
                refine wpAnyIn_ready (rs := [4]) (by kernel_rfl) (by simp) (AllReadyIn.cons rfl (fun K hK => ?_) AllReadyIn.nil)
                · go_simp
                  refine hK _ _ ?_
                  clear hK K
                  refine wpAnyIn_ready (rs := [5]) (by kernel_rfl) (by simp) (AllReadyIn.cons rfl (fun K hK => ?_) AllReadyIn.nil)
                  · go_simp
                    refine hK _ _ ?_
                    clear hK K
                    refine wpAnyIn_ready (rs := [6]) (by kernel_rfl) (by simp) (AllReadyIn.cons rfl (fun K hK => ?_) AllReadyIn.nil)
                    · gi_wp2_with (refine ⟨trivial, ?_⟩; gi_at_call 53; refine (CallsIn.inRound l (callsIn_wide.2 (cx _ hBd))).mono ?_; rintro e w8 ⟨rfl, hb8⟩; have b8 := bel_trans hBd hb8; have N8 := Blk.below HN.out b8; have c8 := Blk.cell N8 0; have q8 := Blk.free N8 0; have hL := HLf.out w8 b8)
                      refine wpAnyIn_ready (rs := [7]) (by kernel_rfl) (by simp) (AllReadyIn.cons rfl (fun K hK => ?_) AllReadyIn.nil)
                      · go_simp
                        refine hK _ _ ?_
                        clear hK K
                        refine wpAnyIn_ready (rs := [8]) (by kernel_rfl) (by simp) (AllReadyIn.cons rfl (fun K hK => ?_) AllReadyIn.nil)
                        · go_simp
                          refine hK _ _ ?_
                          clear hK K
                          refine wpAnyIn_done (by kernel_rfl) ?_ _
                          gi_wp2
                          go_roundw
                          case rel => exact ⟨_, j + 1, qv + ms, rfl, by omega, by go_num, by omega, hL.1, hL.2⟩
                          case measure => simp [intOf]; omega
            · go_simp
              refine hK _ _ ?_
              clear hK K
              refine wpAnyIn_ready (rs := [0, 4]) (by kernel_rfl) (by simp) (AllReadyIn.cons rfl (fun K hK => ?_) (AllReadyIn.cons rfl (fun K hK => ?_) AllReadyIn.nil))
              · go_simp
                refine hK _ _ ?_
                clear hK K
                refine wpAnyIn_ready (rs := [4]) (by kernel_rfl) (by simp) (AllReadyIn.cons rfl (fun K hK => ?_) AllReadyIn.nil)
                · go_simp
                  refine hK _ _ ?_
                  clear hK K
                  refine wpAnyIn_ready (rs := [5]) (by kernel_rfl) (by simp) (AllReadyIn.cons rfl (fun K hK => ?_) AllReadyIn.nil)
                  · go_simp
                    refine hK _ _ ?_
                    clear hK K
                    refine wpAnyIn_ready (rs := [6]) (by kernel_rfl) (by simp) (AllReadyIn.cons rfl (fun K hK => ?_) AllReadyIn.nil)
                    · gi_wp2_with (refine ⟨trivial, ?_⟩; gi_at_call 53; refine (CallsIn.inRound l (callsIn_wide.2 (cx _ hBd))).mono ?_; rintro e w8 ⟨rfl, hb8⟩; have b8 := bel_trans hBd hb8; have N8 := Blk.below HN.out b8; have c8 := Blk.cell N8 0; have q8 := Blk.free N8 0; have hL := HLf.out w8 b8)
                      refine wpAnyIn_ready (rs := [7]) (by kernel_rfl) (by simp) (AllReadyIn.cons rfl (fun K hK => ?_) AllReadyIn.nil)
                      · go_simp
                        refine hK _ _ ?_
                        clear hK K
                        refine wpAnyIn_ready (rs := [8]) (by kernel_rfl) (by simp) (AllReadyIn.cons rfl (fun K hK => ?_) AllReadyIn.nil)
                        · go_simp
                          refine hK _ _ ?_
                          clear hK K
                          refine wpAnyIn_done (by kernel_rfl) ?_ _
                          gi_wp2
                          go_roundw
                          case rel => exact ⟨_, j + 1, qv + ms, rfl, by omega, by go_num, by omega, hL.1, hL.2⟩
                          case measure => simp [intOf]; omega
              · go_simp
                refine hK _ _ ?_
                clear hK K
                refine wpAnyIn_ready (rs := [0, 5]) (by kernel_rfl) (by simp) (AllReadyIn.cons rfl (fun K hK => ?_) (AllReadyIn.cons rfl (fun K hK => ?_) AllReadyIn.nil))
                · go_simp
                  refine hK _ _ ?_
                  clear hK K
                  refine wpAnyIn_ready (rs := [5]) (by kernel_rfl) (by simp) (AllReadyIn.cons rfl (fun K hK => ?_) AllReadyIn.nil)
                  · go_simp
                    refine hK _ _ ?_
                    clear hK K
                    refine wpAnyIn_ready (rs := [6]) (by kernel_rfl) (by simp) (AllReadyIn.cons rfl (fun K hK => ?_) AllReadyIn.nil)
                    · gi_wp2_with (refine ⟨trivial, ?_⟩; gi_at_call 53; refine (CallsIn.inRound l (callsIn_wide.2 (cx _ hBd))).mono ?_; rintro e w8 ⟨rfl, hb8⟩; have b8 := bel_trans hBd hb8; have N8 := Blk.below HN.out b8; have c8 := Blk.cell N8 0; have q8 := Blk.free N8 0; have hL := HLf.out w8 b8)
                      refine wpAnyIn_ready (rs := [7]) (by kernel_rfl) (by simp) (AllReadyIn.cons rfl (fun K hK => ?_) AllReadyIn.nil)
                      · go_simp
                        refine hK _ _ ?_
                        clear hK K
                        refine wpAnyIn_ready (rs := [8]) (by kernel_rfl) (by simp) (AllReadyIn.cons rfl (fun K hK => ?_) AllReadyIn.nil)
                        · go_simp
                          refine hK _ _ ?_
                          clear hK K
                          refine wpAnyIn_done (by kernel_rfl) ?_ _
                          gi_wp2
                          go_roundw
                          case rel => exact ⟨_, j + 1, qv + ms, rfl, by omega, by go_num, by omega, hL.1, hL.2⟩
                          case measure => simp [intOf]; omega
                · go_simp
                  refine hK _ _ ?_
                  clear hK K
                  refine wpAnyIn_ready (rs := [0, 6]) (by kernel_rfl) (by simp) (AllReadyIn.cons rfl (fun K hK => ?_) (AllReadyIn.cons rfl (fun K hK => ?_) AllReadyIn.nil))
                  · go_simp
                    refine hK _ _ ?_
                    clear hK K
                    refine wpAnyIn_ready (rs := [6]) (by kernel_rfl) (by simp) (AllReadyIn.cons rfl (fun K hK => ?_) AllReadyIn.nil)
                    · gi_wp2_with (refine ⟨trivial, ?_⟩; gi_at_call 53; refine (CallsIn.inRound l (callsIn_wide.2 (cx _ hBd))).mono ?_; rintro e w8 ⟨rfl, hb8⟩; have b8 := bel_trans hBd hb8; have N8 := Blk.below HN.out b8; have c8 := Blk.cell N8 0; have q8 := Blk.free N8 0; have hL := HLf.out w8 b8)
                      refine wpAnyIn_ready (rs := [7]) (by kernel_rfl) (by simp) (AllReadyIn.cons rfl (fun K hK => ?_) AllReadyIn.nil)
                      · go_simp
                        refine hK _ _ ?_
                        clear hK K
                        refine wpAnyIn_ready (rs := [8]) (by kernel_rfl) (by simp) (AllReadyIn.cons rfl (fun K hK => ?_) AllReadyIn.nil)
                        · go_simp
                          refine hK _ _ ?_
                          clear hK K
                          refine wpAnyIn_done (by kernel_rfl) ?_ _
                          gi_wp2
                          go_roundw
                          case rel => exact ⟨_, j + 1, qv + ms, rfl, by omega, by go_num, by omega, hL.1, hL.2⟩
                          case measure => simp [intOf]; omega
                  · gi_wp2_with (refine ⟨trivial, ?_⟩; gi_at_call 53; refine (CallsIn.inRound l (callsIn_wide.2 (cx _ hBd))).mono ?_; rintro e w8 ⟨rfl, hb8⟩; have b8 := bel_trans hBd hb8; have N8 := Blk.below HN.out b8; have c8 := Blk.cell N8 0; have q8 := Blk.free N8 0; have hL := HLf.out w8 b8)
                    refine wpAnyIn_ready (rs := [0]) (by kernel_rfl) (by simp) (AllReadyIn.cons rfl (fun K hK => ?_) AllReadyIn.nil)
                    · go_simp
                      refine hK _ _ ?_
                      clear hK K
                      refine wpAnyIn_ready (rs := [7]) (by kernel_rfl) (by simp) (AllReadyIn.cons rfl (fun K hK => ?_) AllReadyIn.nil)
                      · go_simp
                        refine hK _ _ ?_
                        clear hK K
                        refine wpAnyIn_ready (rs := [8]) (by kernel_rfl) (by simp) (AllReadyIn.cons rfl (fun K hK => ?_) AllReadyIn.nil)
                        · go_simp
                          refine hK _ _ ?_
                          clear hK K
                          refine wpAnyIn_done (by kernel_rfl) ?_ _
                          gi_wp2
                          go_roundw
                          case rel => exact ⟨_, j + 1, qv + ms, rfl, by omega, by go_num, by omega, hL.1, hL.2⟩
                          case measure => simp [intOf]; omega
          · go_simp
            refine hK _ _ ?_
            clear hK K
            refine wpAnyIn_ready (rs := [0, 2]) (by kernel_rfl) (by simp) (AllReadyIn.cons rfl (fun K hK => ?_) (AllReadyIn.cons rfl (fun K hK => ?_) AllReadyIn.nil))
            · go_simp
              refine hK _ _ ?_
              clear hK K
              refine wpAnyIn_ready (rs := [2]) (by kernel_rfl) (by simp) (AllReadyIn.cons rfl (fun K hK => ?_) AllReadyIn.nil)
              · go_simp
                refine hK _ _ ?_
                clear hK K
                refine wpAnyIn_ready (rs := [4]) (by kernel_rfl) (by simp) (AllReadyIn.cons rfl (fun K hK => ?_) AllReadyIn.nil)
                · go_simp
                  refine hK _ _ ?_
                  clear hK K
                  refine wpAnyIn_ready (rs := [5]) (by kernel_rfl) (by simp) (AllReadyIn.cons rfl (fun K hK => ?_) AllReadyIn.nil)
                  · go_simp
                    refine hK _ _ ?_
                    clear hK K
                    refine wpAnyIn_ready (rs := [6]) (by kernel_rfl) (by simp) (AllReadyIn.cons rfl (fun K hK => ?_) AllReadyIn.nil)
                    · gi_wp2_with (refine ⟨trivial, ?_⟩; gi_at_call 53; refine (CallsIn.inRound l (callsIn_wide.2 (cx _ hBd))).mono ?_; rintro e w8 ⟨rfl, hb8⟩; have b8 := bel_trans hBd hb8; have N8 := Blk.below HN.out b8; have c8 := Blk.cell N8 0; have q8 := Blk.free N8 0; have hL := HLf.out w8 b8)
                      refine wpAnyIn_ready (rs := [7]) (by kernel_rfl) (by simp) (AllReadyIn.cons rfl (fun K hK => ?_) AllReadyIn.nil)
                      · go_simp
                        refine hK _ _ ?_
                        clear hK K
                        refine wpAnyIn_ready (rs := [8]) (by kernel_rfl) (by simp) (AllReadyIn.cons rfl (fun K hK => ?_) AllReadyIn.nil)
                        · go_simp
                          refine hK _ _ ?_
                          clear hK K
                          refine wpAnyIn_done (by kernel_rfl) ?_ _
                          gi_wp2
                          go_roundw
                          case rel => exact ⟨_, j + 1, qv + ms, rfl, by omega, by go_num, by omega, hL.1, hL.2⟩
                          case measure => simp [intOf]; omega
            · go_simp
              refine hK _ _ ?_
              clear hK K
              refine wpAnyIn_ready (rs := [0, 4]) (by kernel_rfl) (by simp) (AllReadyIn.cons rfl (fun K hK => ?_) (AllReadyIn.cons rfl (fun K hK => ?_) AllReadyIn.nil))
              · go_simp
                refine hK _ _ ?_
                clear hK K
                refine wpAnyIn_ready (rs := [4]) (by kernel_rfl) (by simp) (AllReadyIn.cons rfl (fun K hK => ?_) AllReadyIn.nil)
                · go_simp
                  refine hK _ _ ?_
                  clear hK K
                  refine wpAnyIn_ready (rs := [5]) (by kernel_rfl) (by simp) (AllReadyIn.cons rfl (fun K hK => ?_) AllReadyIn.nil)
                  · go_simp
                    refine hK _ _ ?_
                    clear hK K
                    refine wpAnyIn_ready (rs := [6]) (by kernel_rfl) (by simp) (AllReadyIn.cons rfl (fun K hK => ?_) AllReadyIn.nil)
                    · gi_wp2_with (refine ⟨trivial, ?_⟩; gi_at_call 53; refine (CallsIn.inRound l (callsIn_wide.2 (cx _ hBd))).mono ?_; rintro e w8 ⟨rfl, hb8⟩; have b8 := bel_trans hBd hb8; have N8 := Blk.below HN.out b8; have c8 := Blk.cell N8 0; have q8 := Blk.free N8 0; have hL := HLf.out w8 b8)
                      refine wpAnyIn_ready (rs := [7]) (by kernel_rfl) (by simp) (AllReadyIn.cons rfl (fun K hK => ?_) AllReadyIn.nil)
                      · go_simp
                        refine hK _ _ ?_
                        clear hK K
                        refine wpAnyIn_ready (rs := [8]) (by kernel_rfl) (by simp) (AllReadyIn.cons rfl (fun K hK => ?_) AllReadyIn.nil)
                        · go_simp
                          refine hK _ _ ?_
                          clear hK K
                          refine wpAnyIn_done (by kernel_rfl) ?_ _
                          gi_wp2
                          go_roundw
                          case rel => exact ⟨_, j + 1, qv + ms, rfl, by omega, by go_num, by omega, hL.1, hL.2⟩
                          case measure => simp [intOf]; omega
              · go_simp
                refine hK _ _ ?_
                clear hK K
                refine wpAnyIn_ready (rs := [0, 5]) (by kernel_rfl) (by simp) (AllReadyIn.cons rfl (fun K hK => ?_) (AllReadyIn.cons rfl (fun K hK => ?_) AllReadyIn.nil))
                · go_simp
                  refine hK _ _ ?_
                  clear hK K
                  refine wpAnyIn_ready (rs := [5]) (by kernel_rfl) (by simp) (AllReadyIn.cons rfl (fun K hK => ?_) AllReadyIn.nil)
                  · go_simp
                    refine hK _ _ ?_
                    clear hK K
                    refine wpAnyIn_ready (rs := [6]) (by kernel_rfl) (by simp) (AllReadyIn.cons rfl (fun K hK => ?_) AllReadyIn.nil)
                    · gi_wp2_with (refine ⟨trivial, ?_⟩; gi_at_call 53; refine (CallsIn.inRound l (callsIn_wide.2 (cx _ hBd))).mono ?_; rintro e w8 ⟨rfl, hb8⟩; have b8 := bel_trans hBd hb8; have N8 := Blk.below HN.out b8; have c8 := Blk.cell N8 0; have q8 := Blk.free N8 0; have hL := HLf.out w8 b8)
                      refine wpAnyIn_ready (rs := [7]) (by kernel_rfl) (by simp) (AllReadyIn.cons rfl (fun K hK => ?_) AllReadyIn.nil)
                      · go_simp
                        refine hK _ _ ?_
                        clear hK K
                        refine wpAnyIn_ready (rs := [8]) (by kernel_rfl) (by simp) (AllReadyIn.cons rfl (fun K hK => ?_) AllReadyIn.nil)
                        · go_simp
                          refine hK _ _ ?_
                          clear hK K
                          refine wpAnyIn_done (by kernel_rfl) ?_ _
                          gi_wp2
                          go_roundw
                          case rel => exact ⟨_, j + 1, qv + ms, rfl, by omega, by go_num, by omega, hL.1, hL.2⟩
                          case measure => simp [intOf]; omega
                · go_simp
                  refine hK _ _ ?_
                  clear hK K
                  refine wpAnyIn_ready (rs := [0, 6]) (by kernel_rfl) (by simp) (AllReadyIn.cons rfl (fun K hK => ?_) (AllReadyIn.cons rfl (fun K hK => ?_) AllReadyIn.nil))
                  · go_simp
                    refine hK _ _ ?_
                    clear hK K
                    refine wpAnyIn_ready (rs := [6]) (by kernel_rfl) (by simp) (AllReadyIn.cons rfl (fun K hK => ?_) AllReadyIn.nil)
                    · gi_wp2_with (refine ⟨trivial, ?_⟩; gi_at_call 53; refine (CallsIn.inRound l (callsIn_wide.2 (cx _ hBd))).mono ?_; rintro e w8 ⟨rfl, hb8⟩; have b8 := bel_trans hBd hb8; have N8 := Blk.below HN.out b8; have c8 := Blk.cell N8 0; have q8 := Blk.free N8 0; have hL := HLf.out w8 b8)
                      refine wpAnyIn_ready (rs := [7]) (by kernel_rfl) (by simp) (AllReadyIn.cons rfl (fun K hK => ?_) AllReadyIn.nil)
                      · go_simp
                        refine hK _ _ ?_
                        clear hK K
                        refine wpAnyIn_ready (rs := [8]) (by kernel_rfl) (by simp) (AllReadyIn.cons rfl (fun K hK => ?_) AllReadyIn.nil)
                        · go_simp
                          refine hK _ _ ?_
                          clear hK K
                          refine wpAnyIn_done (by kernel_rfl) ?_ _
                          gi_wp2
                          go_roundw
                          case rel => exact ⟨_, j + 1, qv + ms, rfl, by omega, by go_num, by omega, hL.1, hL.2⟩
                          case measure => simp [intOf]; omega
                  · gi_wp2_with (refine ⟨trivial, ?_⟩; gi_at_call 53; refine (CallsIn.inRound l (callsIn_wide.2 (cx _ hBd))).mono ?_; rintro e w8 ⟨rfl, hb8⟩; have b8 := bel_trans hBd hb8; have N8 := Blk.below HN.out b8; have c8 := Blk.cell N8 0; have q8 := Blk.free N8 0; have hL := HLf.out w8 b8)
                    refine wpAnyIn_ready (rs := [0]) (by kernel_rfl) (by simp) (AllReadyIn.cons rfl (fun K hK => ?_) AllReadyIn.nil)
                    · go_simp
                      refine hK _ _ ?_
                      clear hK K
                      refine wpAnyIn_ready (rs := [7]) (by kernel_rfl) (by simp) (AllReadyIn.cons rfl (fun K hK => ?_) AllReadyIn.nil)
                      · go_simp
                        refine hK _ _ ?_
                        clear hK K
                        refine wpAnyIn_ready (rs := [8]) (by kernel_rfl) (by simp) (AllReadyIn.cons rfl (fun K hK => ?_) AllReadyIn.nil)
                        · go_simp
                          refine hK _ _ ?_
                          clear hK K
                          refine wpAnyIn_done (by kernel_rfl) ?_ _
                          gi_wp2
                          go_roundw
                          case rel => exact ⟨_, j + 1, qv + ms, rfl, by omega, by go_num, by omega, hL.1, hL.2⟩
                          case measure => simp [intOf]; omega
        · go_simp
          refine hK _ _ ?_
          clear hK K
          refine wpAnyIn_ready (rs := [0, 1]) (by kernel_rfl) (by simp) (AllReadyIn.cons rfl (fun K hK => ?_) (AllReadyIn.cons rfl (fun K hK => ?_) AllReadyIn.nil))
          · go_simp
            refine hK _ _ ?_
            clear hK K
            refine wpAnyIn_ready (rs := [1]) (by kernel_rfl) (by simp) (AllReadyIn.cons rfl (fun K hK => ?_) AllReadyIn.nil)
            · go_simp
              refine hK _ _ ?_
              clear hK K
              refine wpAnyIn_ready (rs := [2]) (by kernel_rfl) (by simp) (AllReadyIn.cons rfl (fun K hK => ?_) AllReadyIn.nil)
              · go_simp
                refine hK _ _ ?_
                clear hK K
                refine wpAnyIn_ready (rs := [4]) (by kernel_rfl) (by simp) (AllReadyIn.cons rfl (fun K hK => ?_) AllReadyIn.nil)
                · go_simp
                  refine hK _ _ ?_
                  clear hK K
                  refine wpAnyIn_ready (rs := [5]) (by kernel_rfl) (by simp) (AllReadyIn.cons rfl (fun K hK => ?_) AllReadyIn.nil)
                  · go_simp
                    refine hK _ _ ?_
                    clear hK K
                    refine wpAnyIn_ready (rs := [6]) (by kernel_rfl) (by simp) (AllReadyIn.cons rfl (fun K hK => ?_) AllReadyIn.nil)
                    · gi_wp2_with (refine ⟨trivial, ?_⟩; gi_at_call 53; refine (CallsIn.inRound l (callsIn_wide.2 (cx _ hBd))).mono ?_; rintro e w8 ⟨rfl, hb8⟩; have b8 := bel_trans hBd hb8; have N8 := Blk.below HN.out b8; have c8 := Blk.cell N8 0; have q8 := Blk.free N8 0; have hL := HLf.out w8 b8)
                      refine wpAnyIn_ready (rs := [7]) (by kernel_rfl) (by simp) (AllReadyIn.cons rfl (fun K hK => ?_) AllReadyIn.nil)
                      · go_simp
                        refine hK _ _ ?_
                        clear hK K
                        refine wpAnyIn_ready (rs := [8]) (by kernel_rfl) (by simp) (AllReadyIn.cons rfl (fun K hK => ?_) AllReadyIn.nil)
                        · go_simp
                          refine hK _ _ ?_
                          clear hK K
                          refine wpAnyIn_done (by kernel_rfl) ?_ _
                          gi_wp2
                          go_roundw
                          case rel => exact ⟨_, j + 1, qv + ms, rfl, by omega, by go_num, by omega, hL.1, hL.2⟩
                          case measure => simp [intOf]; omega
          · go_simp
            refine hK _ _ ?_
            clear hK K
            refine wpAnyIn_ready (rs := [0, 2]) (by kernel_rfl) (by simp) (AllReadyIn.cons rfl (fun K hK => ?_) (AllReadyIn.cons rfl (fun K hK => ?_) AllReadyIn.nil))
            · go_simp
              refine hK _ _ ?_
              clear hK K
              refine wpAnyIn_ready (rs := [2]) (by kernel_rfl) (by simp) (AllReadyIn.cons rfl (fun K hK => ?_) AllReadyIn.nil)
              · go_simp
                refine hK _ _ ?_
                clear hK K
                refine wpAnyIn_ready (rs := [4]) (by kernel_rfl) (by simp) (AllReadyIn.cons rfl (fun K hK => ?_) AllReadyIn.nil)
                · go_simp
                  refine hK _ _ ?_
                  clear hK K
                  refine wpAnyIn_ready (rs := [5]) (by kernel_rfl) (by simp) (AllReadyIn.cons rfl (fun K hK => ?_) AllReadyIn.nil)
                  · go_simp
                    refine hK _ _ ?_
                    clear hK K
                    refine wpAnyIn_ready (rs := [6]) (by kernel_rfl) (by simp) (AllReadyIn.cons rfl (fun K hK => ?_) AllReadyIn.nil)
                    · gi_wp2_with (refine ⟨trivial, ?_⟩; gi_at_call 53; refine (CallsIn.inRound l (callsIn_wide.2 (cx _ hBd))).mono ?_; rintro e w8 ⟨rfl, hb8⟩; have b8 := bel_trans hBd hb8; have N8 := Blk.below HN.out b8; have c8 := Blk.cell N8 0; have q8 := Blk.free N8 0; have hL := HLf.out w8 b8)
                      refine wpAnyIn_ready (rs := [7]) (by kernel_rfl) (by simp) (AllReadyIn.cons rfl (fun K hK => ?_) AllReadyIn.nil)
                      · go_simp
                        refine hK _ _ ?_
                        clear hK K
                        refine wpAnyIn_ready (rs := [8]) (by kernel_rfl) (by simp) (AllReadyIn.cons rfl (fun K hK => ?_) AllReadyIn.nil)
                        · go_simp
                          refine hK _ _ ?_
                          clear hK K
                          refine wpAnyIn_done (by kernel_rfl) ?_ _
                          gi_wp2
                          go_roundw
                          case rel => exact ⟨_, j + 1, qv + ms, rfl, by omega, by go_num, by omega, hL.1, hL.2⟩
                          case measure => simp [intOf]; omega
            · go_simp
              refine hK _ _ ?_
              clear hK K
              refine wpAnyIn_ready (rs := [0, 4]) (by kernel_rfl) (by simp) (AllReadyIn.cons rfl (fun K hK => ?_) (AllReadyIn.cons rfl (fun K hK => ?_) AllReadyIn.nil))
              · go_simp
                refine hK _ _ ?_
                clear hK K
                refine wpAnyIn_ready (rs := [4]) (by kernel_rfl) (by simp) (AllReadyIn.cons rfl (fun K hK => ?_) AllReadyIn.nil)
                · go_simp
                  refine hK _ _ ?_
                  clear hK K
                  refine wpAnyIn_ready (rs := [5]) (by kernel_rfl) (by simp) (AllReadyIn.cons rfl (fun K hK => ?_) AllReadyIn.nil)
                  · go_simp
                    refine hK _ _ ?_
                    clear hK K
                    refine wpAnyIn_ready (rs := [6]) (by kernel_rfl) (by simp) (AllReadyIn.cons rfl (fun K hK => ?_) AllReadyIn.nil)
                    · gi_wp2_with (refine ⟨trivial, ?_⟩; gi_at_call 53; refine (CallsIn.inRound l (callsIn_wide.2 (cx _ hBd))).mono ?_; rintro e w8 ⟨rfl, hb8⟩; have b8 := bel_trans hBd hb8; have N8 := Blk.below HN.out b8; have c8 := Blk.cell N8 0; have q8 := Blk.free N8 0; have hL := HLf.out w8 b8)
                      refine wpAnyIn_ready (rs := [7]) (by kernel_rfl) (by simp) (AllReadyIn.cons rfl (fun K hK => ?_) AllReadyIn.nil)
                      · go_simp
                        refine hK _ _ ?_
                        clear hK K
                        refine wpAnyIn_ready (rs := [8]) (by kernel_rfl) (by simp) (AllReadyIn.cons rfl (fun K hK => ?_) AllReadyIn.nil)
                        · go_simp
                          refine hK _ _ ?_
                          clear hK K
                          refine wpAnyIn_done (by kernel_rfl) ?_ _
                          gi_wp2
                          go_roundw
                          case rel => exact ⟨_, j + 1, qv + ms, rfl, by omega, by go_num, by omega, hL.1, hL.2⟩
                          case measure => simp [intOf]; omega
              · go_simp
                refine hK _ _ ?_
                clear hK K
                refine wpAnyIn_ready (rs := [0, 5]) (by kernel_rfl) (by simp) (AllReadyIn.cons rfl (fun K hK => ?_) (AllReadyIn.cons rfl (fun K hK => ?_) AllReadyIn.nil))
                · go_simp
                  refine hK _ _ ?_
                  clear hK K
                  refine wpAnyIn_ready (rs := [5]) (by kernel_rfl) (by simp) (AllReadyIn.cons rfl (fun K hK => ?_) AllReadyIn.nil)
                  · go_simp
                    refine hK _ _ ?_
                    clear hK K
                    refine wpAnyIn_ready (rs := [6]) (by kernel_rfl) (by simp) (AllReadyIn.cons rfl (fun K hK => ?_) AllReadyIn.nil)
                    · gi_wp2_with (refine ⟨trivial, ?_⟩; gi_at_call 53; refine (CallsIn.inRound l (callsIn_wide.2 (cx _ hBd))).mono ?_; rintro e w8 ⟨rfl, hb8⟩; have b8 := bel_trans hBd hb8; have N8 := Blk.below HN.out b8; have c8 := Blk.cell N8 0; have q8 := Blk.free N8 0; have hL := HLf.out w8 b8)
                      refine wpAnyIn_ready (rs := [7]) (by kernel_rfl) (by simp) (AllReadyIn.cons rfl (fun K hK => ?_) AllReadyIn.nil)
                      · go_simp
                        refine hK _ _ ?_
                        clear hK K
                        refine wpAnyIn_ready (rs := [8]) (by kernel_rfl) (by simp) (AllReadyIn.cons rfl (fun K hK => ?_) AllReadyIn.nil)
                        · go_simp
                          refine hK _ _ ?_
                          clear hK K
                          refine wpAnyIn_done (by kernel_rfl) ?_ _
                          gi_wp2
                          go_roundw
                          case rel => exact ⟨_, j + 1, qv + ms, rfl, by omega, by go_num, by omega, hL.1, hL.2⟩
                          case measure => simp [intOf]; omega
                · go_simp
                  refine hK _ _ ?_
                  clear hK K
                  refine wpAnyIn_ready (rs := [0, 6]) (by kernel_rfl) (by simp) (AllReadyIn.cons rfl (fun K hK => ?_) (AllReadyIn.cons rfl (fun K hK => ?_) AllReadyIn.nil))
                  · go_simp
                    refine hK _ _ ?_
                    clear hK K
                    refine wpAnyIn_ready (rs := [6]) (by kernel_rfl) (by simp) (AllReadyIn.cons rfl (fun K hK => ?_) AllReadyIn.nil)
                    · gi_wp2_with (refine ⟨trivial, ?_⟩; gi_at_call 53; refine (CallsIn.inRound l (callsIn_wide.2 (cx _ hBd))).mono ?_; rintro e w8 ⟨rfl, hb8⟩; have b8 := bel_trans hBd hb8; have N8 := Blk.below HN.out b8; have c8 := Blk.cell N8 0; have q8 := Blk.free N8 0; have hL := HLf.out w8 b8)
                      refine wpAnyIn_ready (rs := [7]) (by kernel_rfl) (by simp) (AllReadyIn.cons rfl (fun K hK => ?_) AllReadyIn.nil)
                      · go_simp
                        refine hK _ _ ?_
                        clear hK K
                        refine wpAnyIn_ready (rs := [8]) (by kernel_rfl) (by simp) (AllReadyIn.cons rfl (fun K hK => ?_) AllReadyIn.nil)
                        · go_simp
                          refine hK _ _ ?_
                          clear hK K
                          refine wpAnyIn_done (by kernel_rfl) ?_ _
                          gi_wp2
                          go_roundw
                          case rel => exact ⟨_, j + 1, qv + ms, rfl, by omega, by go_num, by omega, hL.1, hL.2⟩
                          case measure => simp [intOf]; omega
                  · gi_wp2_with (refine ⟨trivial, ?_⟩; gi_at_call 53; refine (CallsIn.inRound l (callsIn_wide.2 (cx _ hBd))).mono ?_; rintro e w8 ⟨rfl, hb8⟩; have b8 := bel_trans hBd hb8; have N8 := Blk.below HN.out b8; have c8 := Blk.cell N8 0; have q8 := Blk.free N8 0; have hL := HLf.out w8 b8)
                    refine wpAnyIn_ready (rs := [0]) (by kernel_rfl) (by simp) (AllReadyIn.cons rfl (fun K hK => ?_) AllReadyIn.nil)
                    · go_simp
                      refine hK _ _ ?_
                      clear hK K
                      refine wpAnyIn_ready (rs := [7]) (by kernel_rfl) (by simp) (AllReadyIn.cons rfl (fun K hK => ?_) AllReadyIn.nil)
                      · go_simp
                        refine hK _ _ ?_
                        clear hK K
                        refine wpAnyIn_ready (rs := [8]) (by kernel_rfl) (by simp) (AllReadyIn.cons rfl (fun K hK => ?_) AllReadyIn.nil)
                        · go_simp
                          refine hK _ _ ?_
                          clear hK K
                          refine wpAnyIn_done (by kernel_rfl) ?_ _
                          gi_wp2
                          go_roundw
                          case rel => exact ⟨_, j + 1, qv + ms, rfl, by omega, by go_num, by omega, hL.1, hL.2⟩
                          case measure => simp [intOf]; omega
      · by_cases hqv : qv ≤ 4096
        · have hjn : j = x.k.n := by omega
          have e1 := h1 hqv
          rw [HTe.out j (by omega)] at e1
          have e2 : qv = cntL ((pre ++ [x]).map PtC.t) := by rw [HCs.out]; omega
          have hnj : ¬ (j : Int) < (x.k.n : Int) := by omega
          have hqv2 : ¬ (4096 : Int) < (qv : Int) := by omega
          have HF := Lib.hid (show KeepsFrom w'.heap.size W wr ∧ KpC w.heap.size W wr ∧ ((cntL ((pre ++ [x]).map PtC.t) ≤ 4096 ∧ Blk wr (w.heap.size + 2) #[.int .i64 ((cntL ((pre ++ [x]).map PtC.t) : Nat) : Int)] 3) ∧ Blk wr (w.heap.size + 1) #[.int .i64 0] 3) ∧ Below w.heap.size w wr from ⟨hkf, hKr, ⟨⟨by omega, by rw [← e2]; exact hNr⟩, hRr⟩, hB.trans hKr.1⟩)
          clear e1 e2 h1 h2 hkf hNr hRr hXr HT HTs HTl HTe HCs hH hR hN hkp1 R1 N1 hce hcp hA
          gi_wp2
          exact HF.out
        · have hc : 4096 < cntL ((pre ++ [x]).map PtC.t) := by
            have e1 := h2 (by omega)
            have e3 := HTl.out j
            rw [HCs.out]; omega
          have hqv2 : (4096 : Int) < (qv : Int) := by omega
          have hqv3 : ¬ (qv : Int) ≤ 4096 := by omega
          have r0 := Blk.cell hRr 0
          have rf := Blk.free hRr 0
          have HF := Lib.hid (show KeepsFrom w'.heap.size W (wr.setCell ⟨w.heap.size + 1, 0, none⟩ (.int .i64 4097)) ∧ 4096 < cntL ((pre ++ [x]).map PtC.t) ∧ Blk (wr.setCell ⟨w.heap.size + 1, 0, none⟩ (.int .i64 4097)) (w.heap.size + 1) #[.int .i64 4097] 3 ∧ Below w.heap.size w (wr.setCell ⟨w.heap.size + 1, 0, none⟩ (.int .i64 4097)) from ⟨hkf.trans ((KeepsOthers.setCell _ _ _).from _), hc, blk_cell_set hRr _, (hB.trans hKr.1).setCell (p := ⟨w.heap.size + 1, 0, none⟩) (by simp) _⟩)
          clear hc h1 h2 hkf hNr hRr hXr HT HTs HTl HTe HCs hH hR hN hkp1 R1 N1 hce hcp hA hqv
          by_cases hjn : j < x.k.n
          · have hj1 : (j : Int) < (x.k.n : Int) := by omega
            gi_wp2
            exact ⟨HF.out.1, ⟨⟨rfl, HF.out.2.1⟩, HF.out.2.2.1⟩, HF.out.2.2.2⟩
          · have hj1 : ¬ (j : Int) < (x.k.n : Int) := by omega
            gi_wp2
            exact ⟨HF.out.1, ⟨⟨rfl, HF.out.2.1⟩, HF.out.2.2.1⟩, HF.out.2.2.2⟩
  case done =>
    rintro D zs W hD hS ⟨⟨⟨hq4, hN⟩, hR⟩, hB⟩ hK
    have hz := hce zs hS
    rw [hz] at hq4 hN
    have e1 : ((min (wt t) 4097 : Nat) : Int) = ((wt t : Nat) : Int) := by congr 1; omega
    have n5 := Blk.cell hN 0
    have c5 := Blk.cell hR 0
    have q5 := Blk.free hR 0
    have hR2 := blk_cell_set hR (.int .i64 ((wt t : Nat) : Int))
    have hK2 : (W.setCell ⟨w.heap.size + 1, 0, none⟩ (.int .i64 ((wt t : Nat) : Int))).heap[D]? = some (.deferred (some [])) := (heap_setCell_other W ⟨w.heap.size + 1, 0, none⟩ D _ (fun e => blk_ne hR hK e.symm)).trans hK
    have hR3 := blk_put hR2 hK2 (.deferred none)
    have c6 := Blk.cell hR3 0
    have hB2 := (hB.setCell (p := ⟨w.heap.size + 1, 0, none⟩) (by simp) (.int .i64 ((wt t : Nat) : Int))).trans (belowK_b (w := w) (Nat.le_refl _) _ D _ (.deferred none) (Nat.le_trans B5.size hD) hK2 rfl rfl)
    have E1 := Lib.hid e1
    clear hce hcp hz hS e1
    gi_wp2
    refine ⟨by simp, .inl ⟨_, _, rfl, run_takeDeferred hK2, ?_⟩⟩
    exact ⟨_, by simp [results, Tryz.results67, go_sem, c6]; rfl, by rw [E1.out], hB2⟩
  case stop =>
    rintro D cd pre W hD hS ⟨⟨⟨rfl, hN⟩, hR⟩, hB⟩ hK
    have hp := hcp pre hS
    have e1 : ((min (wt t) 4097 : Nat) : Int) = 4097 := by omega
    have hR3 := blk_put hR hK (.deferred none)
    have c6 := Blk.cell hR3 0
    have hB2 := hB.trans (belowK_b (w := w) (Nat.le_refl _) W D _ (.deferred none) (Nat.le_trans B5.size hD) hK rfl rfl)
    have E1 := Lib.hid e1
    clear e1
    gi_wp2
    refine ⟨by simp, .inl ⟨_, _, rfl, run_takeDeferred hK, ?_⟩⟩
    exact ⟨_, by simp [results, Tryz.results67, go_sem, c6]; rfl, by rw [E1.out], hB2⟩
theorem cSize_any (t : Cl) (ks : SS) (a : Option Addr) (m c : Nat) (w : World) (hA : ArWC w t ks a m c) :
    Calls Tryz.prog 67 #[.agg #[.int .i64 (opC t), .string (nmC t), .string (soC t), .slice ks.a ks.n ks.c, .slice a m c]] w fun e w' => e = .returned (.int .i64 ((min (wt t) 4097 : Nat) : Int)) ∧ Below w.heap.size w w' :=
  callsIn_wide.1 (cSize_in t ks a m c w hA)
end Go.Proofs.YtcigeclnbhcohaaGreatDoor.Cs
