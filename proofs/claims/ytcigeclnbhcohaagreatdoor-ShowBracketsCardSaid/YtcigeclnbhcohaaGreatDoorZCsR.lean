/-
  What is proved: whether a claim of few parts is right, as package claim tells.
-/
import Derived.Test.YtcigeclnbhcohaaGreatDoorZCsE
import Derived.Test.YtcigeclnbhcohaaGreatDoorZCsZ
namespace Go.Proofs.YtcigeclnbhcohaaGreatDoor.Cs
open Go.RowKit Go.Shelf L T C
set_option linter.unusedVariables false
set_option linter.unusedSimpArgs false
attribute [local go_sem] Oper.semAt_some

def oneE (t : Cl) : Int := peC (opC t) (nmC t) (soC t) (tsC t) (subC t).length
def firstC : List Cl → Int
  | [] => 0
  | t :: l => if oneE t ≠ 0 then oneE t else firstC l
theorem firstC_app : ∀ l m : List Cl, firstC (l ++ m) = if firstC l ≠ 0 then firstC l else firstC m
  | [], m => by rw [List.nil_append, firstC, if_neg (by omega)]
  | t :: l, m => by
    rw [List.cons_append, firstC, firstC, firstC_app l m]
    by_cases h : oneE t ≠ 0
    · rw [if_pos h, if_pos h, if_pos h]
    · rw [if_neg h, if_neg h]
theorem cpart_one (t : Cl) : cpartE t = if oneE t ≠ 0 then oneE t else cpartsE (subC t) := by
  rw [cpartE_mk]
  unfold oneE peC
  by_cases h1 : formC (opC t) (nmC t) (soC t) = true
  · rw [if_pos h1, if_pos h1]; rfl
  · rw [if_neg h1, if_neg h1]
    by_cases h2 : arityC (opC t) (tsC t).length (subC t).length = true
    · rw [if_pos h2, if_pos h2]; rfl
    · rw [if_neg h2, if_neg h2]
mutual
theorem cpart_first : ∀ t : Cl, cpartE t = firstC (allP yes t)
  | .mk o s z ts l => by
    rw [cpart_one, allP_mk, firstC, kids_yes]
    show _ = if _ then _ else firstC (allPs yes l)
    rw [← cparts_first l]; rfl
theorem cparts_first : ∀ l : List Cl, cpartsE l = firstC (allPs yes l)
  | [] => by rw [cpartsE, allPs, firstC]
  | t :: l => by rw [cpartsE, allPs, firstC_app, cpart_first t, cparts_first l]
end
def FewC (t : Cl) : Prop := wt t ≤ 4096
theorem few_sub : ∀ t x, FewC t → x ∈ subC t → FewC x := fun t x h hx => by
  unfold FewC at h ⊢
  have h1 := wts_mem hx
  have h2 := wt_mk t
  omega
theorem size_mem {x : Tm} {l : List Tm} (h : x ∈ l) : T.size x ≤ sizes l := by
  obtain ⟨k, hk, rfl⟩ := List.getElem_of_mem h
  have := alls_lt (List.getElem?_eq_getElem hk)
  omega
theorem few_terms {t : Cl} (h : FewC t) : ∀ x ∈ tsC t, T.size x ≤ 4096 := fun x hx => by
  unfold FewC at h
  have h1 := size_mem hx
  have h2 := wt_mk t
  omega
mutual
theorem szC_wt : ∀ t : Cl, szC t ≤ wt t
  | .mk o s z ts l => by rw [szC, wt]; have := szCs_wts l; omega
theorem szCs_wts : ∀ l : List Cl, szCs l ≤ wts l
  | [] => by rw [szCs, wts]; omega
  | t :: l => by rw [szCs, wts]; have := szC_wt t; have := szCs_wts l; omega
end
theorem firstC_snoc {B : Nat} {w0 : World} {pre : List (PtC FewC B w0)} {x : PtC FewC B w0} (h : firstC (pre.map PtC.t) = 0) : firstC ((pre ++ [x]).map PtC.t) = peC (opC x.t) (nmC x.t) (soC x.t) (tsC x.t) x.n := by
  have hl : (subC x.t).length = x.n := (ar_isC.1 x.ok).2.1.symm
  rw [List.map_append, firstC_app, if_neg (by omega), List.map_singleton, firstC, firstC]
  unfold oneE
  rw [hl]
  by_cases h0 : peC (opC x.t) (nmC x.t) (soC x.t) (tsC x.t) x.n ≠ 0
  · rw [if_pos h0]
  · rw [if_neg h0]; omega
theorem firstC_pre {l m : List Cl} (h : l <+: m) (hl : firstC l ≠ 0) : firstC m = firstC l := by
  obtain ⟨r, rfl⟩ := h
  rw [firstC_app, if_pos hl]
theorem rightCBoxes (w : World) (o : Int) (s z : ByteArray) (k : SS) (a : Option Addr) (n c : Nat) :
    ∃ W, (w.alloc (.cells #[.int .i64 o, .string s, .string z, .slice k.a k.n k.c, .slice a n c] 33)).alloc (.cells #[.int .i64 0] 26) = W ∧ Below w.heap.size w W ∧ W.heap.size = w.heap.size + 2 ∧ CBox W w.heap.size o s z k a n c ∧ Blk W (w.heap.size + 1) #[.int .i64 0] 26 := by
  have b1 := CBox.new w o s z k a n c
  have b2 := Blk.new (w.alloc (.cells #[.int .i64 o, .string s, .string z, .slice k.a k.n k.c, .slice a n c] 33)) #[.int .i64 0] 26
  rw [World.size_alloc] at b2
  exact ⟨_, rfl, bel_alloc (bel_alloc (Below.refl _ _) _) _, by simp, Blk.alloc b1 _, b2⟩
set_option maxRecDepth 100000 in
set_option maxHeartbeats 4000000 in
theorem cRight_deep (t : Cl) (ks : SS) (a : Option Addr) (n c : Nat) (w : World) (hsz : wt t ≤ 4096) (hd : 64 < dpC t) (hA : ArWC w t ks a n c) :
    Calls Tryz.prog 37 #[.agg #[.int .i64 (opC t), .string (nmC t), .string (soC t), .slice ks.a ks.n ks.c, .slice a n c]] w fun e w' => e = .returned (.int .i64 (crightE t)) ∧ Below w.heap.size w w' := by
  obtain ⟨W3, hW3, hB3, hs3, S3, R3⟩ := rightCBoxes w (opC t) (nmC t) (soC t) ks a n c
  have cD := Depth_few t ks a n c W3 (Nat.le_trans (szC_wt t) hsz) (ArWC.b hA hB3)
  have hr : crightE t = 6 := by unfold crightE; rw [if_pos hd]
  rw [hr]
  have hm : min (dpC t) 65 = 65 := by omega
  rw [hm] at cD
  rw [show ((65 : Nat) : Int) = 65 from rfl] at cD
  obtain ⟨s0, s1, s2, s3, s4⟩ := S3.five
  have HR := Lib.hid R3
  clear S3 hA hsz hd hr hm R3 hs3
  generalize opC t = op at *
  generalize nmC t = nm at *
  generalize soC t = nu at *
  go_enter Tryz.func37, Tryz.ntmps37
  go_wp2_with (go_at_call 66; ((with_reducible refine cD.mono ?_); rintro e w4 ⟨rfl, hb4⟩; have r4 := Blk.below HR.out hb4; have c4 := Blk.cell r4 0; have q4 := Blk.free r4 0; have x0 := Blk.cell (blk_cell_set r4 (.int .i64 6)) 0; have Hb := Lib.hid (below_set (g := w.heap.size + 1) (bel_trans hB3 hb4) (by omega) 0 (.int .i64 6))))
  simp [bodyPost, results, Tryz.results37, go_sem, x0]
  exact Hb.out
set_option maxRecDepth 100000 in
set_option maxHeartbeats 8000000 in
theorem cRight_flat (t : Cl) (ks : SS) (a : Option Addr) (n c : Nat) (w : World) (hsz : wt t ≤ 4096) (hd : ¬ 64 < dpC t) (hA : ArWC w t ks a n c) :
    CallsIn Fence.wide 6 Tryz.prog 37 #[.agg #[.int .i64 (opC t), .string (nmC t), .string (soC t), .slice ks.a ks.n ks.c, .slice a n c]] w fun e w' => e = .returned (.int .i64 (crightE t)) ∧ Below w.heap.size w w' := by
  obtain ⟨W3, hW3, hB3, hs3, S3, R3⟩ := rightCBoxes w (opC t) (nmC t) (soC t) ks a n c
  have cD := Depth_few t ks a n c W3 (Nat.le_trans (szC_wt t) hsz) (ArWC.b hA hB3)
  have cS := fun (w' : World) (h : Below W3.heap.size W3 w') => cSize_any t ks a n c w' (ArWC.b (ArWC.b hA hB3) h)
  have hr : crightE t = firstC (allP yes t) := by unfold crightE; rw [if_neg hd, if_neg (by omega), cpart_first]
  rw [hr]
  generalize hmd : min (dpC t) 65 = md at *
  generalize hms : min (wt t) 4097 = ms at *
  have q1 : decide ((md : Int) > 64) = false := decide_eq_false (by omega)
  have q2 : decide ((ms : Int) > 4096) = false := decide_eq_false (by omega)
  have q1' : ¬ 64 < md := by omega
  have q2' : ¬ 4096 < ms := by omega
  obtain ⟨s0, s1, s2, s3, s4⟩ := S3.five
  have HS := Lib.hid S3
  have HR := Lib.hid R3
  have hs3' := Lib.hid hs3
  clear S3 R3 hr hmd hms hs3
  refine callsIn_of_wp_marks Tryz.func37 rfl trivial ?_ rfl
  simp only [Tryz.ntmps37, List.size_toArray, List.length_cons, List.length_nil, Nat.reduceAdd, Nat.reduceSub, Array.replicate_succ, Array.replicate_zero, List.push_toArray, List.append_toArray, List.nil_append, List.cons_append]
  gi_wp2_with (first
    | (refine ⟨trivial, ?_⟩; gi_at_call 66; refine (callsIn_wide.2 cD).mono ?_; rintro e w4 ⟨rfl, hb4⟩; obtain ⟨u0, u1, u2, u3, u4⟩ := (CBox.b HS.out hb4).five)
    | (refine ⟨trivial, ?_⟩; gi_at_call 67; refine (callsIn_wide.2 (cS _ hb4)).mono ?_; rintro e w5 ⟨rfl, hb5⟩; have B5 := bel_trans hb4 hb5; obtain ⟨u0, u1, u2, u3, u4⟩ := (CBox.b HS.out B5).five; obtain ⟨W6, hW6, hB6, hs6, I6, F6⟩ := cbox_all w5 (opC t) (nmC t) (soC t) ks a n c; have cAll := call_any (opC t) (nmC t) (soC t) ks a n c w5; rw [hW6] at cAll)
    | (refine ⟨trivial, ?_⟩; gi_at_call 68; refine (callsIn_wide.2 cAll).mono ?_; rintro e W7 ⟨rfl, rfl⟩))
  have B6 : Below w.heap.size w W7 := bel_trans hB3 (bel_trans B5 hB6)
  have R6 := Blk.below (Blk.below HR.out B5) hB6
  have hst := allC_stops FewC few_sub (5 : Nat) yes 0 w.heap.size (w5.heap.size + 1) (w5.heap.size + 2) w W7 t hsz ks a n c (ends_subs W7) hA B6 B6.size I6 F6
  have cP := fun (x : PtC FewC w.heap.size w) (W : World) (hB : Below w.heap.size w W) => partErrorC_any (opC x.t) (nmC x.t) (soC x.t) x.k x.a x.n x.c (tsC x.t) W (few_terms x.few) (IsT.mono ((ar_isC.1 x.ok).1.bel hB) hB.size) (by have h := (ar_isC.1 x.ok).2; have h1 := h.2.1; have h2 := h.2.2.1; unfold maxLen at h2; omega)
  clear hA cD cS F6 hW3 hW6
  refine wpIn_rangeFunc_ownH rfl (by decide) (gf := 99) (lb := #[.pointer (some ⟨w5.heap.size + 1, 0, none⟩), .pointer (some ⟨w5.heap.size + 2, 0, none⟩)]) rfl trivial (enters_of Tryz.func99 (by kernel_rfl) rfl)
    hst KpC.trans (KpC.obj B6.size) (Below.refl _ _) (fun _ => rfl)
    (fun pre W => ((firstC (pre.map PtC.t) = 0) ∧ Blk W (w.heap.size + 1) #[.int .i64 0] 26) ∧ Below w.heap.size w W)
    (fun cd pre W => ((cd = .ret ∧ firstC (pre.map PtC.t) ≠ 0) ∧ Blk W (w.heap.size + 1) #[.int .i64 (firstC (pre.map PtC.t))] 26) ∧ Below w.heap.size w W)
    (OwnFrom.and (OwnFrom.and (ownFrom_pure _ _) (Own.from (own_blk _ _ _) _)) (ownFrom_below (Nat.le_refl _) B6.size))
    (fun cd => OwnFrom.and (OwnFrom.and (ownFrom_pure _ _) (Own.from (own_blkF (w.heap.size + 1) (fun pre : List (PtC FewC w.heap.size w) => #[.int .i64 (firstC (pre.map PtC.t))]) 26) _)) (ownFrom_below (Nat.le_refl _) B6.size))
    ⟨⟨rfl, R6⟩, B6⟩
    (fun x a2 W => ∃ Bx, CBox W Bx (opC x.t) (nmC x.t) (soC x.t) x.k x.a x.n x.c ∧ a2 = { tmps := #[.agg #[.int .i64 (opC t), .string (nmC t), .string (soC t), .slice ks.a ks.n ks.c, .slice a n c], .pointer (some ⟨w.heap.size, 0, none⟩), .pointer (some ⟨w.heap.size + 1, 0, none⟩), .pointer (some ⟨Bx, 0, none⟩), undef, .bool false, .agg #[.int .i64 (opC t), .string (nmC t), .string (soC t), .slice ks.a ks.n ks.c, .slice a n c], .int .i64 md, .bool false, .bool false, .agg #[.int .i64 (opC t), .string (nmC t), .string (soC t), .slice ks.a ks.n ks.c, .slice a n c], .int .i64 ms, .bool false, .agg #[.int .i64 (opC t), .string (nmC t), .string (soC t), .slice ks.a ks.n ks.c, .slice a n c], .func (.func 99) #[] #[.pointer (some ⟨w5.heap.size + 1, 0, none⟩), .pointer (some ⟨w5.heap.size + 2, 0, none⟩)], .agg #[.int .i64 (opC x.t), .string (nmC x.t), .string (soC x.t), .slice x.k.a x.k.n x.k.c, .slice x.a x.n x.c], undef, undef, undef, undef, undef], defers := [] })
    (fun x a2 _ X Y row hs hg hr => by obtain ⟨Bx, h2, h3⟩ := hs; exact ⟨Bx, own_blk Bx _ _ () X Y row h2 hg (fun r e => (hr r e).2), h3⟩)
    ?assign ?body ?done ?stop
  case assign =>
    rintro l pre x W K ⟨⟨hN, hR⟩, hB⟩ hK
    have hb : Below W.heap.size W (W.alloc (.cells #[.int .i64 (opC x.t), .string (nmC x.t), .string (soC x.t), .slice x.k.a x.k.n x.k.c, .slice x.a x.n x.c] 33)) := bel_alloc (Below.refl _ _) _
    unfold encC
    gi_wp2
    exact hK _ _ (keepsF hb) (KpC.of_below hB.size hb) ⟨⟨hN, Blk.below hR hb⟩, hB.trans (hb.mono hB.size)⟩ ⟨W.heap.size, CBox.new W _ _ _ _ _ _ _, rfl⟩
  case body =>
    rintro l pre x a2 W hl hr ⟨⟨hN, hR⟩, hB⟩ ⟨Bx, hX, rfl⟩ hlt
    have cx := cP x W hB
    obtain ⟨x0, x1, x2, x3, x4⟩ := hX.five
    have HF := Lib.hid (firstC_snoc (x := x) hN)
    have HX := Lib.hid hX
    clear hX cP
    generalize peC (opC x.t) (nmC x.t) (soC x.t) (tsC x.t) x.n = Q at *
    by_cases hQ : Q = 0
    · have p1 : (Q != 0) = false := by rw [hQ]; rfl
      have HQ := Lib.hid hQ
      clear hQ
      gi_wp2_with (refine ⟨trivial, ?_⟩; gi_at_call 69; refine (CallsIn.inRound l (callsIn_wide.2 cx)).mono ?_; rintro e w8 ⟨rfl, hb8⟩)
      exact ⟨keepsF hb8, KpC.of_below hB.size hb8, ⟨⟨by rw [HF.out]; exact HQ.out, Blk.below hR hb8⟩, hB.trans (hb8.mono hB.size)⟩⟩
    · have p1 : (Q != 0) = true := bne_iff_ne.2 hQ
      have HQ := Lib.hid hQ
      clear hQ
      gi_wp2_with (refine ⟨trivial, ?_⟩; gi_at_call 69; refine (CallsIn.inRound l (callsIn_wide.2 cx)).mono ?_; rintro e w8 ⟨rfl, hb8⟩; have r8 := Blk.below hR hb8; have c8 := Blk.cell r8 0; have q8 := Blk.free r8 0)
      refine ⟨(keepsF hb8).trans ((KeepsOthers.setCell _ _ _).from _), ⟨⟨rfl, by rw [HF.out]; exact HQ.out⟩, ?_⟩, (hB.trans (hb8.mono hB.size)).setCell (p := ⟨w.heap.size + 1, 0, none⟩) (by simp) _⟩
      rw [HF.out]
      exact blk_cell_set r8 _
  case done =>
    rintro D zs W hD hS ⟨⟨hN, hR⟩, hB⟩ hK
    rw [hS] at hN
    have c5 := Blk.cell hR 0
    have q5 := Blk.free hR 0
    have hR2 := blk_cell_set hR (.int .i64 0)
    have hK2 : (W.setCell ⟨w.heap.size + 1, 0, none⟩ (.int .i64 0)).heap[D]? = some (.deferred (some [])) := (heap_setCell_other W ⟨w.heap.size + 1, 0, none⟩ D _ (fun e => blk_ne hR hK e.symm)).trans hK
    have hR3 := blk_put hR2 hK2 (.deferred none)
    have c6 := Blk.cell hR3 0
    have hB2 := (hB.setCell (p := ⟨w.heap.size + 1, 0, none⟩) (by simp) (.int .i64 0)).trans (belowK_b (w := w) (Nat.le_refl _) _ D _ (.deferred none) (Nat.le_trans B6.size hD) hK2 rfl rfl)
    gi_wp2
    refine ⟨by simp, .inl ⟨_, _, rfl, run_takeDeferred hK2, ?_⟩⟩
    exact ⟨_, by simp [results, Tryz.results37, go_sem, c6]; rfl, by rw [hN], hB2⟩
  case stop =>
    rintro D cd pre W hD hS ⟨⟨⟨rfl, hN⟩, hR⟩, hB⟩ hK
    have hf := firstC_pre hS hN
    have hR3 := blk_put hR hK (.deferred none)
    have c6 := Blk.cell hR3 0
    have hB2 := hB.trans (belowK_b (w := w) (Nat.le_refl _) W D _ (.deferred none) (Nat.le_trans B6.size hD) hK rfl rfl)
    gi_wp2
    refine ⟨by simp, .inl ⟨_, _, rfl, run_takeDeferred hK, ?_⟩⟩
    exact ⟨_, by simp [results, Tryz.results37, go_sem, c6]; rfl, by rw [hf], hB2⟩
theorem cRight_few (t : Cl) (ks : SS) (a : Option Addr) (n c : Nat) (w : World) (hsz : wt t ≤ 4096) (hA : ArWC w t ks a n c) :
    Calls Tryz.prog 37 #[.agg #[.int .i64 (opC t), .string (nmC t), .string (soC t), .slice ks.a ks.n ks.c, .slice a n c]] w fun e w' => e = .returned (.int .i64 (crightE t)) ∧ Below w.heap.size w w' := by
  by_cases hd : 64 < dpC t
  · exact cRight_deep t ks a n c w hsz hd hA
  · exact callsIn_wide.1 (cRight_flat t ks a n c w hsz hd hA)
end Go.Proofs.YtcigeclnbhcohaaGreatDoor.Cs
