/-
  What is proved: whether a term of few parts is right, as package term tells.
-/
import Derived.Test.YtcigeclnbhcohaaGreatDoorRP
import Derived.Test.YtcigeclnbhcohaaGreatDoorBD
namespace Go.Proofs.YtcigeclnbhcohaaGreatDoor.C
open Go.RowKit Go.Shelf L T
set_option linter.unusedVariables false
set_option linter.unusedSimpArgs false
attribute [local go_sem] Oper.semAt_some

theorem firstE_snoc {B : Nat} {w0 : World} {pre : List (Pt B w0)} {x : Pt B w0} (h : firstE (pre.map Pt.t) = 0) : firstE ((pre ++ [x]).map Pt.t) = pE (opT x.t) (nameT x.t) (numT x.t) x.n := by
  have hl : (argsT x.t).length = x.n := (ar_isT.1 x.ok).1.symm
  rw [List.map_append, firstE_app, if_neg (by omega), List.map_singleton, firstE, firstE, hl]
  by_cases h0 : pE (opT x.t) (nameT x.t) (numT x.t) x.n ≠ 0
  · rw [if_pos h0]
  · rw [if_neg h0]; omega
theorem firstE_pre {l m : List Tm} (h : l <+: m) (hl : firstE l ≠ 0) : firstE m = firstE l := by
  obtain ⟨r, rfl⟩ := h
  rw [firstE_app, if_pos hl]
theorem rightBoxes (w : World) (o : Int) (s : ByteArray) (z : Int) (a : Option Addr) (n c : Nat) :
    ∃ W, (w.alloc (.cells #[.int .i64 o, .string s, .int .i64 z, .slice a n c] 24)).alloc (.cells #[.int .i64 0] 26) = W ∧ Below w.heap.size w W ∧ W.heap.size = w.heap.size + 2 ∧ TBox W w.heap.size o s z a n c ∧ Blk W (w.heap.size + 1) #[.int .i64 0] 26 := by
  have b1 := TBox.new w o s z a n c
  have b2 := Blk.new (w.alloc (.cells #[.int .i64 o, .string s, .int .i64 z, .slice a n c] 24)) #[.int .i64 0] 26
  rw [World.size_alloc] at b2
  exact ⟨_, rfl, bel_alloc (bel_alloc (Below.refl _ _) _) _, by simp, Blk.alloc b1 _, b2⟩
set_option maxRecDepth 100000 in
set_option maxHeartbeats 4000000 in
theorem tRight_deep (t : Tm) (a : Option Addr) (n c : Nat) (w : World) (hsz : size t ≤ 4096) (hd : 64 < depth t) (hA : ArW w t a n c) :
    Calls Tryz.prog 32 #[.agg #[.int .i64 (opT t), .string (nameT t), .int .i64 (numT t), .slice a n c]] w fun e w' => e = .returned (.int .i64 (rightE t)) ∧ Below w.heap.size w w' := by
  obtain ⟨W3, hW3, hB3, hs3, S3, R3⟩ := rightBoxes w (opT t) (nameT t) (numT t) a n c
  have cD := Depth_few t a n c W3 hsz (ArW.b hA hB3)
  have hr : rightE t = 6 := by unfold rightE; rw [if_pos hd]
  rw [hr]
  have hm : min (depth t) 65 = 65 := by omega
  rw [hm] at cD
  rw [show ((65 : Nat) : Int) = 65 from rfl] at cD
  obtain ⟨s0, s1, s2, s3⟩ := S3.four
  have HR := Lib.hid R3
  clear S3 hA hsz hd hr hm R3 hs3
  generalize opT t = op at *
  generalize nameT t = nm at *
  generalize numT t = nu at *
  go_enter Tryz.func32, Tryz.ntmps32
  go_wp2_with (go_at_call 52; ((with_reducible refine cD.mono ?_); rintro e w4 ⟨rfl, hb4⟩; have r4 := Blk.below HR.out hb4; have c4 := Blk.cell r4 0; have q4 := Blk.free r4 0; have x0 := Blk.cell (blk_cell_set r4 (.int .i64 6)) 0; have Hb := Lib.hid (below_set (g := w.heap.size + 1) (bel_trans hB3 hb4) (by omega) 0 (.int .i64 6))))
  simp [bodyPost, results, Tryz.results32, go_sem, x0]
  exact Hb.out
set_option maxRecDepth 100000 in
set_option maxHeartbeats 8000000 in
theorem tRight_flat (t : Tm) (a : Option Addr) (n c : Nat) (w : World) (hsz : size t ≤ 4096) (hd : ¬ 64 < depth t) (hA : ArW w t a n c) :
    CallsIn Fence.wide 6 Tryz.prog 32 #[.agg #[.int .i64 (opT t), .string (nameT t), .int .i64 (numT t), .slice a n c]] w fun e w' => e = .returned (.int .i64 (rightE t)) ∧ Below w.heap.size w w' := by
  obtain ⟨W3, hW3, hB3, hs3, S3, R3⟩ := rightBoxes w (opT t) (nameT t) (numT t) a n c
  have cD := Depth_few t a n c W3 hsz (ArW.b hA hB3)
  have cS := fun (w' : World) (h : Below W3.heap.size W3 w') => tSize_any t a n c w' (ArW.b (ArW.b hA hB3) h)
  have hr : rightE t = firstE (all t) := by unfold rightE; rw [if_neg hd, if_neg (by omega), partE_first]
  rw [hr]
  generalize hmd : min (depth t) 65 = md at *
  generalize hms : min (size t) 4097 = ms at *
  have q1 : decide ((md : Int) > 64) = false := decide_eq_false (by omega)
  have q2 : decide ((ms : Int) > 4096) = false := decide_eq_false (by omega)
  have q1' : ¬ 64 < md := by omega
  have q2' : ¬ 4096 < ms := by omega
  obtain ⟨s0, s1, s2, s3⟩ := S3.four
  have HS := Lib.hid S3
  have HR := Lib.hid R3
  have hs3' := Lib.hid hs3
  clear S3 R3 hr hmd hms hs3
  refine callsIn_of_wp_marks Tryz.func32 rfl trivial ?_ rfl
  simp only [Tryz.ntmps32, List.size_toArray, List.length_cons, List.length_nil, Nat.reduceAdd, Nat.reduceSub, Array.replicate_succ, Array.replicate_zero, List.push_toArray, List.append_toArray, List.nil_append, List.cons_append]
  gi_wp2_with (first
    | (refine ⟨trivial, ?_⟩; gi_at_call 52; refine (callsIn_wide.2 cD).mono ?_; rintro e w4 ⟨rfl, hb4⟩; obtain ⟨u0, u1, u2, u3⟩ := (TBox.b HS.out hb4).four)
    | (refine ⟨trivial, ?_⟩; gi_at_call 53; refine (callsIn_wide.2 (cS _ hb4)).mono ?_; rintro e w5 ⟨rfl, hb5⟩; have B5 := bel_trans hb4 hb5; obtain ⟨u0, u1, u2, u3⟩ := (TBox.b HS.out B5).four; obtain ⟨W6, hW6, hB6, hs6, I6, F6⟩ := box_all w5 (opT t) (nameT t) (numT t) a n c; have cAll := all_any (opT t) (nameT t) (numT t) a n c w5; rw [hW6] at cAll)
    | (refine ⟨trivial, ?_⟩; gi_at_call 54; refine (callsIn_wide.2 cAll).mono ?_; rintro e W7 ⟨rfl, rfl⟩))
  have B6 : Below w.heap.size w W7 := bel_trans hB3 (bel_trans B5 hB6)
  have R6 := Blk.below (Blk.below HR.out B5) hB6
  have hst := all_stops (5 : Nat) w.heap.size (w5.heap.size + 1) (w5.heap.size + 2) w W7 t a n c hA B6 B6.size I6 F6
  have cP := fun (x : Pt w.heap.size w) (W : World) => partErrorT_any (opT x.t) (nameT x.t) (numT x.t) x.a x.n x.c W (by have h := ar_isT.1 x.ok; have h1 := h.2.1; have h2 := h.2.2.1; unfold maxLen at h2; omega)
  clear hA cD cS F6 hW3 hW6
  refine wpIn_rangeFunc_ownH rfl (by decide) (gf := 114) (lb := #[.pointer (some ⟨w5.heap.size + 1, 0, none⟩), .pointer (some ⟨w5.heap.size + 2, 0, none⟩)]) rfl trivial (enters_of Tryz.func114 (by kernel_rfl) rfl)
    hst KpT.trans (KpT.obj B6.size) (Below.refl _ _) (fun _ => rfl)
    (fun pre W => ((firstE (pre.map Pt.t) = 0) ∧ Blk W (w.heap.size + 1) #[.int .i64 0] 26) ∧ Below w.heap.size w W)
    (fun cd pre W => ((cd = .ret ∧ firstE (pre.map Pt.t) ≠ 0) ∧ Blk W (w.heap.size + 1) #[.int .i64 (firstE (pre.map Pt.t))] 26) ∧ Below w.heap.size w W)
    (OwnFrom.and (OwnFrom.and (ownFrom_pure _ _) (Own.from (own_blk _ _ _) _)) (ownFrom_below (Nat.le_refl _) B6.size))
    (fun cd => OwnFrom.and (OwnFrom.and (ownFrom_pure _ _) (Own.from (own_blkF (w.heap.size + 1) (fun pre : List (Pt w.heap.size w) => #[.int .i64 (firstE (pre.map Pt.t))]) 26) _)) (ownFrom_below (Nat.le_refl _) B6.size))
    ⟨⟨rfl, R6⟩, B6⟩
    (fun x a2 W => ∃ Bx, TBox W Bx (opT x.t) (nameT x.t) (numT x.t) x.a x.n x.c ∧ a2 = { tmps := #[.agg #[.int .i64 (opT t), .string (nameT t), .int .i64 (numT t), .slice a n c], .pointer (some ⟨w.heap.size, 0, none⟩), .pointer (some ⟨w.heap.size + 1, 0, none⟩), .pointer (some ⟨Bx, 0, none⟩), undef, .bool false, .agg #[.int .i64 (opT t), .string (nameT t), .int .i64 (numT t), .slice a n c], .int .i64 md, .bool false, .bool false, .agg #[.int .i64 (opT t), .string (nameT t), .int .i64 (numT t), .slice a n c], .int .i64 ms, .bool false, .agg #[.int .i64 (opT t), .string (nameT t), .int .i64 (numT t), .slice a n c], .func (.func 114) #[] #[.pointer (some ⟨w5.heap.size + 1, 0, none⟩), .pointer (some ⟨w5.heap.size + 2, 0, none⟩)], .agg #[.int .i64 (opT x.t), .string (nameT x.t), .int .i64 (numT x.t), .slice x.a x.n x.c], undef, undef, undef, undef, undef], defers := [] })
    (fun x a2 _ X Y row hs hg hr => by obtain ⟨Bx, h2, h3⟩ := hs; exact ⟨Bx, own_blk Bx _ _ () X Y row h2 hg (fun r e => (hr r e).2), h3⟩)
    ?assign ?body ?done ?stop
  case assign =>
    rintro l pre x W K ⟨⟨hN, hR⟩, hB⟩ hK
    have hb : Below W.heap.size W (W.alloc (.cells #[.int .i64 (opT x.t), .string (nameT x.t), .int .i64 (numT x.t), .slice x.a x.n x.c] 24)) := bel_alloc (Below.refl _ _) _
    unfold encP
    gi_wp2
    exact hK _ _ (keepsF hb) (KpT.of_below hB.size hb) ⟨⟨hN, Blk.below hR hb⟩, hB.trans (hb.mono hB.size)⟩ ⟨W.heap.size, TBox.new W _ _ _ _ _ _, rfl⟩
  case body =>
    rintro l pre x a2 W hl hr ⟨⟨hN, hR⟩, hB⟩ ⟨Bx, hX, rfl⟩ hlt
    have cx := cP x W
    obtain ⟨x0, x1, x2, x3⟩ := hX.four
    have HF := Lib.hid (firstE_snoc (x := x) hN)
    have HX := Lib.hid hX
    clear hX cP
    generalize pE (opT x.t) (nameT x.t) (numT x.t) x.n = Q at *
    by_cases hQ : Q = 0
    · have p1 : (Q != 0) = false := by rw [hQ]; rfl
      have HQ := Lib.hid hQ
      clear hQ
      gi_wp2_with (refine ⟨trivial, ?_⟩; gi_at_call 55; refine (CallsIn.inRound l (callsIn_wide.2 cx)).mono ?_; rintro e w8 ⟨rfl, hb8⟩)
      exact ⟨keepsF hb8, KpT.of_below hB.size hb8, ⟨⟨by rw [HF.out]; exact HQ.out, Blk.below hR hb8⟩, hB.trans (hb8.mono hB.size)⟩⟩
    · have p1 : (Q != 0) = true := bne_iff_ne.2 hQ
      have HQ := Lib.hid hQ
      clear hQ
      gi_wp2_with (refine ⟨trivial, ?_⟩; gi_at_call 55; refine (CallsIn.inRound l (callsIn_wide.2 cx)).mono ?_; rintro e w8 ⟨rfl, hb8⟩; have r8 := Blk.below hR hb8; have c8 := Blk.cell r8 0; have q8 := Blk.free r8 0)
      refine ⟨(keepsF hb8).trans ((KeepsOthers.setCell _ _ _).from _), ⟨⟨rfl, by rw [HF.out]; exact HQ.out⟩, ?_⟩, (hB.trans (hb8.mono hB.size)).setCell (p := ⟨w.heap.size + 1, 0, none⟩) (by simp) _⟩
      rw [HF.out]
      exact blk_cell_set r8 _
  case done =>
    rintro D zs W hD hS ⟨⟨hN, hR⟩, hB⟩ hK
    rw [hS] at hN
    have c5 := Blk.cell hR 0
    have q5 := Blk.free hR 0
    have hR2 := blk_cell_set hR (.int .i64 0)
    have hK2 : (W.setCell ⟨w.heap.size + 1, 0, none⟩ (.int .i64 0)).heap[D]? = some (.deferred (some [])) := (heap_setCell_other W ⟨w.heap.size + 1, 0, none⟩ D _ (fun e => blk_ne hR hK e.symm)).trans hK
    have hR3 := blk_put hR2 hK2 (.deferred none)
    have c6 := Blk.cell hR3 0
    have hB2 := (hB.setCell (p := ⟨w.heap.size + 1, 0, none⟩) (by simp) (.int .i64 0)).trans (belowK_b (w := w) (Nat.le_refl _) _ D _ (.deferred none) (Nat.le_trans B6.size hD) hK2 rfl rfl)
    gi_wp2
    refine ⟨by simp, .inl ⟨_, _, rfl, run_takeDeferred hK2, ?_⟩⟩
    exact ⟨_, by simp [results, Tryz.results32, go_sem, c6]; rfl, by rw [hN], hB2⟩
  case stop =>
    rintro D cd pre W hD hS ⟨⟨⟨rfl, hN⟩, hR⟩, hB⟩ hK
    have hf := firstE_pre hS hN
    have hR3 := blk_put hR hK (.deferred none)
    have c6 := Blk.cell hR3 0
    have hB2 := hB.trans (belowK_b (w := w) (Nat.le_refl _) W D _ (.deferred none) (Nat.le_trans B6.size hD) hK rfl rfl)
    gi_wp2
    refine ⟨by simp, .inl ⟨_, _, rfl, run_takeDeferred hK, ?_⟩⟩
    exact ⟨_, by simp [results, Tryz.results32, go_sem, c6]; rfl, by rw [hf], hB2⟩
theorem tRight_few (t : Tm) (a : Option Addr) (n c : Nat) (w : World) (hsz : size t ≤ 4096) (hA : ArW w t a n c) :
    Calls Tryz.prog 32 #[.agg #[.int .i64 (opT t), .string (nameT t), .int .i64 (numT t), .slice a n c]] w fun e w' => e = .returned (.int .i64 (rightE t)) ∧ Below w.heap.size w w' := by
  by_cases hd : 64 < depth t
  · exact tRight_deep t a n c w hsz hd hA
  · exact callsIn_wide.1 (tRight_flat t a n c w hsz hd hA)
end Go.Proofs.YtcigeclnbhcohaaGreatDoor.C
