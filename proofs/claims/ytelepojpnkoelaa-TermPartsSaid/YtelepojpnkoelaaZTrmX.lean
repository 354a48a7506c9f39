/-
  What is proved: whether a term is a part of another, as package term tells.
-/
import Derived.Test.YtelepojpnkoelaaZTrmWs
import Derived.Test.YtelepojpnkoelaaZTrmW
namespace Go.Proofs.Ytelepojpnkoelaa.T
open Go.RowKit Go.Shelf L
set_option linter.unusedVariables false
set_option linter.unusedSimpArgs false
attribute [local go_sem] Oper.semAt_some

/-- no part that has come is this one; one is -/
def noneB {B : Nat} {w0 : World} (u : Tm) (pre : List (Pt B w0)) : Prop := ∀ x ∈ pre, eqT x.t u = false
def someB {B : Nat} {w0 : World} (u : Tm) (pre : List (Pt B w0)) : Prop := ∃ x ∈ pre, eqT x.t u = true
theorem has_none {B : Nat} {w0 : World} {u t : Tm} {xs : List (Pt B w0)} (h : xs.map Pt.t = all t) (hn : noneB u xs) : has t u = false := by
  unfold has
  rw [← h, List.any_map]
  exact List.any_eq_false.2 (fun x hx => by simp [hn x hx])
theorem has_some {B : Nat} {w0 : World} {u t : Tm} {xs : List (Pt B w0)} (h : xs.map Pt.t <+: all t) (hn : someB u xs) : has t u = true := by
  obtain ⟨x, hx, he⟩ := hn
  unfold has
  exact List.any_eq_true.2 ⟨x.t, h.subset (List.mem_map.2 ⟨x, hx, rfl⟩), he⟩

set_option maxRecDepth 100000 in
set_option maxHeartbeats 4000000 in
theorem Has_in (t u : Tm) (a : Option Addr) (n c : Nat) (a' : Option Addr) (n' c' : Nat) (w : World) (hA : ArW w t a n c) (hA' : ArW w u a' n' c') :
    CallsIn Fence.wide 6 Try.prog 10 #[.agg #[.int .i64 (opT t), .string (nameT t), .int .i64 (numT t), .slice a n c], .agg #[.int .i64 (opT u), .string (nameT u), .int .i64 (numT u), .slice a' n' c']] w fun e w' => e = .returned (.bool (has t u)) ∧ Below w.heap.size w w' := by
  obtain ⟨W2, hW2, hB2, hs2, S2, T2⟩ := box2 w (opT t) (nameT t) (numT t) a n c (opT u) (nameT u) (numT u) a' n' c'
  obtain ⟨s0, s1, s2, s3⟩ := S2.four
  -- the cell for the result; the iterator's own copy of the term
  obtain ⟨W3, hW3⟩ : ∃ W3, W2.alloc (.cells #[.bool false] 4) = W3 := ⟨_, rfl⟩
  have hB3 : Below W2.heap.size W2 W3 := by rw [← hW3]; exact bel_alloc (Below.refl _ _) _
  have hs3 : W3.heap.size = w.heap.size + 3 := by rw [← hW3, World.size_alloc, hs2]
  have R3 : Blk W3 (w.heap.size + 2) #[.bool false] 4 := by rw [← hW3, ← hs2]; exact Blk.new W2 _ _
  have T3 := T2.b hB3
  have S3 := S2.b hB3
  obtain ⟨W4, hW4, hB4, hs4, I4, F4⟩ := box_all W3 (opT t) (nameT t) (numT t) a n c
  have R4 := Blk.below R3 hB4
  have T4 := T3.b hB4
  have B4 : Below w.heap.size w W4 := bel_trans (bel_trans hB2 hB3) hB4
  rw [hs3, Nat.add_assoc] at I4 F4
  rw [hs3] at hs4
  have hst := all_stops (5 : Nat) w.heap.size (w.heap.size + 4) (w.heap.size + 5) w W4 t a n c hA B4 B4.size I4 F4
  have cAll := all_any (opT t) (nameT t) (numT t) a n c W3
  rw [hW4, hs3, Nat.add_assoc, Nat.add_assoc] at cAll
  have cS := fun (x : Pt w.heap.size w) (W : World) (hb : Below w.heap.size w W) => Same_any x.t u x.a x.n x.c a' n' c' W (Ar.mono hb.size _ (Ar.bel hb _ x.ok)) (Ar.mono hb.size _ (Ar.bel hb _ hA'))
  obtain ⟨f0, f1, f2, f3⟩ := S3.four
  clear hA hA' S2 T2 T3 S3 R3 s0 s1 s2 s3 F4
  refine callsIn_of_wp_marks Try.func10 rfl trivial ?_ rfl
  simp only [Try.ntmps10, List.size_toArray, List.length_cons, List.length_nil, Nat.reduceAdd, Nat.reduceSub, Array.replicate_succ, Array.replicate_zero, List.push_toArray, List.append_toArray, List.nil_append, List.cons_append]
  gi_wp2_with (refine ⟨trivial, ?_⟩; gi_at_call 26; refine (callsIn_wide.2 cAll).mono ?_; rintro e w' ⟨rfl, rfl⟩)
  refine wpIn_rangeFunc_ownH rfl (by decide) (gf := 75) (lb := #[.pointer (some ⟨w.heap.size + 4, 0, none⟩), .pointer (some ⟨w.heap.size + 5, 0, none⟩)]) rfl trivial (enters_of Try.func75 (by kernel_rfl) rfl)
    hst KpT.trans (KpT.obj B4.size) (Below.refl _ _) (fun _ => rfl)
    (fun pre W => ((noneB u pre ∧ Blk W (w.heap.size + 2) #[.bool false] 4) ∧ Blk W (w.heap.size + 1) #[.int .i64 (opT u), .string (nameT u), .int .i64 (numT u), .slice a' n' c'] 24) ∧ Below w.heap.size w W)
    (fun cd pre W => ((cd = .ret ∧ someB u pre) ∧ Blk W (w.heap.size + 2) #[.bool true] 4) ∧ Below w.heap.size w W)
    (OwnFrom.and (OwnFrom.and (OwnFrom.and (ownFrom_pure _ _) (Own.from (own_blk _ _ _) _)) (Own.from (own_blk _ _ _) _)) (ownFrom_below (Nat.le_refl _) B4.size))
    (fun cd => OwnFrom.and (OwnFrom.and (ownFrom_pure _ _) (Own.from (own_blk _ _ _) _)) (ownFrom_below (Nat.le_refl _) B4.size))
    ⟨⟨⟨fun x hx => absurd hx (by simp), R4⟩, T4⟩, B4⟩
    (fun x a2 W => ∃ Bx, TBox W Bx (opT x.t) (nameT x.t) (numT x.t) x.a x.n x.c ∧ a2 = { tmps := #[.agg #[.int .i64 (opT t), .string (nameT t), .int .i64 (numT t), .slice a n c], .agg #[.int .i64 (opT u), .string (nameT u), .int .i64 (numT u), .slice a' n' c'], .pointer (some ⟨w.heap.size, 0, none⟩), .pointer (some ⟨w.heap.size + 1, 0, none⟩), .pointer (some ⟨w.heap.size + 2, 0, none⟩), .pointer (some ⟨Bx, 0, none⟩), .agg #[.int .i64 (opT t), .string (nameT t), .int .i64 (numT t), .slice a n c], .func (.func 75) #[] #[.pointer (some ⟨w.heap.size + 4, 0, none⟩), .pointer (some ⟨w.heap.size + 5, 0, none⟩)], .agg #[.int .i64 (opT x.t), .string (nameT x.t), .int .i64 (numT x.t), .slice x.a x.n x.c], undef, undef, undef], defers := [] })
    (fun x a2 _ X Y row hs hg hr => by obtain ⟨Bx, h2, h3⟩ := hs; exact ⟨Bx, own_blk Bx _ _ () X Y row h2 hg (fun r e => (hr r e).2), h3⟩)
    ?assign ?body ?done ?stop
  case assign =>
    rintro l pre x W K ⟨⟨⟨hN, hR⟩, hT⟩, hB⟩ hK
    have hb : Below W.heap.size W (W.alloc (.cells #[.int .i64 (opT x.t), .string (nameT x.t), .int .i64 (numT x.t), .slice x.a x.n x.c] 24)) := bel_alloc (Below.refl _ _) _
    unfold encP
    gi_wp2
    exact hK _ _ (keepsF hb) (KpT.of_below hB.size hb) ⟨⟨⟨hN, Blk.below hR hb⟩, Blk.below hT hb⟩, hB.trans (hb.mono hB.size)⟩ ⟨W.heap.size, TBox.new W _ _ _ _ _ _, rfl⟩
  case body =>
    rintro l pre x a2 W hl hr ⟨⟨⟨hN, hR⟩, hT⟩, hB⟩ ⟨Bx, hX, rfl⟩ hlt
    have cx := cS x W hB
    obtain ⟨x0, x1, x2, x3⟩ := hX.four
    obtain ⟨t0, t1, t2, t3⟩ := TBox.four hT
    generalize hQ : eqT x.t u = Q at *
    have HQ := Lib.hid hQ
    clear hQ cS
    cases Q with
    | false =>
      gi_wp2_with (refine ⟨trivial, ?_⟩; gi_at_call 28; refine (CallsIn.inRound l (callsIn_wide.2 cx)).mono ?_; rintro e w5 ⟨rfl, hb5⟩)
      exact ⟨keepsF hb5, KpT.of_below hB.size hb5, ⟨⟨⟨fun y hy => by
        rcases List.mem_append.1 hy with h | h
        · exact hN y h
        · rw [List.mem_singleton.1 h]; exact HQ.out, Blk.below hR hb5⟩, Blk.below hT hb5⟩, hB.trans (hb5.mono hB.size)⟩⟩
    | true =>
      gi_wp2_with (refine ⟨trivial, ?_⟩; gi_at_call 28; refine (CallsIn.inRound l (callsIn_wide.2 cx)).mono ?_; rintro e w5 ⟨rfl, hb5⟩; have r5 := Blk.below hR hb5; have c5 := Blk.cell r5 0; have q5 := Blk.free r5 0)
      refine ⟨(keepsF hb5).trans ((KeepsOthers.setCell _ _ _).from _), ⟨⟨rfl, x, by simp, HQ.out⟩, blk_cell_set r5 _⟩, (hB.trans (hb5.mono hB.size)).setCell (p := ⟨w.heap.size + 2, 0, none⟩) (by simp) _⟩
  case done =>
    rintro D zs W hD hS ⟨⟨⟨hN, hR⟩, hT⟩, hB⟩ hK
    have hf := has_none hS hN
    have c5 := Blk.cell hR 0
    have q5 := Blk.free hR 0
    have hR2 := blk_cell_set hR (.bool false)
    have hK2 : (W.setCell ⟨w.heap.size + 2, 0, none⟩ (.bool false)).heap[D]? = some (.deferred (some [])) := (heap_setCell_other W ⟨w.heap.size + 2, 0, none⟩ D _ (fun e => blk_ne hR hK e.symm)).trans hK
    have hR3 := blk_put hR2 hK2 (.deferred none)
    have c6 := Blk.cell hR3 0
    have hB2 := (hB.setCell (p := ⟨w.heap.size + 2, 0, none⟩) (by simp) (.bool false)).trans (belowK_b (w := w) (Nat.le_refl _) _ D _ (.deferred none) (Nat.le_trans B4.size hD) hK2 rfl rfl)
    gi_wp2
    refine ⟨by simp, .inl ⟨_, _, rfl, run_takeDeferred hK2, ?_⟩⟩
    exact ⟨_, by simp [results, Try.results10, go_sem, c6]; rfl, by rw [hf], hB2⟩
  case stop =>
    rintro D cd pre W hD hS ⟨⟨⟨rfl, hN⟩, hR⟩, hB⟩ hK
    have hf := has_some hS hN
    have hR3 := blk_put hR hK (.deferred none)
    have c6 := Blk.cell hR3 0
    have hB2 := hB.trans (belowK_b (w := w) (Nat.le_refl _) W D _ (.deferred none) (Nat.le_trans B4.size hD) hK rfl rfl)
    gi_wp2
    refine ⟨by simp, .inl ⟨_, _, rfl, run_takeDeferred hK, ?_⟩⟩
    exact ⟨_, by simp [results, Try.results10, go_sem, c6]; rfl, by rw [hf], hB2⟩
theorem Has_any (t u : Tm) (a : Option Addr) (n c : Nat) (a' : Option Addr) (n' c' : Nat) (w : World) (hA : ArW w t a n c) (hA' : ArW w u a' n' c') :
    Calls Try.prog 10 #[.agg #[.int .i64 (opT t), .string (nameT t), .int .i64 (numT t), .slice a n c], .agg #[.int .i64 (opT u), .string (nameT u), .int .i64 (numT u), .slice a' n' c']] w fun e w' => e = .returned (.bool (has t u)) ∧ Below w.heap.size w w' :=
  callsIn_wide.1 (Has_in t u a n c a' n' c' w hA hA')
end Go.Proofs.Ytelepojpnkoelaa.T
