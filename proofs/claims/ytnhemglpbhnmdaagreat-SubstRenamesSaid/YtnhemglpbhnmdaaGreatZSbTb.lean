/-
  What is proved: the terms of all parts of a claim, and the names of their variables, as package claim gathers them.
-/
import Derived.Test.YtnhemglpbhnmdaaGreatZSbTa
namespace Go.Proofs.YtnhemglpbhnmdaaGreat.U
open Go.RowKit Go.Shelf L T C B Cs
set_option linter.unusedVariables false
set_option linter.unusedSimpArgs false
attribute [local go_sem] Oper.semAt_some

def tsL : List Cl → List Tm
  | [] => []
  | c :: l => tsC c ++ tsL l
theorem tsL_app (l m : List Cl) : tsL (l ++ m) = tsL l ++ tsL m := by
  induction l with
  | nil => rfl
  | cons t l ih => rw [List.cons_append, tsL, tsL, ih, List.append_assoc]
mutual
theorem tsL_all : ∀ t : Cl, tsL (allP yes t) = tsAll t
  | .mk o s z ts l => by
    rw [allP_mk, tsL, kids_yes, tsAll]
    show ts ++ tsL (allPs yes l) = _
    rw [tsL_alls l]
theorem tsL_alls : ∀ l : List Cl, tsL (allPs yes l) = tsAlls l
  | [] => by rw [allPs, tsL, tsAlls]
  | t :: l => by rw [allPs, tsL_app, tsL_all t, tsL_alls l, tsAlls]
end
mutual
theorem tsAll_size : ∀ c : Cl, sizes (tsAll c) ≤ wt c
  | .mk o s z ts l => by rw [tsAll, sizes_app, wt]; have := tsAlls_size l; omega
theorem tsAlls_size : ∀ l : List Cl, sizes (tsAlls l) ≤ wts l
  | [] => by rw [tsAlls, sizes, wts]; omega
  | c :: l => by rw [tsAlls, sizes_app, wts]; have := tsAll_size c; have := tsAlls_size l; omega
end
theorem len_sizes : ∀ l : List Tm, l.length ≤ sizes l
  | [] => Nat.le_refl _
  | t :: l => by rw [List.length_cons, sizes]; have := size_pos t; have := len_sizes l; omega
theorem tsL_pre {l m : List Cl} (h : l <+: m) : (tsL l).length ≤ (tsL m).length := by
  obtain ⟨r, rfl⟩ := h
  rw [tsL_app, List.length_append]; omega
set_option maxRecDepth 100000 in
set_option maxHeartbeats 8000000 in
theorem allTerms_in (t : Cl) (ks : SS) (a : Option Addr) (m c : Nat) (w0 w : World) (h0 : Below w0.heap.size w0 w) (hA : ArC w0.heap.size w0 t ks a m c) (hsz : wt t ≤ 10000) :
    CallsIn Fence.wide 6 Tryz.prog 38 #[.agg #[.int .i64 (opC t), .string (nmC t), .string (soC t), .slice ks.a ks.n ks.c, .slice a m c]] w fun e w' => ∃ v hs, e = .returned v ∧ OwnT w' w.heap.size v hs ∧ HdsT w0.heap.size w0 hs (tsAll t) ∧ Below w.heap.size w w' := by
  obtain ⟨W2, hW2, hB2, hs2, S2⟩ := cbox1 w (opC t) (nmC t) (soC t) ks a m c
  obtain ⟨W3, hW3⟩ : ∃ W3, W2.alloc (.cells #[.slice none 0 0] 22) = W3 := ⟨_, rfl⟩
  have hB3 : Below W2.heap.size W2 W3 := by rw [← hW3]; exact bel_alloc (Below.refl _ _) _
  have hs3 : W3.heap.size = w.heap.size + 2 := by rw [← hW3, World.size_alloc, hs2]
  have R3 : Blk W3 (w.heap.size + 1) #[.slice none 0 0] 22 := by rw [← hW3, ← hs2]; exact Blk.new W2 _ _
  have S3 := CBox.b S2 hB3
  obtain ⟨u0, u1, u2, u3, u4⟩ := S3.five
  obtain ⟨W5, hW5, hB5, hs5, I5, F5⟩ := cbox_all W3 (opC t) (nmC t) (soC t) ks a m c
  have cAll := call_any (opC t) (nmC t) (soC t) ks a m c W3
  rw [hW5, hs3, Nat.add_assoc, Nat.add_assoc] at cAll
  rw [hs3, Nat.add_assoc] at I5 F5
  have B3 : Below w.heap.size w W3 := bel_trans hB2 hB3
  have B5 : Below w.heap.size w W5 := bel_trans B3 hB5
  have hst := allC_stops (fun x => wt x ≤ 10000) (fun x y h hy => by have h1 := wts_mem hy; have h2 := C.wt_mk x; omega) (5 : Nat) yes 0 w0.heap.size (w.heap.size + 3) (w.heap.size + 4) w0 W5 t hsz ks a m c (ends_subs W5) hA (h0.trans (B5.mono h0.size)) (Nat.le_trans h0.size B5.size) I5 F5
  have R5 : TmB w0.heap.size w0 (w.heap.size + 1) W5 (tsL (([] : List (PtC (fun x => wt x ≤ 10000) w0.heap.size w0)).map PtC.t)) := ⟨none, 0, [], Blk.below R3 hB5, OwnT.nil _ _, HdsT.nil _ _⟩
  have hNN : (allP yes t).length ≤ 10000 := Nat.le_trans (allP_len yes t) hsz
  clear hA S2 R3 S3 hW5 hs5 hsz
  refine callsIn_of_wp_marks Tryz.func38 rfl trivial ?_ rfl
  simp only [Tryz.ntmps38, List.size_toArray, List.length_cons, List.length_nil, Nat.reduceAdd, Nat.reduceSub, Array.replicate_succ, Array.replicate_zero, List.push_toArray, List.append_toArray, List.nil_append, List.cons_append]
  gi_wp2_with (refine ⟨trivial, ?_⟩; gi_at_call 62; refine (callsIn_wide.2 cAll).mono ?_; rintro e w' ⟨rfl, rfl⟩)
  refine wpIn_rangeFunc_ownH rfl (by decide) (gf := 136) (lb := #[.pointer (some ⟨w.heap.size + 3, 0, none⟩), .pointer (some ⟨w.heap.size + 4, 0, none⟩)]) rfl trivial (enters_of Tryz.func136 (by kernel_rfl) rfl)
    hst KpC.trans (KpC.obj (Nat.le_trans h0.size B5.size)) (Below.refl _ _) (fun _ => rfl)
    (fun pre W => (TmB w0.heap.size w0 (w.heap.size + 1) W (tsL (pre.map PtC.t)) ∧ (tsL (pre.map PtC.t)).length ≤ 10000 * pre.length) ∧ Below w.heap.size w W)
    (fun cd pre W => False)
    (OwnFrom.and (OwnFrom.and (Own.from (tmB_own w0.heap.size w0 (w.heap.size + 1) (fun pre : List (PtC (fun x => wt x ≤ 10000) w0.heap.size w0) => tsL (pre.map PtC.t))) _) (ownFrom_pure _ _)) (ownFrom_below (Nat.le_refl _) B5.size))
    (fun cd _ _ _ _ hs _ _ => hs)
    ⟨⟨R5, by simp [tsL]⟩, B5⟩
    (fun x a2 W => ∃ Bx, CBox W Bx (opC x.t) (nmC x.t) (soC x.t) x.k x.a x.n x.c ∧ a2 = { tmps := #[.agg #[.int .i64 (opC t), .string (nmC t), .string (soC t), .slice ks.a ks.n ks.c, .slice a m c], .pointer (some ⟨w.heap.size, 0, none⟩), .slice none 0 0, .pointer (some ⟨w.heap.size + 1, 0, none⟩), .pointer (some ⟨Bx, 0, none⟩), .agg #[.int .i64 (opC t), .string (nmC t), .string (soC t), .slice ks.a ks.n ks.c, .slice a m c], .func (.func 136) #[] #[.pointer (some ⟨w.heap.size + 3, 0, none⟩), .pointer (some ⟨w.heap.size + 4, 0, none⟩)], .agg #[.int .i64 (opC x.t), .string (nmC x.t), .string (soC x.t), .slice x.k.a x.k.n x.k.c, .slice x.a x.n x.c], undef, undef, undef, undef, undef], defers := [] })
    (fun x a2 _ X Y row hs hg hr => by obtain ⟨Bx, h2, h3⟩ := hs; exact ⟨Bx, own_blk Bx _ _ () X Y row h2 hg (fun r e => (hr r e).2), h3⟩)
    ?assign ?body ?done ?stop
  case assign =>
    rintro l pre x W K ⟨⟨hN, hq⟩, hB⟩ hK
    have hb : Below W.heap.size W (W.alloc (.cells #[.int .i64 (opC x.t), .string (nmC x.t), .string (soC x.t), .slice x.k.a x.k.n x.k.c, .slice x.a x.n x.c] 25)) := bel_alloc (Below.refl _ _) _
    unfold encC
    gi_wp2
    exact hK _ _ (keepsF hb) (KpC.of_below (Nat.le_trans h0.size hB.size) hb) ⟨⟨hN.b hb, hq⟩, hB.trans (hb.mono hB.size)⟩ ⟨W.heap.size, CBox.new W _ _ _ _ _ _ _, rfl⟩
  case body =>
    rintro l pre x a2 W hl hr ⟨⟨hN, hq⟩, hB⟩ ⟨Bx, hX, rfl⟩ hlt
    have hT : IsT w0.heap.size w0 x.k.a x.k.n x.k.c (tsC x.t) := (ar_isC.1 x.ok).1
    have hnew : tsL ((pre ++ [x]).map PtC.t) = tsL (pre.map PtC.t) ++ tsC x.t := by rw [List.map_append, tsL_app, List.map_singleton, tsL, tsL, List.append_nil]
    obtain ⟨x0, x1, x2, x3, x4⟩ := hX.five
    have hYl : (tsC x.t).length ≤ 10000 := by have h1 := len_sizes (tsC x.t); have h2 := C.wt_mk x.t; have h3 := x.few; omega
    have hXl : (tsL (pre.map PtC.t)).length + x.k.n ≤ 100000000 := by
      have h1 := hT.1
      have h2 : pre.length ≤ 9999 := by omega
      have h3 : 10000 * pre.length ≤ 10000 * 9999 := Nat.mul_le_mul_left _ h2
      omega
    obtain ⟨va, vc, va', vc', W4, h1, hrun, hB4, hT4, hbel, hkeep⟩ := app_terms (h0.trans (hB.mono h0.size)) hN hT hXl
    have r0 := Blk.cell h1 0
    have r4 := Blk.cell hB4 0
    have q4 := Blk.free hB4 0
    have HF := Lib.hid (show (∀ B0, KeepsFrom B0 W (W4.setCell ⟨w.heap.size + 1, 0, none⟩ (.slice va' ((tsL (pre.map PtC.t)).length + x.k.n) vc'))) ∧ KpC w0.heap.size W (W4.setCell ⟨w.heap.size + 1, 0, none⟩ (.slice va' ((tsL (pre.map PtC.t)).length + x.k.n) vc')) ∧ ((TmB w0.heap.size w0 (w.heap.size + 1) (W4.setCell ⟨w.heap.size + 1, 0, none⟩ (.slice va' ((tsL (pre.map PtC.t)).length + x.k.n) vc')) (tsL ((pre ++ [x]).map PtC.t)) ∧ (tsL ((pre ++ [x]).map PtC.t)).length ≤ 10000 * (pre ++ [x]).length) ∧ Below w.heap.size w (W4.setCell ⟨w.heap.size + 1, 0, none⟩ (.slice va' ((tsL (pre.map PtC.t)).length + x.k.n) vc'))) from by
      have hbw := hbel w.heap.size (by omega)
      have hb0 := hbel w0.heap.size (by have := h0.size; omega)
      refine ⟨fun B0 => ⟨hbw.size, fun i ob hi1 hi2 hi3 => hkeep i ob hi2 (fun cs fr e => by subst e; cases hi3) (fun e => by subst e; rw [show W.heap[w.heap.size + 1]? = _ from h1] at hi2; injection hi2 with hi2; subst hi2; cases hi3)⟩, ⟨hb0, fun i cs hi1 hi2 => hkeep i _ hi1 (fun cs' fr e => by injection e with e1 e2; exact absurd e2 (by decide)) (fun e => by subst e; rw [show W.heap[w.heap.size + 1]? = _ from h1] at hi1; injection hi1 with hi1; injection hi1 with e1 e2; exact absurd e2 (by decide))⟩, ⟨by rw [hnew]; exact hT4, ?_⟩, hB.trans hbw⟩
      rw [hnew, List.length_append, List.length_append, List.length_singleton]
      omega)
    clear hT4 hbel hkeep h1 hB4 hX hN hT hXl hYl hq hnew
    generalize (tsL (pre.map PtC.t)).length = NN at *
    gi_wp2_with (gi_at_builtin; refine step_app rfl (.tmp 8) (.tmp 10) 22 rfl _ _ _ rfl rfl hrun ?_; clear hrun)
    exact ⟨HF.out.1 _, HF.out.2⟩
  case done =>
    rintro D zs W hD hS ⟨⟨hN, hq⟩, hB⟩ hK
    obtain ⟨va, vc, hs, hR, ho, hh⟩ := hN
    have c5 := Blk.cell hR 0
    have hbl := belowK_b (w := w) (Nat.le_refl _) W D _ (.deferred none) (Nat.le_trans B5.size hD) hK rfl rfl
    have hrow : OwnT (W.putObj D (.deferred none)) (w.heap.size + 1 + 1) (.slice va (tsL (zs.map PtC.t)).length vc) hs := World.ownsRow.kept ho (grownBy_putObj' W D (.deferred none)) (by
      rcases ho.2 with ⟨hv, _⟩ | ⟨g0, cap0, cur, hv, hb0, hg0, _⟩
      · exact .inl (by rw [hv]; rfl)
      · refine .inr (fun e => ?_)
        have : g0 = D := by rw [hv] at e; simpa [Value.ownBlock] using e
        subst this
        rw [hg0] at hK; cases hK)
    have hrow2 : OwnT (W.putObj D (.deferred none)) w.heap.size (.slice va (tsL (zs.map PtC.t)).length vc) hs := OwnT.base hrow (by omega)
    rw [hS] at hrow2
    have hh2 : HdsT w0.heap.size w0 hs (tsAll t) := by rw [← tsL_all, ← hS]; exact hh
    clear hq hst
    gi_wp2
    refine ⟨by simp, .inl ⟨_, _, rfl, run_takeDeferred hK, ?_⟩⟩
    exact ⟨_, results_tmp rfl _ _ _, .slice va (tsL (allP yes t)).length vc, hs, rfl, hrow2, hh2, hB.trans hbl⟩
  case stop =>
    rintro D cd pre W hD hS h hK
    exact h.elim
theorem allTerms_any (t : Cl) (ks : SS) (a : Option Addr) (m c : Nat) (w0 w : World) (h0 : Below w0.heap.size w0 w) (hA : ArC w0.heap.size w0 t ks a m c) (hsz : wt t ≤ 10000) :
    Calls Tryz.prog 38 #[.agg #[.int .i64 (opC t), .string (nmC t), .string (soC t), .slice ks.a ks.n ks.c, .slice a m c]] w fun e w' => ∃ v hs, e = .returned v ∧ OwnT w' w.heap.size v hs ∧ HdsT w0.heap.size w0 hs (tsAll t) ∧ Below w.heap.size w w' :=
  callsIn_wide.1 (allTerms_in t ks a m c w0 w h0 hA hsz)
end Go.Proofs.YtnhemglpbhnmdaaGreat.U
