/-
  What is proved: the terms of all parts of a claim (plain mathematics).
  What is proved: rows of terms of the call's own that grow by lists of terms that were there, in a cell.
  What is proved: the terms of all parts of a claim, and the names of their variables, as package claim gathers them.
  What is proved: the names of the variables in the terms of claims, as package claim tells them.
-/
import Derived.Test.YtjjfbgadpgckeaaGreatBC
import Derived.Test.YtjjfbgadpgckeaaGreatBL
import Derived.Test.YtjjfbgadpgckeaaGreatD1
import Derived.Test.YtjjfbgadpgckeaaGreatZCsZ
namespace Go.Proofs.YtjjfbgadpgckeaaGreat.U
open Go.RowKit L T C
set_option linter.unusedVariables false
set_option linter.unusedSimpArgs false

mutual
def tsAll : Cl → List Tm
  | .mk _ _ _ ts l => ts ++ tsAlls l
def tsAlls : List Cl → List Tm
  | [] => []
  | c :: l => tsAll c ++ tsAlls l
end
end Go.Proofs.YtjjfbgadpgckeaaGreat.U
namespace Go.Proofs.YtjjfbgadpgckeaaGreat.U
open Go.RowKit Go.Shelf L T C Cs
set_option linter.unusedVariables false
set_option linter.unusedSimpArgs false

/-- heads that read as these terms, in a world that was there -/
def HdsT (B : Nat) (w0 : World) (hs : List Hd) (l : List Tm) : Prop := hs.length = l.length ∧ ∀ (i : Nat) (h : Hd) (x : Tm), hs[i]? = some h → l[i]? = some x → HdP (fun b => b < B) w0 h x
theorem HdsT.nil (B : Nat) (w0 : World) : HdsT B w0 [] [] := ⟨rfl, fun i h x hi => by simp at hi⟩
theorem HdsT.app {B : Nat} {w0 : World} {hs hs2 : List Hd} {l l2 : List Tm} (h : HdsT B w0 hs l) (h2 : HdsT B w0 hs2 l2) : HdsT B w0 (hs ++ hs2) (l ++ l2) := by
  refine ⟨by rw [List.length_append, List.length_append, h.1, h2.1], fun i hh x e1 e2 => ?_⟩
  rcases Nat.lt_or_ge i hs.length with hi | hi
  · rw [List.getElem?_append_left hi] at e1
    rw [List.getElem?_append_left (by rw [← h.1]; exact hi)] at e2
    exact h.2 i hh x e1 e2
  · rw [List.getElem?_append_right hi] at e1
    rw [List.getElem?_append_right (by rw [← h.1]; exact hi), ← h.1] at e2
    exact h2.2 _ hh x e1 e2
theorem rw_heads {B : Nat} {w : World} {b : Nat} : ∀ (l : List Tm) (o : Nat), Rw B w b o l → ∃ hs, HdsT B w hs l ∧ ∀ j u, (flatH hs)[j]? = some u → w.cell? ⟨b, o + j, none⟩ = some u
  | [], o, _ => ⟨[], HdsT.nil _ _, fun j u h => by simp [flatH] at h⟩
  | t :: l, o, h => by
    rw [Rw] at h
    obtain ⟨⟨a, n, c, c0, c1, c2, c3, hA⟩, hr⟩ := h
    obtain ⟨hs, ⟨g1, g2⟩, h2⟩ := rw_heads l (o + 4) hr
    refine ⟨hdOf t a n c :: hs, ⟨by simp [g1], fun i hd x e1 e2 => ?_⟩, fun j u hj => ?_⟩
    · cases i with
      | zero =>
        simp only [List.getElem?_cons_zero, Option.some.injEq] at e1 e2
        subst e1 e2
        exact ⟨rfl, rfl, rfl, Ar.p t hA⟩
      | succ i =>
        simp only [List.getElem?_cons_succ] at e1 e2
        exact g2 i hd x e1 e2
    · have e : flatH (hdOf t a n c :: hs) = .int .i64 (opT t) :: .string (nameT t) :: .int .i64 (numT t) :: .slice a n c :: flatH hs := rfl
      rw [e] at hj
      match j with
      | 0 => simp only [List.getElem?_cons_zero, Option.some.injEq] at hj; subst hj; exact c0
      | 1 => simp only [List.getElem?_cons_succ, List.getElem?_cons_zero, Option.some.injEq] at hj; subst hj; exact c1
      | 2 => simp only [List.getElem?_cons_succ, List.getElem?_cons_zero, Option.some.injEq] at hj; subst hj; exact c2
      | 3 => simp only [List.getElem?_cons_succ, List.getElem?_cons_zero, Option.some.injEq] at hj; subst hj; exact c3
      | j + 4 =>
        simp only [List.getElem?_cons_succ] at hj
        have := h2 j u hj
        rw [show o + 4 + j = o + (j + 4) by omega] at this
        exact this
/-- the terms so far, in a row that a box holds -/
def TmB (B : Nat) (w0 : World) (bx : Nat) (W : World) (X : List Tm) : Prop := ∃ a c hs, Blk W bx #[.slice a X.length c] 22 ∧ OwnT W (bx + 1) (.slice a X.length c) hs ∧ HdsT B w0 hs X
theorem TmB.b {B : Nat} {w0 : World} {bx : Nat} {W W' : World} {X : List Tm} (h : TmB B w0 bx W X) (hb : Below W.heap.size W W') : TmB B w0 bx W' X := by
  obtain ⟨a, c, hs, h1, h2, h3⟩ := h
  exact ⟨a, c, hs, Blk.below h1 hb, h2.below hb, h3⟩
theorem tmB_own {β : Type} (B : Nat) (w0 : World) (bx : Nat) (f : β → List Tm) : Own (fun (s : β) W => TmB B w0 bx W (f s)) := fun s X Y row hs hg hr => by
  obtain ⟨a, c, hds, h1, h2, h3⟩ := hs
  refine ⟨a, c, hds, own_blk bx _ _ () X Y row h1 hg hr, World.ownsRow.kept h2 hg ?_, h3⟩
  rcases h2.2 with ⟨hv, _⟩ | ⟨g0, cap, cur, hv, hb, hg0, _⟩
  · exact .inl (by rw [hv]; rfl)
  · refine .inr (fun e => ?_)
    obtain ⟨o, ho, hc⟩ := hr g0 (by rw [← e, hv]; rfl)
    rw [hg0] at ho; cases ho; cases hc
theorem ownT_lo {W : World} {lo : Nat} {v : Value} {X : List Hd} (h : OwnT W lo v X) : ∀ r, v.ownBlock = some r → lo ≤ r := fun r hr => by
  rcases h.2 with ⟨rfl, _⟩ | ⟨g0, cap, cur, rfl, hb, hg0, _⟩
  · cases hr
  · have : g0 = r := by simpa [Value.ownBlock] using hr
    omega
/-- append(l, terms...) -/
theorem app_terms {B : Nat} {w0 W : World} {bx : Nat} {X : List Tm} (hBw : Below B w0 W) (h : TmB B w0 bx W X) {A : Option Addr} {m d : Nat} {Y : List Tm} (hY : IsT B w0 A m d Y) (hX : X.length + m ≤ 100000000) :
    ∃ a c a' c' W4, Blk W bx #[.slice a X.length c] 22 ∧ (Builtin.append_ #[22, 22] 22 #[.slice a X.length c, .slice A m d]).run Tryz.prog W = .ok (.slice a' (X.length + m) c') W4 ∧
      Blk W4 bx #[.slice a X.length c] 22 ∧ TmB B w0 bx (W4.setCell ⟨bx, 0, none⟩ (.slice a' (X.length + m) c')) (X ++ Y) ∧ (∀ B', B' ≤ bx → Below B' W (W4.setCell ⟨bx, 0, none⟩ (.slice a' (X.length + m) c'))) ∧ (∀ (k : Nat) (o : Obj), W.heap[k]? = some o → (∀ cs fr, o ≠ .cells cs 53 fr) → k ≠ bx → (W4.setCell ⟨bx, 0, none⟩ (.slice a' (X.length + m) c')).heap[k]? = some o) := by
  obtain ⟨a, c, hs, h1, h2, h3⟩ := h
  obtain ⟨i0, hi, hz0, hz1, hz2⟩ := info_parts termI
  have hlt := Blk.lt h1
  have hm : m = Y.length := hY.1
  have hn : X.length = hs.length := h3.1.symm
  have hlo := ownT_lo h2
  refine ⟨a, c, ?_⟩
  cases A with
  | none =>
    have hd : d = 0 := hY.2.2.2.1 rfl
    have hm0 : m = 0 := by have := hY.2.1; omega
    have hY0 : Y = [] := List.eq_nil_of_length_eq_zero (by omega)
    subst hY0 hd hm0
    have hO : W.ownsRow (bx + 1) 53 4 (.slice a X.length c) X.length (flatH hs) := by have := h2; unfold OwnT at this; rwa [← hn] at this
    have hr := run_append_owned_none (P := Tryz.prog) (w := W) (bx + 1) 22 22 53 i0 4 Tryz.underlying22 hi (.slice a X.length c) X.length (flatH hs) hO
    refine ⟨a, c, W, h1, by rw [Nat.add_zero]; exact hr, h1, ?_, fun B' hB' => ?_, fun k o hk ho hne => ?_⟩
    · rw [List.append_nil]
      exact ⟨a, c, hs, blk_cell_set h1 _, row_far h2 (by omega) _ _, h3⟩
    · exact below_set (Below.refl _ _) hB' _ _
    · rw [heap_setCell_other W ⟨bx, 0, none⟩ k _ hne]; exact hk
  | some ad =>
    obtain ⟨hs2, g3, hcell⟩ : ∃ hs2, HdsT B w0 hs2 Y ∧ ∀ j u, (flatH hs2)[j]? = some u → W.cell? (ad.add j) = some u := by
      by_cases hp : 0 < m
      · obtain ⟨b, o, ha, hb, hr⟩ := hY.2.2.2.2 hp
        injection ha with ha
        subst ha
        obtain ⟨hs2, g1, g2⟩ := rw_heads Y o hr
        exact ⟨hs2, g1, fun j u hj => by rw [Addr.add_lit]; exact (hBw.cell (p := ⟨b, _, none⟩) hb).trans (g2 j u hj)⟩
      · have hY0 : Y = [] := List.eq_nil_of_length_eq_zero (by omega)
        subst hY0
        exact ⟨[], HdsT.nil _ _, fun j u h => by simp [flatH] at h⟩
    obtain ⟨v', W4, hr, q1, q2, q3⟩ := run_append_own (P := Tryz.prog) W (bx + 1) 22 22 53 i0 _ 4 56 Tryz.underlying22 hi hz0 hz1 hz2 rfl (by decide) (.slice a X.length c) X.length (flatH hs) (by have := h2; unfold OwnT at this; rwa [← hn] at this) ad m d (flatH hs2) (by rw [flat_len, g3.1, hm]) hcell (hd_one _) (by unfold maxLen; omega) (by omega) (by omega)
    have hO4 : OwnT W4 (bx + 1) v' (hs ++ hs2) := by
      unfold OwnT
      rw [List.length_append, flat_app, ← hn, g3.1, ← hm]
      exact q1
    obtain ⟨a', c', hv', -⟩ := hO4.slice
    rw [List.length_append, ← hn, g3.1, ← hm] at hv'
    subst hv'
    have hB4 : Blk W4 bx #[.slice a X.length c] 22 := Blk.grown h1 q2 (fun e => by have := hlo bx e.symm; omega)
    refine ⟨a', c', W4, h1, hr, hB4, ⟨a', c', hs ++ hs2, ?_, ?_, h3.app g3⟩, fun B' hB' => ?_, fun k o hk ho hne => ?_⟩
    · rw [List.length_append, ← hm]; exact blk_cell_set hB4 _
    · rw [List.length_append, ← hm]; exact row_far hO4 (by omega) _ _
    · exact below_set ((Below.refl _ _).grown q2 (by omega) (fun k hk => by have := hlo k hk; omega)) hB' _ _
    · rw [heap_setCell_other W4 ⟨bx, 0, none⟩ k _ hne]
      refine (q2.block k (Array.getElem?_eq_some_iff.1 hk).1 (fun e => ?_)).trans hk
      rcases h2.2 with ⟨hv, _⟩ | ⟨g0, cap0, cur, hv, hb0, hg0, _⟩
      · rw [hv] at e; cases e
      · rw [hv] at e
        have : g0 = k := by simpa [Value.ownBlock] using e.symm
        subst this
        rw [hg0] at hk
        injection hk with hk
        exact ho _ _ hk.symm
/-- the row, read as terms -/
theorem tm_read {w0 W : World} {bx : Nat} {X : List Tm} {a : Option Addr} {c : Nat} {hs : List Hd} (hB : Below w0.heap.size w0 W) (h2 : OwnT W (bx + 1) (.slice a X.length c) hs) (h3 : HdsT w0.heap.size w0 hs X) : TsW W a X.length c X := by
  refine OwnT.isT h2 (Nat.le_refl _) h3.1.symm fun k hk hk2 => ?_
  obtain ⟨e1, e2, e3, e4⟩ := h3.2 k hs[k] X[k] (List.getElem?_eq_getElem hk2) (List.getElem?_eq_getElem hk)
  exact ⟨e1, e2, e3, ArP.ar (P := fun b => b < w0.heap.size) (fun b hb => by have := hB.size; omega) _ (ArP.to (fun b hb => hB.block b hb) (fun b hb => hb) _ e4)⟩
end Go.Proofs.YtjjfbgadpgckeaaGreat.U
namespace Go.Proofs.YtjjfbgadpgckeaaGreat.U
open Go.RowKit Go.Shelf L T C Cs
set_option linter.unusedVariables false
set_option linter.unusedSimpArgs false
attribute [local go_sem] Oper.semAt_some

def tsL : List Cl → List Tm
  | [] => []
  | c :: l => tsC c ++ tsL l
theorem tsL_app (l m : List Cl) : tsL (l ++ m) = tsL l ++ tsL m := by
  induction l with
  | nil => rfl
  | cons t l ih => rw [List.cons_append, tsL, tsL, ih, List.append_assoc]
mutual
theorem tsL_all : ∀ t : Cl, tsL (allP yes t) = tsAll t
  | .mk o s z ts l => by
    rw [allP_mk, tsL, kids_yes, tsAll]
    show ts ++ tsL (allPs yes l) = _
    rw [tsL_alls l]
theorem tsL_alls : ∀ l : List Cl, tsL (allPs yes l) = tsAlls l
  | [] => by rw [allPs, tsL, tsAlls]
  | t :: l => by rw [allPs, tsL_app, tsL_all t, tsL_alls l, tsAlls]
end
mutual
theorem tsAll_size : ∀ c : Cl, sizes (tsAll c) ≤ wt c
  | .mk o s z ts l => by rw [tsAll, sizes_app, wt]; have := tsAlls_size l; omega
theorem tsAlls_size : ∀ l : List Cl, sizes (tsAlls l) ≤ wts l
  | [] => by rw [tsAlls, sizes, wts]; omega
  | c :: l => by rw [tsAlls, sizes_app, wts]; have := tsAll_size c; have := tsAlls_size l; omega
end
theorem len_sizes : ∀ l : List Tm, l.length ≤ sizes l
  | [] => Nat.le_refl _
  | t :: l => by rw [List.length_cons, sizes]; have := size_pos t; have := len_sizes l; omega
theorem tsL_pre {l m : List Cl} (h : l <+: m) : (tsL l).length ≤ (tsL m).length := by
  obtain ⟨r, rfl⟩ := h
  rw [tsL_app, List.length_append]; omega
set_option maxRecDepth 100000 in
set_option maxHeartbeats 8000000 in
theorem allTerms_in (t : Cl) (ks : SS) (a : Option Addr) (m c : Nat) (w0 w : World) (h0 : Below w0.heap.size w0 w) (hA : ArC w0.heap.size w0 t ks a m c) (hsz : wt t ≤ 10000) :
    CallsIn Fence.wide 6 Tryz.prog 42 #[.agg #[.int .i64 (opC t), .string (nmC t), .string (soC t), .slice ks.a ks.n ks.c, .slice a m c]] w fun e w' => ∃ v hs, e = .returned v ∧ OwnT w' w.heap.size v hs ∧ HdsT w0.heap.size w0 hs (tsAll t) ∧ Below w.heap.size w w' := by
  obtain ⟨W2, hW2, hB2, hs2, S2⟩ := cbox1 w (opC t) (nmC t) (soC t) ks a m c
  obtain ⟨W3, hW3⟩ : ∃ W3, W2.alloc (.cells #[.slice none 0 0] 22) = W3 := ⟨_, rfl⟩
  have hB3 : Below W2.heap.size W2 W3 := by rw [← hW3]; exact bel_alloc (Below.refl _ _) _
  have hs3 : W3.heap.size = w.heap.size + 2 := by rw [← hW3, World.size_alloc, hs2]
  have R3 : Blk W3 (w.heap.size + 1) #[.slice none 0 0] 22 := by rw [← hW3, ← hs2]; exact Blk.new W2 _ _
  have S3 := CBox.b S2 hB3
  obtain ⟨u0, u1, u2, u3, u4⟩ := S3.five
  obtain ⟨W5, hW5, hB5, hs5, I5, F5⟩ := cbox_all W3 (opC t) (nmC t) (soC t) ks a m c
  have cAll := call_any (opC t) (nmC t) (soC t) ks a m c W3
  rw [hW5, hs3, Nat.add_assoc, Nat.add_assoc] at cAll
  rw [hs3, Nat.add_assoc] at I5 F5
  have B3 : Below w.heap.size w W3 := bel_trans hB2 hB3
  have B5 : Below w.heap.size w W5 := bel_trans B3 hB5
  have hst := allC_stops (fun x => wt x ≤ 10000) (fun x y h hy => by have h1 := wts_mem hy; have h2 := C.wt_mk x; omega) (5 : Nat) yes 0 w0.heap.size (w.heap.size + 3) (w.heap.size + 4) w0 W5 t hsz ks a m c (ends_subs W5) hA (h0.trans (B5.mono h0.size)) (Nat.le_trans h0.size B5.size) I5 F5
  have R5 : TmB w0.heap.size w0 (w.heap.size + 1) W5 (tsL (([] : List (PtC (fun x => wt x ≤ 10000) w0.heap.size w0)).map PtC.t)) := ⟨none, 0, [], Blk.below R3 hB5, OwnT.nil _ _, HdsT.nil _ _⟩
  have hNN : (allP yes t).length ≤ 10000 := Nat.le_trans (allP_len yes t) hsz
  clear hA S2 R3 S3 hW5 hs5 hsz
  refine callsIn_of_wp_marks Tryz.func42 rfl trivial ?_ rfl
  simp only [Tryz.ntmps42, List.size_toArray, List.length_cons, List.length_nil, Nat.reduceAdd, Nat.reduceSub, Array.replicate_succ, Array.replicate_zero, List.push_toArray, List.append_toArray, List.nil_append, List.cons_append]
  gi_wp2_with (refine ⟨trivial, ?_⟩; gi_at_call 31; refine (callsIn_wide.2 cAll).mono ?_; rintro e w' ⟨rfl, rfl⟩)
  refine wpIn_rangeFunc_ownH rfl (by decide) (gf := 97) (lb := #[.pointer (some ⟨w.heap.size + 3, 0, none⟩), .pointer (some ⟨w.heap.size + 4, 0, none⟩)]) rfl trivial (enters_of Tryz.func97 (by kernel_rfl) rfl)
    hst KpC.trans (KpC.obj (Nat.le_trans h0.size B5.size)) (Below.refl _ _) (fun _ => rfl)
    (fun pre W => (TmB w0.heap.size w0 (w.heap.size + 1) W (tsL (pre.map PtC.t)) ∧ (tsL (pre.map PtC.t)).length ≤ 10000 * pre.length) ∧ Below w.heap.size w W)
    (fun cd pre W => False)
    (OwnFrom.and (OwnFrom.and (Own.from (tmB_own w0.heap.size w0 (w.heap.size + 1) (fun pre : List (PtC (fun x => wt x ≤ 10000) w0.heap.size w0) => tsL (pre.map PtC.t))) _) (ownFrom_pure _ _)) (ownFrom_below (Nat.le_refl _) B5.size))
    (fun cd _ _ _ _ hs _ _ => hs)
    ⟨⟨R5, by simp [tsL]⟩, B5⟩
    (fun x a2 W => ∃ Bx, CBox W Bx (opC x.t) (nmC x.t) (soC x.t) x.k x.a x.n x.c ∧ a2 = { tmps := #[.agg #[.int .i64 (opC t), .string (nmC t), .string (soC t), .slice ks.a ks.n ks.c, .slice a m c], .pointer (some ⟨w.heap.size, 0, none⟩), .slice none 0 0, .pointer (some ⟨w.heap.size + 1, 0, none⟩), .pointer (some ⟨Bx, 0, none⟩), .agg #[.int .i64 (opC t), .string (nmC t), .string (soC t), .slice ks.a ks.n ks.c, .slice a m c], .func (.func 97) #[] #[.pointer (some ⟨w.heap.size + 3, 0, none⟩), .pointer (some ⟨w.heap.size + 4, 0, none⟩)], .agg #[.int .i64 (opC x.t), .string (nmC x.t), .string (soC x.t), .slice x.k.a x.k.n x.k.c, .slice x.a x.n x.c], undef, undef, undef, undef, undef], defers := [] })
    (fun x a2 _ X Y row hs hg hr => by obtain ⟨Bx, h2, h3⟩ := hs; exact ⟨Bx, own_blk Bx _ _ () X Y row h2 hg (fun r e => (hr r e).2), h3⟩)
    ?assign ?body ?done ?stop
  case assign =>
    rintro l pre x W K ⟨⟨hN, hq⟩, hB⟩ hK
    have hb : Below W.heap.size W (W.alloc (.cells #[.int .i64 (opC x.t), .string (nmC x.t), .string (soC x.t), .slice x.k.a x.k.n x.k.c, .slice x.a x.n x.c] 25)) := bel_alloc (Below.refl _ _) _
    unfold encC
    gi_wp2
    exact hK _ _ (keepsF hb) (KpC.of_below (Nat.le_trans h0.size hB.size) hb) ⟨⟨hN.b hb, hq⟩, hB.trans (hb.mono hB.size)⟩ ⟨W.heap.size, CBox.new W _ _ _ _ _ _ _, rfl⟩
  case body =>
    rintro l pre x a2 W hl hr ⟨⟨hN, hq⟩, hB⟩ ⟨Bx, hX, rfl⟩ hlt
    have hT : IsT w0.heap.size w0 x.k.a x.k.n x.k.c (tsC x.t) := (ar_isC.1 x.ok).1
    have hnew : tsL ((pre ++ [x]).map PtC.t) = tsL (pre.map PtC.t) ++ tsC x.t := by rw [List.map_append, tsL_app, List.map_singleton, tsL, tsL, List.append_nil]
    obtain ⟨x0, x1, x2, x3, x4⟩ := hX.five
    have hYl : (tsC x.t).length ≤ 10000 := by have h1 := len_sizes (tsC x.t); have h2 := C.wt_mk x.t; have h3 := x.few; omega
    have hXl : (tsL (pre.map PtC.t)).length + x.k.n ≤ 100000000 := by
      have h1 := hT.1
      have h2 : pre.length ≤ 9999 := by omega
      have h3 : 10000 * pre.length ≤ 10000 * 9999 := Nat.mul_le_mul_left _ h2
      omega
    obtain ⟨va, vc, va', vc', W4, h1, hrun, hB4, hT4, hbel, hkeep⟩ := app_terms (h0.trans (hB.mono h0.size)) hN hT hXl
    have r0 := Blk.cell h1 0
    have r4 := Blk.cell hB4 0
    have q4 := Blk.free hB4 0
    have HF := Lib.hid (show (∀ B0, KeepsFrom B0 W (W4.setCell ⟨w.heap.size + 1, 0, none⟩ (.slice va' ((tsL (pre.map PtC.t)).length + x.k.n) vc'))) ∧ KpC w0.heap.size W (W4.setCell ⟨w.heap.size + 1, 0, none⟩ (.slice va' ((tsL (pre.map PtC.t)).length + x.k.n) vc')) ∧ ((TmB w0.heap.size w0 (w.heap.size + 1) (W4.setCell ⟨w.heap.size + 1, 0, none⟩ (.slice va' ((tsL (pre.map PtC.t)).length + x.k.n) vc')) (tsL ((pre ++ [x]).map PtC.t)) ∧ (tsL ((pre ++ [x]).map PtC.t)).length ≤ 10000 * (pre ++ [x]).length) ∧ Below w.heap.size w (W4.setCell ⟨w.heap.size + 1, 0, none⟩ (.slice va' ((tsL (pre.map PtC.t)).length + x.k.n) vc'))) from by
      have hbw := hbel w.heap.size (by omega)
      have hb0 := hbel w0.heap.size (by have := h0.size; omega)
      refine ⟨fun B0 => ⟨hbw.size, fun i ob hi1 hi2 hi3 => hkeep i ob hi2 (fun cs fr e => by subst e; cases hi3) (fun e => by subst e; rw [show W.heap[w.heap.size + 1]? = _ from h1] at hi2; injection hi2 with hi2; subst hi2; cases hi3)⟩, ⟨hb0, fun i cs hi1 hi2 => hkeep i _ hi1 (fun cs' fr e => by injection e with e1 e2; exact absurd e2 (by decide)) (fun e => by subst e; rw [show W.heap[w.heap.size + 1]? = _ from h1] at hi1; injection hi1 with hi1; injection hi1 with e1 e2; exact absurd e2 (by decide))⟩, ⟨by rw [hnew]; exact hT4, ?_⟩, hB.trans hbw⟩
      rw [hnew, List.length_append, List.length_append, List.length_singleton]
      omega)
    clear hT4 hbel hkeep h1 hB4 hX hN hT hXl hYl hq hnew
    generalize (tsL (pre.map PtC.t)).length = NN at *
    gi_wp2_with (gi_at_builtin; refine step_app rfl (.tmp 8) (.tmp 10) 22 rfl _ _ _ rfl rfl hrun ?_; clear hrun)
    exact ⟨HF.out.1 _, HF.out.2⟩
  case done =>
    rintro D zs W hD hS ⟨⟨hN, hq⟩, hB⟩ hK
    obtain ⟨va, vc, hs, hR, ho, hh⟩ := hN
    have c5 := Blk.cell hR 0
    have hbl := belowK_b (w := w) (Nat.le_refl _) W D _ (.deferred none) (Nat.le_trans B5.size hD) hK rfl rfl
    have hrow : OwnT (W.putObj D (.deferred none)) (w.heap.size + 1 + 1) (.slice va (tsL (zs.map PtC.t)).length vc) hs := World.ownsRow.kept ho (grownBy_putObj' W D (.deferred none)) (by
      rcases ho.2 with ⟨hv, _⟩ | ⟨g0, cap0, cur, hv, hb0, hg0, _⟩
      · exact .inl (by rw [hv]; rfl)
      · refine .inr (fun e => ?_)
        have : g0 = D := by rw [hv] at e; simpa [Value.ownBlock] using e
        subst this
        rw [hg0] at hK; cases hK)
    have hrow2 : OwnT (W.putObj D (.deferred none)) w.heap.size (.slice va (tsL (zs.map PtC.t)).length vc) hs := OwnT.base hrow (by omega)
    rw [hS] at hrow2
    have hh2 : HdsT w0.heap.size w0 hs (tsAll t) := by rw [← tsL_all, ← hS]; exact hh
    clear hq hst
    gi_wp2
    refine ⟨by simp, .inl ⟨_, _, rfl, run_takeDeferred hK, ?_⟩⟩
    exact ⟨_, results_tmp rfl _ _ _, .slice va (tsL (allP yes t)).length vc, hs, rfl, hrow2, hh2, hB.trans hbl⟩
  case stop =>
    rintro D cd pre W hD hS h hK
    exact h.elim
theorem allTerms_any (t : Cl) (ks : SS) (a : Option Addr) (m c : Nat) (w0 w : World) (h0 : Below w0.heap.size w0 w) (hA : ArC w0.heap.size w0 t ks a m c) (hsz : wt t ≤ 10000) :
    Calls Tryz.prog 42 #[.agg #[.int .i64 (opC t), .string (nmC t), .string (soC t), .slice ks.a ks.n ks.c, .slice a m c]] w fun e w' => ∃ v hs, e = .returned v ∧ OwnT w' w.heap.size v hs ∧ HdsT w0.heap.size w0 hs (tsAll t) ∧ Below w.heap.size w w' :=
  callsIn_wide.1 (allTerms_in t ks a m c w0 w h0 hA hsz)
end Go.Proofs.YtjjfbgadpgckeaaGreat.U
namespace Go.Proofs.YtjjfbgadpgckeaaGreat.U
open Go.RowKit Go.Shelf L T C Cs
set_option linter.unusedVariables false
set_option linter.unusedSimpArgs false

theorem wts_appN (l m : List Cl) : wts (l ++ m) = wts l + wts m := by
  induction l with
  | nil => rw [List.nil_append, wts]; omega
  | cons t l ih => rw [List.cons_append, wts, wts, ih]; omega
theorem tsAlls_app (l m : List Cl) : tsAlls (l ++ m) = tsAlls l ++ tsAlls m := by
  induction l with
  | nil => rfl
  | cons t l ih => rw [List.cons_append, tsAlls, tsAlls, ih, List.append_assoc]
set_option maxRecDepth 100000 in
/-- append(l, xs...), both rows of the call's own -/
theorem app_rowsT {w : World} {ops : Array Oper} {rest : List Oper} {o : Oper} {a : Act} {Q : Exit → Act → World → Prop} (hgd : o.guard = none) (s x : Operand)
    (ho : o.op = .call { callee := .builtin .append, args := #[s, x], argTypes := #[22, 22] })
    (base : Nat) (v : Value) (Y : List Hd) (hs : a.eval s = v) (hown : OwnT w base v Y) (base2 : Nat) (v2 : Value) (X : List Hd) (hx : a.eval x = v2) (hX : OwnT w base2 v2 X)
    (hn : Y.length + X.length ≤ 1000000000) (hbase : base ≤ w.heap.size)
    (h : ∀ v' w', OwnT w' base v' (Y ++ X) → w.grownBy w' v.ownBlock → wpList Tryz.prog ops Q rest (a.put o.dst v') w') : wpList Tryz.prog ops Q (o :: rest) a w := by
  obtain ⟨i0, hi, hz0, hz1, hz2⟩ := info_parts termI
  obtain ⟨A, c, hv2, hXc, hcm, hnil, hpos⟩ := hX.slice
  subst hv2
  cases A with
  | none =>
    have hc : c = 0 := hnil rfl
    have hX0 : X = [] := List.eq_nil_of_length_eq_zero (by omega)
    subst hX0
    subst hc
    refine wpList_append_own_none hgd s x 22 ho base 53 i0 4 Tryz.underlying22 hi v Y.length (flatH Y) hs hown hx (h v w ?_ ⟨rfl, rfl, rfl, Nat.le_refl _, fun _ _ _ => rfl⟩)
    rw [List.append_nil]; exact hown
  | some ad =>
    have hcells : ∀ j u, (flatH X)[j]? = some u → w.cell? (ad.add j) = some u := fun j u hj => by
      have hj2 : j < X.length * 4 := by have := (List.getElem?_eq_some_iff.1 hj).1; rwa [flat_len] at this
      obtain ⟨g, hg, _, _⟩ := hpos (by omega)
      injection hg with hg
      subst hg
      exact World.ownsRow.cells (g := g) hX rfl j u hj
    refine wpList_append_own w hgd s x 22 ho base 53 i0 _ 4 56 Tryz.underlying22 hi hz0 hz1 hz2 rfl (by decide) v Y.length (flatH Y) hs hown ad X.length c (flatH X) hx (by rw [flat_len]) hcells (hd_one _) (by unfold maxLen; omega) (by omega) hbase fun v' w' h1 h2 _ => h v' w' ?_ h2
    unfold OwnT
    rw [List.length_append, flat_app]
    exact h1
def TlR (w wr : World) (v : Value) (X : List Tm) : Prop := ∃ hs, OwnT wr w.heap.size v hs ∧ HdsT w.heap.size w hs X ∧ Below w.heap.size w wr
set_option maxRecDepth 100000 in
set_option maxHeartbeats 8000000 in
theorem ClaimNames_any (l : List Cl) (A : Option Addr) (n c : Nat) (w : World) (hG : CsW w A n c l) (hl : wts l ≤ 10000) :
    Calls Tryz.prog 19 #[.slice A n c] w fun e w' => ∃ v, e = .returned v ∧ OwnS w' w.heap.size v (names (tsAlls l)) ∧ Below w.heap.size w w' := by
  have hn : n = l.length := hG.1
  have hn63 : n ≤ 9223372036854775807 := by have := wts_len l; omega
  have HC := Lib.hid hG
  have HL := Lib.hid (show ∀ k, (tsAlls (l.take k)).length ≤ 10000 from fun k => by
    have h1 := len_sizes (tsAlls (l.take k))
    have h2 := tsAlls_size (l.take k)
    have h3 := wts_appN (l.take k) (l.drop k)
    rw [List.take_append_drop] at h3
    omega)
  have HW := Lib.hid (show ∀ k x, l[k]? = some x → wt x ≤ 10000 ∧ (tsAll x).length ≤ 10000 from fun k x h => by
    have h1 := wts_mem (List.mem_of_getElem? h)
    have h2 := len_sizes (tsAll x)
    have h3 := tsAll_size x
    omega)
  have HE := Lib.hid (show ∀ k, n ≤ k → tsAlls (l.take k) = tsAlls l from fun k h => by rw [List.take_of_length_le (by omega)])
  have HZ := Lib.hid (show sizes (tsAlls l) ≤ 10000000 from by have := tsAlls_size l; omega)
  have H0 : Hid (TlR w w (.slice none 0 0) (tsAlls (l.take 0))) := Lib.hid ⟨[], OwnT.nil _ _, by rw [List.take_zero]; exact HdsT.nil _ _, Below.refl _ _⟩
  clear hG hn hl
  go_enter Tryz.func19, Tryz.ntmps19
  go_wp2
  go_loopw [3, 8] (fun v i wr0 => ∃ (wr : World) (k : Nat) (v' : Value), v' = v ∧ wr = wr0 ∧ k ≤ n ∧ i = .int .i64 k ∧ Hid (TlR w wr v' (tsAlls (l.take k)))) (fun v i _ => n - (intOf i).toNat)
  case atStart => exact ⟨_, 0, _, rfl, rfl, by omega, rfl, H0⟩
  case round =>
    obtain ⟨wr, k, v, rfl, rfl, hk, rfl, hR⟩ := hrel
    obtain ⟨hs, ho, hd, hbr⟩ := hR.out
    by_cases hlt : k < n
    · obtain ⟨bb, o, x, ⟨xa, xn, xc⟩, AA, M, Cc, rfl, hbb, z0, z1, z2, z3, z4, hx, hax⟩ := HC.out.at hlt
      dsimp only at z3
      have y0 := (hbr.cell (p := ⟨bb, _, none⟩) hbb).trans z0
      have y1 := (hbr.cell (p := ⟨bb, _, none⟩) hbb).trans z1
      have y2 := (hbr.cell (p := ⟨bb, _, none⟩) hbb).trans z2
      have y3 := (hbr.cell (p := ⟨bb, _, none⟩) hbb).trans z3
      have y4 := (hbr.cell (p := ⟨bb, _, none⟩) hbb).trans z4
      obtain ⟨W3, hW3, hB3, hs3, S3⟩ := cbox1 wr (opC x) (nmC x) (soC x) ⟨xa, xn, xc⟩ AA M Cc
      dsimp only at hW3 S3
      obtain ⟨f0, f1, f2, f3, f4⟩ := S3.five
      obtain ⟨hw1, hw2⟩ := HW.out k x hx
      have hbr3 := hbr.trans (hB3.mono hbr.size)
      have cV := allTerms_any x ⟨xa, xn, xc⟩ AA M Cc w W3 hbr3 hax hw1
      have Hst := Lib.hid (show tsAlls (l.take (k + 1)) = tsAlls (l.take k) ++ tsAll x by rw [take_c hx, tsAlls_app, tsAlls, tsAlls, List.append_nil])
      have hlen1 : hs.length ≤ 10000 := by rw [hd.1]; exact HL.out k
      have HD := Lib.hid hd
      have ho3 := OwnT.below ho hB3
      have hsz := hbr3.size
      clear z0 z1 z2 z3 z4 hax hx HC hR hd S3 hs3
      generalize tsAll x = EX at *
      generalize opC x = op' at *
      generalize nmC x = nm' at *
      generalize soC x = so' at *
      dsimp only at cV f3
      have hk0 : 0 ≤ (k : Int) := by omega
      have hk1 : (k : Int) < (n : Int) := by omega
      go_wp2_with (first
        | (go_at_call 42; ((with_reducible refine cV.mono ?_); rintro e w5 ⟨v5, hs5, rfl, ho5, hd5, hb5⟩; have HD5 := Lib.hid hd5; have HO5 := Lib.hid ho5; have hl5 : hs5.length ≤ 10000 := (by rw [hd5.1]; exact hw2); clear hd5 ho5))
        | (at_builtin; ((refine app_rowsT rfl (.tmp 12) (.tmp 14) rfl w.heap.size v hs rfl (OwnT.below ho3 hb5) W3.heap.size v5 hs5 rfl HO5.out (by omega) (by have := hb5.size; omega) ?_); intro v6 w6 ho6 hg6; have hb6 : Below w.heap.size w w6 := (hbr3.trans (hb5.mono hbr3.size)).grown hg6 (by have := hb5.size; omega) (fun q hq => (World.ownsRow.lt (OwnT.below ho3 hb5) q hq).1))))
      go_roundw
      case rel => exact ⟨_, k + 1, v6, rfl, rfl, by omega, by go_num, Lib.hid ⟨hs ++ hs5, ho6, by rw [Hst.out]; exact HD.out.app HD5.out, hb6⟩⟩
      case measure => simp [intOf]; omega
    · have hkn : k = n := by omega
      obtain ⟨A', c', hv, -⟩ := ho.slice
      subst hv
      have hT : TsW wr A' hs.length c' (tsAlls l) := by
        rw [HE.out k (by omega)] at hd
        refine OwnT.isT ho (Nat.le_refl _) hd.1.symm fun k hk hk2 => ?_
        obtain ⟨e1, e2, e3, e4⟩ := hd.2 k hs[k] (tsAlls l)[k] (List.getElem?_eq_getElem hk2) (List.getElem?_eq_getElem hk)
        exact ⟨e1, e2, e3, ArP.ar (P := fun b => b < w.heap.size) (fun b hb => by have := hbr.size; omega) _ (ArP.to (fun b hb => hbr.block b hb) (fun b hb => hb) _ e4)⟩
      have cN := T.Names_any (tsAlls l) A' hs.length c' wr hT HZ.out
      clear hR hd HC HE HZ HW HL ho
      go_wp2_with (go_at_call 46; ((with_reducible refine cN.mono ?_); rintro e w5 ⟨v5, rfl, ho5, hb5⟩))
      go_ret
      exact ⟨v5, rfl, OwnS.base ho5 hbr.size, hbr.trans (hb5.mono hbr.size)⟩
end Go.Proofs.YtjjfbgadpgckeaaGreat.U
