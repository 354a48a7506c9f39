/-
  What is proved: rows of terms of the call's own that grow by lists of terms that were there, in a cell.
-/
import Derived.Test.YtnhemglpbhnmdaaGreatZSbRm
import Derived.Test.YtnhemglpbhnmdaaGreatZTrmNm
import Derived.Test.YtnhemglpbhnmdaaGreatZCsZ
namespace Go.Proofs.YtnhemglpbhnmdaaGreat.U
open Go.RowKit Go.Shelf L T C B Cs
set_option linter.unusedVariables false
set_option linter.unusedSimpArgs false

/-- heads that read as these terms, in a world that was there -/
def HdsT (B : Nat) (w0 : World) (hs : List Hd) (l : List Tm) : Prop := hs.length = l.length ∧ ∀ (i : Nat) (h : Hd) (x : Tm), hs[i]? = some h → l[i]? = some x → HdP (fun b => b < B) w0 h x
theorem HdsT.nil (B : Nat) (w0 : World) : HdsT B w0 [] [] := ⟨rfl, fun i h x hi => by simp at hi⟩
theorem HdsT.app {B : Nat} {w0 : World} {hs hs2 : List Hd} {l l2 : List Tm} (h : HdsT B w0 hs l) (h2 : HdsT B w0 hs2 l2) : HdsT B w0 (hs ++ hs2) (l ++ l2) := by
  refine ⟨by rw [List.length_append, List.length_append, h.1, h2.1], fun i hh x e1 e2 => ?_⟩
  rcases Nat.lt_or_ge i hs.length with hi | hi
  · rw [List.getElem?_append_left hi] at e1
    rw [List.getElem?_append_left (by rw [← h.1]; exact hi)] at e2
    exact h.2 i hh x e1 e2
  · rw [List.getElem?_append_right hi] at e1
    rw [List.getElem?_append_right (by rw [← h.1]; exact hi), ← h.1] at e2
    exact h2.2 _ hh x e1 e2
theorem rw_heads {B : Nat} {w : World} {b : Nat} : ∀ (l : List Tm) (o : Nat), Rw B w b o l → ∃ hs, HdsT B w hs l ∧ ∀ j u, (flatH hs)[j]? = some u → w.cell? ⟨b, o + j, none⟩ = some u
  | [], o, _ => ⟨[], HdsT.nil _ _, fun j u h => by simp [flatH] at h⟩
  | t :: l, o, h => by
    rw [Rw] at h
    obtain ⟨⟨a, n, c, c0, c1, c2, c3, hA⟩, hr⟩ := h
    obtain ⟨hs, ⟨g1, g2⟩, h2⟩ := rw_heads l (o + 4) hr
    refine ⟨hdOf t a n c :: hs, ⟨by simp [g1], fun i hd x e1 e2 => ?_⟩, fun j u hj => ?_⟩
    · cases i with
      | zero =>
        simp only [List.getElem?_cons_zero, Option.some.injEq] at e1 e2
        subst e1 e2
        exact ⟨rfl, rfl, rfl, Ar.p t hA⟩
      | succ i =>
        simp only [List.getElem?_cons_succ] at e1 e2
        exact g2 i hd x e1 e2
    · have e : flatH (hdOf t a n c :: hs) = .int .i64 (opT t) :: .string (nameT t) :: .int .i64 (numT t) :: .slice a n c :: flatH hs := rfl
      rw [e] at hj
      match j with
      | 0 => simp only [List.getElem?_cons_zero, Option.some.injEq] at hj; subst hj; exact c0
      | 1 => simp only [List.getElem?_cons_succ, List.getElem?_cons_zero, Option.some.injEq] at hj; subst hj; exact c1
      | 2 => simp only [List.getElem?_cons_succ, List.getElem?_cons_zero, Option.some.injEq] at hj; subst hj; exact c2
      | 3 => simp only [List.getElem?_cons_succ, List.getElem?_cons_zero, Option.some.injEq] at hj; subst hj; exact c3
      | j + 4 =>
        simp only [List.getElem?_cons_succ] at hj
        have := h2 j u hj
        rw [show o + 4 + j = o + (j + 4) by omega] at this
        exact this
/-- the terms so far, in a row that a box holds -/
def TmB (B : Nat) (w0 : World) (bx : Nat) (W : World) (X : List Tm) : Prop := ∃ a c hs, Blk W bx #[.slice a X.length c] 22 ∧ OwnT W (bx + 1) (.slice a X.length c) hs ∧ HdsT B w0 hs X
theorem TmB.b {B : Nat} {w0 : World} {bx : Nat} {W W' : World} {X : List Tm} (h : TmB B w0 bx W X) (hb : Below W.heap.size W W') : TmB B w0 bx W' X := by
  obtain ⟨a, c, hs, h1, h2, h3⟩ := h
  exact ⟨a, c, hs, Blk.below h1 hb, h2.below hb, h3⟩
theorem tmB_own {β : Type} (B : Nat) (w0 : World) (bx : Nat) (f : β → List Tm) : Own (fun (s : β) W => TmB B w0 bx W (f s)) := fun s X Y row hs hg hr => by
  obtain ⟨a, c, hds, h1, h2, h3⟩ := hs
  refine ⟨a, c, hds, own_blk bx _ _ () X Y row h1 hg hr, World.ownsRow.kept h2 hg ?_, h3⟩
  rcases h2.2 with ⟨hv, _⟩ | ⟨g0, cap, cur, hv, hb, hg0, _⟩
  · exact .inl (by rw [hv]; rfl)
  · refine .inr (fun e => ?_)
    obtain ⟨o, ho, hc⟩ := hr g0 (by rw [← e, hv]; rfl)
    rw [hg0] at ho; cases ho; cases hc
theorem ownT_lo {W : World} {lo : Nat} {v : Value} {X : List Hd} (h : OwnT W lo v X) : ∀ r, v.ownBlock = some r → lo ≤ r := fun r hr => by
  rcases h.2 with ⟨rfl, _⟩ | ⟨g0, cap, cur, rfl, hb, hg0, _⟩
  · cases hr
  · have : g0 = r := by simpa [Value.ownBlock] using hr
    omega
/-- append(l, terms...) -/
theorem app_terms {B : Nat} {w0 W : World} {bx : Nat} {X : List Tm} (hBw : Below B w0 W) (h : TmB B w0 bx W X) {A : Option Addr} {m d : Nat} {Y : List Tm} (hY : IsT B w0 A m d Y) (hX : X.length + m ≤ 100000000) :
    ∃ a c a' c' W4, Blk W bx #[.slice a X.length c] 22 ∧ (Builtin.append_ #[22, 22] 22 #[.slice a X.length c, .slice A m d]).run Tryz.prog W = .ok (.slice a' (X.length + m) c') W4 ∧
      Blk W4 bx #[.slice a X.length c] 22 ∧ TmB B w0 bx (W4.setCell ⟨bx, 0, none⟩ (.slice a' (X.length + m) c')) (X ++ Y) ∧ (∀ B', B' ≤ bx → Below B' W (W4.setCell ⟨bx, 0, none⟩ (.slice a' (X.length + m) c'))) ∧ (∀ (k : Nat) (o : Obj), W.heap[k]? = some o → (∀ cs fr, o ≠ .cells cs 31 fr) → k ≠ bx → (W4.setCell ⟨bx, 0, none⟩ (.slice a' (X.length + m) c')).heap[k]? = some o) := by
  obtain ⟨a, c, hs, h1, h2, h3⟩ := h
  obtain ⟨i0, hi, hz0, hz1, hz2⟩ := info_parts termI
  have hlt := Blk.lt h1
  have hm : m = Y.length := hY.1
  have hn : X.length = hs.length := h3.1.symm
  have hlo := ownT_lo h2
  refine ⟨a, c, ?_⟩
  cases A with
  | none =>
    have hd : d = 0 := hY.2.2.2.1 rfl
    have hm0 : m = 0 := by have := hY.2.1; omega
    have hY0 : Y = [] := List.eq_nil_of_length_eq_zero (by omega)
    subst hY0 hd hm0
    have hO : W.ownsRow (bx + 1) 31 4 (.slice a X.length c) X.length (flatH hs) := by have := h2; unfold OwnT at this; rwa [← hn] at this
    have hr := run_append_owned_none (P := Tryz.prog) (w := W) (bx + 1) 22 22 31 i0 4 Tryz.underlying22 hi (.slice a X.length c) X.length (flatH hs) hO
    refine ⟨a, c, W, h1, by rw [Nat.add_zero]; exact hr, h1, ?_, fun B' hB' => ?_, fun k o hk ho hne => ?_⟩
    · rw [List.append_nil]
      exact ⟨a, c, hs, blk_cell_set h1 _, row_far h2 (by omega) _ _, h3⟩
    · exact below_set (Below.refl _ _) hB' _ _
    · rw [heap_setCell_other W ⟨bx, 0, none⟩ k _ hne]; exact hk
  | some ad =>
    obtain ⟨hs2, g3, hcell⟩ : ∃ hs2, HdsT B w0 hs2 Y ∧ ∀ j u, (flatH hs2)[j]? = some u → W.cell? (ad.add j) = some u := by
      by_cases hp : 0 < m
      · obtain ⟨b, o, ha, hb, hr⟩ := hY.2.2.2.2 hp
        injection ha with ha
        subst ha
        obtain ⟨hs2, g1, g2⟩ := rw_heads Y o hr
        exact ⟨hs2, g1, fun j u hj => by rw [Addr.add_lit]; exact (hBw.cell (p := ⟨b, _, none⟩) hb).trans (g2 j u hj)⟩
      · have hY0 : Y = [] := List.eq_nil_of_length_eq_zero (by omega)
        subst hY0
        exact ⟨[], HdsT.nil _ _, fun j u h => by simp [flatH] at h⟩
    obtain ⟨v', W4, hr, q1, q2, q3⟩ := run_append_own (P := Tryz.prog) W (bx + 1) 22 22 31 i0 _ 4 56 Tryz.underlying22 hi hz0 hz1 hz2 rfl (by decide) (.slice a X.length c) X.length (flatH hs) (by have := h2; unfold OwnT at this; rwa [← hn] at this) ad m d (flatH hs2) (by rw [flat_len, g3.1, hm]) hcell (hd_one _) (by unfold maxLen; omega) (by omega) (by omega)
    have hO4 : OwnT W4 (bx + 1) v' (hs ++ hs2) := by
      unfold OwnT
      rw [List.length_append, flat_app, ← hn, g3.1, ← hm]
      exact q1
    obtain ⟨a', c', hv', -⟩ := hO4.slice
    rw [List.length_append, ← hn, g3.1, ← hm] at hv'
    subst hv'
    have hB4 : Blk W4 bx #[.slice a X.length c] 22 := Blk.grown h1 q2 (fun e => by have := hlo bx e.symm; omega)
    refine ⟨a', c', W4, h1, hr, hB4, ⟨a', c', hs ++ hs2, ?_, ?_, h3.app g3⟩, fun B' hB' => ?_, fun k o hk ho hne => ?_⟩
    · rw [List.length_append, ← hm]; exact blk_cell_set hB4 _
    · rw [List.length_append, ← hm]; exact row_far hO4 (by omega) _ _
    · exact below_set ((Below.refl _ _).grown q2 (by omega) (fun k hk => by have := hlo k hk; omega)) hB' _ _
    · rw [heap_setCell_other W4 ⟨bx, 0, none⟩ k _ hne]
      refine (q2.block k (Array.getElem?_eq_some_iff.1 hk).1 (fun e => ?_)).trans hk
      rcases h2.2 with ⟨hv, _⟩ | ⟨g0, cap0, cur, hv, hb0, hg0, _⟩
      · rw [hv] at e; cases e
      · rw [hv] at e
        have : g0 = k := by simpa [Value.ownBlock] using e.symm
        subst this
        rw [hg0] at hk
        injection hk with hk
        exact ho _ _ hk.symm
/-- the row, read as terms -/
theorem tm_read {w0 W : World} {bx : Nat} {X : List Tm} {a : Option Addr} {c : Nat} {hs : List Hd} (hB : Below w0.heap.size w0 W) (h2 : OwnT W (bx + 1) (.slice a X.length c) hs) (h3 : HdsT w0.heap.size w0 hs X) : TsW W a X.length c X := by
  refine OwnT.isT h2 (Nat.le_refl _) h3.1.symm fun k hk hk2 => ?_
  obtain ⟨e1, e2, e3, e4⟩ := h3.2 k hs[k] X[k] (List.getElem?_eq_getElem hk2) (List.getElem?_eq_getElem hk)
  exact ⟨e1, e2, e3, ArP.ar (P := fun b => b < w0.heap.size) (fun b hb => by have := hB.size; omega) _ (ArP.to (fun b hb => hB.block b hb) (fun b hb => hb) _ e4)⟩
end Go.Proofs.YtnhemglpbhnmdaaGreat.U
