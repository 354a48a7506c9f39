/-
  What is proved: append of one claim to a list of claims in a cell, in a region that draws its order: what it makes, what it keeps.
-/
import Derived.Test.YtjjoebijkcmgiaaGreatZClmW
import Derived.RegionIn
namespace Go.Proofs.YtjjoebijkcmgiaaGreat.C
open Go.RowKit Go.Shelf L T
set_option linter.unusedVariables false
set_option linter.unusedSimpArgs false
attribute [local go_sem] Oper.semAt_some

/-- append(s, zero) to a row of the call's own: blocks that hold one term lie as they lay -/
theorem append_zeroC (Wz : World) (base : Nat) (v : Value) (hs : List Hc) (ho : OwnC Wz base v hs) (hnil : v = .slice none 0 0 ↔ hs = []) (hbase : base ≤ Wz.heap.size) (hn : hs.length < 1000000) (z : Nat)
    (hz : ∀ j u, (flatC [Hc.zero])[j]? = some u → Wz.cell? ((⟨z, 0, none⟩ : Addr).add j) = some u) :
    ∃ g cap W4, (∀ ty, (Builtin.append_ #[23, 23] ty #[v, .slice (some ⟨z, 0, none⟩) 1 1]).run Tryz.prog Wz = .ok (.slice (some ⟨g, 0, none⟩) (hs.length + 1) cap) W4) ∧
      OwnC W4 base (.slice (some ⟨g, 0, none⟩) (hs.length + 1) cap) (hs ++ [Hc.zero]) ∧ Wz.grownBy W4 v.ownBlock ∧ KeepC Wz W4 ∧ (Wz.heap.size ≤ g ∨ ∃ cur, Wz.heap[g]? = some (.cells cur 25 (0, 0)) ∧ cur.size ≠ 5) := by
  obtain ⟨i0, hi, hz0, hz1, hz2⟩ := info_parts claimI
  obtain ⟨v', W4, hr, h1, h2, h3⟩ := run_append_own (P := Tryz.prog) Wz base 23 23 25 i0 _ 5 88 Tryz.underlying23 hi hz0 hz1 hz2 rfl (by decide) v hs.length (flatC hs) ho ⟨z, 0, none⟩ 1 1 (flatC [Hc.zero]) (by rw [flatC_len]; rfl) hz (hc_one _) (by unfold maxLen; omega) (by omega) hbase
  have ho4 : OwnC W4 base v' (hs ++ [Hc.zero]) := by
    unfold OwnC
    rw [List.length_append, flatC_app]
    exact h1
  obtain ⟨A', c', hv', _, _, _, hA⟩ := ho4.slice
  obtain ⟨g, hg, _, hgl⟩ := hA (by simp)
  subst hg
  have hv2 : v' = .slice (some ⟨g, 0, none⟩) (hs.length + 1) c' := by rw [hv']; simp
  subst hv2
  have hrun : ∀ ty, (Builtin.append_ #[23, 23] ty #[v, .slice (some ⟨z, 0, none⟩) 1 1]).run Tryz.prog Wz = .ok (.slice (some ⟨g, 0, none⟩) (hs.length + 1) c') W4 := fun ty => by
    obtain ⟨v2, W5, hr2, _⟩ := run_append_own (P := Tryz.prog) Wz base 23 ty 25 i0 _ 5 88 Tryz.underlying23 hi hz0 hz1 hz2 rfl (by decide) v hs.length (flatC hs) ho ⟨z, 0, none⟩ 1 1 (flatC [Hc.zero]) (by rw [flatC_len]; rfl) hz (hc_one _) (by unfold maxLen; omega) (by omega) hbase
    exact hr
  refine ⟨g, c', W4, hrun, ho4, h2, ?_⟩
  rcases ho.2 with ⟨rfl, hz1'⟩ | ⟨g0, cap, cur, rfl, hb, hg0, hnc, hcm, hcs, ht⟩
  · have hgn : Wz.heap.size ≤ g := by
      rcases Nat.lt_or_ge g Wz.heap.size with hlt | hge
      · exfalso
        have hrn := run_append_nil (P := Tryz.prog) Wz 23 23 25 i0 _ Tryz.underlying23 hi hz0 ⟨z, 0, none⟩ 1 1 (flatC [Hc.zero]) (by rw [flatC_len, hz1]; rfl) hz (by omega) (by omega) (by rw [hz2]; decide)
        rw [hr] at hrn
        injection hrn with e1 e2
        injection e1 with e1
        injection e1 with e1
        injection e1 with e1
        omega
      · exact hge
    exact ⟨fun k cs t hk ht hc => (h2.block k (Array.getElem?_eq_some_iff.1 hk).1 (by simp [Value.ownBlock])).trans hk, .inl hgn⟩
  · have hne : hs ≠ [] := fun e => by have := hnil.2 e; cases this
    have hpos : 0 < hs.length := List.length_pos_iff.2 hne
    by_cases hroom : hs.length + 1 ≤ cap
    · have hcur : cur.size ≠ 5 := by omega
      have hkC : KeepC Wz W4 := fun k cs t hk ht hc => (h2.block k (Array.getElem?_eq_some_iff.1 hk).1 (fun e => by
        have e' : k = g0 := by simpa [Value.ownBlock] using e
        subst e'
        rw [hg0] at hk
        injection hk with hk
        injection hk with e1 e2 e3
        subst e1 e2
        exact hcur (hc rfl))).trans hk
      refine ⟨hkC, ?_⟩
      rcases Nat.lt_or_ge g Wz.heap.size with hlt | hge
      · have hrr := run_append_room (P := Tryz.prog) Wz 23 23 25 i0 Tryz.underlying23 hi g0 hs.length cap cur hg0 ⟨z, 0, none⟩ 1 1 (flatC [Hc.zero]) (by rw [flatC_len, hz1]; rfl) hz (hc_one _) hroom (by rw [hz1, flatC_len]; simp; omega)
        rw [hr] at hrr
        injection hrr with e1 e2
        injection e1 with e1
        injection e1 with e1
        injection e1 with e1
        subst e1
        exact .inr ⟨cur, hg0, hcur⟩
      · exact .inl hge
    · have holds : ∀ j u, (flatC hs)[j]? = some u → Wz.cell? ((⟨g0, 0, none⟩ : Addr).add j) = some u := World.ownsRow.cells (g := g0) ho rfl
      have hrg := run_append_grow (P := Tryz.prog) Wz 23 23 25 i0 _ Tryz.underlying23 hi hz0 ⟨g0, 0, none⟩ hs.length cap (flatC hs) (by rw [flatC_len, hz1]) holds ⟨z, 0, none⟩ 1 1 (flatC [Hc.zero]) (by rw [flatC_len, hz1]; rfl) hz (by omega) (by omega) (growslice_fits (by omega) (by rw [hz2]; omega))
      rw [hr] at hrg
      injection hrg with e1 e2
      injection e1 with e1
      injection e1 with e1
      injection e1 with e1
      refine ⟨?_, .inl (by omega)⟩
      rw [e2]
      exact KeepC.of_below (bel_alloc (Below.refl _ _).drew _)
def hcP {B : Nat} {w0 : World} (x : PtC B w0) : Hc := hcOf x.t x.k x.a x.n x.c
/-- a cell that holds a list of claims of the call's own, which lies behind it -/
def ColC (bs : Nat) (hs : List Hc) (W : World) : Prop := ∃ v, Blk W bs #[v] 23 ∧ OwnC W (bs + 1) v hs ∧ (v = .slice none 0 0 ↔ hs = [])
theorem colC_own {β : Type} (bs : Nat) (f : β → List Hc) : Own (fun (pre : β) W => ColC bs (f pre) W) := fun pre X Y row hs hg hr => by
  obtain ⟨v, h1, h2, h3⟩ := hs
  refine ⟨v, own_blk bs _ _ () X Y row h1 hg hr, World.ownsRow.kept h2 hg ?_, h3⟩
  rcases h2.2 with ⟨rfl, _⟩ | ⟨g0, cap, cur, rfl, hb, hg0, _⟩
  · exact .inl rfl
  · refine .inr (fun e => ?_)
    obtain ⟨o, ho, hc⟩ := hr g0 (by simpa [Value.ownBlock] using e.symm)
    rw [hg0] at ho; cases ho; cases hc
theorem ColC.below {bs : Nat} {hs : List Hc} {W W' : World} (h : ColC bs hs W) (hb : Below W.heap.size W W') : ColC bs hs W' := by
  obtain ⟨v, h1, h2, h3⟩ := h
  exact ⟨v, Blk.below h1 hb, h2.below hb, h3⟩
theorem keepC_past {W Wz W4 X : World} {gg bs : Nat} {v : Value} (hbz : Below W.heap.size W Wz) (hkC : KeepC Wz W4) (hgb : Wz.heap.size ≤ gg ∨ ∃ cur, Wz.heap[gg]? = some (.cells cur 25 (0, 0)) ∧ cur.size ≠ 5) (hR : Blk W bs #[v] 23) (hx : ∀ i, i ≠ gg → i ≠ bs → X.heap[i]? = W4.heap[i]?) : KeepC W X := fun k cs t hk ht hc => by
  have hlt := (Array.getElem?_eq_some_iff.1 hk).1
  have h1 : Wz.heap[k]? = some (.cells cs t (0, 0)) := (hbz.block k hlt).trans hk
  have hb : k ≠ bs := fun e => by
    subst e
    rw [show W.heap[k]? = _ from hR] at hk
    injection hk with hk
    injection hk with e1 e2 e3
    exact ht e2.symm
  have hg : k ≠ gg := fun e => by
    subst e
    rcases hgb with h | ⟨cur, h, hs⟩
    · have := hbz.size; omega
    · rw [h1] at h
      injection h with h
      injection h with e1 e2 e3
      subst e1 e2
      exact hs (hc rfl)
  exact (hx k hg hb).trans (hkC k cs t h1 ht hc)

/-- both orders of the two stores behind the append -/
def PostA (W4 : World) (gg bs N cap : Nat) (h : Hc) (X : World) : Prop := X = (set5 W4 gg N h).setCell ⟨bs, 0, none⟩ (.slice (some ⟨gg, 0, none⟩) (N + 1) cap) ∨ X = set5 (W4.setCell ⟨bs, 0, none⟩ (.slice (some ⟨gg, 0, none⟩) (N + 1) cap)) gg N h
theorem app_one (W : World) (bs N : Nat) (v : Value) (hs : List Hc) (x : Hc) (hR : Blk W bs #[v] 23) (ho : OwnC W (bs + 1) v hs) (hn : v = .slice none 0 0 ↔ hs = []) (hN : hs.length = N) (hlt : N < 1000000) :
    ∃ gg cap A0 c0 W4, v = .slice A0 N c0 ∧ (∀ ty, (Builtin.append_ #[23, 23] ty #[v, .slice (some ⟨W.heap.size, 0, none⟩) 1 1]).run Tryz.prog (W.alloc (.cells #[.int .i64 0, .string ⟨#[]⟩, .string ⟨#[]⟩, .slice none 0 0, .slice none 0 0] 25)).drew = .ok (.slice (some ⟨gg, 0, none⟩) (N + 1) cap) W4) ∧
      (W4.cell? ⟨gg, N * 5, none⟩ = some (.int .i64 0) ∧ W4.cell? ⟨gg, N * 5 + 1, none⟩ = some (.string ⟨#[]⟩) ∧ W4.cell? ⟨gg, N * 5 + 1 + 1, none⟩ = some (.string ⟨#[]⟩) ∧ W4.cell? ⟨gg, N * 5 + 1 + 1 + 1, none⟩ = some (.slice none 0 0) ∧ W4.cell? ⟨gg, N * 5 + 1 + 1 + 1 + 1, none⟩ = some (.slice none 0 0)) ∧
      (W4.frozen? ⟨gg, N * 5, none⟩ = false ∧ W4.frozen? ⟨gg, N * 5 + 1, none⟩ = false ∧ W4.frozen? ⟨gg, N * 5 + 2, none⟩ = false ∧ W4.frozen? ⟨gg, N * 5 + 3, none⟩ = false ∧ W4.frozen? ⟨gg, N * 5 + 4, none⟩ = false) ∧
      (W4.cell? ⟨bs, 0, none⟩ = some v ∧ W4.frozen? ⟨bs, 0, none⟩ = false) ∧ (¬ gg = bs ∧ ¬ bs = gg) ∧
      Hid (∀ X, PostA W4 gg bs N cap x X → (∀ B0, KeepsFrom B0 W X) ∧ KeepC W X ∧ (∀ B w0, B ≤ bs → Below B w0 W → Below B w0 X) ∧ ColC bs (hs ++ [x]) X) := by
  subst hN
  obtain ⟨Wz, hWz⟩ : ∃ Wz, (W.alloc (.cells #[.int .i64 0, .string ⟨#[]⟩, .string ⟨#[]⟩, .slice none 0 0, .slice none 0 0] 25)).drew = Wz := ⟨_, rfl⟩
  rw [hWz]
  have hbz : Below W.heap.size W Wz := by rw [← hWz]; exact (bel_alloc (Below.refl _ _) _).drew
  have hzc : CBox Wz W.heap.size 0 ⟨#[]⟩ ⟨#[]⟩ SS.nil none 0 0 := by rw [← hWz]; exact Blk.below (CBox.new W 0 ⟨#[]⟩ ⟨#[]⟩ SS.nil none 0 0) (Below.refl _ _).drew
  have hz : ∀ j u, (flatC [Hc.zero])[j]? = some u → Wz.cell? ((⟨W.heap.size, 0, none⟩ : Addr).add j) = some u := fun j u hj => by
    rw [Addr.add_lit, Nat.zero_add, Blk.cell hzc j, ← hj]
    have : (flatC [Hc.zero]).toArray = #[.int .i64 0, .string ⟨#[]⟩, .string ⟨#[]⟩, .slice none 0 0, .slice none 0 0] := rfl
    show #[Value.int IntKind.i64 0, .string ⟨#[]⟩, .string ⟨#[]⟩, .slice none 0 0, .slice none 0 0][j]? = _
    rw [← this]; simp
  have lR := Blk.lt hR
  obtain ⟨gg, cap, W4, hrun, ho4, hgr, hkC, hgb⟩ := append_zeroC Wz (bs + 1) v hs (ho.below hbz) hn (by have h2 := hbz.size; omega) hlt W.heap.size hz
  obtain ⟨A0, c0, hv0, _, _, _, hA0⟩ := ho.slice
  have hat : hs.length < (hs ++ [Hc.zero]).length := by simp
  obtain ⟨y0, y1, y2, y3, y4⟩ := ho4.at hat
  have e : (hs ++ [Hc.zero])[hs.length] = Hc.zero := by rw [List.getElem_append_right (by simp)]; simp
  rw [e] at y0 y1 y2 y3 y4
  have yf := ho4.row.free
  have hbw : v.ownBlock ≠ some bs := by
    rcases ho.2 with ⟨rfl, _⟩ | ⟨g0, cap0, cur, rfl, hb0, _⟩
    · simp [Value.ownBlock]
    · intro e; have : g0 = bs := by simpa [Value.ownBlock] using e
      omega
  have hR4 : Blk W4 bs #[v] 23 := Blk.grown (Blk.below hR hbz) hgr (fun e => hbw e.symm)
  have hrow : ∀ k, v.ownBlock = some k → bs + 1 ≤ k := fun k hk => by
    rcases ho.2 with ⟨rfl, _⟩ | ⟨g0, cap0, cur, rfl, hb0, _⟩
    · cases hk
    · have : g0 = k := by simpa [Value.ownBlock] using hk
      omega
  have K4 : KeepsOthers Wz W4 := KeepsOthers.of_grownBy hgr (fun j o hj hoj => by
    rcases ho.2 with ⟨rfl, _⟩ | ⟨g0, cap0, cur, rfl, hb0, hg0, _⟩
    · cases hj
    · have : g0 = j := by simpa [Value.ownBlock] using hj
      subst this
      have := (hbz.block g0 (Array.getElem?_eq_some_iff.1 hg0).1).trans hg0
      rw [this] at hoj
      injection hoj with hoj
      subst hoj
      rfl)
  have hgg : bs + 1 ≤ gg := by
    rcases ho4.2 with ⟨hv, _⟩ | ⟨g', cap', cur', hv', hb', _⟩
    · cases hv
    · injection hv' with e1; injection e1 with e1; injection e1 with e1; omega
  have hset : (hs ++ [Hc.zero]).set hs.length x = hs ++ [x] := by
    rw [List.set_append_right _ _ (by simp)]; simp
  have hcol : ∀ X, Blk X bs #[.slice (some ⟨gg, 0, none⟩) (hs.length + 1) cap] 23 → OwnC X (bs + 1) (.slice (some ⟨gg, 0, none⟩) (hs.length + 1) cap) ((hs ++ [Hc.zero]).set hs.length x) → ColC bs (hs ++ [x]) X := fun X h1 h2 => by
    rw [hset] at h2
    exact ⟨_, h1, h2, ⟨fun h => (by cases h), fun h => (by simp at h)⟩⟩
  have K4f : ∀ B0, KeepsFrom B0 W W4 := fun B0 => (keepsF hbz).trans (K4.from _)
  have BB : ∀ B w0, B ≤ bs → Below B w0 W → Below B w0 W4 := fun B w0 hB hb => hb.trans ((hbz.mono (show B ≤ W.heap.size by omega)).grown hgr (by have := hbz.size; omega) (fun k hk => by have := hrow k hk; omega))
  have hne : gg ≠ bs := by omega
  refine ⟨gg, cap, A0, c0, W4, hv0, hrun, ⟨y0, y1, y2, y3, y4⟩, ⟨yf _, yf _, yf _, yf _, yf _⟩, ⟨Blk.cell hR4 0, Blk.free hR4 0⟩, ⟨hne, fun e => hne e.symm⟩, ?_⟩
  rintro X (rfl | rfl)
  · refine ⟨fun B0 => (K4f B0).trans (((((((KeepsOthers.setCell _ _ _).trans (KeepsOthers.setCell _ _ _)).trans (KeepsOthers.setCell _ _ _)).trans (KeepsOthers.setCell _ _ _)).trans (KeepsOthers.setCell _ _ _)).trans (KeepsOthers.setCell _ _ _)).from _), keepC_past hbz hkC hgb hR (fun i h1 h2 => (heap_setCell_other _ ⟨bs, 0, none⟩ i _ h2).trans (set5_other _ _ _ _ _ h1)), fun B w0 hB hb => below_set (set5_below (BB B w0 hB hb) (by omega) _ _) hB _ _, hcol _ (blk_cell_set ((set5_other _ _ _ _ _ (fun e => hne e.symm)).trans hR4) _) ?_⟩
    exact row_far (ho4.set hs.length x hat) (by omega) _ _
  · refine ⟨fun B0 => (K4f B0).trans (((((((KeepsOthers.setCell _ _ _).trans (KeepsOthers.setCell _ _ _)).trans (KeepsOthers.setCell _ _ _)).trans (KeepsOthers.setCell _ _ _)).trans (KeepsOthers.setCell _ _ _)).trans (KeepsOthers.setCell _ _ _)).from _), keepC_past hbz hkC hgb hR (fun i h1 h2 => (set5_other _ _ _ _ _ h1).trans (heap_setCell_other _ ⟨bs, 0, none⟩ i _ h2)), fun B w0 hB hb => set5_below (below_set (BB B w0 hB hb) hB _ _) (by omega) _ _, hcol _ ((set5_other _ _ _ _ _ (fun e => hne e.symm)).trans (blk_cell_set hR4 _)) ?_⟩
    exact OwnC.set (row_far ho4 (by omega) 0 (.slice (some ⟨gg, 0, none⟩) (hs.length + 1) cap) : OwnC (W4.setCell ⟨bs, 0, none⟩ (.slice (some ⟨gg, 0, none⟩) (hs.length + 1) cap)) (bs + 1) _ _) hs.length x hat
end Go.Proofs.YtjjoebijkcmgiaaGreat.C
