/-
  What is proved: slices.Collect over the parts of a term: a row of the call's own that holds them, in preorder.
-/
import Derived.Test.YtelepojpnkoelaaZTrmK
import Derived.RegionIn
namespace Go.Proofs.Ytelepojpnkoelaa.T
open Go.RowKit Go.Shelf L
set_option linter.unusedVariables false
set_option linter.unusedSimpArgs false
attribute [local go_sem] Oper.semAt_some

/-- append(s, zero) to a row of the call's own: blocks that hold one term lie as they lay -/
theorem append_zero (Wz : World) (base : Nat) (v : Value) (hs : List Hd) (ho : OwnT Wz base v hs) (hnil : v = .slice none 0 0 ↔ hs = []) (hbase : base ≤ Wz.heap.size) (hn : hs.length < 1000000) (z : Nat)
    (hz : ∀ j u, (flatH [Hd.zero])[j]? = some u → Wz.cell? ((⟨z, 0, none⟩ : Addr).add j) = some u) :
    ∃ g cap W4, (∀ ty, (Builtin.append_ #[22, 22] ty #[v, .slice (some ⟨z, 0, none⟩) 1 1]).run Try.prog Wz = .ok (.slice (some ⟨g, 0, none⟩) (hs.length + 1) cap) W4) ∧
      OwnT W4 base (.slice (some ⟨g, 0, none⟩) (hs.length + 1) cap) (hs ++ [Hd.zero]) ∧ Wz.grownBy W4 v.ownBlock ∧ Keep4 Wz W4 ∧ (Wz.heap.size ≤ g ∨ ∃ cur, Wz.heap[g]? = some (.cells cur 24 (0, 0)) ∧ cur.size ≠ 4) := by
  obtain ⟨i0, hi, hz0, hz1, hz2⟩ := info_parts termI
  obtain ⟨v', W4, hr, h1, h2, h3⟩ := run_append_own (P := Try.prog) Wz base 22 22 24 i0 _ 4 56 Try.underlying22 hi hz0 hz1 hz2 rfl (by decide) v hs.length (flatH hs) ho ⟨z, 0, none⟩ 1 1 (flatH [Hd.zero]) (by rw [flat_len]; rfl) hz (hd_one _) (by unfold maxLen; omega) (by omega) hbase
  have ho4 : OwnT W4 base v' (hs ++ [Hd.zero]) := by
    unfold OwnT
    rw [List.length_append, flat_app]
    exact h1
  obtain ⟨A', c', hv', _, _, _, hA⟩ := ho4.slice
  obtain ⟨g, hg, _, hgl⟩ := hA (by simp)
  subst hg
  have hv2 : v' = .slice (some ⟨g, 0, none⟩) (hs.length + 1) c' := by rw [hv']; simp
  subst hv2
  have hrun : ∀ ty, (Builtin.append_ #[22, 22] ty #[v, .slice (some ⟨z, 0, none⟩) 1 1]).run Try.prog Wz = .ok (.slice (some ⟨g, 0, none⟩) (hs.length + 1) c') W4 := fun ty => by
    obtain ⟨v2, W5, hr2, _⟩ := run_append_own (P := Try.prog) Wz base 22 ty 24 i0 _ 4 56 Try.underlying22 hi hz0 hz1 hz2 rfl (by decide) v hs.length (flatH hs) ho ⟨z, 0, none⟩ 1 1 (flatH [Hd.zero]) (by rw [flat_len]; rfl) hz (hd_one _) (by unfold maxLen; omega) (by omega) hbase
    exact hr
  refine ⟨g, c', W4, hrun, ho4, h2, ?_⟩
  rcases ho.2 with ⟨rfl, hz1'⟩ | ⟨g0, cap, cur, rfl, hb, hg0, hnc, hcm, hcs, ht⟩
  · have hgn : Wz.heap.size ≤ g := by
      rcases Nat.lt_or_ge g Wz.heap.size with hlt | hge
      · exfalso
        have hrn := run_append_nil (P := Try.prog) Wz 22 22 24 i0 _ Try.underlying22 hi hz0 ⟨z, 0, none⟩ 1 1 (flatH [Hd.zero]) (by rw [flat_len, hz1]; rfl) hz (by omega) (by omega) (by rw [hz2]; decide)
        rw [hr] at hrn
        injection hrn with e1 e2
        injection e1 with e1
        injection e1 with e1
        injection e1 with e1
        omega
      · exact hge
    exact ⟨fun k cs hk hc => (h2.block k (Array.getElem?_eq_some_iff.1 hk).1 (by simp [Value.ownBlock])).trans hk, .inl hgn⟩
  · have hne : hs ≠ [] := fun e => by have := hnil.2 e; cases this
    have hpos : 0 < hs.length := List.length_pos_iff.2 hne
    by_cases hroom : hs.length + 1 ≤ cap
    · have hcur : cur.size ≠ 4 := by omega
      have hk4 : Keep4 Wz W4 := fun k cs hk hc => (h2.block k (Array.getElem?_eq_some_iff.1 hk).1 (fun e => by
        have e' : k = g0 := by simpa [Value.ownBlock] using e
        subst e'
        rw [hg0] at hk
        injection hk with hk
        injection hk with hk
        subst hk
        exact hcur hc)).trans hk
      refine ⟨hk4, ?_⟩
      rcases Nat.lt_or_ge g Wz.heap.size with hlt | hge
      · have hrr := run_append_room (P := Try.prog) Wz 22 22 24 i0 Try.underlying22 hi g0 hs.length cap cur hg0 ⟨z, 0, none⟩ 1 1 (flatH [Hd.zero]) (by rw [flat_len, hz1]; rfl) hz (hd_one _) hroom (by rw [hz1, flat_len]; simp; omega)
        rw [hr] at hrr
        injection hrr with e1 e2
        injection e1 with e1
        injection e1 with e1
        injection e1 with e1
        subst e1
        exact .inr ⟨cur, hg0, hcur⟩
      · exact .inl hge
    · have holds : ∀ j u, (flatH hs)[j]? = some u → Wz.cell? ((⟨g0, 0, none⟩ : Addr).add j) = some u := World.ownsRow.cells (g := g0) ho rfl
      have hrg := run_append_grow (P := Try.prog) Wz 22 22 24 i0 _ Try.underlying22 hi hz0 ⟨g0, 0, none⟩ hs.length cap (flatH hs) (by rw [flat_len, hz1]) holds ⟨z, 0, none⟩ 1 1 (flatH [Hd.zero]) (by rw [flat_len, hz1]; rfl) hz (by omega) (by omega) (growslice_fits (by omega) (by rw [hz2]; omega))
      rw [hr] at hrg
      injection hrg with e1 e2
      injection e1 with e1
      injection e1 with e1
      injection e1 with e1
      refine ⟨?_, .inl (by omega)⟩
      rw [e2]
      exact Keep4.of_below (bel_alloc (Below.refl _ _).drew _)
def hdP {B : Nat} {w0 : World} (x : Pt B w0) : Hd := hdOf x.t x.a x.n x.c
/-- between two rounds -/
def Coll {B : Nat} {w0 : World} (bs : Nat) (pre : List (Pt B w0)) (W : World) : Prop := ∃ v, Blk W bs #[v] 22 ∧ OwnT W (bs + 1) v (pre.map hdP) ∧ (v = .slice none 0 0 ↔ pre = [])
theorem coll_own {B : Nat} {w0 : World} (bs : Nat) : Own (fun (pre : List (Pt B w0)) W => Coll bs pre W) := fun pre X Y row hs hg hr => by
  obtain ⟨v, h1, h2, h3⟩ := hs
  refine ⟨v, own_blk bs _ _ () X Y row h1 hg hr, World.ownsRow.kept h2 hg ?_, h3⟩
  rcases h2.2 with ⟨rfl, _⟩ | ⟨g0, cap, cur, rfl, hb, hg0, _⟩
  · exact .inl rfl
  · refine .inr (fun e => ?_)
    obtain ⟨o, ho, hc⟩ := hr g0 (by simpa [Value.ownBlock] using e.symm)
    rw [hg0] at ho; cases ho; cases hc

theorem keep4_past {W Wz W4 X : World} {gg bs : Nat} {v : Value} (hbz : Below W.heap.size W Wz) (hk4 : Keep4 Wz W4) (hgb : Wz.heap.size ≤ gg ∨ ∃ cur, Wz.heap[gg]? = some (.cells cur 24 (0, 0)) ∧ cur.size ≠ 4) (hR : Blk W bs #[v] 22) (hx : ∀ i, i ≠ gg → i ≠ bs → X.heap[i]? = W4.heap[i]?) : Keep4 W X := fun k cs hk hc => by
  have hlt := (Array.getElem?_eq_some_iff.1 hk).1
  have h1 : Wz.heap[k]? = some (.cells cs 24 (0, 0)) := (hbz.block k hlt).trans hk
  have hb : k ≠ bs := fun e => by
    subst e
    rw [show W.heap[k]? = _ from hR] at hk
    injection hk with hk
    injection hk with hk
    subst hk
    simp at hc
  have hg : k ≠ gg := fun e => by
    subst e
    rcases hgb with h | ⟨cur, h, hs⟩
    · have := hbz.size; omega
    · rw [h1] at h
      injection h with h
      injection h with h
      exact hs (h ▸ hc)
  exact (hx k hg hb).trans (hk4 k cs h1 hc)

set_option maxRecDepth 100000 in
set_option maxHeartbeats 8000000 in
theorem AppendSeq_in (B g g2 : Nat) (w0 w : World) (t : Tm) (a : Option Addr) (m c : Nat) (hsz : size t ≤ 1000000) (hA : Ar B w0 t a m c) (hB : Below B w0 w) (hBw : B ≤ w.heap.size) (hT : TBox w g (opT t) (nameT t) (numT t) a m c) (hF : Blk w g2 #[.func (.func 39) #[] #[]] 27) :
    CallsIn Fence.wide 5 Try.prog 52 #[.slice none 0 0, .func (.func 75) #[] #[.pointer (some ⟨g, 0, none⟩), .pointer (some ⟨g2, 0, none⟩)]] w fun e w' => ∃ v, e = .returned v ∧ (∃ pts : List (Pt B w0), pts.map Pt.t = all t ∧ OwnT w' w.heap.size v (pts.map hdP)) ∧ Below w.heap.size w w' := by
  obtain ⟨W1, hW1⟩ : ∃ W1, w.alloc (.cells #[.slice none 0 0] 22) = W1 := ⟨_, rfl⟩
  have hB1 : Below w.heap.size w W1 := by rw [← hW1]; exact bel_alloc (Below.refl _ _) _
  have hs1 : W1.heap.size = w.heap.size + 1 := by rw [← hW1]; simp
  have R1 : Blk W1 w.heap.size #[.slice none 0 0] 22 := by rw [← hW1]; exact Blk.new w _ _
  have hB01 : Below B w0 W1 := hB.trans (hB1.mono hBw)
  have hst := all_stops (4 : Nat) B g g2 w0 W1 t a m c hA hB01 (by omega) (TBox.b hT hB1) (Blk.below hF hB1)
  clear hT hA
  refine callsIn_of_wp_marks Try.func52 rfl trivial ?_ rfl
  simp only [Try.ntmps52, List.size_toArray, List.length_cons, List.length_nil, Nat.reduceAdd, Nat.reduceSub, Array.replicate_succ, Array.replicate_zero, List.push_toArray, List.append_toArray, List.nil_append, List.cons_append]
  gi_wp2
  refine wpIn_rangeFunc_ownH rfl (by decide) (gf := 75) (lb := #[.pointer (some ⟨g, 0, none⟩), .pointer (some ⟨g2, 0, none⟩)]) rfl trivial (enters_of Try.func75 (by kernel_rfl) rfl)
    hst KpT.trans (KpT.obj (by omega)) (Below.refl _ _) (fun _ => rfl)
    (fun pre W => Coll w.heap.size pre W ∧ Below w.heap.size w W)
    (fun cd pre W => False)
    (OwnFrom.and (Own.from (coll_own _) _) (ownFrom_below (Nat.le_refl _) (by omega)))
    (fun cd _ _ _ _ hs _ _ => hs)
    ⟨⟨_, R1, OwnT.nil _ _, by simp⟩, hB1⟩
    (fun x a2 W => ∃ Bx, TBox W Bx (opT x.t) (nameT x.t) (numT x.t) x.a x.n x.c ∧ a2 = { tmps := #[.slice none 0 0, .func (.func 75) #[] #[.pointer (some ⟨g, 0, none⟩), .pointer (some ⟨g2, 0, none⟩)], .pointer (some ⟨w.heap.size, 0, none⟩), undef, .slice none 0 0, .pointer (some ⟨Bx, 0, none⟩), .func (.func 75) #[] #[.pointer (some ⟨g, 0, none⟩), .pointer (some ⟨g2, 0, none⟩)], .agg #[.int .i64 (opT x.t), .string (nameT x.t), .int .i64 (numT x.t), .slice x.a x.n x.c], undef, undef, undef, undef, undef, undef, undef], defers := [] })
    (fun x a2 _ X Y row hs hg hr => by obtain ⟨Bx, h2, h3⟩ := hs; exact ⟨Bx, own_blk Bx _ _ () X Y row h2 hg (fun r e => (hr r e).2), h3⟩)
    ?assign ?body ?done ?stop
  case assign =>
    rintro l pre x W K ⟨⟨v, hR, ho, hn⟩, hB⟩ hK
    have hb : Below W.heap.size W (W.alloc (.cells #[.int .i64 (opT x.t), .string (nameT x.t), .int .i64 (numT x.t), .slice x.a x.n x.c] 24)) := bel_alloc (Below.refl _ _) _
    unfold encP
    gi_wp2
    exact hK _ _ (keepsF hb) (KpT.of_below (Nat.le_trans hBw hB.size) hb) ⟨⟨v, Blk.below hR hb, ho.below hb, hn⟩, hB.trans (hb.mono hB.size)⟩ ⟨W.heap.size, TBox.new W _ _ _ _ _ _, rfl⟩
  case body =>
    rintro l pre x a2 W hl hr ⟨⟨v, hR, ho, hn⟩, hB⟩ ⟨Bx, hX, rfl⟩ hlt
    obtain ⟨x0, x1, x2, x3⟩ := hX.four
    have r0 := Blk.cell hR 0
    have q0 := Blk.free hR 0
    obtain ⟨Wz, hWz⟩ : ∃ Wz, (W.alloc (.cells #[.int .i64 0, .string ⟨#[]⟩, .int .i64 0, .slice none 0 0] 24)).drew = Wz := ⟨_, rfl⟩
    have hbz : Below W.heap.size W Wz := by rw [← hWz]; exact (bel_alloc (Below.refl _ _) _).drew
    have hzc : TBox Wz W.heap.size 0 ⟨#[]⟩ 0 none 0 0 := by rw [← hWz]; exact Blk.below (TBox.new W 0 ⟨#[]⟩ 0 none 0 0) (Below.refl _ _).drew
    have hz : ∀ j u, (flatH [Hd.zero])[j]? = some u → Wz.cell? ((⟨W.heap.size, 0, none⟩ : Addr).add j) = some u := fun j u hj => by
      rw [Addr.add_lit, Nat.zero_add, Blk.cell hzc j, ← hj]
      have : (flatH [Hd.zero]).toArray = #[.int .i64 0, .string ⟨#[]⟩, .int .i64 0, .slice none 0 0] := rfl
      rw [← this]; simp
    have hlen : (pre.map hdP).length = pre.length := by simp
    obtain ⟨gg, cap, W4, hrun, ho4, hgr, hk4, hgb⟩ := append_zero Wz (w.heap.size + 1) v (pre.map hdP) (ho.below hbz) (by rw [hn]; simp) (by have h1 := hB.size; have h2 := hbz.size; have h3 := Blk.lt hR; omega) (by rw [hlen]; omega) W.heap.size hz
    obtain ⟨A0, c0, hv0, _, _, _, hA0⟩ := ho.slice
    rw [hlen] at hrun ho4 hv0
    have hat : pre.length < (pre.map hdP ++ [Hd.zero]).length := by simp
    obtain ⟨y0, y1, y2, y3⟩ := ho4.at hat
    have e : (pre.map hdP ++ [Hd.zero])[pre.length] = Hd.zero := by rw [List.getElem_append_right (by simp)]; simp
    rw [e] at y0 y1 y2 y3
    have yf := ho4.row.free
    have hbw : v.ownBlock ≠ some w.heap.size := by
      rcases ho.2 with ⟨rfl, _⟩ | ⟨g0, cap0, cur, rfl, hb0, _⟩
      · simp [Value.ownBlock]
      · intro e; have : g0 = w.heap.size := by simpa [Value.ownBlock] using e
        omega
    have hR4 : Blk W4 w.heap.size #[v] 22 := Blk.grown (Blk.below hR hbz) hgr (fun e => hbw e.symm)
    have r4 := Blk.cell hR4 0
    have q4 := Blk.free hR4 0
    have f0 := yf (pre.length * 4)
    have f1 := yf (pre.length * 4 + 1)
    have f2 := yf (pre.length * 4 + 2)
    have f3 := yf (pre.length * 4 + 3)
    clear yf e
    have hBz : Below w.heap.size w Wz := hB.trans (hbz.mono hB.size)
    have hrow : ∀ k, v.ownBlock = some k → w.heap.size ≤ k ∧ B ≤ k := fun k hk => by
      rcases ho.2 with ⟨rfl, _⟩ | ⟨g0, cap0, cur, rfl, hb0, _⟩
      · cases hk
      · have : g0 = k := by simpa [Value.ownBlock] using hk
        omega
    have B4 : Below w.heap.size w W4 := hBz.grown hgr hBz.size (fun k hk => (hrow k hk).1)
    have BB4 : Below B W W4 := (hbz.mono (Nat.le_trans hBw hB.size)).grown hgr (by have := hbz.size; have := hB.size; omega) (fun k hk => (hrow k hk).2)
    have K4 : KeepsFrom W1.heap.size W W4 := (keepsF hbz).trans ((KeepsOthers.of_grownBy hgr (fun j o hj hoj => by
      rcases ho.2 with ⟨rfl, _⟩ | ⟨g0, cap0, cur, rfl, hb0, hg0, _⟩
      · cases hj
      · have : g0 = j := by simpa [Value.ownBlock] using hj
        subst this
        have := (hbz.block g0 (Array.getElem?_eq_some_iff.1 hg0).1).trans hg0
        rw [this] at hoj
        injection hoj with hoj
        subst hoj
        rfl)).from _)
    have hset : (pre.map hdP ++ [Hd.zero]).set pre.length (hdP x) = (pre ++ [x]).map hdP := by
      rw [List.set_append_right _ _ (by simp)]; simp
    have hgne : gg ≠ w.heap.size := by
      rcases ho4.2 with ⟨hv, _⟩ | ⟨g', cap', cur', hv', hb', _⟩
      · cases hv
      · injection hv' with e1; injection e1 with e1; injection e1 with e1; omega
    have hggw : w.heap.size ≤ gg := by
      rcases ho4.2 with ⟨hv, _⟩ | ⟨g', cap', cur', hv', hb', _⟩
      · cases hv
      · injection hv' with e1; injection e1 with e1; injection e1 with e1; omega
    have F1 : Hid (KeepsFrom W1.heap.size W ((set4 W4 gg pre.length (hdP x)).setCell ⟨w.heap.size, 0, none⟩ (.slice (some ⟨gg, 0, none⟩) (pre.length + 1) cap)) ∧ KpT B W ((set4 W4 gg pre.length (hdP x)).setCell ⟨w.heap.size, 0, none⟩ (.slice (some ⟨gg, 0, none⟩) (pre.length + 1) cap)) ∧ Coll w.heap.size (pre ++ [x]) ((set4 W4 gg pre.length (hdP x)).setCell ⟨w.heap.size, 0, none⟩ (.slice (some ⟨gg, 0, none⟩) (pre.length + 1) cap)) ∧ Below w.heap.size w ((set4 W4 gg pre.length (hdP x)).setCell ⟨w.heap.size, 0, none⟩ (.slice (some ⟨gg, 0, none⟩) (pre.length + 1) cap))) := by
      refine ⟨K4.trans ((((((KeepsOthers.setCell _ _ _).trans (KeepsOthers.setCell _ _ _)).trans (KeepsOthers.setCell _ _ _)).trans (KeepsOthers.setCell _ _ _)).trans (KeepsOthers.setCell _ _ _)).from _), ⟨below_set (set4_below BB4 (by omega) _ _) (by omega) _ _, keep4_past hbz hk4 hgb hR (fun i h1 h2 => (heap_setCell_other _ ⟨w.heap.size, 0, none⟩ i _ h2).trans (set4_other _ _ _ _ _ h1))⟩, ⟨_, blk_cell_set ((set4_other _ _ _ _ _ (fun e => hgne e.symm)).trans hR4) _, ?_, by simp⟩, below_set (set4_below B4 hggw _ _) (Nat.le_refl _) _ _⟩
      have h1 := ho4.set pre.length (hdP x) hat
      rw [hset] at h1
      exact row_far h1 (by omega) _ _
    have F2 : Hid (KeepsFrom W1.heap.size W (set4 (W4.setCell ⟨w.heap.size, 0, none⟩ (.slice (some ⟨gg, 0, none⟩) (pre.length + 1) cap)) gg pre.length (hdP x)) ∧ KpT B W (set4 (W4.setCell ⟨w.heap.size, 0, none⟩ (.slice (some ⟨gg, 0, none⟩) (pre.length + 1) cap)) gg pre.length (hdP x)) ∧ Coll w.heap.size (pre ++ [x]) (set4 (W4.setCell ⟨w.heap.size, 0, none⟩ (.slice (some ⟨gg, 0, none⟩) (pre.length + 1) cap)) gg pre.length (hdP x)) ∧ Below w.heap.size w (set4 (W4.setCell ⟨w.heap.size, 0, none⟩ (.slice (some ⟨gg, 0, none⟩) (pre.length + 1) cap)) gg pre.length (hdP x))) := by
      refine ⟨K4.trans ((((((KeepsOthers.setCell _ _ _).trans (KeepsOthers.setCell _ _ _)).trans (KeepsOthers.setCell _ _ _)).trans (KeepsOthers.setCell _ _ _)).trans (KeepsOthers.setCell _ _ _)).from _), ⟨set4_below (below_set BB4 (by omega) _ _) (by omega) _ _, keep4_past hbz hk4 hgb hR (fun i h1 h2 => (set4_other _ _ _ _ _ h1).trans (heap_setCell_other _ ⟨w.heap.size, 0, none⟩ i _ h2))⟩, ⟨_, (set4_other _ _ _ _ _ (fun e => hgne e.symm)).trans (blk_cell_set hR4 _), ?_, by simp⟩, set4_below (below_set B4 (Nat.le_refl _) _ _) hggw _ _⟩
      have h1 := OwnT.set (row_far ho4 (by omega) 0 (.slice (some ⟨gg, 0, none⟩) (pre.length + 1) cap) : OwnT (W4.setCell ⟨w.heap.size, 0, none⟩ (.slice (some ⟨gg, 0, none⟩) (pre.length + 1) cap)) (w.heap.size + 1) _ _) pre.length (hdP x) hat
      rw [hset] at h1
      exact h1
    clear hset K4 BB4 B4 hBz hrow
    subst hv0
    have n1 : pre.length < 9223372036854775807 := by omega
    have n2 : (pre.length : Int) < (pre.length : Int) + 1 := by omega
    have hgg : w.heap.size + 1 ≤ gg := by
      rcases ho4.2 with ⟨hv, _⟩ | ⟨g', cap', cur', hv', hb', _⟩
      · cases hv
      · injection hv' with e1; injection e1 with e1; injection e1 with e1; omega
    have hg1 : ¬ gg = w.heap.size := by omega
    have hg2 : ¬ w.heap.size = gg := by omega
    gi_wp2
    obtain ⟨x0z, x1z, x2z, x3z⟩ := (TBox.b hX hbz).four
    have r0z := Blk.cell (Blk.below hR hbz) 0
    have hr22 := hrun 22
    refine wpIn_region_any (by kernel_rfl) ?_
    try (change wpAnyIn _ _ _ _ _ _ _ _ _ (World.drew _))
    refine (fun (rest : (?R : Prop)) => ?tree) ?tail
    case tree =>
      refine wpAnyIn_ready (rs := [0, 1, 3]) (by kernel_rfl) (by simp) (AllReadyIn.cons rfl (fun K hK => ?_) (AllReadyIn.cons rfl (fun K hK => ?_) (AllReadyIn.cons rfl (fun K hK => ?_) AllReadyIn.nil)))
      · go_simp
        refine hK _ _ ?_
        clear hK K
        refine wpAnyIn_ready (rs := [1, 2, 3]) (by kernel_rfl) (by simp) (AllReadyIn.cons rfl (fun K hK => ?_) (AllReadyIn.cons rfl (fun K hK => ?_) (AllReadyIn.cons rfl (fun K hK => ?_) AllReadyIn.nil)))
        · go_simp
          refine hK _ _ ?_
          clear hK K
          refine wpAnyIn_ready (rs := [2, 3]) (by kernel_rfl) (by simp) (AllReadyIn.cons rfl (fun K hK => ?_) (AllReadyIn.cons rfl (fun K hK => ?_) AllReadyIn.nil))
          · go_simp
            refine hK _ _ ?_
            clear hK K
            refine wpAnyIn_ready (rs := [3]) (by kernel_rfl) (by simp) (AllReadyIn.cons rfl (fun K hK => ?_) AllReadyIn.nil)
            · go_simp
              refine hK _ _ ?_
              clear hK K
              exact rest
          · go_simp
            refine hK _ _ ?_
            clear hK K
            refine wpAnyIn_ready (rs := [2]) (by kernel_rfl) (by simp) (AllReadyIn.cons rfl (fun K hK => ?_) AllReadyIn.nil)
            · go_simp
              refine hK _ _ ?_
              clear hK K
              exact rest
        · go_simp
          refine hK _ _ ?_
          clear hK K
          refine wpAnyIn_ready (rs := [1, 3]) (by kernel_rfl) (by simp) (AllReadyIn.cons rfl (fun K hK => ?_) (AllReadyIn.cons rfl (fun K hK => ?_) AllReadyIn.nil))
          · go_simp
            refine hK _ _ ?_
            clear hK K
            refine wpAnyIn_ready (rs := [3]) (by kernel_rfl) (by simp) (AllReadyIn.cons rfl (fun K hK => ?_) AllReadyIn.nil)
            · go_simp
              refine hK _ _ ?_
              clear hK K
              exact rest
          · go_simp
            refine hK _ _ ?_
            clear hK K
            refine wpAnyIn_ready (rs := [1]) (by kernel_rfl) (by simp) (AllReadyIn.cons rfl (fun K hK => ?_) AllReadyIn.nil)
            · go_simp
              refine hK _ _ ?_
              clear hK K
              exact rest
        · go_simp
          refine hK _ _ ?_
          clear hK K
          refine wpAnyIn_ready (rs := [1, 2]) (by kernel_rfl) (by simp) (AllReadyIn.cons rfl (fun K hK => ?_) (AllReadyIn.cons rfl (fun K hK => ?_) AllReadyIn.nil))
          · go_simp
            refine hK _ _ ?_
            clear hK K
            refine wpAnyIn_ready (rs := [2]) (by kernel_rfl) (by simp) (AllReadyIn.cons rfl (fun K hK => ?_) AllReadyIn.nil)
            · go_simp
              refine hK _ _ ?_
              clear hK K
              exact rest
          · go_simp
            refine hK _ _ ?_
            clear hK K
            refine wpAnyIn_ready (rs := [1]) (by kernel_rfl) (by simp) (AllReadyIn.cons rfl (fun K hK => ?_) AllReadyIn.nil)
            · go_simp
              refine hK _ _ ?_
              clear hK K
              exact rest
      · go_simp
        refine hK _ _ ?_
        clear hK K
        refine wpAnyIn_ready (rs := [0, 3]) (by kernel_rfl) (by simp) (AllReadyIn.cons rfl (fun K hK => ?_) (AllReadyIn.cons rfl (fun K hK => ?_) AllReadyIn.nil))
        · go_simp
          refine hK _ _ ?_
          clear hK K
          refine wpAnyIn_ready (rs := [2, 3]) (by kernel_rfl) (by simp) (AllReadyIn.cons rfl (fun K hK => ?_) (AllReadyIn.cons rfl (fun K hK => ?_) AllReadyIn.nil))
          · go_simp
            refine hK _ _ ?_
            clear hK K
            refine wpAnyIn_ready (rs := [3]) (by kernel_rfl) (by simp) (AllReadyIn.cons rfl (fun K hK => ?_) AllReadyIn.nil)
            · go_simp
              refine hK _ _ ?_
              clear hK K
              exact rest
          · go_simp
            refine hK _ _ ?_
            clear hK K
            refine wpAnyIn_ready (rs := [2]) (by kernel_rfl) (by simp) (AllReadyIn.cons rfl (fun K hK => ?_) AllReadyIn.nil)
            · go_simp
              refine hK _ _ ?_
              clear hK K
              exact rest
        · go_simp
          refine hK _ _ ?_
          clear hK K
          refine wpAnyIn_ready (rs := [0]) (by kernel_rfl) (by simp) (AllReadyIn.cons rfl (fun K hK => ?_) AllReadyIn.nil)
          · go_simp
            refine hK _ _ ?_
            clear hK K
            refine wpAnyIn_ready (rs := [2]) (by kernel_rfl) (by simp) (AllReadyIn.cons rfl (fun K hK => ?_) AllReadyIn.nil)
            · go_simp
              refine hK _ _ ?_
              clear hK K
              exact rest
      · go_simp
        refine hK _ _ ?_
        clear hK K
        refine wpAnyIn_ready (rs := [0, 1]) (by kernel_rfl) (by simp) (AllReadyIn.cons rfl (fun K hK => ?_) (AllReadyIn.cons rfl (fun K hK => ?_) AllReadyIn.nil))
        · go_simp
          refine hK _ _ ?_
          clear hK K
          refine wpAnyIn_ready (rs := [1, 2]) (by kernel_rfl) (by simp) (AllReadyIn.cons rfl (fun K hK => ?_) (AllReadyIn.cons rfl (fun K hK => ?_) AllReadyIn.nil))
          · go_simp
            refine hK _ _ ?_
            clear hK K
            refine wpAnyIn_ready (rs := [2]) (by kernel_rfl) (by simp) (AllReadyIn.cons rfl (fun K hK => ?_) AllReadyIn.nil)
            · go_simp
              refine hK _ _ ?_
              clear hK K
              exact rest
          · go_simp
            refine hK _ _ ?_
            clear hK K
            refine wpAnyIn_ready (rs := [1]) (by kernel_rfl) (by simp) (AllReadyIn.cons rfl (fun K hK => ?_) AllReadyIn.nil)
            · go_simp
              refine hK _ _ ?_
              clear hK K
              exact rest
        · go_simp
          refine hK _ _ ?_
          clear hK K
          refine wpAnyIn_ready (rs := [0]) (by kernel_rfl) (by simp) (AllReadyIn.cons rfl (fun K hK => ?_) AllReadyIn.nil)
          · go_simp
            refine hK _ _ ?_
            clear hK K
            refine wpAnyIn_ready (rs := [2]) (by kernel_rfl) (by simp) (AllReadyIn.cons rfl (fun K hK => ?_) AllReadyIn.nil)
            · go_simp
              refine hK _ _ ?_
              clear hK K
              exact rest
    case tail =>
      refine wpAnyIn_ready (rs := [4]) (by kernel_rfl) (by simp) (AllReadyIn.cons rfl (fun K hK => ?_) AllReadyIn.nil)
      rw [if_pos (show Region.wanted _ _ = true from rfl)]
      unfold Oper.wpIn
      refine ⟨by simp [Oper.about, resolve, Target.leads, Sem.run_pure], ?_⟩
      rw [Oper.semAt_plain _ _ _ (by intro c hc; cases hc)]
      simp [execOp, resolve, invoke, builtin, Act.eval, hr22, Result.andThen, Oper.uponIn]
      refine hK _ _ ?_
      clear hK K
      simp only [Act.put, List.size_toArray, List.length_cons, List.length_nil, List.setIfInBounds_toArray, List.set_cons_succ, List.set_cons_zero]
      refine wpAnyIn_ready (rs := [5, 7]) (by kernel_rfl) (by simp) (AllReadyIn.cons rfl (fun K hK => ?_) (AllReadyIn.cons rfl (fun K hK => ?_) AllReadyIn.nil))
      · go_simp
        refine hK _ _ ?_
        clear hK K
        refine wpAnyIn_ready (rs := [6, 7]) (by kernel_rfl) (by simp) (AllReadyIn.cons rfl (fun K hK => ?_) (AllReadyIn.cons rfl (fun K hK => ?_) AllReadyIn.nil))
        · go_simp
          refine hK _ _ ?_
          clear hK K
          refine wpAnyIn_ready (rs := [7]) (by kernel_rfl) (by simp) (AllReadyIn.cons rfl (fun K hK => ?_) AllReadyIn.nil)
          · go_simp
            refine hK _ _ ?_
            clear hK K
            refine wpAnyIn_done (by kernel_rfl) ?_ _
            first | exact F1.out | exact F2.out
        · go_simp
          refine hK _ _ ?_
          clear hK K
          refine wpAnyIn_ready (rs := [6]) (by kernel_rfl) (by simp) (AllReadyIn.cons rfl (fun K hK => ?_) AllReadyIn.nil)
          · go_simp
            refine hK _ _ ?_
            clear hK K
            refine wpAnyIn_done (by kernel_rfl) ?_ _
            first | exact F1.out | exact F2.out
      · go_simp
        refine hK _ _ ?_
        clear hK K
        refine wpAnyIn_ready (rs := [5]) (by kernel_rfl) (by simp) (AllReadyIn.cons rfl (fun K hK => ?_) AllReadyIn.nil)
        · go_simp
          refine hK _ _ ?_
          clear hK K
          refine wpAnyIn_ready (rs := [6]) (by kernel_rfl) (by simp) (AllReadyIn.cons rfl (fun K hK => ?_) AllReadyIn.nil)
          · go_simp
            refine hK _ _ ?_
            clear hK K
            refine wpAnyIn_done (by kernel_rfl) ?_ _
            first | exact F1.out | exact F2.out
  case done =>
    rintro D zs W hD hS ⟨⟨v, hR, ho, hn⟩, hB⟩ hK
    have c5 := Blk.cell hR 0
    have hw1 : w.heap.size ≤ W1.heap.size := hB1.size
    have hbl := belowK_b (w := w) (Nat.le_refl _) W D _ (.deferred none) (Nat.le_trans hw1 hD) hK rfl rfl
    have hrow : OwnT (W.putObj D (.deferred none)) (w.heap.size + 1) v (zs.map hdP) := World.ownsRow.kept ho (grownBy_putObj' W D (.deferred none)) (by
      rcases ho.2 with ⟨rfl, _⟩ | ⟨g0, cap0, cur, rfl, hb0, hg0, _⟩
      · exact .inl rfl
      · refine .inr (fun e => ?_)
        have : g0 = D := by simpa [Value.ownBlock] using e
        subst this
        rw [hg0] at hK; cases hK)
    gi_wp2
    refine ⟨by simp, .inl ⟨_, _, rfl, run_takeDeferred hK, ?_⟩⟩
    exact ⟨_, results_tmp rfl _ _ _, v, rfl, ⟨zs, hS, hrow.base (by omega)⟩, hB.trans hbl⟩
  case stop =>
    rintro D cd pre W hD hS h hK
    exact h.elim
end Go.Proofs.Ytelepojpnkoelaa.T
