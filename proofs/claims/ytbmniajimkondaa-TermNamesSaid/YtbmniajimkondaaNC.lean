/-
  What is proved: slices.Collect over the parts of a term: a row of the call's own that holds them, in preorder.
  What is proved: package term's two closures over a list of terms, which compare the terms at two places.
  What is proved: what the document's Size of a term returns.
  What is proved: the library's insertion sort of a row of places, by the comparison of the terms at them.
  What is proved: the library's stable sort of fewer than twenty places; its CompactFunc where no two neighbours are alike.
-/
import Derived.Test.YtbmniajimkondaaNB
import Derived.RegionIn
import Derived.Deep.RegionHeld3
import Derived.Test.YtbmniajimkondaaZTrmS
namespace Go.Proofs.Ytbmniajimkondaa.T
open Go.RowKit Go.Shelf L
set_option linter.unusedVariables false
set_option linter.unusedSimpArgs false
attribute [local go_sem] Oper.semAt_some

/-- append(s, zero) to a row of the call's own: blocks that hold one term lie as they lay -/
theorem append_zero (Wz : World) (base : Nat) (v : Value) (hs : List Hd) (ho : OwnT Wz base v hs) (hnil : v = .slice none 0 0 ↔ hs = []) (hbase : base ≤ Wz.heap.size) (hn : hs.length < 1000000) (z : Nat)
    (hz : ∀ j u, (flatH [Hd.zero])[j]? = some u → Wz.cell? ((⟨z, 0, none⟩ : Addr).add j) = some u) :
    ∃ g cap W4, (∀ ty, (Builtin.append_ #[22, 22] ty #[v, .slice (some ⟨z, 0, none⟩) 1 1]).run Try.prog Wz = .ok (.slice (some ⟨g, 0, none⟩) (hs.length + 1) cap) W4) ∧
      OwnT W4 base (.slice (some ⟨g, 0, none⟩) (hs.length + 1) cap) (hs ++ [Hd.zero]) ∧ Wz.grownBy W4 v.ownBlock ∧ Keep4 Wz W4 ∧ (Wz.heap.size ≤ g ∨ ∃ cur, Wz.heap[g]? = some (.cells cur 24 (0, 0)) ∧ cur.size ≠ 4) := by
  obtain ⟨i0, hi, hz0, hz1, hz2⟩ := info_parts termI
  obtain ⟨v', W4, hr, h1, h2, h3⟩ := run_append_own (P := Try.prog) Wz base 22 22 24 i0 _ 4 56 Try.underlying22 hi hz0 hz1 hz2 rfl (by decide) v hs.length (flatH hs) ho ⟨z, 0, none⟩ 1 1 (flatH [Hd.zero]) (by rw [flat_len]; rfl) hz (hd_one _) (by unfold maxLen; omega) (by omega) hbase
  have ho4 : OwnT W4 base v' (hs ++ [Hd.zero]) := by
    unfold OwnT
    rw [List.length_append, flat_app]
    exact h1
  obtain ⟨A', c', hv', _, _, _, hA⟩ := ho4.slice
  obtain ⟨g, hg, _, hgl⟩ := hA (by simp)
  subst hg
  have hv2 : v' = .slice (some ⟨g, 0, none⟩) (hs.length + 1) c' := by rw [hv']; simp
  subst hv2
  have hrun : ∀ ty, (Builtin.append_ #[22, 22] ty #[v, .slice (some ⟨z, 0, none⟩) 1 1]).run Try.prog Wz = .ok (.slice (some ⟨g, 0, none⟩) (hs.length + 1) c') W4 := fun ty => by
    obtain ⟨v2, W5, hr2, _⟩ := run_append_own (P := Try.prog) Wz base 22 ty 24 i0 _ 4 56 Try.underlying22 hi hz0 hz1 hz2 rfl (by decide) v hs.length (flatH hs) ho ⟨z, 0, none⟩ 1 1 (flatH [Hd.zero]) (by rw [flat_len]; rfl) hz (hd_one _) (by unfold maxLen; omega) (by omega) hbase
    exact hr
  refine ⟨g, c', W4, hrun, ho4, h2, ?_⟩
  rcases ho.2 with ⟨rfl, hz1'⟩ | ⟨g0, cap, cur, rfl, hb, hg0, hnc, hcm, hcs, ht⟩
  · have hgn : Wz.heap.size ≤ g := by
      rcases Nat.lt_or_ge g Wz.heap.size with hlt | hge
      · exfalso
        have hrn := run_append_nil (P := Try.prog) Wz 22 22 24 i0 _ Try.underlying22 hi hz0 ⟨z, 0, none⟩ 1 1 (flatH [Hd.zero]) (by rw [flat_len, hz1]; rfl) hz (by omega) (by omega) (by rw [hz2]; decide)
        rw [hr] at hrn
        injection hrn with e1 e2
        injection e1 with e1
        injection e1 with e1
        injection e1 with e1
        omega
      · exact hge
    exact ⟨fun k cs hk hc => (h2.block k (Array.getElem?_eq_some_iff.1 hk).1 (by simp [Value.ownBlock])).trans hk, .inl hgn⟩
  · have hne : hs ≠ [] := fun e => by have := hnil.2 e; cases this
    have hpos : 0 < hs.length := List.length_pos_iff.2 hne
    by_cases hroom : hs.length + 1 ≤ cap
    · have hcur : cur.size ≠ 4 := by omega
      have hk4 : Keep4 Wz W4 := fun k cs hk hc => (h2.block k (Array.getElem?_eq_some_iff.1 hk).1 (fun e => by
        have e' : k = g0 := by simpa [Value.ownBlock] using e
        subst e'
        rw [hg0] at hk
        injection hk with hk
        injection hk with hk
        subst hk
        exact hcur hc)).trans hk
      refine ⟨hk4, ?_⟩
      rcases Nat.lt_or_ge g Wz.heap.size with hlt | hge
      · have hrr := run_append_room (P := Try.prog) Wz 22 22 24 i0 Try.underlying22 hi g0 hs.length cap cur hg0 ⟨z, 0, none⟩ 1 1 (flatH [Hd.zero]) (by rw [flat_len, hz1]; rfl) hz (hd_one _) hroom (by rw [hz1, flat_len]; simp; omega)
        rw [hr] at hrr
        injection hrr with e1 e2
        injection e1 with e1
        injection e1 with e1
        injection e1 with e1
        subst e1
        exact .inr ⟨cur, hg0, hcur⟩
      · exact .inl hge
    · have holds : ∀ j u, (flatH hs)[j]? = some u → Wz.cell? ((⟨g0, 0, none⟩ : Addr).add j) = some u := World.ownsRow.cells (g := g0) ho rfl
      have hrg := run_append_grow (P := Try.prog) Wz 22 22 24 i0 _ Try.underlying22 hi hz0 ⟨g0, 0, none⟩ hs.length cap (flatH hs) (by rw [flat_len, hz1]) holds ⟨z, 0, none⟩ 1 1 (flatH [Hd.zero]) (by rw [flat_len, hz1]; rfl) hz (by omega) (by omega) (growslice_fits (by omega) (by rw [hz2]; omega))
      rw [hr] at hrg
      injection hrg with e1 e2
      injection e1 with e1
      injection e1 with e1
      injection e1 with e1
      refine ⟨?_, .inl (by omega)⟩
      rw [e2]
      exact Keep4.of_below (bel_alloc (Below.refl _ _).drew _)
def hdP {B : Nat} {w0 : World} (x : Pt B w0) : Hd := hdOf x.t x.a x.n x.c
/-- between two rounds -/
def Coll {B : Nat} {w0 : World} (bs : Nat) (pre : List (Pt B w0)) (W : World) : Prop := ∃ v, Blk W bs #[v] 22 ∧ OwnT W (bs + 1) v (pre.map hdP) ∧ (v = .slice none 0 0 ↔ pre = [])
theorem coll_own {B : Nat} {w0 : World} (bs : Nat) : Own (fun (pre : List (Pt B w0)) W => Coll bs pre W) := fun pre X Y row hs hg hr => by
  obtain ⟨v, h1, h2, h3⟩ := hs
  refine ⟨v, own_blk bs _ _ () X Y row h1 hg hr, World.ownsRow.kept h2 hg ?_, h3⟩
  rcases h2.2 with ⟨rfl, _⟩ | ⟨g0, cap, cur, rfl, hb, hg0, _⟩
  · exact .inl rfl
  · refine .inr (fun e => ?_)
    obtain ⟨o, ho, hc⟩ := hr g0 (by simpa [Value.ownBlock] using e.symm)
    rw [hg0] at ho; cases ho; cases hc

theorem keep4_past {W Wz W4 X : World} {gg bs : Nat} {v : Value} (hbz : Below W.heap.size W Wz) (hk4 : Keep4 Wz W4) (hgb : Wz.heap.size ≤ gg ∨ ∃ cur, Wz.heap[gg]? = some (.cells cur 24 (0, 0)) ∧ cur.size ≠ 4) (hR : Blk W bs #[v] 22) (hx : ∀ i, i ≠ gg → i ≠ bs → X.heap[i]? = W4.heap[i]?) : Keep4 W X := fun k cs hk hc => by
  have hlt := (Array.getElem?_eq_some_iff.1 hk).1
  have h1 : Wz.heap[k]? = some (.cells cs 24 (0, 0)) := (hbz.block k hlt).trans hk
  have hb : k ≠ bs := fun e => by
    subst e
    rw [show W.heap[k]? = _ from hR] at hk
    injection hk with hk
    injection hk with hk
    subst hk
    simp at hc
  have hg : k ≠ gg := fun e => by
    subst e
    rcases hgb with h | ⟨cur, h, hs⟩
    · have := hbz.size; omega
    · rw [h1] at h
      injection h with h
      injection h with h
      exact hs (h ▸ hc)
  exact (hx k hg hb).trans (hk4 k cs h1 hc)

set_option maxRecDepth 100000 in
set_option maxHeartbeats 8000000 in
theorem AppendSeq_in (B g g2 : Nat) (w0 w : World) (t : Tm) (a : Option Addr) (m c : Nat) (hsz : size t ≤ 1000000) (hA : Ar B w0 t a m c) (hB : Below B w0 w) (hBw : B ≤ w.heap.size) (hT : TBox w g (opT t) (nameT t) (numT t) a m c) (hF : Blk w g2 #[.func (.func 59) #[] #[]] 67) :
    CallsIn Fence.wide 5 Try.prog 169 #[.slice none 0 0, .func (.func 173) #[] #[.pointer (some ⟨g, 0, none⟩), .pointer (some ⟨g2, 0, none⟩)]] w fun e w' => ∃ v, e = .returned v ∧ (∃ pts : List (Pt B w0), pts.map Pt.t = all t ∧ OwnT w' w.heap.size v (pts.map hdP)) ∧ Below w.heap.size w w' := by
  obtain ⟨W1, hW1⟩ : ∃ W1, w.alloc (.cells #[.slice none 0 0] 22) = W1 := ⟨_, rfl⟩
  have hB1 : Below w.heap.size w W1 := by rw [← hW1]; exact bel_alloc (Below.refl _ _) _
  have hs1 : W1.heap.size = w.heap.size + 1 := by rw [← hW1]; simp
  have R1 : Blk W1 w.heap.size #[.slice none 0 0] 22 := by rw [← hW1]; exact Blk.new w _ _
  have hB01 : Below B w0 W1 := hB.trans (hB1.mono hBw)
  have hst := all_stops (4 : Nat) B g g2 w0 W1 t a m c hA hB01 (by omega) (TBox.b hT hB1) (Blk.below hF hB1)
  clear hT hA
  refine callsIn_of_wp_marks Try.func169 rfl trivial ?_ rfl
  simp only [Try.ntmps169, List.size_toArray, List.length_cons, List.length_nil, Nat.reduceAdd, Nat.reduceSub, Array.replicate_succ, Array.replicate_zero, List.push_toArray, List.append_toArray, List.nil_append, List.cons_append]
  gi_wp2
  refine wpIn_rangeFunc_ownH rfl (by decide) (gf := 173) (lb := #[.pointer (some ⟨g, 0, none⟩), .pointer (some ⟨g2, 0, none⟩)]) rfl trivial (enters_of Try.func173 (by kernel_rfl) rfl)
    hst KpT.trans (KpT.obj (by omega)) (Below.refl _ _) (fun _ => rfl)
    (fun pre W => Coll w.heap.size pre W ∧ Below w.heap.size w W)
    (fun cd pre W => False)
    (OwnFrom.and (Own.from (coll_own _) _) (ownFrom_below (Nat.le_refl _) (by omega)))
    (fun cd _ _ _ _ hs _ _ => hs)
    ⟨⟨_, R1, OwnT.nil _ _, by simp⟩, hB1⟩
    (fun x a2 W => ∃ Bx, TBox W Bx (opT x.t) (nameT x.t) (numT x.t) x.a x.n x.c ∧ a2 = { tmps := #[.slice none 0 0, .func (.func 173) #[] #[.pointer (some ⟨g, 0, none⟩), .pointer (some ⟨g2, 0, none⟩)], .pointer (some ⟨w.heap.size, 0, none⟩), undef, .slice none 0 0, .pointer (some ⟨Bx, 0, none⟩), .func (.func 173) #[] #[.pointer (some ⟨g, 0, none⟩), .pointer (some ⟨g2, 0, none⟩)], .agg #[.int .i64 (opT x.t), .string (nameT x.t), .int .i64 (numT x.t), .slice x.a x.n x.c], undef, undef, undef, undef, undef, undef, undef], defers := [] })
    (fun x a2 _ X Y row hs hg hr => by obtain ⟨Bx, h2, h3⟩ := hs; exact ⟨Bx, own_blk Bx _ _ () X Y row h2 hg (fun r e => (hr r e).2), h3⟩)
    ?assign ?body ?done ?stop
  case assign =>
    rintro l pre x W K ⟨⟨v, hR, ho, hn⟩, hB⟩ hK
    have hb : Below W.heap.size W (W.alloc (.cells #[.int .i64 (opT x.t), .string (nameT x.t), .int .i64 (numT x.t), .slice x.a x.n x.c] 24)) := bel_alloc (Below.refl _ _) _
    unfold encP
    gi_wp2
    exact hK _ _ (keepsF hb) (KpT.of_below (Nat.le_trans hBw hB.size) hb) ⟨⟨v, Blk.below hR hb, ho.below hb, hn⟩, hB.trans (hb.mono hB.size)⟩ ⟨W.heap.size, TBox.new W _ _ _ _ _ _, rfl⟩
  case body =>
    rintro l pre x a2 W hl hr ⟨⟨v, hR, ho, hn⟩, hB⟩ ⟨Bx, hX, rfl⟩ hlt
    obtain ⟨x0, x1, x2, x3⟩ := hX.four
    have r0 := Blk.cell hR 0
    have q0 := Blk.free hR 0
    obtain ⟨Wz, hWz⟩ : ∃ Wz, (W.alloc (.cells #[.int .i64 0, .string ⟨#[]⟩, .int .i64 0, .slice none 0 0] 24)).drew = Wz := ⟨_, rfl⟩
    have hbz : Below W.heap.size W Wz := by rw [← hWz]; exact (bel_alloc (Below.refl _ _) _).drew
    have hzc : TBox Wz W.heap.size 0 ⟨#[]⟩ 0 none 0 0 := by rw [← hWz]; exact Blk.below (TBox.new W 0 ⟨#[]⟩ 0 none 0 0) (Below.refl _ _).drew
    have hz : ∀ j u, (flatH [Hd.zero])[j]? = some u → Wz.cell? ((⟨W.heap.size, 0, none⟩ : Addr).add j) = some u := fun j u hj => by
      rw [Addr.add_lit, Nat.zero_add, Blk.cell hzc j, ← hj]
      have : (flatH [Hd.zero]).toArray = #[.int .i64 0, .string ⟨#[]⟩, .int .i64 0, .slice none 0 0] := rfl
      rw [← this]; simp
    have hlen : (pre.map hdP).length = pre.length := by simp
    obtain ⟨gg, cap, W4, hrun, ho4, hgr, hk4, hgb⟩ := append_zero Wz (w.heap.size + 1) v (pre.map hdP) (ho.below hbz) (by rw [hn]; simp) (by have h1 := hB.size; have h2 := hbz.size; have h3 := Blk.lt hR; omega) (by rw [hlen]; omega) W.heap.size hz
    obtain ⟨A0, c0, hv0, _, _, _, hA0⟩ := ho.slice
    rw [hlen] at hrun ho4 hv0
    have hat : pre.length < (pre.map hdP ++ [Hd.zero]).length := by simp
    obtain ⟨y0, y1, y2, y3⟩ := ho4.at hat
    have e : (pre.map hdP ++ [Hd.zero])[pre.length] = Hd.zero := by rw [List.getElem_append_right (by simp)]; simp
    rw [e] at y0 y1 y2 y3
    have yf := ho4.row.free
    have hbw : v.ownBlock ≠ some w.heap.size := by
      rcases ho.2 with ⟨rfl, _⟩ | ⟨g0, cap0, cur, rfl, hb0, _⟩
      · simp [Value.ownBlock]
      · intro e; have : g0 = w.heap.size := by simpa [Value.ownBlock] using e
        omega
    have hR4 : Blk W4 w.heap.size #[v] 22 := Blk.grown (Blk.below hR hbz) hgr (fun e => hbw e.symm)
    have r4 := Blk.cell hR4 0
    have q4 := Blk.free hR4 0
    have f0 := yf (pre.length * 4)
    have f1 := yf (pre.length * 4 + 1)
    have f2 := yf (pre.length * 4 + 2)
    have f3 := yf (pre.length * 4 + 3)
    clear yf e
    have hBz : Below w.heap.size w Wz := hB.trans (hbz.mono hB.size)
    have hrow : ∀ k, v.ownBlock = some k → w.heap.size ≤ k ∧ B ≤ k := fun k hk => by
      rcases ho.2 with ⟨rfl, _⟩ | ⟨g0, cap0, cur, rfl, hb0, _⟩
      · cases hk
      · have : g0 = k := by simpa [Value.ownBlock] using hk
        omega
    have B4 : Below w.heap.size w W4 := hBz.grown hgr hBz.size (fun k hk => (hrow k hk).1)
    have BB4 : Below B W W4 := (hbz.mono (Nat.le_trans hBw hB.size)).grown hgr (by have := hbz.size; have := hB.size; omega) (fun k hk => (hrow k hk).2)
    have K4 : KeepsFrom W1.heap.size W W4 := (keepsF hbz).trans ((KeepsOthers.of_grownBy hgr (fun j o hj hoj => by
      rcases ho.2 with ⟨rfl, _⟩ | ⟨g0, cap0, cur, rfl, hb0, hg0, _⟩
      · cases hj
      · have : g0 = j := by simpa [Value.ownBlock] using hj
        subst this
        have := (hbz.block g0 (Array.getElem?_eq_some_iff.1 hg0).1).trans hg0
        rw [this] at hoj
        injection hoj with hoj
        subst hoj
        rfl)).from _)
    have hset : (pre.map hdP ++ [Hd.zero]).set pre.length (hdP x) = (pre ++ [x]).map hdP := by
      rw [List.set_append_right _ _ (by simp)]; simp
    have hgne : gg ≠ w.heap.size := by
      rcases ho4.2 with ⟨hv, _⟩ | ⟨g', cap', cur', hv', hb', _⟩
      · cases hv
      · injection hv' with e1; injection e1 with e1; injection e1 with e1; omega
    have hggw : w.heap.size ≤ gg := by
      rcases ho4.2 with ⟨hv, _⟩ | ⟨g', cap', cur', hv', hb', _⟩
      · cases hv
      · injection hv' with e1; injection e1 with e1; injection e1 with e1; omega
    have F1 : Hid (KeepsFrom W1.heap.size W ((set4 W4 gg pre.length (hdP x)).setCell ⟨w.heap.size, 0, none⟩ (.slice (some ⟨gg, 0, none⟩) (pre.length + 1) cap)) ∧ KpT B W ((set4 W4 gg pre.length (hdP x)).setCell ⟨w.heap.size, 0, none⟩ (.slice (some ⟨gg, 0, none⟩) (pre.length + 1) cap)) ∧ Coll w.heap.size (pre ++ [x]) ((set4 W4 gg pre.length (hdP x)).setCell ⟨w.heap.size, 0, none⟩ (.slice (some ⟨gg, 0, none⟩) (pre.length + 1) cap)) ∧ Below w.heap.size w ((set4 W4 gg pre.length (hdP x)).setCell ⟨w.heap.size, 0, none⟩ (.slice (some ⟨gg, 0, none⟩) (pre.length + 1) cap))) := by
      refine ⟨K4.trans ((((((KeepsOthers.setCell _ _ _).trans (KeepsOthers.setCell _ _ _)).trans (KeepsOthers.setCell _ _ _)).trans (KeepsOthers.setCell _ _ _)).trans (KeepsOthers.setCell _ _ _)).from _), ⟨below_set (set4_below BB4 (by omega) _ _) (by omega) _ _, keep4_past hbz hk4 hgb hR (fun i h1 h2 => (heap_setCell_other _ ⟨w.heap.size, 0, none⟩ i _ h2).trans (set4_other _ _ _ _ _ h1))⟩, ⟨_, blk_cell_set ((set4_other _ _ _ _ _ (fun e => hgne e.symm)).trans hR4) _, ?_, by simp⟩, below_set (set4_below B4 hggw _ _) (Nat.le_refl _) _ _⟩
      have h1 := ho4.set pre.length (hdP x) hat
      rw [hset] at h1
      exact row_far h1 (by omega) _ _
    have F2 : Hid (KeepsFrom W1.heap.size W (set4 (W4.setCell ⟨w.heap.size, 0, none⟩ (.slice (some ⟨gg, 0, none⟩) (pre.length + 1) cap)) gg pre.length (hdP x)) ∧ KpT B W (set4 (W4.setCell ⟨w.heap.size, 0, none⟩ (.slice (some ⟨gg, 0, none⟩) (pre.length + 1) cap)) gg pre.length (hdP x)) ∧ Coll w.heap.size (pre ++ [x]) (set4 (W4.setCell ⟨w.heap.size, 0, none⟩ (.slice (some ⟨gg, 0, none⟩) (pre.length + 1) cap)) gg pre.length (hdP x)) ∧ Below w.heap.size w (set4 (W4.setCell ⟨w.heap.size, 0, none⟩ (.slice (some ⟨gg, 0, none⟩) (pre.length + 1) cap)) gg pre.length (hdP x))) := by
      refine ⟨K4.trans ((((((KeepsOthers.setCell _ _ _).trans (KeepsOthers.setCell _ _ _)).trans (KeepsOthers.setCell _ _ _)).trans (KeepsOthers.setCell _ _ _)).trans (KeepsOthers.setCell _ _ _)).from _), ⟨set4_below (below_set BB4 (by omega) _ _) (by omega) _ _, keep4_past hbz hk4 hgb hR (fun i h1 h2 => (set4_other _ _ _ _ _ h1).trans (heap_setCell_other _ ⟨w.heap.size, 0, none⟩ i _ h2))⟩, ⟨_, (set4_other _ _ _ _ _ (fun e => hgne e.symm)).trans (blk_cell_set hR4 _), ?_, by simp⟩, set4_below (below_set B4 (Nat.le_refl _) _ _) hggw _ _⟩
      have h1 := OwnT.set (row_far ho4 (by omega) 0 (.slice (some ⟨gg, 0, none⟩) (pre.length + 1) cap) : OwnT (W4.setCell ⟨w.heap.size, 0, none⟩ (.slice (some ⟨gg, 0, none⟩) (pre.length + 1) cap)) (w.heap.size + 1) _ _) pre.length (hdP x) hat
      rw [hset] at h1
      exact h1
    clear hset K4 BB4 B4 hBz hrow
    subst hv0
    have n1 : pre.length < 9223372036854775807 := by omega
    have n2 : (pre.length : Int) < (pre.length : Int) + 1 := by omega
    have hgg : w.heap.size + 1 ≤ gg := by
      rcases ho4.2 with ⟨hv, _⟩ | ⟨g', cap', cur', hv', hb', _⟩
      · cases hv
      · injection hv' with e1; injection e1 with e1; injection e1 with e1; omega
    have hg1 : ¬ gg = w.heap.size := by omega
    have hg2 : ¬ w.heap.size = gg := by omega
    gi_wp2
    obtain ⟨x0z, x1z, x2z, x3z⟩ := (TBox.b hX hbz).four
    have r0z := Blk.cell (Blk.below hR hbz) 0
    have hr22 := hrun 22
    refine wpIn_region_any (by kernel_rfl) ?_
    try (change wpAnyIn _ _ _ _ _ _ _ _ _ (World.drew _))
    refine (fun (rest : (?R : Prop)) => ?tree) ?tail
    case tree =>
      refine wpAnyIn_ready (rs := [0, 1, 3]) (by kernel_rfl) (by simp) (AllReadyIn.cons rfl (fun K hK => ?_) (AllReadyIn.cons rfl (fun K hK => ?_) (AllReadyIn.cons rfl (fun K hK => ?_) AllReadyIn.nil)))
      · go_simp
        refine hK _ _ ?_
        clear hK K
        refine wpAnyIn_ready (rs := [1, 2, 3]) (by kernel_rfl) (by simp) (AllReadyIn.cons rfl (fun K hK => ?_) (AllReadyIn.cons rfl (fun K hK => ?_) (AllReadyIn.cons rfl (fun K hK => ?_) AllReadyIn.nil)))
        · go_simp
          refine hK _ _ ?_
          clear hK K
          refine wpAnyIn_ready (rs := [2, 3]) (by kernel_rfl) (by simp) (AllReadyIn.cons rfl (fun K hK => ?_) (AllReadyIn.cons rfl (fun K hK => ?_) AllReadyIn.nil))
          · go_simp
            refine hK _ _ ?_
            clear hK K
            refine wpAnyIn_ready (rs := [3]) (by kernel_rfl) (by simp) (AllReadyIn.cons rfl (fun K hK => ?_) AllReadyIn.nil)
            · go_simp
              refine hK _ _ ?_
              clear hK K
              exact rest
          · go_simp
            refine hK _ _ ?_
            clear hK K
            refine wpAnyIn_ready (rs := [2]) (by kernel_rfl) (by simp) (AllReadyIn.cons rfl (fun K hK => ?_) AllReadyIn.nil)
            · go_simp
              refine hK _ _ ?_
              clear hK K
              exact rest
        · go_simp
          refine hK _ _ ?_
          clear hK K
          refine wpAnyIn_ready (rs := [1, 3]) (by kernel_rfl) (by simp) (AllReadyIn.cons rfl (fun K hK => ?_) (AllReadyIn.cons rfl (fun K hK => ?_) AllReadyIn.nil))
          · go_simp
            refine hK _ _ ?_
            clear hK K
            refine wpAnyIn_ready (rs := [3]) (by kernel_rfl) (by simp) (AllReadyIn.cons rfl (fun K hK => ?_) AllReadyIn.nil)
            · go_simp
              refine hK _ _ ?_
              clear hK K
              exact rest
          · go_simp
            refine hK _ _ ?_
            clear hK K
            refine wpAnyIn_ready (rs := [1]) (by kernel_rfl) (by simp) (AllReadyIn.cons rfl (fun K hK => ?_) AllReadyIn.nil)
            · go_simp
              refine hK _ _ ?_
              clear hK K
              exact rest
        · go_simp
          refine hK _ _ ?_
          clear hK K
          refine wpAnyIn_ready (rs := [1, 2]) (by kernel_rfl) (by simp) (AllReadyIn.cons rfl (fun K hK => ?_) (AllReadyIn.cons rfl (fun K hK => ?_) AllReadyIn.nil))
          · go_simp
            refine hK _ _ ?_
            clear hK K
            refine wpAnyIn_ready (rs := [2]) (by kernel_rfl) (by simp) (AllReadyIn.cons rfl (fun K hK => ?_) AllReadyIn.nil)
            · go_simp
              refine hK _ _ ?_
              clear hK K
              exact rest
          · go_simp
            refine hK _ _ ?_
            clear hK K
            refine wpAnyIn_ready (rs := [1]) (by kernel_rfl) (by simp) (AllReadyIn.cons rfl (fun K hK => ?_) AllReadyIn.nil)
            · go_simp
              refine hK _ _ ?_
              clear hK K
              exact rest
      · go_simp
        refine hK _ _ ?_
        clear hK K
        refine wpAnyIn_ready (rs := [0, 3]) (by kernel_rfl) (by simp) (AllReadyIn.cons rfl (fun K hK => ?_) (AllReadyIn.cons rfl (fun K hK => ?_) AllReadyIn.nil))
        · go_simp
          refine hK _ _ ?_
          clear hK K
          refine wpAnyIn_ready (rs := [2, 3]) (by kernel_rfl) (by simp) (AllReadyIn.cons rfl (fun K hK => ?_) (AllReadyIn.cons rfl (fun K hK => ?_) AllReadyIn.nil))
          · go_simp
            refine hK _ _ ?_
            clear hK K
            refine wpAnyIn_ready (rs := [3]) (by kernel_rfl) (by simp) (AllReadyIn.cons rfl (fun K hK => ?_) AllReadyIn.nil)
            · go_simp
              refine hK _ _ ?_
              clear hK K
              exact rest
          · go_simp
            refine hK _ _ ?_
            clear hK K
            refine wpAnyIn_ready (rs := [2]) (by kernel_rfl) (by simp) (AllReadyIn.cons rfl (fun K hK => ?_) AllReadyIn.nil)
            · go_simp
              refine hK _ _ ?_
              clear hK K
              exact rest
        · go_simp
          refine hK _ _ ?_
          clear hK K
          refine wpAnyIn_ready (rs := [0]) (by kernel_rfl) (by simp) (AllReadyIn.cons rfl (fun K hK => ?_) AllReadyIn.nil)
          · go_simp
            refine hK _ _ ?_
            clear hK K
            refine wpAnyIn_ready (rs := [2]) (by kernel_rfl) (by simp) (AllReadyIn.cons rfl (fun K hK => ?_) AllReadyIn.nil)
            · go_simp
              refine hK _ _ ?_
              clear hK K
              exact rest
      · go_simp
        refine hK _ _ ?_
        clear hK K
        refine wpAnyIn_ready (rs := [0, 1]) (by kernel_rfl) (by simp) (AllReadyIn.cons rfl (fun K hK => ?_) (AllReadyIn.cons rfl (fun K hK => ?_) AllReadyIn.nil))
        · go_simp
          refine hK _ _ ?_
          clear hK K
          refine wpAnyIn_ready (rs := [1, 2]) (by kernel_rfl) (by simp) (AllReadyIn.cons rfl (fun K hK => ?_) (AllReadyIn.cons rfl (fun K hK => ?_) AllReadyIn.nil))
          · go_simp
            refine hK _ _ ?_
            clear hK K
            refine wpAnyIn_ready (rs := [2]) (by kernel_rfl) (by simp) (AllReadyIn.cons rfl (fun K hK => ?_) AllReadyIn.nil)
            · go_simp
              refine hK _ _ ?_
              clear hK K
              exact rest
          · go_simp
            refine hK _ _ ?_
            clear hK K
            refine wpAnyIn_ready (rs := [1]) (by kernel_rfl) (by simp) (AllReadyIn.cons rfl (fun K hK => ?_) AllReadyIn.nil)
            · go_simp
              refine hK _ _ ?_
              clear hK K
              exact rest
        · go_simp
          refine hK _ _ ?_
          clear hK K
          refine wpAnyIn_ready (rs := [0]) (by kernel_rfl) (by simp) (AllReadyIn.cons rfl (fun K hK => ?_) AllReadyIn.nil)
          · go_simp
            refine hK _ _ ?_
            clear hK K
            refine wpAnyIn_ready (rs := [2]) (by kernel_rfl) (by simp) (AllReadyIn.cons rfl (fun K hK => ?_) AllReadyIn.nil)
            · go_simp
              refine hK _ _ ?_
              clear hK K
              exact rest
    case tail =>
      refine wpAnyIn_ready (rs := [4]) (by kernel_rfl) (by simp) (AllReadyIn.cons rfl (fun K hK => ?_) AllReadyIn.nil)
      rw [if_pos (show Region.wanted _ _ = true from rfl)]
      unfold Oper.wpIn
      refine ⟨by simp [Oper.about, resolve, Target.leads, Sem.run_pure], ?_⟩
      rw [Oper.semAt_plain _ _ _ (by intro c hc; cases hc)]
      simp [execOp, resolve, invoke, builtin, Act.eval, hr22, Result.andThen, Oper.uponIn]
      refine hK _ _ ?_
      clear hK K
      simp only [Act.put, List.size_toArray, List.length_cons, List.length_nil, List.setIfInBounds_toArray, List.set_cons_succ, List.set_cons_zero]
      refine wpAnyIn_ready (rs := [5, 7]) (by kernel_rfl) (by simp) (AllReadyIn.cons rfl (fun K hK => ?_) (AllReadyIn.cons rfl (fun K hK => ?_) AllReadyIn.nil))
      · go_simp
        refine hK _ _ ?_
        clear hK K
        refine wpAnyIn_ready (rs := [6, 7]) (by kernel_rfl) (by simp) (AllReadyIn.cons rfl (fun K hK => ?_) (AllReadyIn.cons rfl (fun K hK => ?_) AllReadyIn.nil))
        · go_simp
          refine hK _ _ ?_
          clear hK K
          refine wpAnyIn_ready (rs := [7]) (by kernel_rfl) (by simp) (AllReadyIn.cons rfl (fun K hK => ?_) AllReadyIn.nil)
          · go_simp
            refine hK _ _ ?_
            clear hK K
            refine wpAnyIn_done (by kernel_rfl) ?_ _
            first | exact F1.out | exact F2.out
        · go_simp
          refine hK _ _ ?_
          clear hK K
          refine wpAnyIn_ready (rs := [6]) (by kernel_rfl) (by simp) (AllReadyIn.cons rfl (fun K hK => ?_) AllReadyIn.nil)
          · go_simp
            refine hK _ _ ?_
            clear hK K
            refine wpAnyIn_done (by kernel_rfl) ?_ _
            first | exact F1.out | exact F2.out
      · go_simp
        refine hK _ _ ?_
        clear hK K
        refine wpAnyIn_ready (rs := [5]) (by kernel_rfl) (by simp) (AllReadyIn.cons rfl (fun K hK => ?_) AllReadyIn.nil)
        · go_simp
          refine hK _ _ ?_
          clear hK K
          refine wpAnyIn_ready (rs := [6]) (by kernel_rfl) (by simp) (AllReadyIn.cons rfl (fun K hK => ?_) AllReadyIn.nil)
          · go_simp
            refine hK _ _ ?_
            clear hK K
            refine wpAnyIn_done (by kernel_rfl) ?_ _
            first | exact F1.out | exact F2.out
  case done =>
    rintro D zs W hD hS ⟨⟨v, hR, ho, hn⟩, hB⟩ hK
    have c5 := Blk.cell hR 0
    have hw1 : w.heap.size ≤ W1.heap.size := hB1.size
    have hbl := belowK_b (w := w) (Nat.le_refl _) W D _ (.deferred none) (Nat.le_trans hw1 hD) hK rfl rfl
    have hrow : OwnT (W.putObj D (.deferred none)) (w.heap.size + 1) v (zs.map hdP) := World.ownsRow.kept ho (grownBy_putObj' W D (.deferred none)) (by
      rcases ho.2 with ⟨rfl, _⟩ | ⟨g0, cap0, cur, rfl, hb0, hg0, _⟩
      · exact .inl rfl
      · refine .inr (fun e => ?_)
        have : g0 = D := by simpa [Value.ownBlock] using e
        subst this
        rw [hg0] at hK; cases hK)
    gi_wp2
    refine ⟨by simp, .inl ⟨_, _, rfl, run_takeDeferred hK, ?_⟩⟩
    exact ⟨_, results_tmp rfl _ _ _, v, rfl, ⟨zs, hS, hrow.base (by omega)⟩, hB.trans hbl⟩
  case stop =>
    rintro D cd pre W hD hS h hK
    exact h.elim
end Go.Proofs.Ytbmniajimkondaa.T
namespace Go.Proofs.Ytbmniajimkondaa.T
open Go.RowKit L
set_option linter.unusedVariables false
set_option linter.unusedSimpArgs false

def dft : Tm := .mk 0 ⟨#[]⟩ 0 []
def atL (l : List Tm) (i : Nat) : Tm := l.getD i dft
theorem atL_some {l : List Tm} {i : Nat} {t : Tm} (h : l[i]? = some t) : atL l i = t := by unfold atL; rw [List.getD_eq_getElem?_getD, h]; rfl

set_option maxRecDepth 100000 in
set_option maxHeartbeats 4000000 in
theorem firsts1_any (gc gl : Nat) (A : Option Addr) (n c : Nat) (l : List Tm) (i j : Nat) (w : World) (hgc : Blk w gc #[.func (.func 54) #[] #[]] 68) (hg : Blk w gl #[.slice A n c] 22) (hT : TsW w A n c l) (hi : i < n) (hj : j < n) :
    Calls Try.prog 163 #[.int .i64 i, .int .i64 j, .pointer (some ⟨gc, 0, none⟩), .pointer (some ⟨gl, 0, none⟩)] w fun e w' => e = .returned (.int .i64 (cmpT (atL l i) (atL l j))) ∧ Below w.heap.size w w' := by
  obtain ⟨bb, o, t, A1, M, Cc, rfl, hb, y0, y1, y2, y3, hx, hok⟩ := hT.at hi
  obtain ⟨bb', o', u, A', M', Cc', h2, hb', z0, z1, z2, z3, hx', hok'⟩ := hT.at hj
  injection h2 with h2
  injection h2 with h2 h3
  subst h2 h3
  rw [atL_some hx, atL_some hx']
  have hn : n ≤ 9223372036854775807 := by have h1 := hT.2.1; have h2 := hT.2.2.1; unfold maxLen at h2; omega
  have hBd : Below w.heap.size w w.drew := (Below.refl _ _).drew
  have cs := Compare_any t u A1 M Cc A' M' Cc' w.drew (ArW.b hok hBd) (ArW.b hok' hBd)
  have lg := Blk.lt hg
  have c0 := Blk.cell hg 0
  have lc := Blk.lt hgc
  have cc0 := Blk.cell hgc 0
  clear hx hx' hok hok' hT
  generalize cmpT t u = R at *
  generalize opT t = op2 at *
  generalize nameT t = nm2 at *
  generalize numT t = nu2 at *
  generalize opT u = op3 at *
  generalize nameT u = nm3 at *
  generalize numT u = nu3 at *
  have hi0 : 0 ≤ (i : Int) := by omega
  have hi1 : (i : Int) < (n : Int) := by omega
  have hj0 : 0 ≤ (j : Int) := by omega
  have hj1 : (j : Int) < (n : Int) := by omega
  go_enter Try.func163, Try.ntmps163
  go_wp2_with fail
  go_region_held3 (fun w' => w'.cell? ⟨gc, 0, none⟩ = some (.func (.func 54) #[] #[]) ∧ w'.cell? ⟨gl, 0, none⟩ = some (.slice (some ⟨bb, o, none⟩) n c) ∧ w'.cell? ⟨bb, o + i * 4, none⟩ = some (.int .i64 op2) ∧ w'.cell? ⟨bb, o + i * 4 + 1, none⟩ = some (.string nm2) ∧ w'.cell? ⟨bb, o + i * 4 + 1 + 1, none⟩ = some (.int .i64 nu2) ∧ w'.cell? ⟨bb, o + i * 4 + 1 + 1 + 1, none⟩ = some (.slice A1 M Cc) ∧ w'.cell? ⟨bb, o + j * 4, none⟩ = some (.int .i64 op3) ∧ w'.cell? ⟨bb, o + j * 4 + 1, none⟩ = some (.string nm3) ∧ w'.cell? ⟨bb, o + j * 4 + 1 + 1, none⟩ = some (.int .i64 nu3) ∧ w'.cell? ⟨bb, o + j * 4 + 1 + 1 + 1, none⟩ = some (.slice A' M' Cc'))
    (first | go_keep | (exact ⟨(B4.cell lc).trans cc0, (B4.cell lg).trans c0, (B4.cell hb).trans y0, (B4.cell hb).trans y1, (B4.cell hb).trans y2, (B4.cell hb).trans y3, (B4.cell hb).trans z0, (B4.cell hb).trans z1, (B4.cell hb).trans z2, (B4.cell hb).trans z3⟩))
    (first | (go_at_call 54; ((with_reducible refine cs.mono ?_); rintro e w4 ⟨rfl, hb4⟩; have B4 := bel_trans hBd hb4)))
  go_wp2
  go_ret
  exact ⟨rfl, B4⟩
set_option maxRecDepth 100000 in
set_option maxHeartbeats 4000000 in
theorem firsts2_any (gc gl : Nat) (A : Option Addr) (n c : Nat) (l : List Tm) (i j : Nat) (w : World) (hgc : Blk w gc #[.func (.func 54) #[] #[]] 68) (hg : Blk w gl #[.slice A n c] 22) (hT : TsW w A n c l) (hi : i < n) (hj : j < n) :
    Calls Try.prog 165 #[.int .i64 i, .int .i64 j, .pointer (some ⟨gc, 0, none⟩), .pointer (some ⟨gl, 0, none⟩)] w fun e w' => e = .returned (.bool (eqT (atL l i) (atL l j))) ∧ Below w.heap.size w w' := by
  obtain ⟨bb, o, t, A1, M, Cc, rfl, hb, y0, y1, y2, y3, hx, hok⟩ := hT.at hi
  obtain ⟨bb', o', u, A', M', Cc', h2, hb', z0, z1, z2, z3, hx', hok'⟩ := hT.at hj
  injection h2 with h2
  injection h2 with h2 h3
  subst h2 h3
  rw [atL_some hx, atL_some hx']
  have hn : n ≤ 9223372036854775807 := by have h1 := hT.2.1; have h2 := hT.2.2.1; unfold maxLen at h2; omega
  have hBd : Below w.heap.size w w.drew := (Below.refl _ _).drew
  have cs := Compare_any t u A1 M Cc A' M' Cc' w.drew (ArW.b hok hBd) (ArW.b hok' hBd)
  have lg := Blk.lt hg
  have c0 := Blk.cell hg 0
  have lc := Blk.lt hgc
  have cc0 := Blk.cell hgc 0
  clear hx hx' hok hok' hT
  have he : eqT t u = (cmpT t u == 0) := by rw [Bool.eq_iff_iff, eqT_iff, beq_iff_eq, linT.eq]
  rw [he]
  clear he
  generalize cmpT t u = R at *
  generalize opT t = op2 at *
  generalize nameT t = nm2 at *
  generalize numT t = nu2 at *
  generalize opT u = op3 at *
  generalize nameT u = nm3 at *
  generalize numT u = nu3 at *
  have hi0 : 0 ≤ (i : Int) := by omega
  have hi1 : (i : Int) < (n : Int) := by omega
  have hj0 : 0 ≤ (j : Int) := by omega
  have hj1 : (j : Int) < (n : Int) := by omega
  go_enter Try.func165, Try.ntmps165
  go_wp2_with fail
  go_region_held3 (fun w' => w'.cell? ⟨gc, 0, none⟩ = some (.func (.func 54) #[] #[]) ∧ w'.cell? ⟨gl, 0, none⟩ = some (.slice (some ⟨bb, o, none⟩) n c) ∧ w'.cell? ⟨bb, o + i * 4, none⟩ = some (.int .i64 op2) ∧ w'.cell? ⟨bb, o + i * 4 + 1, none⟩ = some (.string nm2) ∧ w'.cell? ⟨bb, o + i * 4 + 1 + 1, none⟩ = some (.int .i64 nu2) ∧ w'.cell? ⟨bb, o + i * 4 + 1 + 1 + 1, none⟩ = some (.slice A1 M Cc) ∧ w'.cell? ⟨bb, o + j * 4, none⟩ = some (.int .i64 op3) ∧ w'.cell? ⟨bb, o + j * 4 + 1, none⟩ = some (.string nm3) ∧ w'.cell? ⟨bb, o + j * 4 + 1 + 1, none⟩ = some (.int .i64 nu3) ∧ w'.cell? ⟨bb, o + j * 4 + 1 + 1 + 1, none⟩ = some (.slice A' M' Cc'))
    (first | go_keep | (exact ⟨(B4.cell lc).trans cc0, (B4.cell lg).trans c0, (B4.cell hb).trans y0, (B4.cell hb).trans y1, (B4.cell hb).trans y2, (B4.cell hb).trans y3, (B4.cell hb).trans z0, (B4.cell hb).trans z1, (B4.cell hb).trans z2, (B4.cell hb).trans z3⟩))
    (first | (go_at_call 54; ((with_reducible refine cs.mono ?_); rintro e w4 ⟨rfl, hb4⟩; have B4 := bel_trans hBd hb4)))
  go_wp2
  go_ret
  exact ⟨rfl, B4⟩
end Go.Proofs.Ytbmniajimkondaa.T
namespace Go.Proofs.Ytbmniajimkondaa.T
open Go.RowKit Go.Shelf L
set_option linter.unusedVariables false
set_option linter.unusedSimpArgs false
attribute [local go_sem] Oper.semAt_some

set_option maxHeartbeats 4000000 in
theorem refSize_any (t : Tm) (a : Option Addr) (m c : Nat) (w : World) (hA : ArW w t a m c) :
    Calls Try.prog 17 #[.agg #[.int .i64 (opT t), .string (nameT t), .int .i64 (numT t), .slice a m c]] w fun e w' => e = .returned (.int .i64 ((min (size t) 4097 : Nat) : Int)) ∧ Below w.heap.size w w' := by
  obtain ⟨W2, hW2, hB2, hs2, S2⟩ := box1 w (opT t) (nameT t) (numT t) a m c
  have cS := Size_any t a m c 4096 W2 (by omega) (ArW.b hA hB2)
  rw [show ((4096 : Nat) : Int) = 4096 from rfl] at cS
  obtain ⟨s0, s1, s2, s3⟩ := S2.four
  have h1 := szTo_min t 4096
  clear S2 hA
  generalize szTo 4096 t = sz at *
  have H1 := Lib.hid (show ((min sz 4097 : Nat) : Int) = ((min (size t) 4097 : Nat) : Int) by rw [show (4097 : Nat) = 4096 + 1 from rfl, h1])
  clear h1
  generalize ((min (size t) 4097 : Nat) : Int) = R at *
  generalize opT t = op at *
  generalize nameT t = nm at *
  generalize numT t = nu at *
  go_enter Try.func17, Try.ntmps17
  go_wp2_with (go_at_call 12; ((with_reducible refine cS.mono ?_); rintro e W5 ⟨rfl, hb5⟩))
  all_goals go_ret
  all_goals exact ⟨one (by rw [← H1.out]; omega), bel_trans hB2 hb5⟩
end Go.Proofs.Ytbmniajimkondaa.T
namespace Go.Proofs.Ytbmniajimkondaa.T
open Go.RowKit L
set_option linter.unusedVariables false
set_option linter.unusedSimpArgs false

/-! insertion, from the right -/
def insRev (c : Nat → Nat → Int) (x : Nat) : List Nat → List Nat
  | [] => [x]
  | y :: l => if c x y < 0 then y :: insRev c x l else x :: y :: l
def isortR (c : Nat → Nat → Int) (acc : List Nat) (l : List Nat) : List Nat := l.foldl (fun a x => insRev c x a) acc
theorem insRev_len (c : Nat → Nat → Int) (x : Nat) : ∀ l : List Nat, (insRev c x l).length = l.length + 1
  | [] => rfl
  | y :: l => by rw [insRev]; split <;> simp [insRev_len c x l]
theorem insRev_perm (c : Nat → Nat → Int) (x : Nat) : ∀ l : List Nat, (insRev c x l).Perm (x :: l)
  | [] => List.Perm.refl _
  | y :: l => by
    rw [insRev]; split
    · exact ((insRev_perm c x l).cons y).trans (List.Perm.swap _ _ _)
    · exact List.Perm.refl _
theorem isortR_len (c : Nat → Nat → Int) : ∀ (l acc : List Nat), (isortR c acc l).length = acc.length + l.length
  | [], acc => by simp [isortR]
  | x :: l, acc => by
    have := isortR_len c l (insRev c x acc)
    rw [insRev_len] at this
    simp only [isortR, List.foldl_cons, List.length_cons] at this ⊢
    omega
theorem isortR_snoc (c : Nat → Nat → Int) (acc l : List Nat) (x : Nat) : isortR c acc (l ++ [x]) = insRev c x (isortR c acc l) := by simp [isortR]
theorem isortR_perm (c : Nat → Nat → Int) : ∀ (l acc : List Nat), (isortR c acc l).Perm (acc ++ l)
  | [], acc => by simp [isortR]
  | x :: l, acc => by
    have h := isortR_perm c l (insRev c x acc)
    refine (show (isortR c acc (x :: l)).Perm (insRev c x acc ++ l) from h).trans ?_
    refine ((insRev_perm c x acc).append_right l).trans ?_
    exact (List.perm_middle (a := x) (l₁ := acc) (l₂ := l)).symm

/-! a row of places -/
def RowN (w : World) (g : Nat) (zs : List Nat) : Prop := Blk w g (zs.map (fun z : Nat => Value.int .i64 (z : Int))).toArray 3
theorem RowN.at {w : World} {g : Nat} {zs : List Nat} (h : RowN w g zs) {k z : Nat} (hk : zs[k]? = some z) : w.cell? ⟨g, k, none⟩ = some (.int .i64 z) := by
  rw [Blk.cell h k]
  simp [hk]
theorem RowN.set {w : World} {g : Nat} {zs : List Nat} (h : RowN w g zs) (k z : Nat) : RowN (w.setCell ⟨g, k, none⟩ (.int .i64 z)) g (zs.set k z) := by
  have := Blk.set h k (.int .i64 (z : Int))
  unfold RowN
  rw [List.map_set]
  simpa using this
theorem swap_list (X T : List Nat) (x y : Nat) : ((X ++ y :: x :: T).set (X.length + 1) y).set X.length x = X ++ x :: y :: T := by
  rw [List.set_append_right _ _ (by omega), List.set_append_right _ _ (by omega)]
  simp
theorem swap_list2 (X T : List Nat) (x y : Nat) : ((X ++ y :: x :: T).set X.length x).set (X.length + 1) y = X ++ x :: y :: T := by
  rw [List.set_append_right _ _ (by omega), List.set_append_right _ _ (by omega)]
  simp

theorem gr_drewN {W0 W : World} {g : Nat} (h : W0.grownBy W (some g)) (n : Nat) : W0.grownBy (W.drewN n) (some g) := h.trans ⟨rfl, rfl, rfl, Nat.le_refl _, fun _ _ _ => rfl⟩
theorem gr_drew {W0 W : World} {g : Nat} (h : W0.grownBy W (some g)) : W0.grownBy W.drew (some g) := h.trans ⟨rfl, rfl, rfl, Nat.le_refl _, fun _ _ _ => rfl⟩
theorem gr_of_below {W W' : World} {g : Nat} (h : Below W.heap.size W W') (ht : W'.tape = W.tape) : W.grownBy W' (some g) := ⟨h.os, ht, h.output, h.size, fun k hk _ => h.block k hk⟩
/-- what a sort's comparison is: the closure, in every world that has what lies below the row -/
def CmpIn (g gc gl n : Nat) (l : List Tm) (w0 : World) : Prop := ∀ (i j : Nat) (w : World), Below g w0 w → g ≤ w.heap.size → i < n → j < n →
  Calls Try.prog 163 #[.int .i64 i, .int .i64 j, .pointer (some ⟨gc, 0, none⟩), .pointer (some ⟨gl, 0, none⟩)] w fun e w' => e = .returned (.int .i64 (cmpT (atL l i) (atL l j))) ∧ Below w.heap.size w w'

set_option maxRecDepth 100000 in
set_option maxHeartbeats 8000000 in
theorem insertion_any (g gc gl n : Nat) (l : List Tm) (w0 : World) (hc : CmpIn g gc gl n l w0) (pre seg post : List Nat) (hlt : ∀ z ∈ pre ++ seg ++ post, z < n) (N cap : Nat) (hN : N = (pre ++ seg ++ post).length) (hN2 : N ≤ 1000000) (w : World) (hb : Below g w0 w) (hr : RowN w g (pre ++ seg ++ post)) :
    Calls Try.prog 238 #[.slice (some ⟨g, 0, none⟩) N cap, .int .i64 pre.length, .int .i64 ((pre.length : Int) + (seg.length : Int)), .func (.func 163) #[] #[.pointer (some ⟨gc, 0, none⟩), .pointer (some ⟨gl, 0, none⟩)]] w fun e w' => (∃ v, e = .returned v) ∧ RowN w' g (pre ++ (isortR (fun i j => cmpT (atL l i) (atL l j)) [] seg).reverse ++ post) ∧ w.grownBy w' (some g) := by
  have hg := Blk.lt hr
  have HC := Lib.hid hc
  have Hlt := Lib.hid hlt
  generalize hcf : (fun i j => cmpT (atL l i) (atL l j)) = cf at *
  have hcf2 : ∀ i j, cmpT (atL l i) (atL l j) = cf i j := fun i j => by rw [← hcf]
  have Hcf := Lib.hid hcf2
  clear hc hlt hcf hcf2
  have H0 : Hid (RowN w g (pre ++ (isortR cf [] (seg.take 1)).reverse ++ (seg.drop 1 ++ post))) := by
    cases seg with
    | nil => show RowN w g _; simpa [isortR] using hr
    | cons x s => show RowN w g _; simpa [isortR, insRev] using hr
  have hl1 : pre.length ≤ 1000000 := by simp at hN; omega
  have hl2 : pre.length + seg.length ≤ 1000000 := by simp at hN; omega
  have HN := Lib.hid hN
  clear hr hN
  go_enter Try.func238, Try.ntmps238
  go_wp2
  go_loopw [8] (fun i wr0 => ∃ (wr : World) (m : Nat), wr = wr0 ∧ 1 ≤ m ∧ (m ≤ seg.length ∨ m = 1) ∧ i = .int .i64 ((pre.length : Int) + (m : Int)) ∧ w.grownBy wr (some g) ∧ Hid (RowN wr g (pre ++ (isortR cf [] (seg.take m)).reverse ++ (seg.drop m ++ post)))) (fun i _ => pre.length + seg.length - (intOf i).toNat)
  case atStart => exact ⟨_, 1, rfl, by omega, .inr rfl, rfl, World.grownBy.refl _ _, H0⟩
  case round =>
    obtain ⟨wr, m, rfl, hm1, hm2, rfl, hG, hR⟩ := hrel
    by_cases hlt : m < seg.length
    · have hx : seg[m]? = some seg[m] := List.getElem?_eq_getElem hlt
      obtain ⟨x, hxx⟩ : ∃ x, seg[m] = x := ⟨_, rfl⟩
      rw [hxx] at hx
      obtain ⟨P0, hP0⟩ : ∃ P0, isortR cf [] (seg.take m) = P0 := ⟨_, rfl⟩
      obtain ⟨rest, hrest⟩ : ∃ rest, seg.drop (m + 1) ++ post = rest := ⟨_, rfl⟩
      have hlen0 : P0.length = m := by rw [← hP0, isortR_len]; simp; omega
      have hd : seg.drop m ++ post = x :: rest := by rw [← hrest, ← hxx, ← List.cons_append, ← List.drop_eq_getElem_cons hlt]
      have hins : insRev cf x P0 = isortR cf [] (seg.take (m + 1)) := by
        rw [List.take_add_one, hx, ← hP0]
        exact (isortR_snoc cf [] _ x).symm
      have hR0 : Hid (RowN wr g (pre ++ P0.reverse ++ x :: ([] ++ rest))) := by
        have := hR.out
        rw [hP0, hd] at this
        exact this
      have Hfin := Lib.hid (show ∀ (P Q : List Nat) (W : World), (insRev cf x P).reverse ++ Q = (insRev cf x P0).reverse → (insRev cf x P).reverse = P.reverse ++ [x] → RowN W g (pre ++ P.reverse ++ x :: (Q ++ rest)) → RowN W g (pre ++ (isortR cf [] (seg.take (m + 1))).reverse ++ (seg.drop (m + 1) ++ post)) from fun P Q W h1 h2 h3 => by
        rw [← hins, ← h1, h2, hrest]
        simpa using h3)
      have Hall := Lib.hid (show ∀ (P Q : List Nat), (insRev cf x P).reverse ++ Q = (insRev cf x P0).reverse → ∀ y ∈ x :: P, y < n from fun P Q h1 y hy => by
        have h2 : y ∈ (insRev cf x P0).reverse := by
          rw [← h1]
          refine List.mem_append_left _ (List.mem_reverse.2 ((insRev_perm cf x P).mem_iff.2 hy))
        rw [List.mem_reverse, hins] at h2
        have h3 := (isortR_perm cf (seg.take (m + 1)) []).mem_iff.1 h2
        exact Hlt.out y (List.mem_append_left _ (List.mem_append_right _ (List.take_subset _ _ (by simpa using h3)))))
      have Hlq := Lib.hid (show ∀ (P Q : List Nat), (insRev cf x P).reverse ++ Q = (insRev cf x P0).reverse → P.length + Q.length = m from fun P Q h1 => by
        have := congrArg List.length h1
        rw [List.length_append, List.length_reverse, List.length_reverse, insRev_len, insRev_len] at this
        omega)
      have Hlen0 := Lib.hid hlen0
      clear hx hxx hP0 hrest hd hins hR hlen0
      have hpm : (pre.length : Int) + m < pre.length + seg.length := by omega
      go_wp2
      go_loopw [9] (fun i wr0 => ∃ (w2 : World) (P Q : List Nat), w2 = wr0 ∧ i = .int .i64 ((pre.length : Int) + (P.length : Int)) ∧ w.grownBy w2 (some g) ∧ Hid ((insRev cf x P).reverse ++ Q = (insRev cf x P0).reverse ∧ RowN w2 g (pre ++ P.reverse ++ x :: (Q ++ rest)))) (fun i _ => (intOf i).toNat)
      case atStart => exact ⟨_, P0, [], rfl, by rw [Hlen0.out], hG, Lib.hid ⟨by simp, hR0.out⟩⟩
      case round =>
        obtain ⟨w2, P, Q, rfl, rfl, hG2, hR2⟩ := hrel
        have hlq := Hlq.out P Q hR2.out.1
        cases P with
        | nil =>
          have Hn := Lib.hid (Hfin.out [] Q w2 hR2.out.1 rfl hR2.out.2)
          have hpl : (pre.length : Int) + (([] : List Nat).length : Int) = (pre.length : Int) := by simp
          rw [hpl]
          clear hpl hlq
          have hgd : ¬ (pre.length : Int) < (pre.length : Int) := by omega
          clear hR2
          go_wp2_with fail
          go_quiet (fail)
          go_wp2
          go_roundw
          case rel => exact ⟨_, m + 1, rfl, by omega, by omega, by go_num, gr_drewN hG2 _, Lib.hid (show RowN _ _ _ from Hn.out)⟩
          case measure => simp [intOf]; omega
        | cons y P =>
          have hxn := Hall.out (y :: P) Q hR2.out.1 x (by simp)
          have hyn := Hall.out (y :: P) Q hR2.out.1 y (by simp)
          have hrow := hR2.out.2
          have hX : (pre ++ (y :: P).reverse ++ x :: (Q ++ rest)) = (pre ++ P.reverse) ++ y :: x :: (Q ++ rest) := by simp
          rw [hX] at hrow
          have hXl : (pre ++ P.reverse).length = pre.length + P.length := by simp
          obtain ⟨k, hk⟩ : ∃ k, pre.length + P.length = k := ⟨_, rfl⟩
          have e0 : ((pre ++ P.reverse) ++ y :: x :: (Q ++ rest))[k]? = some y := by rw [List.getElem?_append_right (by omega), hXl, hk, Nat.sub_self]; rfl
          have e1 : ((pre ++ P.reverse) ++ y :: x :: (Q ++ rest))[k + 1]? = some x := by rw [List.getElem?_append_right (by omega), hXl, hk, Nat.add_sub_cancel_left]; rfl
          have c0 := hrow.at e0
          have c1 := hrow.at e1
          have q0 := Blk.free hrow k
          have q1 := Blk.free hrow (k + 1)
          have hsw1 := Lib.hid (show ∀ W, RowN W g ((pre ++ P.reverse) ++ y :: x :: (Q ++ rest)) → RowN ((W.setCell ⟨g, k + 1, none⟩ (.int .i64 y)).setCell ⟨g, k, none⟩ (.int .i64 x)) g (pre ++ P.reverse ++ x :: (y :: Q ++ rest)) from fun W h => by
            have h1 := (h.set (k + 1) y).set k x
            rw [← hk, ← hXl, swap_list] at h1
            rw [← hk, ← hXl]; exact h1)
          have hsw2 := Lib.hid (show ∀ W, RowN W g ((pre ++ P.reverse) ++ y :: x :: (Q ++ rest)) → RowN ((W.setCell ⟨g, k, none⟩ (.int .i64 x)).setCell ⟨g, k + 1, none⟩ (.int .i64 y)) g (pre ++ P.reverse ++ x :: (y :: Q ++ rest)) from fun W h => by
            have h1 := (h.set k x).set (k + 1) y
            rw [← hk, ← hXl, swap_list2] at h1
            rw [← hk, ← hXl]; exact h1)
          have hkk := Lib.hid hk
          have hpl : (pre.length : Int) + ((y :: P).length : Int) = (k : Int) + 1 := by simp; omega
          rw [hpl]
          have hg2 := Blk.lt hrow
          have hB2 : Below g w0 w2.drew := (hb.trans (gr_below hG2 (Nat.le_of_lt hg) (Nat.le_refl _))).drew
          have cC := HC.out x y w2.drew hB2 (Nat.le_of_lt hg2) hxn hyn
          rw [Hcf.out] at cC
          have hkn : (pre.length : Int) < (k : Int) + 1 := by omega
          have hkN : (k : Int) + 1 < (N : Int) := by
            have h1 := HN.out
            have h2 := congrArg List.length (show (pre ++ seg ++ post) = (pre ++ seg ++ post) from rfl)
            have h3 : P.length + 1 + Q.length = m := by simpa using hlq
            simp at h1
            omega
          have hwr : IntKind.i64.wrap ((k : Int) + 1 - 1) = (k : Int) := by rw [IntKind.wrap_i64]; omega
          have hwr2 : IntKind.i64.wrap (k : Int) = (k : Int) := by rw [IntKind.wrap_i64]; omega
          have hk0 : 0 ≤ (k : Int) := by omega
          have hk1 : 0 ≤ (k : Int) + 1 := by omega
          have hkN0 : (k : Int) < (N : Int) := by omega
          have hB2d : Below w2.heap.size w2 w2.drew := (Below.refl _ _).drew
          have HR2 := Lib.hid hR2.out.1
          have Hrow := Lib.hid hrow
          clear hR2 hrow hX e0 e1 hlq hpl hXl hk
          by_cases hneg : cf x y < 0
          · have hi2 : Hid ((insRev cf x P).reverse ++ (y :: Q) = (insRev cf x P0).reverse) := by
              have h1 := HR2.out
              rw [insRev, if_pos hneg] at h1
              show _ = _
              rw [← h1]; simp
            generalize cf x y = R at *
            go_wp2_with fail
            go_region_held3 (fun w' => w'.cell? ⟨g, k, none⟩ = some (.int .i64 y) ∧ w'.cell? ⟨g, k + 1, none⟩ = some (.int .i64 x))
              (first | go_keep | (exact ⟨(B4.cell hg2).trans c0, (B4.cell hg2).trans c1⟩))
              (first | (go_at_call 163; ((with_reducible refine cC.mono ?_); rintro e w4 ⟨rfl, hb4⟩; have B4 := bel_trans hB2d hb4; have H4 := Lib.hid (Blk.below Hrow.out B4); have z0 := (B4.cell (p := ⟨g, k, none⟩) hg2).trans c0; have z1 := (B4.cell (p := ⟨g, k + 1, none⟩) hg2).trans c1; have p0 := (B4.frozen (p := ⟨g, k, none⟩) hg2).trans q0; have p1 := (B4.frozen (p := ⟨g, k + 1, none⟩) hg2).trans q1)))
            have hg4 : w2.grownBy w4 (some g) := gr_of_below B4 B4.tape
            go_wp2
            go_region
            go_wp2
            exact ⟨⟨_, P, y :: Q, rfl, by congr 1; have := hkk.out; omega, gr_drew (gr_set (gr_set (hG2.trans hg4) _ _) _ _), Lib.hid ⟨hi2.out, hsw1.out _ H4.out⟩⟩, by simp [intOf] <;> omega⟩
          · have Hn := Lib.hid (Hfin.out (y :: P) Q · HR2.out (by rw [insRev, if_neg hneg]; simp))
            generalize cf x y = R at *
            go_wp2_with fail
            go_region_held3 (fun w' => w'.cell? ⟨g, k, none⟩ = some (.int .i64 y) ∧ w'.cell? ⟨g, k + 1, none⟩ = some (.int .i64 x))
              (first | go_keep | (exact ⟨(B4.cell hg2).trans c0, (B4.cell hg2).trans c1⟩))
              (first | (go_at_call 163; ((with_reducible refine cC.mono ?_); rintro e w4 ⟨rfl, hb4⟩; have B4 := bel_trans hB2d hb4; have H4 := Lib.hid (Blk.below Hrow.out B4); have z0 := (B4.cell (p := ⟨g, k, none⟩) hg2).trans c0; have z1 := (B4.cell (p := ⟨g, k + 1, none⟩) hg2).trans c1; have p0 := (B4.frozen (p := ⟨g, k, none⟩) hg2).trans q0; have p1 := (B4.frozen (p := ⟨g, k + 1, none⟩) hg2).trans q1)))
            have hg4 : w2.grownBy w4 (some g) := gr_of_below B4 B4.tape
            go_wp2
            go_roundw
            case rel => exact ⟨_, m + 1, rfl, by omega, by omega, by go_num, hG2.trans hg4, Lib.hid (Hn.out _ (by
              have h := H4.out
              rw [show pre ++ (y :: P).reverse ++ x :: (Q ++ rest) = (pre ++ P.reverse) ++ y :: x :: (Q ++ rest) by simp]
              exact h))⟩
            case measure => simp [intOf]; omega
    · have Hn : Hid (RowN wr g (pre ++ (isortR cf [] seg).reverse ++ post)) := by
        have h := hR.out
        rw [List.take_of_length_le (by omega), List.drop_eq_nil_of_le (by omega)] at h
        exact h
      have hpm : ¬ (pre.length : Int) + m < pre.length + seg.length := by omega
      clear hR
      go_wp2
      go_end0
      exact ⟨⟨_, rfl⟩, by (have h := Hn.out; rwa [List.append_assoc] at h), hG⟩
end Go.Proofs.Ytbmniajimkondaa.T
namespace Go.Proofs.Ytbmniajimkondaa.T
open Go.RowKit L
set_option linter.unusedVariables false
set_option linter.unusedSimpArgs false

set_option maxRecDepth 100000 in
set_option maxHeartbeats 8000000 in
theorem stable_few (g gc gl n : Nat) (l : List Tm) (w0 : World) (hc : CmpIn g gc gl n l w0) (zs : List Nat) (hlt : ∀ z ∈ zs, z < n) (N cap : Nat) (hN : N = zs.length) (hN2 : N < 20) (w : World) (hb : Below g w0 w) (hr : RowN w g zs) :
    Calls Try.prog 211 #[.slice (some ⟨g, 0, none⟩) N cap, .int .i64 N, .func (.func 163) #[] #[.pointer (some ⟨gc, 0, none⟩), .pointer (some ⟨gl, 0, none⟩)]] w fun e w' => (∃ v, e = .returned v) ∧ RowN w' g (isortR (fun i j => cmpT (atL l i) (atL l j)) [] zs).reverse ∧ w.grownBy w' (some g) := by
  have cI := insertion_any g gc gl n l w0 hc [] zs [] (by simpa using hlt) N cap (by simpa using hN) (by omega) w hb (by simpa using hr)
  simp only [List.length_nil, List.nil_append, List.append_nil] at cI
  rw [show ((0 : Nat) : Int) = 0 from rfl, Int.zero_add, ← hN] at cI
  have h1 : ¬ (20 : Int) ≤ (N : Int) := by omega
  have h2 : ¬ (20 : Int) < (N : Int) := by omega
  clear hr hc hlt hN
  generalize (isortR (fun i j => cmpT (atL l i) (atL l j)) [] zs).reverse = Z at *
  go_enter Try.func211, Try.ntmps211
  go_wp2
  refine wp_loop_rounds 1 ?_
  rw [rounds_succ]
  go_wp2_with (go_at_call 238; ((with_reducible refine cI.mono ?_); rintro e w1 ⟨⟨v, rfl⟩, hR, hG⟩; have HR := Lib.hid hR; clear hR))
  refine wp_loop_rounds 1 ?_
  rw [rounds_succ]
  go_wp2
  go_end0
  exact ⟨⟨_, rfl⟩, HR.out, hG⟩
theorem stableFunc_few (g gc gl n : Nat) (l : List Tm) (w0 : World) (hc : CmpIn g gc gl n l w0) (zs : List Nat) (hlt : ∀ z ∈ zs, z < n) (N cap : Nat) (hN : N = zs.length) (hN2 : N < 20) (w : World) (hb : Below g w0 w) (hr : RowN w g zs) :
    Calls Try.prog 162 #[.slice (some ⟨g, 0, none⟩) N cap, .func (.func 163) #[] #[.pointer (some ⟨gc, 0, none⟩), .pointer (some ⟨gl, 0, none⟩)]] w fun e w' => (∃ v, e = .returned v) ∧ RowN w' g (isortR (fun i j => cmpT (atL l i) (atL l j)) [] zs).reverse ∧ w.grownBy w' (some g) := by
  have cI := stable_few g gc gl n l w0 hc zs hlt N cap hN hN2 w hb hr
  clear hr hc hlt hN
  generalize (isortR (fun i j => cmpT (atL l i) (atL l j)) [] zs).reverse = Z at *
  go_enter Try.func162, Try.ntmps162
  go_wp2_with (go_at_call 211; ((with_reducible refine cI.mono ?_); rintro e w1 ⟨⟨v, rfl⟩, hR, hG⟩; have HR := Lib.hid hR; clear hR))
  go_end0
  exact ⟨⟨_, rfl⟩, HR.out, hG⟩
def EqIn (g gc gl n : Nat) (l : List Tm) (w0 : World) : Prop := ∀ (i j : Nat) (w : World), Below g w0 w → g ≤ w.heap.size → i < n → j < n →
  Calls Try.prog 165 #[.int .i64 i, .int .i64 j, .pointer (some ⟨gc, 0, none⟩), .pointer (some ⟨gl, 0, none⟩)] w fun e w' => e = .returned (.bool (eqT (atL l i) (atL l j))) ∧ Below w.heap.size w w'

set_option maxRecDepth 100000 in
set_option maxHeartbeats 8000000 in
theorem compact_apart (g gc gl n : Nat) (l : List Tm) (w0 : World) (hc : EqIn g gc gl n l w0) (zs : List Nat) (hlt : ∀ z ∈ zs, z < n) (hne : ∀ k x y, zs[k]? = some x → zs[k + 1]? = some y → eqT (atL l y) (atL l x) = false) (N cap : Nat) (hN : N = zs.length) (hN2 : N ≤ 1000000) (w : World) (hb : Below g w0 w) (hr : RowN w g zs) :
    Calls Try.prog 164 #[.slice (some ⟨g, 0, none⟩) N cap, .func (.func 165) #[] #[.pointer (some ⟨gc, 0, none⟩), .pointer (some ⟨gl, 0, none⟩)]] w fun e w' => e = .returned (.slice (some ⟨g, 0, none⟩) N cap) ∧ RowN w' g zs ∧ w.grownBy w' (some g) := by
  have hg := Blk.lt hr
  by_cases h2 : N < 2
  · have h2' : (N : Int) < 2 := by omega
    have Hr := Lib.hid hr
    clear hr hc hne hlt hN
    go_enter Try.func164, Try.ntmps164
    go_wp2
    go_ret
    exact ⟨rfl, Hr.out, World.grownBy.refl _ _⟩
  · have h2' : ¬ (N : Int) < 2 := by omega
    have HC := Lib.hid hc
    have Hlt := Lib.hid hlt
    have Hne := Lib.hid hne
    have HN := Lib.hid hN
    have Hr := Lib.hid hr
    clear hr hc hne hlt hN
    go_enter Try.func164, Try.ntmps164
    go_wp2
    go_loopw [5] (fun i wr0 => ∃ (wr : World) (k : Nat), wr = wr0 ∧ k < N ∧ i = .int .i64 ((k : Int) + 1) ∧ w.grownBy wr (some g) ∧ Hid (RowN wr g zs)) (fun i _ => N - (intOf i).toNat)
    case atStart => exact ⟨_, 0, rfl, by omega, rfl, World.grownBy.refl _ _, Hr⟩
    case round =>
      obtain ⟨wr, k, rfl, hk, rfl, hG, hR⟩ := hrel
      by_cases hlk : k + 1 < N
      · have hk0 : k < zs.length := by have := HN.out; omega
        have hk1 : k + 1 < zs.length := by have := HN.out; omega
        obtain ⟨x, hx⟩ : ∃ x, zs[k]? = some x := ⟨_, List.getElem?_eq_getElem hk0⟩
        obtain ⟨y, hy⟩ : ∃ y, zs[k + 1]? = some y := ⟨_, List.getElem?_eq_getElem hk1⟩
        have c0 := RowN.at hR.out hx
        have c1 := RowN.at hR.out hy
        have hgr := Blk.lt hR.out
        have hBd : Below wr.heap.size wr wr.drew := (Below.refl _ _).drew
        have hB2 : Below g w0 wr.drew := (hb.trans (gr_below hG (Nat.le_of_lt hg) (Nat.le_refl _))).drew
        have cE := HC.out y x wr.drew hB2 (Nat.le_of_lt hgr) (Hlt.out y (List.mem_of_getElem? hy)) (Hlt.out x (List.mem_of_getElem? hx))
        rw [Hne.out k x y hx hy] at cE
        clear hx hy hk0 hk1
        have hwr : IntKind.i64.wrap ((k : Int) + 1 - 1) = (k : Int) := by rw [IntKind.wrap_i64]; omega
        have hwr2 : IntKind.i64.wrap (k : Int) = (k : Int) := by rw [IntKind.wrap_i64]; omega
        have hi0 : 0 ≤ (k : Int) := by omega
        have hi1 : 0 ≤ (k : Int) + 1 := by omega
        have hi2 : (k : Int) + 1 < (N : Int) := by omega
        have hi3 : (k : Int) < (N : Int) := by omega
        go_wp2_with fail
        go_region_held3 (fun w' => w'.cell? ⟨g, k, none⟩ = some (.int .i64 x) ∧ w'.cell? ⟨g, k + 1, none⟩ = some (.int .i64 y))
          (first | go_keep | (exact ⟨(B4.cell hgr).trans c0, (B4.cell hgr).trans c1⟩))
          (first | (go_at_call 165; ((with_reducible refine cE.mono ?_); rintro e w4 ⟨rfl, hb4⟩; have B4 := bel_trans hBd hb4; have H4 := Lib.hid (Blk.below hR.out B4))))
        have hg4 : wr.grownBy w4 (some g) := gr_of_below B4 B4.tape
        go_wp2
        go_roundw
        case rel => exact ⟨_, k + 1, rfl, by omega, by go_num, hG.trans hg4, H4⟩
        case measure => simp [intOf]; omega
      · have hi2 : ¬ (k : Int) + 1 < (N : Int) := by omega
        go_wp2
        go_ret
        exact ⟨rfl, hR.out, hG⟩
end Go.Proofs.Ytbmniajimkondaa.T
