/-
  What is proved: slices.Collect over the parts of a term: a row of the call's own that holds them, in preorder.
  What is proved: package term's two closures over a list of terms, which compare the terms at two places.
  What is proved: what the document's Size of a term returns.
  What is proved: the library's insertion sort of a row of places, by the comparison of the terms at them.
  What is proved: the library's stable sort of fewer than twenty places; its CompactFunc where no two neighbours are alike.
  What is proved: the places of a list of terms at which a term stands that does not stand before, for fewer than twenty that are all apart.
  What is proved: how many parts package term's Parts returns for a term of fewer than twenty parts that are all apart.
  What is proved: how deep a term is, as package term counts it for terms of few parts, and as the document does.
  What is proved: what the document's Depth of a term returns.
  What is proved: the chapter's example.
-/
import Derived.Test.YtbmniajimkondaaNB
import Derived.RegionIn
import Derived.Deep.RegionHeld3
import Derived.Test.YtbmniajimkondaaZTrmS
import Derived.Test.YtbmniajimkondaaShelf
import Derived.Test.YtbmniajimkondaaNA
import Derived.Sort.OwnSortedInts
import Derived.Laws.MakeOwn
import Derived.OwnWalk
namespace Go.Proofs.Ytbmniajimkondaa.T
open Go.RowKit Go.Shelf L
set_option linter.unusedVariables false
set_option linter.unusedSimpArgs false
attribute [local go_sem] Oper.semAt_some

/-- append(s, zero) to a row of the call's own: blocks that hold one term lie as they lay -/
theorem append_zero (Wz : World) (base : Nat) (v : Value) (hs : List Hd) (ho : OwnT Wz base v hs) (hnil : v = .slice none 0 0 ↔ hs = []) (hbase : base ≤ Wz.heap.size) (hn : hs.length < 1000000) (z : Nat)
    (hz : ∀ j u, (flatH [Hd.zero])[j]? = some u → Wz.cell? ((⟨z, 0, none⟩ : Addr).add j) = some u) :
    ∃ g cap W4, (∀ ty, (Builtin.append_ #[22, 22] ty #[v, .slice (some ⟨z, 0, none⟩) 1 1]).run Try.prog Wz = .ok (.slice (some ⟨g, 0, none⟩) (hs.length + 1) cap) W4) ∧
      OwnT W4 base (.slice (some ⟨g, 0, none⟩) (hs.length + 1) cap) (hs ++ [Hd.zero]) ∧ Wz.grownBy W4 v.ownBlock ∧ Keep4 Wz W4 ∧ (Wz.heap.size ≤ g ∨ ∃ cur, Wz.heap[g]? = some (.cells cur 24 (0, 0)) ∧ cur.size ≠ 4) := by
  obtain ⟨i0, hi, hz0, hz1, hz2⟩ := info_parts termI
  obtain ⟨v', W4, hr, h1, h2, h3⟩ := run_append_own (P := Try.prog) Wz base 22 22 24 i0 _ 4 56 Try.underlying22 hi hz0 hz1 hz2 rfl (by decide) v hs.length (flatH hs) ho ⟨z, 0, none⟩ 1 1 (flatH [Hd.zero]) (by rw [flat_len]; rfl) hz (hd_one _) (by unfold maxLen; omega) (by omega) hbase
  have ho4 : OwnT W4 base v' (hs ++ [Hd.zero]) := by
    unfold OwnT
    rw [List.length_append, flat_app]
    exact h1
  obtain ⟨A', c', hv', _, _, _, hA⟩ := ho4.slice
  obtain ⟨g, hg, _, hgl⟩ := hA (by simp)
  subst hg
  have hv2 : v' = .slice (some ⟨g, 0, none⟩) (hs.length + 1) c' := by rw [hv']; simp
  subst hv2
  have hrun : ∀ ty, (Builtin.append_ #[22, 22] ty #[v, .slice (some ⟨z, 0, none⟩) 1 1]).run Try.prog Wz = .ok (.slice (some ⟨g, 0, none⟩) (hs.length + 1) c') W4 := fun ty => by
    obtain ⟨v2, W5, hr2, _⟩ := run_append_own (P := Try.prog) Wz base 22 ty 24 i0 _ 4 56 Try.underlying22 hi hz0 hz1 hz2 rfl (by decide) v hs.length (flatH hs) ho ⟨z, 0, none⟩ 1 1 (flatH [Hd.zero]) (by rw [flat_len]; rfl) hz (hd_one _) (by unfold maxLen; omega) (by omega) hbase
    exact hr
  refine ⟨g, c', W4, hrun, ho4, h2, ?_⟩
  rcases ho.2 with ⟨rfl, hz1'⟩ | ⟨g0, cap, cur, rfl, hb, hg0, hnc, hcm, hcs, ht⟩
  · have hgn : Wz.heap.size ≤ g := by
      rcases Nat.lt_or_ge g Wz.heap.size with hlt | hge
      · exfalso
        have hrn := run_append_nil (P := Try.prog) Wz 22 22 24 i0 _ Try.underlying22 hi hz0 ⟨z, 0, none⟩ 1 1 (flatH [Hd.zero]) (by rw [flat_len, hz1]; rfl) hz (by omega) (by omega) (by rw [hz2]; decide)
        rw [hr] at hrn
        injection hrn with e1 e2
        injection e1 with e1
        injection e1 with e1
        injection e1 with e1
        omega
      · exact hge
    exact ⟨fun k cs hk hc => (h2.block k (Array.getElem?_eq_some_iff.1 hk).1 (by simp [Value.ownBlock])).trans hk, .inl hgn⟩
  · have hne : hs ≠ [] := fun e => by have := hnil.2 e; cases this
    have hpos : 0 < hs.length := List.length_pos_iff.2 hne
    by_cases hroom : hs.length + 1 ≤ cap
    · have hcur : cur.size ≠ 4 := by omega
      have hk4 : Keep4 Wz W4 := fun k cs hk hc => (h2.block k (Array.getElem?_eq_some_iff.1 hk).1 (fun e => by
        have e' : k = g0 := by simpa [Value.ownBlock] using e
        subst e'
        rw [hg0] at hk
        injection hk with hk
        injection hk with hk
        subst hk
        exact hcur hc)).trans hk
      refine ⟨hk4, ?_⟩
      rcases Nat.lt_or_ge g Wz.heap.size with hlt | hge
      · have hrr := run_append_room (P := Try.prog) Wz 22 22 24 i0 Try.underlying22 hi g0 hs.length cap cur hg0 ⟨z, 0, none⟩ 1 1 (flatH [Hd.zero]) (by rw [flat_len, hz1]; rfl) hz (hd_one _) hroom (by rw [hz1, flat_len]; simp; omega)
        rw [hr] at hrr
        injection hrr with e1 e2
        injection e1 with e1
        injection e1 with e1
        injection e1 with e1
        subst e1
        exact .inr ⟨cur, hg0, hcur⟩
      · exact .inl hge
    · have holds : ∀ j u, (flatH hs)[j]? = some u → Wz.cell? ((⟨g0, 0, none⟩ : Addr).add j) = some u := World.ownsRow.cells (g := g0) ho rfl
      have hrg := run_append_grow (P := Try.prog) Wz 22 22 24 i0 _ Try.underlying22 hi hz0 ⟨g0, 0, none⟩ hs.length cap (flatH hs) (by rw [flat_len, hz1]) holds ⟨z, 0, none⟩ 1 1 (flatH [Hd.zero]) (by rw [flat_len, hz1]; rfl) hz (by omega) (by omega) (growslice_fits (by omega) (by rw [hz2]; omega))
      rw [hr] at hrg
      injection hrg with e1 e2
      injection e1 with e1
      injection e1 with e1
      injection e1 with e1
      refine ⟨?_, .inl (by omega)⟩
      rw [e2]
      exact Keep4.of_below (bel_alloc (Below.refl _ _).drew _)
def hdP {B : Nat} {w0 : World} (x : Pt B w0) : Hd := hdOf x.t x.a x.n x.c
/-- between two rounds -/
def Coll {B : Nat} {w0 : World} (bs : Nat) (pre : List (Pt B w0)) (W : World) : Prop := ∃ v, Blk W bs #[v] 22 ∧ OwnT W (bs + 1) v (pre.map hdP) ∧ (v = .slice none 0 0 ↔ pre = [])
theorem coll_own {B : Nat} {w0 : World} (bs : Nat) : Own (fun (pre : List (Pt B w0)) W => Coll bs pre W) := fun pre X Y row hs hg hr => by
  obtain ⟨v, h1, h2, h3⟩ := hs
  refine ⟨v, own_blk bs _ _ () X Y row h1 hg hr, World.ownsRow.kept h2 hg ?_, h3⟩
  rcases h2.2 with ⟨rfl, _⟩ | ⟨g0, cap, cur, rfl, hb, hg0, _⟩
  · exact .inl rfl
  · refine .inr (fun e => ?_)
    obtain ⟨o, ho, hc⟩ := hr g0 (by simpa [Value.ownBlock] using e.symm)
    rw [hg0] at ho; cases ho; cases hc

theorem keep4_past {W Wz W4 X : World} {gg bs : Nat} {v : Value} (hbz : Below W.heap.size W Wz) (hk4 : Keep4 Wz W4) (hgb : Wz.heap.size ≤ gg ∨ ∃ cur, Wz.heap[gg]? = some (.cells cur 24 (0, 0)) ∧ cur.size ≠ 4) (hR : Blk W bs #[v] 22) (hx : ∀ i, i ≠ gg → i ≠ bs → X.heap[i]? = W4.heap[i]?) : Keep4 W X := fun k cs hk hc => by
  have hlt := (Array.getElem?_eq_some_iff.1 hk).1
  have h1 : Wz.heap[k]? = some (.cells cs 24 (0, 0)) := (hbz.block k hlt).trans hk
  have hb : k ≠ bs := fun e => by
    subst e
    rw [show W.heap[k]? = _ from hR] at hk
    injection hk with hk
    injection hk with hk
    subst hk
    simp at hc
  have hg : k ≠ gg := fun e => by
    subst e
    rcases hgb with h | ⟨cur, h, hs⟩
    · have := hbz.size; omega
    · rw [h1] at h
      injection h with h
      injection h with h
      exact hs (h ▸ hc)
  exact (hx k hg hb).trans (hk4 k cs h1 hc)

set_option maxRecDepth 100000 in
set_option maxHeartbeats 8000000 in
theorem AppendSeq_in (B g g2 : Nat) (w0 w : World) (t : Tm) (a : Option Addr) (m c : Nat) (hsz : size t ≤ 1000000) (hA : Ar B w0 t a m c) (hB : Below B w0 w) (hBw : B ≤ w.heap.size) (hT : TBox w g (opT t) (nameT t) (numT t) a m c) (hF : Blk w g2 #[.func (.func 59) #[] #[]] 67) :
    CallsIn Fence.wide 5 Try.prog 169 #[.slice none 0 0, .func (.func 173) #[] #[.pointer (some ⟨g, 0, none⟩), .pointer (some ⟨g2, 0, none⟩)]] w fun e w' => ∃ v, e = .returned v ∧ (∃ pts : List (Pt B w0), pts.map Pt.t = all t ∧ OwnT w' w.heap.size v (pts.map hdP)) ∧ Below w.heap.size w w' := by
  obtain ⟨W1, hW1⟩ : ∃ W1, w.alloc (.cells #[.slice none 0 0] 22) = W1 := ⟨_, rfl⟩
  have hB1 : Below w.heap.size w W1 := by rw [← hW1]; exact bel_alloc (Below.refl _ _) _
  have hs1 : W1.heap.size = w.heap.size + 1 := by rw [← hW1]; simp
  have R1 : Blk W1 w.heap.size #[.slice none 0 0] 22 := by rw [← hW1]; exact Blk.new w _ _
  have hB01 : Below B w0 W1 := hB.trans (hB1.mono hBw)
  have hst := all_stops (4 : Nat) B g g2 w0 W1 t a m c hA hB01 (by omega) (TBox.b hT hB1) (Blk.below hF hB1)
  clear hT hA
  refine callsIn_of_wp_marks Try.func169 rfl trivial ?_ rfl
  simp only [Try.ntmps169, List.size_toArray, List.length_cons, List.length_nil, Nat.reduceAdd, Nat.reduceSub, Array.replicate_succ, Array.replicate_zero, List.push_toArray, List.append_toArray, List.nil_append, List.cons_append]
  gi_wp2
  refine wpIn_rangeFunc_ownH rfl (by decide) (gf := 173) (lb := #[.pointer (some ⟨g, 0, none⟩), .pointer (some ⟨g2, 0, none⟩)]) rfl trivial (enters_of Try.func173 (by kernel_rfl) rfl)
    hst KpT.trans (KpT.obj (by omega)) (Below.refl _ _) (fun _ => rfl)
    (fun pre W => Coll w.heap.size pre W ∧ Below w.heap.size w W)
    (fun cd pre W => False)
    (OwnFrom.and (Own.from (coll_own _) _) (ownFrom_below (Nat.le_refl _) (by omega)))
    (fun cd _ _ _ _ hs _ _ => hs)
    ⟨⟨_, R1, OwnT.nil _ _, by simp⟩, hB1⟩
    (fun x a2 W => ∃ Bx, TBox W Bx (opT x.t) (nameT x.t) (numT x.t) x.a x.n x.c ∧ a2 = { tmps := #[.slice none 0 0, .func (.func 173) #[] #[.pointer (some ⟨g, 0, none⟩), .pointer (some ⟨g2, 0, none⟩)], .pointer (some ⟨w.heap.size, 0, none⟩), undef, .slice none 0 0, .pointer (some ⟨Bx, 0, none⟩), .func (.func 173) #[] #[.pointer (some ⟨g, 0, none⟩), .pointer (some ⟨g2, 0, none⟩)], .agg #[.int .i64 (opT x.t), .string (nameT x.t), .int .i64 (numT x.t), .slice x.a x.n x.c], undef, undef, undef, undef, undef, undef, undef], defers := [] })
    (fun x a2 _ X Y row hs hg hr => by obtain ⟨Bx, h2, h3⟩ := hs; exact ⟨Bx, own_blk Bx _ _ () X Y row h2 hg (fun r e => (hr r e).2), h3⟩)
    ?assign ?body ?done ?stop
  case assign =>
    rintro l pre x W K ⟨⟨v, hR, ho, hn⟩, hB⟩ hK
    have hb : Below W.heap.size W (W.alloc (.cells #[.int .i64 (opT x.t), .string (nameT x.t), .int .i64 (numT x.t), .slice x.a x.n x.c] 24)) := bel_alloc (Below.refl _ _) _
    unfold encP
    gi_wp2
    exact hK _ _ (keepsF hb) (KpT.of_below (Nat.le_trans hBw hB.size) hb) ⟨⟨v, Blk.below hR hb, ho.below hb, hn⟩, hB.trans (hb.mono hB.size)⟩ ⟨W.heap.size, TBox.new W _ _ _ _ _ _, rfl⟩
  case body =>
    rintro l pre x a2 W hl hr ⟨⟨v, hR, ho, hn⟩, hB⟩ ⟨Bx, hX, rfl⟩ hlt
    obtain ⟨x0, x1, x2, x3⟩ := hX.four
    have r0 := Blk.cell hR 0
    have q0 := Blk.free hR 0
    obtain ⟨Wz, hWz⟩ : ∃ Wz, (W.alloc (.cells #[.int .i64 0, .string ⟨#[]⟩, .int .i64 0, .slice none 0 0] 24)).drew = Wz := ⟨_, rfl⟩
    have hbz : Below W.heap.size W Wz := by rw [← hWz]; exact (bel_alloc (Below.refl _ _) _).drew
    have hzc : TBox Wz W.heap.size 0 ⟨#[]⟩ 0 none 0 0 := by rw [← hWz]; exact Blk.below (TBox.new W 0 ⟨#[]⟩ 0 none 0 0) (Below.refl _ _).drew
    have hz : ∀ j u, (flatH [Hd.zero])[j]? = some u → Wz.cell? ((⟨W.heap.size, 0, none⟩ : Addr).add j) = some u := fun j u hj => by
      rw [Addr.add_lit, Nat.zero_add, Blk.cell hzc j, ← hj]
      have : (flatH [Hd.zero]).toArray = #[.int .i64 0, .string ⟨#[]⟩, .int .i64 0, .slice none 0 0] := rfl
      rw [← this]; simp
    have hlen : (pre.map hdP).length = pre.length := by simp
    obtain ⟨gg, cap, W4, hrun, ho4, hgr, hk4, hgb⟩ := append_zero Wz (w.heap.size + 1) v (pre.map hdP) (ho.below hbz) (by rw [hn]; simp) (by have h1 := hB.size; have h2 := hbz.size; have h3 := Blk.lt hR; omega) (by rw [hlen]; omega) W.heap.size hz
    obtain ⟨A0, c0, hv0, _, _, _, hA0⟩ := ho.slice
    rw [hlen] at hrun ho4 hv0
    have hat : pre.length < (pre.map hdP ++ [Hd.zero]).length := by simp
    obtain ⟨y0, y1, y2, y3⟩ := ho4.at hat
    have e : (pre.map hdP ++ [Hd.zero])[pre.length] = Hd.zero := by rw [List.getElem_append_right (by simp)]; simp
    rw [e] at y0 y1 y2 y3
    have yf := ho4.row.free
    have hbw : v.ownBlock ≠ some w.heap.size := by
      rcases ho.2 with ⟨rfl, _⟩ | ⟨g0, cap0, cur, rfl, hb0, _⟩
      · simp [Value.ownBlock]
      · intro e; have : g0 = w.heap.size := by simpa [Value.ownBlock] using e
        omega
    have hR4 : Blk W4 w.heap.size #[v] 22 := Blk.grown (Blk.below hR hbz) hgr (fun e => hbw e.symm)
    have r4 := Blk.cell hR4 0
    have q4 := Blk.free hR4 0
    have f0 := yf (pre.length * 4)
    have f1 := yf (pre.length * 4 + 1)
    have f2 := yf (pre.length * 4 + 2)
    have f3 := yf (pre.length * 4 + 3)
    clear yf e
    have hBz : Below w.heap.size w Wz := hB.trans (hbz.mono hB.size)
    have hrow : ∀ k, v.ownBlock = some k → w.heap.size ≤ k ∧ B ≤ k := fun k hk => by
      rcases ho.2 with ⟨rfl, _⟩ | ⟨g0, cap0, cur, rfl, hb0, _⟩
      · cases hk
      · have : g0 = k := by simpa [Value.ownBlock] using hk
        omega
    have B4 : Below w.heap.size w W4 := hBz.grown hgr hBz.size (fun k hk => (hrow k hk).1)
    have BB4 : Below B W W4 := (hbz.mono (Nat.le_trans hBw hB.size)).grown hgr (by have := hbz.size; have := hB.size; omega) (fun k hk => (hrow k hk).2)
    have K4 : KeepsFrom W1.heap.size W W4 := (keepsF hbz).trans ((KeepsOthers.of_grownBy hgr (fun j o hj hoj => by
      rcases ho.2 with ⟨rfl, _⟩ | ⟨g0, cap0, cur, rfl, hb0, hg0, _⟩
      · cases hj
      · have : g0 = j := by simpa [Value.ownBlock] using hj
        subst this
        have := (hbz.block g0 (Array.getElem?_eq_some_iff.1 hg0).1).trans hg0
        rw [this] at hoj
        injection hoj with hoj
        subst hoj
        rfl)).from _)
    have hset : (pre.map hdP ++ [Hd.zero]).set pre.length (hdP x) = (pre ++ [x]).map hdP := by
      rw [List.set_append_right _ _ (by simp)]; simp
    have hgne : gg ≠ w.heap.size := by
      rcases ho4.2 with ⟨hv, _⟩ | ⟨g', cap', cur', hv', hb', _⟩
      · cases hv
      · injection hv' with e1; injection e1 with e1; injection e1 with e1; omega
    have hggw : w.heap.size ≤ gg := by
      rcases ho4.2 with ⟨hv, _⟩ | ⟨g', cap', cur', hv', hb', _⟩
      · cases hv
      · injection hv' with e1; injection e1 with e1; injection e1 with e1; omega
    have F1 : Hid (KeepsFrom W1.heap.size W ((set4 W4 gg pre.length (hdP x)).setCell ⟨w.heap.size, 0, none⟩ (.slice (some ⟨gg, 0, none⟩) (pre.length + 1) cap)) ∧ KpT B W ((set4 W4 gg pre.length (hdP x)).setCell ⟨w.heap.size, 0, none⟩ (.slice (some ⟨gg, 0, none⟩) (pre.length + 1) cap)) ∧ Coll w.heap.size (pre ++ [x]) ((set4 W4 gg pre.length (hdP x)).setCell ⟨w.heap.size, 0, none⟩ (.slice (some ⟨gg, 0, none⟩) (pre.length + 1) cap)) ∧ Below w.heap.size w ((set4 W4 gg pre.length (hdP x)).setCell ⟨w.heap.size, 0, none⟩ (.slice (some ⟨gg, 0, none⟩) (pre.length + 1) cap))) := by
      refine ⟨K4.trans ((((((KeepsOthers.setCell _ _ _).trans (KeepsOthers.setCell _ _ _)).trans (KeepsOthers.setCell _ _ _)).trans (KeepsOthers.setCell _ _ _)).trans (KeepsOthers.setCell _ _ _)).from _), ⟨below_set (set4_below BB4 (by omega) _ _) (by omega) _ _, keep4_past hbz hk4 hgb hR (fun i h1 h2 => (heap_setCell_other _ ⟨w.heap.size, 0, none⟩ i _ h2).trans (set4_other _ _ _ _ _ h1))⟩, ⟨_, blk_cell_set ((set4_other _ _ _ _ _ (fun e => hgne e.symm)).trans hR4) _, ?_, by simp⟩, below_set (set4_below B4 hggw _ _) (Nat.le_refl _) _ _⟩
      have h1 := ho4.set pre.length (hdP x) hat
      rw [hset] at h1
      exact row_far h1 (by omega) _ _
    have F2 : Hid (KeepsFrom W1.heap.size W (set4 (W4.setCell ⟨w.heap.size, 0, none⟩ (.slice (some ⟨gg, 0, none⟩) (pre.length + 1) cap)) gg pre.length (hdP x)) ∧ KpT B W (set4 (W4.setCell ⟨w.heap.size, 0, none⟩ (.slice (some ⟨gg, 0, none⟩) (pre.length + 1) cap)) gg pre.length (hdP x)) ∧ Coll w.heap.size (pre ++ [x]) (set4 (W4.setCell ⟨w.heap.size, 0, none⟩ (.slice (some ⟨gg, 0, none⟩) (pre.length + 1) cap)) gg pre.length (hdP x)) ∧ Below w.heap.size w (set4 (W4.setCell ⟨w.heap.size, 0, none⟩ (.slice (some ⟨gg, 0, none⟩) (pre.length + 1) cap)) gg pre.length (hdP x))) := by
      refine ⟨K4.trans ((((((KeepsOthers.setCell _ _ _).trans (KeepsOthers.setCell _ _ _)).trans (KeepsOthers.setCell _ _ _)).trans (KeepsOthers.setCell _ _ _)).trans (KeepsOthers.setCell _ _ _)).from _), ⟨set4_below (below_set BB4 (by omega) _ _) (by omega) _ _, keep4_past hbz hk4 hgb hR (fun i h1 h2 => (set4_other _ _ _ _ _ h1).trans (heap_setCell_other _ ⟨w.heap.size, 0, none⟩ i _ h2))⟩, ⟨_, (set4_other _ _ _ _ _ (fun e => hgne e.symm)).trans (blk_cell_set hR4 _), ?_, by simp⟩, set4_below (below_set B4 (Nat.le_refl _) _ _) hggw _ _⟩
      have h1 := OwnT.set (row_far ho4 (by omega) 0 (.slice (some ⟨gg, 0, none⟩) (pre.length + 1) cap) : OwnT (W4.setCell ⟨w.heap.size, 0, none⟩ (.slice (some ⟨gg, 0, none⟩) (pre.length + 1) cap)) (w.heap.size + 1) _ _) pre.length (hdP x) hat
      rw [hset] at h1
      exact h1
    clear hset K4 BB4 B4 hBz hrow
    subst hv0
    have n1 : pre.length < 9223372036854775807 := by omega
    have n2 : (pre.length : Int) < (pre.length : Int) + 1 := by omega
    have hgg : w.heap.size + 1 ≤ gg := by
      rcases ho4.2 with ⟨hv, _⟩ | ⟨g', cap', cur', hv', hb', _⟩
      · cases hv
      · injection hv' with e1; injection e1 with e1; injection e1 with e1; omega
    have hg1 : ¬ gg = w.heap.size := by omega
    have hg2 : ¬ w.heap.size = gg := by omega
    gi_wp2
    obtain ⟨x0z, x1z, x2z, x3z⟩ := (TBox.b hX hbz).four
    have r0z := Blk.cell (Blk.below hR hbz) 0
    have hr22 := hrun 22
    refine wpIn_region_any (by kernel_rfl) ?_
    try (change wpAnyIn _ _ _ _ _ _ _ _ _ (World.drew _))
    refine (fun (rest : (?R : Prop)) => ?tree) ?tail
    case tree =>
      refine wpAnyIn_ready (rs := [0, 1, 3]) (by kernel_rfl) (by simp) (AllReadyIn.cons rfl (fun K hK => ?_) (AllReadyIn.cons rfl (fun K hK => ?_) (AllReadyIn.cons rfl (fun K hK => ?_) AllReadyIn.nil)))
      · go_simp
        refine hK _ _ ?_
        clear hK K
        refine wpAnyIn_ready (rs := [1, 2, 3]) (by kernel_rfl) (by simp) (AllReadyIn.cons rfl (fun K hK => ?_) (AllReadyIn.cons rfl (fun K hK => ?_) (AllReadyIn.cons rfl (fun K hK => ?_) AllReadyIn.nil)))
        · go_simp
          refine hK _ _ ?_
          clear hK K
          refine wpAnyIn_ready (rs := [2, 3]) (by kernel_rfl) (by simp) (AllReadyIn.cons rfl (fun K hK => ?_) (AllReadyIn.cons rfl (fun K hK => ?_) AllReadyIn.nil))
          · go_simp
            refine hK _ _ ?_
            clear hK K
            refine wpAnyIn_ready (rs := [3]) (by kernel_rfl) (by simp) (AllReadyIn.cons rfl (fun K hK => ?_) AllReadyIn.nil)
            · go_simp
              refine hK _ _ ?_
              clear hK K
              exact rest
          · go_simp
            refine hK _ _ ?_
            clear hK K
            refine wpAnyIn_ready (rs := [2]) (by kernel_rfl) (by simp) (AllReadyIn.cons rfl (fun K hK => ?_) AllReadyIn.nil)
            · go_simp
              refine hK _ _ ?_
              clear hK K
              exact rest
        · go_simp
          refine hK _ _ ?_
          clear hK K
          refine wpAnyIn_ready (rs := [1, 3]) (by kernel_rfl) (by simp) (AllReadyIn.cons rfl (fun K hK => ?_) (AllReadyIn.cons rfl (fun K hK => ?_) AllReadyIn.nil))
          · go_simp
            refine hK _ _ ?_
            clear hK K
            refine wpAnyIn_ready (rs := [3]) (by kernel_rfl) (by simp) (AllReadyIn.cons rfl (fun K hK => ?_) AllReadyIn.nil)
            · go_simp
              refine hK _ _ ?_
              clear hK K
              exact rest
          · go_simp
            refine hK _ _ ?_
            clear hK K
            refine wpAnyIn_ready (rs := [1]) (by kernel_rfl) (by simp) (AllReadyIn.cons rfl (fun K hK => ?_) AllReadyIn.nil)
            · go_simp
              refine hK _ _ ?_
              clear hK K
              exact rest
        · go_simp
          refine hK _ _ ?_
          clear hK K
          refine wpAnyIn_ready (rs := [1, 2]) (by kernel_rfl) (by simp) (AllReadyIn.cons rfl (fun K hK => ?_) (AllReadyIn.cons rfl (fun K hK => ?_) AllReadyIn.nil))
          · go_simp
            refine hK _ _ ?_
            clear hK K
            refine wpAnyIn_ready (rs := [2]) (by kernel_rfl) (by simp) (AllReadyIn.cons rfl (fun K hK => ?_) AllReadyIn.nil)
            · go_simp
              refine hK _ _ ?_
              clear hK K
              exact rest
          · go_simp
            refine hK _ _ ?_
            clear hK K
            refine wpAnyIn_ready (rs := [1]) (by kernel_rfl) (by simp) (AllReadyIn.cons rfl (fun K hK => ?_) AllReadyIn.nil)
            · go_simp
              refine hK _ _ ?_
              clear hK K
              exact rest
      · go_simp
        refine hK _ _ ?_
        clear hK K
        refine wpAnyIn_ready (rs := [0, 3]) (by kernel_rfl) (by simp) (AllReadyIn.cons rfl (fun K hK => ?_) (AllReadyIn.cons rfl (fun K hK => ?_) AllReadyIn.nil))
        · go_simp
          refine hK _ _ ?_
          clear hK K
          refine wpAnyIn_ready (rs := [2, 3]) (by kernel_rfl) (by simp) (AllReadyIn.cons rfl (fun K hK => ?_) (AllReadyIn.cons rfl (fun K hK => ?_) AllReadyIn.nil))
          · go_simp
            refine hK _ _ ?_
            clear hK K
            refine wpAnyIn_ready (rs := [3]) (by kernel_rfl) (by simp) (AllReadyIn.cons rfl (fun K hK => ?_) AllReadyIn.nil)
            · go_simp
              refine hK _ _ ?_
              clear hK K
              exact rest
          · go_simp
            refine hK _ _ ?_
            clear hK K
            refine wpAnyIn_ready (rs := [2]) (by kernel_rfl) (by simp) (AllReadyIn.cons rfl (fun K hK => ?_) AllReadyIn.nil)
            · go_simp
              refine hK _ _ ?_
              clear hK K
              exact rest
        · go_simp
          refine hK _ _ ?_
          clear hK K
          refine wpAnyIn_ready (rs := [0]) (by kernel_rfl) (by simp) (AllReadyIn.cons rfl (fun K hK => ?_) AllReadyIn.nil)
          · go_simp
            refine hK _ _ ?_
            clear hK K
            refine wpAnyIn_ready (rs := [2]) (by kernel_rfl) (by simp) (AllReadyIn.cons rfl (fun K hK => ?_) AllReadyIn.nil)
            · go_simp
              refine hK _ _ ?_
              clear hK K
              exact rest
      · go_simp
        refine hK _ _ ?_
        clear hK K
        refine wpAnyIn_ready (rs := [0, 1]) (by kernel_rfl) (by simp) (AllReadyIn.cons rfl (fun K hK => ?_) (AllReadyIn.cons rfl (fun K hK => ?_) AllReadyIn.nil))
        · go_simp
          refine hK _ _ ?_
          clear hK K
          refine wpAnyIn_ready (rs := [1, 2]) (by kernel_rfl) (by simp) (AllReadyIn.cons rfl (fun K hK => ?_) (AllReadyIn.cons rfl (fun K hK => ?_) AllReadyIn.nil))
          · go_simp
            refine hK _ _ ?_
            clear hK K
            refine wpAnyIn_ready (rs := [2]) (by kernel_rfl) (by simp) (AllReadyIn.cons rfl (fun K hK => ?_) AllReadyIn.nil)
            · go_simp
              refine hK _ _ ?_
              clear hK K
              exact rest
          · go_simp
            refine hK _ _ ?_
            clear hK K
            refine wpAnyIn_ready (rs := [1]) (by kernel_rfl) (by simp) (AllReadyIn.cons rfl (fun K hK => ?_) AllReadyIn.nil)
            · go_simp
              refine hK _ _ ?_
              clear hK K
              exact rest
        · go_simp
          refine hK _ _ ?_
          clear hK K
          refine wpAnyIn_ready (rs := [0]) (by kernel_rfl) (by simp) (AllReadyIn.cons rfl (fun K hK => ?_) AllReadyIn.nil)
          · go_simp
            refine hK _ _ ?_
            clear hK K
            refine wpAnyIn_ready (rs := [2]) (by kernel_rfl) (by simp) (AllReadyIn.cons rfl (fun K hK => ?_) AllReadyIn.nil)
            · go_simp
              refine hK _ _ ?_
              clear hK K
              exact rest
    case tail =>
      refine wpAnyIn_ready (rs := [4]) (by kernel_rfl) (by simp) (AllReadyIn.cons rfl (fun K hK => ?_) AllReadyIn.nil)
      rw [if_pos (show Region.wanted _ _ = true from rfl)]
      unfold Oper.wpIn
      refine ⟨by simp [Oper.about, resolve, Target.leads, Sem.run_pure], ?_⟩
      rw [Oper.semAt_plain _ _ _ (by intro c hc; cases hc)]
      simp [execOp, resolve, invoke, builtin, Act.eval, hr22, Result.andThen, Oper.uponIn]
      refine hK _ _ ?_
      clear hK K
      simp only [Act.put, List.size_toArray, List.length_cons, List.length_nil, List.setIfInBounds_toArray, List.set_cons_succ, List.set_cons_zero]
      refine wpAnyIn_ready (rs := [5, 7]) (by kernel_rfl) (by simp) (AllReadyIn.cons rfl (fun K hK => ?_) (AllReadyIn.cons rfl (fun K hK => ?_) AllReadyIn.nil))
      · go_simp
        refine hK _ _ ?_
        clear hK K
        refine wpAnyIn_ready (rs := [6, 7]) (by kernel_rfl) (by simp) (AllReadyIn.cons rfl (fun K hK => ?_) (AllReadyIn.cons rfl (fun K hK => ?_) AllReadyIn.nil))
        · go_simp
          refine hK _ _ ?_
          clear hK K
          refine wpAnyIn_ready (rs := [7]) (by kernel_rfl) (by simp) (AllReadyIn.cons rfl (fun K hK => ?_) AllReadyIn.nil)
          · go_simp
            refine hK _ _ ?_
            clear hK K
            refine wpAnyIn_done (by kernel_rfl) ?_ _
            first | exact F1.out | exact F2.out
        · go_simp
          refine hK _ _ ?_
          clear hK K
          refine wpAnyIn_ready (rs := [6]) (by kernel_rfl) (by simp) (AllReadyIn.cons rfl (fun K hK => ?_) AllReadyIn.nil)
          · go_simp
            refine hK _ _ ?_
            clear hK K
            refine wpAnyIn_done (by kernel_rfl) ?_ _
            first | exact F1.out | exact F2.out
      · go_simp
        refine hK _ _ ?_
        clear hK K
        refine wpAnyIn_ready (rs := [5]) (by kernel_rfl) (by simp) (AllReadyIn.cons rfl (fun K hK => ?_) AllReadyIn.nil)
        · go_simp
          refine hK _ _ ?_
          clear hK K
          refine wpAnyIn_ready (rs := [6]) (by kernel_rfl) (by simp) (AllReadyIn.cons rfl (fun K hK => ?_) AllReadyIn.nil)
          · go_simp
            refine hK _ _ ?_
            clear hK K
            refine wpAnyIn_done (by kernel_rfl) ?_ _
            first | exact F1.out | exact F2.out
  case done =>
    rintro D zs W hD hS ⟨⟨v, hR, ho, hn⟩, hB⟩ hK
    have c5 := Blk.cell hR 0
    have hw1 : w.heap.size ≤ W1.heap.size := hB1.size
    have hbl := belowK_b (w := w) (Nat.le_refl _) W D _ (.deferred none) (Nat.le_trans hw1 hD) hK rfl rfl
    have hrow : OwnT (W.putObj D (.deferred none)) (w.heap.size + 1) v (zs.map hdP) := World.ownsRow.kept ho (grownBy_putObj' W D (.deferred none)) (by
      rcases ho.2 with ⟨rfl, _⟩ | ⟨g0, cap0, cur, rfl, hb0, hg0, _⟩
      · exact .inl rfl
      · refine .inr (fun e => ?_)
        have : g0 = D := by simpa [Value.ownBlock] using e
        subst this
        rw [hg0] at hK; cases hK)
    gi_wp2
    refine ⟨by simp, .inl ⟨_, _, rfl, run_takeDeferred hK, ?_⟩⟩
    exact ⟨_, results_tmp rfl _ _ _, v, rfl, ⟨zs, hS, hrow.base (by omega)⟩, hB.trans hbl⟩
  case stop =>
    rintro D cd pre W hD hS h hK
    exact h.elim
end Go.Proofs.Ytbmniajimkondaa.T
namespace Go.Proofs.Ytbmniajimkondaa.T
open Go.RowKit L
set_option linter.unusedVariables false
set_option linter.unusedSimpArgs false

def dft : Tm := .mk 0 ⟨#[]⟩ 0 []
def atL (l : List Tm) (i : Nat) : Tm := l.getD i dft
theorem atL_some {l : List Tm} {i : Nat} {t : Tm} (h : l[i]? = some t) : atL l i = t := by unfold atL; rw [List.getD_eq_getElem?_getD, h]; rfl

set_option maxRecDepth 100000 in
set_option maxHeartbeats 4000000 in
theorem firsts1_any (gc gl : Nat) (A : Option Addr) (n c : Nat) (l : List Tm) (i j : Nat) (w : World) (hgc : Blk w gc #[.func (.func 54) #[] #[]] 68) (hg : Blk w gl #[.slice A n c] 22) (hT : TsW w A n c l) (hi : i < n) (hj : j < n) :
    Calls Try.prog 163 #[.int .i64 i, .int .i64 j, .pointer (some ⟨gc, 0, none⟩), .pointer (some ⟨gl, 0, none⟩)] w fun e w' => e = .returned (.int .i64 (cmpT (atL l i) (atL l j))) ∧ Below w.heap.size w w' := by
  obtain ⟨bb, o, t, A1, M, Cc, rfl, hb, y0, y1, y2, y3, hx, hok⟩ := hT.at hi
  obtain ⟨bb', o', u, A', M', Cc', h2, hb', z0, z1, z2, z3, hx', hok'⟩ := hT.at hj
  injection h2 with h2
  injection h2 with h2 h3
  subst h2 h3
  rw [atL_some hx, atL_some hx']
  have hn : n ≤ 9223372036854775807 := by have h1 := hT.2.1; have h2 := hT.2.2.1; unfold maxLen at h2; omega
  have hBd : Below w.heap.size w w.drew := (Below.refl _ _).drew
  have cs := Compare_any t u A1 M Cc A' M' Cc' w.drew (ArW.b hok hBd) (ArW.b hok' hBd)
  have lg := Blk.lt hg
  have c0 := Blk.cell hg 0
  have lc := Blk.lt hgc
  have cc0 := Blk.cell hgc 0
  clear hx hx' hok hok' hT
  generalize cmpT t u = R at *
  generalize opT t = op2 at *
  generalize nameT t = nm2 at *
  generalize numT t = nu2 at *
  generalize opT u = op3 at *
  generalize nameT u = nm3 at *
  generalize numT u = nu3 at *
  have hi0 : 0 ≤ (i : Int) := by omega
  have hi1 : (i : Int) < (n : Int) := by omega
  have hj0 : 0 ≤ (j : Int) := by omega
  have hj1 : (j : Int) < (n : Int) := by omega
  go_enter Try.func163, Try.ntmps163
  go_wp2_with fail
  go_region_held3 (fun w' => w'.cell? ⟨gc, 0, none⟩ = some (.func (.func 54) #[] #[]) ∧ w'.cell? ⟨gl, 0, none⟩ = some (.slice (some ⟨bb, o, none⟩) n c) ∧ w'.cell? ⟨bb, o + i * 4, none⟩ = some (.int .i64 op2) ∧ w'.cell? ⟨bb, o + i * 4 + 1, none⟩ = some (.string nm2) ∧ w'.cell? ⟨bb, o + i * 4 + 1 + 1, none⟩ = some (.int .i64 nu2) ∧ w'.cell? ⟨bb, o + i * 4 + 1 + 1 + 1, none⟩ = some (.slice A1 M Cc) ∧ w'.cell? ⟨bb, o + j * 4, none⟩ = some (.int .i64 op3) ∧ w'.cell? ⟨bb, o + j * 4 + 1, none⟩ = some (.string nm3) ∧ w'.cell? ⟨bb, o + j * 4 + 1 + 1, none⟩ = some (.int .i64 nu3) ∧ w'.cell? ⟨bb, o + j * 4 + 1 + 1 + 1, none⟩ = some (.slice A' M' Cc'))
    (first | go_keep | (exact ⟨(B4.cell lc).trans cc0, (B4.cell lg).trans c0, (B4.cell hb).trans y0, (B4.cell hb).trans y1, (B4.cell hb).trans y2, (B4.cell hb).trans y3, (B4.cell hb).trans z0, (B4.cell hb).trans z1, (B4.cell hb).trans z2, (B4.cell hb).trans z3⟩))
    (first | (go_at_call 54; ((with_reducible refine cs.mono ?_); rintro e w4 ⟨rfl, hb4⟩; have B4 := bel_trans hBd hb4)))
  go_wp2
  go_ret
  exact ⟨rfl, B4⟩
set_option maxRecDepth 100000 in
set_option maxHeartbeats 4000000 in
theorem firsts2_any (gc gl : Nat) (A : Option Addr) (n c : Nat) (l : List Tm) (i j : Nat) (w : World) (hgc : Blk w gc #[.func (.func 54) #[] #[]] 68) (hg : Blk w gl #[.slice A n c] 22) (hT : TsW w A n c l) (hi : i < n) (hj : j < n) :
    Calls Try.prog 165 #[.int .i64 i, .int .i64 j, .pointer (some ⟨gc, 0, none⟩), .pointer (some ⟨gl, 0, none⟩)] w fun e w' => e = .returned (.bool (eqT (atL l i) (atL l j))) ∧ Below w.heap.size w w' := by
  obtain ⟨bb, o, t, A1, M, Cc, rfl, hb, y0, y1, y2, y3, hx, hok⟩ := hT.at hi
  obtain ⟨bb', o', u, A', M', Cc', h2, hb', z0, z1, z2, z3, hx', hok'⟩ := hT.at hj
  injection h2 with h2
  injection h2 with h2 h3
  subst h2 h3
  rw [atL_some hx, atL_some hx']
  have hn : n ≤ 9223372036854775807 := by have h1 := hT.2.1; have h2 := hT.2.2.1; unfold maxLen at h2; omega
  have hBd : Below w.heap.size w w.drew := (Below.refl _ _).drew
  have cs := Compare_any t u A1 M Cc A' M' Cc' w.drew (ArW.b hok hBd) (ArW.b hok' hBd)
  have lg := Blk.lt hg
  have c0 := Blk.cell hg 0
  have lc := Blk.lt hgc
  have cc0 := Blk.cell hgc 0
  clear hx hx' hok hok' hT
  have he : eqT t u = (cmpT t u == 0) := by rw [Bool.eq_iff_iff, eqT_iff, beq_iff_eq, linT.eq]
  rw [he]
  clear he
  generalize cmpT t u = R at *
  generalize opT t = op2 at *
  generalize nameT t = nm2 at *
  generalize numT t = nu2 at *
  generalize opT u = op3 at *
  generalize nameT u = nm3 at *
  generalize numT u = nu3 at *
  have hi0 : 0 ≤ (i : Int) := by omega
  have hi1 : (i : Int) < (n : Int) := by omega
  have hj0 : 0 ≤ (j : Int) := by omega
  have hj1 : (j : Int) < (n : Int) := by omega
  go_enter Try.func165, Try.ntmps165
  go_wp2_with fail
  go_region_held3 (fun w' => w'.cell? ⟨gc, 0, none⟩ = some (.func (.func 54) #[] #[]) ∧ w'.cell? ⟨gl, 0, none⟩ = some (.slice (some ⟨bb, o, none⟩) n c) ∧ w'.cell? ⟨bb, o + i * 4, none⟩ = some (.int .i64 op2) ∧ w'.cell? ⟨bb, o + i * 4 + 1, none⟩ = some (.string nm2) ∧ w'.cell? ⟨bb, o + i * 4 + 1 + 1, none⟩ = some (.int .i64 nu2) ∧ w'.cell? ⟨bb, o + i * 4 + 1 + 1 + 1, none⟩ = some (.slice A1 M Cc) ∧ w'.cell? ⟨bb, o + j * 4, none⟩ = some (.int .i64 op3) ∧ w'.cell? ⟨bb, o + j * 4 + 1, none⟩ = some (.string nm3) ∧ w'.cell? ⟨bb, o + j * 4 + 1 + 1, none⟩ = some (.int .i64 nu3) ∧ w'.cell? ⟨bb, o + j * 4 + 1 + 1 + 1, none⟩ = some (.slice A' M' Cc'))
    (first | go_keep | (exact ⟨(B4.cell lc).trans cc0, (B4.cell lg).trans c0, (B4.cell hb).trans y0, (B4.cell hb).trans y1, (B4.cell hb).trans y2, (B4.cell hb).trans y3, (B4.cell hb).trans z0, (B4.cell hb).trans z1, (B4.cell hb).trans z2, (B4.cell hb).trans z3⟩))
    (first | (go_at_call 54; ((with_reducible refine cs.mono ?_); rintro e w4 ⟨rfl, hb4⟩; have B4 := bel_trans hBd hb4)))
  go_wp2
  go_ret
  exact ⟨rfl, B4⟩
end Go.Proofs.Ytbmniajimkondaa.T
namespace Go.Proofs.Ytbmniajimkondaa.T
open Go.RowKit Go.Shelf L
set_option linter.unusedVariables false
set_option linter.unusedSimpArgs false
attribute [local go_sem] Oper.semAt_some

set_option maxHeartbeats 4000000 in
theorem refSize_any (t : Tm) (a : Option Addr) (m c : Nat) (w : World) (hA : ArW w t a m c) :
    Calls Try.prog 17 #[.agg #[.int .i64 (opT t), .string (nameT t), .int .i64 (numT t), .slice a m c]] w fun e w' => e = .returned (.int .i64 ((min (size t) 4097 : Nat) : Int)) ∧ Below w.heap.size w w' := by
  obtain ⟨W2, hW2, hB2, hs2, S2⟩ := box1 w (opT t) (nameT t) (numT t) a m c
  have cS := Size_any t a m c 4096 W2 (by omega) (ArW.b hA hB2)
  rw [show ((4096 : Nat) : Int) = 4096 from rfl] at cS
  obtain ⟨s0, s1, s2, s3⟩ := S2.four
  have h1 := szTo_min t 4096
  clear S2 hA
  generalize szTo 4096 t = sz at *
  have H1 := Lib.hid (show ((min sz 4097 : Nat) : Int) = ((min (size t) 4097 : Nat) : Int) by rw [show (4097 : Nat) = 4096 + 1 from rfl, h1])
  clear h1
  generalize ((min (size t) 4097 : Nat) : Int) = R at *
  generalize opT t = op at *
  generalize nameT t = nm at *
  generalize numT t = nu at *
  go_enter Try.func17, Try.ntmps17
  go_wp2_with (go_at_call 12; ((with_reducible refine cS.mono ?_); rintro e W5 ⟨rfl, hb5⟩))
  all_goals go_ret
  all_goals exact ⟨one (by rw [← H1.out]; omega), bel_trans hB2 hb5⟩
end Go.Proofs.Ytbmniajimkondaa.T
namespace Go.Proofs.Ytbmniajimkondaa.T
open Go.RowKit L
set_option linter.unusedVariables false
set_option linter.unusedSimpArgs false

/-! insertion, from the right -/
def insRev (c : Nat → Nat → Int) (x : Nat) : List Nat → List Nat
  | [] => [x]
  | y :: l => if c x y < 0 then y :: insRev c x l else x :: y :: l
def isortR (c : Nat → Nat → Int) (acc : List Nat) (l : List Nat) : List Nat := l.foldl (fun a x => insRev c x a) acc
theorem insRev_len (c : Nat → Nat → Int) (x : Nat) : ∀ l : List Nat, (insRev c x l).length = l.length + 1
  | [] => rfl
  | y :: l => by rw [insRev]; split <;> simp [insRev_len c x l]
theorem insRev_perm (c : Nat → Nat → Int) (x : Nat) : ∀ l : List Nat, (insRev c x l).Perm (x :: l)
  | [] => List.Perm.refl _
  | y :: l => by
    rw [insRev]; split
    · exact ((insRev_perm c x l).cons y).trans (List.Perm.swap _ _ _)
    · exact List.Perm.refl _
theorem isortR_len (c : Nat → Nat → Int) : ∀ (l acc : List Nat), (isortR c acc l).length = acc.length + l.length
  | [], acc => by simp [isortR]
  | x :: l, acc => by
    have := isortR_len c l (insRev c x acc)
    rw [insRev_len] at this
    simp only [isortR, List.foldl_cons, List.length_cons] at this ⊢
    omega
theorem isortR_snoc (c : Nat → Nat → Int) (acc l : List Nat) (x : Nat) : isortR c acc (l ++ [x]) = insRev c x (isortR c acc l) := by simp [isortR]
theorem isortR_perm (c : Nat → Nat → Int) : ∀ (l acc : List Nat), (isortR c acc l).Perm (acc ++ l)
  | [], acc => by simp [isortR]
  | x :: l, acc => by
    have h := isortR_perm c l (insRev c x acc)
    refine (show (isortR c acc (x :: l)).Perm (insRev c x acc ++ l) from h).trans ?_
    refine ((insRev_perm c x acc).append_right l).trans ?_
    exact (List.perm_middle (a := x) (l₁ := acc) (l₂ := l)).symm

/-! a row of places -/
def RowN (w : World) (g : Nat) (zs : List Nat) : Prop := Blk w g (zs.map (fun z : Nat => Value.int .i64 (z : Int))).toArray 3
theorem RowN.at {w : World} {g : Nat} {zs : List Nat} (h : RowN w g zs) {k z : Nat} (hk : zs[k]? = some z) : w.cell? ⟨g, k, none⟩ = some (.int .i64 z) := by
  rw [Blk.cell h k]
  simp [hk]
theorem RowN.set {w : World} {g : Nat} {zs : List Nat} (h : RowN w g zs) (k z : Nat) : RowN (w.setCell ⟨g, k, none⟩ (.int .i64 z)) g (zs.set k z) := by
  have := Blk.set h k (.int .i64 (z : Int))
  unfold RowN
  rw [List.map_set]
  simpa using this
theorem swap_list (X T : List Nat) (x y : Nat) : ((X ++ y :: x :: T).set (X.length + 1) y).set X.length x = X ++ x :: y :: T := by
  rw [List.set_append_right _ _ (by omega), List.set_append_right _ _ (by omega)]
  simp
theorem swap_list2 (X T : List Nat) (x y : Nat) : ((X ++ y :: x :: T).set X.length x).set (X.length + 1) y = X ++ x :: y :: T := by
  rw [List.set_append_right _ _ (by omega), List.set_append_right _ _ (by omega)]
  simp

theorem gr_drewN {W0 W : World} {g : Nat} (h : W0.grownBy W (some g)) (n : Nat) : W0.grownBy (W.drewN n) (some g) := h.trans ⟨rfl, rfl, rfl, Nat.le_refl _, fun _ _ _ => rfl⟩
theorem gr_drew {W0 W : World} {g : Nat} (h : W0.grownBy W (some g)) : W0.grownBy W.drew (some g) := h.trans ⟨rfl, rfl, rfl, Nat.le_refl _, fun _ _ _ => rfl⟩
theorem gr_of_below {W W' : World} {g : Nat} (h : Below W.heap.size W W') (ht : W'.tape = W.tape) : W.grownBy W' (some g) := ⟨h.os, ht, h.output, h.size, fun k hk _ => h.block k hk⟩
/-- what a sort's comparison is: the closure, in every world that has what lies below the row -/
def CmpIn (g gc gl n : Nat) (l : List Tm) (w0 : World) : Prop := ∀ (i j : Nat) (w : World), Below g w0 w → g ≤ w.heap.size → i < n → j < n →
  Calls Try.prog 163 #[.int .i64 i, .int .i64 j, .pointer (some ⟨gc, 0, none⟩), .pointer (some ⟨gl, 0, none⟩)] w fun e w' => e = .returned (.int .i64 (cmpT (atL l i) (atL l j))) ∧ Below w.heap.size w w'

set_option maxRecDepth 100000 in
set_option maxHeartbeats 8000000 in
theorem insertion_any (g gc gl n : Nat) (l : List Tm) (w0 : World) (hc : CmpIn g gc gl n l w0) (pre seg post : List Nat) (hlt : ∀ z ∈ pre ++ seg ++ post, z < n) (N cap : Nat) (hN : N = (pre ++ seg ++ post).length) (hN2 : N ≤ 1000000) (w : World) (hb : Below g w0 w) (hr : RowN w g (pre ++ seg ++ post)) :
    Calls Try.prog 238 #[.slice (some ⟨g, 0, none⟩) N cap, .int .i64 pre.length, .int .i64 ((pre.length : Int) + (seg.length : Int)), .func (.func 163) #[] #[.pointer (some ⟨gc, 0, none⟩), .pointer (some ⟨gl, 0, none⟩)]] w fun e w' => (∃ v, e = .returned v) ∧ RowN w' g (pre ++ (isortR (fun i j => cmpT (atL l i) (atL l j)) [] seg).reverse ++ post) ∧ w.grownBy w' (some g) := by
  have hg := Blk.lt hr
  have HC := Lib.hid hc
  have Hlt := Lib.hid hlt
  generalize hcf : (fun i j => cmpT (atL l i) (atL l j)) = cf at *
  have hcf2 : ∀ i j, cmpT (atL l i) (atL l j) = cf i j := fun i j => by rw [← hcf]
  have Hcf := Lib.hid hcf2
  clear hc hlt hcf hcf2
  have H0 : Hid (RowN w g (pre ++ (isortR cf [] (seg.take 1)).reverse ++ (seg.drop 1 ++ post))) := by
    cases seg with
    | nil => show RowN w g _; simpa [isortR] using hr
    | cons x s => show RowN w g _; simpa [isortR, insRev] using hr
  have hl1 : pre.length ≤ 1000000 := by simp at hN; omega
  have hl2 : pre.length + seg.length ≤ 1000000 := by simp at hN; omega
  have HN := Lib.hid hN
  clear hr hN
  go_enter Try.func238, Try.ntmps238
  go_wp2
  go_loopw [8] (fun i wr0 => ∃ (wr : World) (m : Nat), wr = wr0 ∧ 1 ≤ m ∧ (m ≤ seg.length ∨ m = 1) ∧ i = .int .i64 ((pre.length : Int) + (m : Int)) ∧ w.grownBy wr (some g) ∧ Hid (RowN wr g (pre ++ (isortR cf [] (seg.take m)).reverse ++ (seg.drop m ++ post)))) (fun i _ => pre.length + seg.length - (intOf i).toNat)
  case atStart => exact ⟨_, 1, rfl, by omega, .inr rfl, rfl, World.grownBy.refl _ _, H0⟩
  case round =>
    obtain ⟨wr, m, rfl, hm1, hm2, rfl, hG, hR⟩ := hrel
    by_cases hlt : m < seg.length
    · have hx : seg[m]? = some seg[m] := List.getElem?_eq_getElem hlt
      obtain ⟨x, hxx⟩ : ∃ x, seg[m] = x := ⟨_, rfl⟩
      rw [hxx] at hx
      obtain ⟨P0, hP0⟩ : ∃ P0, isortR cf [] (seg.take m) = P0 := ⟨_, rfl⟩
      obtain ⟨rest, hrest⟩ : ∃ rest, seg.drop (m + 1) ++ post = rest := ⟨_, rfl⟩
      have hlen0 : P0.length = m := by rw [← hP0, isortR_len]; simp; omega
      have hd : seg.drop m ++ post = x :: rest := by rw [← hrest, ← hxx, ← List.cons_append, ← List.drop_eq_getElem_cons hlt]
      have hins : insRev cf x P0 = isortR cf [] (seg.take (m + 1)) := by
        rw [List.take_add_one, hx, ← hP0]
        exact (isortR_snoc cf [] _ x).symm
      have hR0 : Hid (RowN wr g (pre ++ P0.reverse ++ x :: ([] ++ rest))) := by
        have := hR.out
        rw [hP0, hd] at this
        exact this
      have Hfin := Lib.hid (show ∀ (P Q : List Nat) (W : World), (insRev cf x P).reverse ++ Q = (insRev cf x P0).reverse → (insRev cf x P).reverse = P.reverse ++ [x] → RowN W g (pre ++ P.reverse ++ x :: (Q ++ rest)) → RowN W g (pre ++ (isortR cf [] (seg.take (m + 1))).reverse ++ (seg.drop (m + 1) ++ post)) from fun P Q W h1 h2 h3 => by
        rw [← hins, ← h1, h2, hrest]
        simpa using h3)
      have Hall := Lib.hid (show ∀ (P Q : List Nat), (insRev cf x P).reverse ++ Q = (insRev cf x P0).reverse → ∀ y ∈ x :: P, y < n from fun P Q h1 y hy => by
        have h2 : y ∈ (insRev cf x P0).reverse := by
          rw [← h1]
          refine List.mem_append_left _ (List.mem_reverse.2 ((insRev_perm cf x P).mem_iff.2 hy))
        rw [List.mem_reverse, hins] at h2
        have h3 := (isortR_perm cf (seg.take (m + 1)) []).mem_iff.1 h2
        exact Hlt.out y (List.mem_append_left _ (List.mem_append_right _ (List.take_subset _ _ (by simpa using h3)))))
      have Hlq := Lib.hid (show ∀ (P Q : List Nat), (insRev cf x P).reverse ++ Q = (insRev cf x P0).reverse → P.length + Q.length = m from fun P Q h1 => by
        have := congrArg List.length h1
        rw [List.length_append, List.length_reverse, List.length_reverse, insRev_len, insRev_len] at this
        omega)
      have Hlen0 := Lib.hid hlen0
      clear hx hxx hP0 hrest hd hins hR hlen0
      have hpm : (pre.length : Int) + m < pre.length + seg.length := by omega
      go_wp2
      go_loopw [9] (fun i wr0 => ∃ (w2 : World) (P Q : List Nat), w2 = wr0 ∧ i = .int .i64 ((pre.length : Int) + (P.length : Int)) ∧ w.grownBy w2 (some g) ∧ Hid ((insRev cf x P).reverse ++ Q = (insRev cf x P0).reverse ∧ RowN w2 g (pre ++ P.reverse ++ x :: (Q ++ rest)))) (fun i _ => (intOf i).toNat)
      case atStart => exact ⟨_, P0, [], rfl, by rw [Hlen0.out], hG, Lib.hid ⟨by simp, hR0.out⟩⟩
      case round =>
        obtain ⟨w2, P, Q, rfl, rfl, hG2, hR2⟩ := hrel
        have hlq := Hlq.out P Q hR2.out.1
        cases P with
        | nil =>
          have Hn := Lib.hid (Hfin.out [] Q w2 hR2.out.1 rfl hR2.out.2)
          have hpl : (pre.length : Int) + (([] : List Nat).length : Int) = (pre.length : Int) := by simp
          rw [hpl]
          clear hpl hlq
          have hgd : ¬ (pre.length : Int) < (pre.length : Int) := by omega
          clear hR2
          go_wp2_with fail
          go_quiet (fail)
          go_wp2
          go_roundw
          case rel => exact ⟨_, m + 1, rfl, by omega, by omega, by go_num, gr_drewN hG2 _, Lib.hid (show RowN _ _ _ from Hn.out)⟩
          case measure => simp [intOf]; omega
        | cons y P =>
          have hxn := Hall.out (y :: P) Q hR2.out.1 x (by simp)
          have hyn := Hall.out (y :: P) Q hR2.out.1 y (by simp)
          have hrow := hR2.out.2
          have hX : (pre ++ (y :: P).reverse ++ x :: (Q ++ rest)) = (pre ++ P.reverse) ++ y :: x :: (Q ++ rest) := by simp
          rw [hX] at hrow
          have hXl : (pre ++ P.reverse).length = pre.length + P.length := by simp
          obtain ⟨k, hk⟩ : ∃ k, pre.length + P.length = k := ⟨_, rfl⟩
          have e0 : ((pre ++ P.reverse) ++ y :: x :: (Q ++ rest))[k]? = some y := by rw [List.getElem?_append_right (by omega), hXl, hk, Nat.sub_self]; rfl
          have e1 : ((pre ++ P.reverse) ++ y :: x :: (Q ++ rest))[k + 1]? = some x := by rw [List.getElem?_append_right (by omega), hXl, hk, Nat.add_sub_cancel_left]; rfl
          have c0 := hrow.at e0
          have c1 := hrow.at e1
          have q0 := Blk.free hrow k
          have q1 := Blk.free hrow (k + 1)
          have hsw1 := Lib.hid (show ∀ W, RowN W g ((pre ++ P.reverse) ++ y :: x :: (Q ++ rest)) → RowN ((W.setCell ⟨g, k + 1, none⟩ (.int .i64 y)).setCell ⟨g, k, none⟩ (.int .i64 x)) g (pre ++ P.reverse ++ x :: (y :: Q ++ rest)) from fun W h => by
            have h1 := (h.set (k + 1) y).set k x
            rw [← hk, ← hXl, swap_list] at h1
            rw [← hk, ← hXl]; exact h1)
          have hsw2 := Lib.hid (show ∀ W, RowN W g ((pre ++ P.reverse) ++ y :: x :: (Q ++ rest)) → RowN ((W.setCell ⟨g, k, none⟩ (.int .i64 x)).setCell ⟨g, k + 1, none⟩ (.int .i64 y)) g (pre ++ P.reverse ++ x :: (y :: Q ++ rest)) from fun W h => by
            have h1 := (h.set k x).set (k + 1) y
            rw [← hk, ← hXl, swap_list2] at h1
            rw [← hk, ← hXl]; exact h1)
          have hkk := Lib.hid hk
          have hpl : (pre.length : Int) + ((y :: P).length : Int) = (k : Int) + 1 := by simp; omega
          rw [hpl]
          have hg2 := Blk.lt hrow
          have hB2 : Below g w0 w2.drew := (hb.trans (gr_below hG2 (Nat.le_of_lt hg) (Nat.le_refl _))).drew
          have cC := HC.out x y w2.drew hB2 (Nat.le_of_lt hg2) hxn hyn
          rw [Hcf.out] at cC
          have hkn : (pre.length : Int) < (k : Int) + 1 := by omega
          have hkN : (k : Int) + 1 < (N : Int) := by
            have h1 := HN.out
            have h2 := congrArg List.length (show (pre ++ seg ++ post) = (pre ++ seg ++ post) from rfl)
            have h3 : P.length + 1 + Q.length = m := by simpa using hlq
            simp at h1
            omega
          have hwr : IntKind.i64.wrap ((k : Int) + 1 - 1) = (k : Int) := by rw [IntKind.wrap_i64]; omega
          have hwr2 : IntKind.i64.wrap (k : Int) = (k : Int) := by rw [IntKind.wrap_i64]; omega
          have hk0 : 0 ≤ (k : Int) := by omega
          have hk1 : 0 ≤ (k : Int) + 1 := by omega
          have hkN0 : (k : Int) < (N : Int) := by omega
          have hB2d : Below w2.heap.size w2 w2.drew := (Below.refl _ _).drew
          have HR2 := Lib.hid hR2.out.1
          have Hrow := Lib.hid hrow
          clear hR2 hrow hX e0 e1 hlq hpl hXl hk
          by_cases hneg : cf x y < 0
          · have hi2 : Hid ((insRev cf x P).reverse ++ (y :: Q) = (insRev cf x P0).reverse) := by
              have h1 := HR2.out
              rw [insRev, if_pos hneg] at h1
              show _ = _
              rw [← h1]; simp
            generalize cf x y = R at *
            go_wp2_with fail
            go_region_held3 (fun w' => w'.cell? ⟨g, k, none⟩ = some (.int .i64 y) ∧ w'.cell? ⟨g, k + 1, none⟩ = some (.int .i64 x))
              (first | go_keep | (exact ⟨(B4.cell hg2).trans c0, (B4.cell hg2).trans c1⟩))
              (first | (go_at_call 163; ((with_reducible refine cC.mono ?_); rintro e w4 ⟨rfl, hb4⟩; have B4 := bel_trans hB2d hb4; have H4 := Lib.hid (Blk.below Hrow.out B4); have z0 := (B4.cell (p := ⟨g, k, none⟩) hg2).trans c0; have z1 := (B4.cell (p := ⟨g, k + 1, none⟩) hg2).trans c1; have p0 := (B4.frozen (p := ⟨g, k, none⟩) hg2).trans q0; have p1 := (B4.frozen (p := ⟨g, k + 1, none⟩) hg2).trans q1)))
            have hg4 : w2.grownBy w4 (some g) := gr_of_below B4 B4.tape
            go_wp2
            go_region
            go_wp2
            exact ⟨⟨_, P, y :: Q, rfl, by congr 1; have := hkk.out; omega, gr_drew (gr_set (gr_set (hG2.trans hg4) _ _) _ _), Lib.hid ⟨hi2.out, hsw1.out _ H4.out⟩⟩, by simp [intOf] <;> omega⟩
          · have Hn := Lib.hid (Hfin.out (y :: P) Q · HR2.out (by rw [insRev, if_neg hneg]; simp))
            generalize cf x y = R at *
            go_wp2_with fail
            go_region_held3 (fun w' => w'.cell? ⟨g, k, none⟩ = some (.int .i64 y) ∧ w'.cell? ⟨g, k + 1, none⟩ = some (.int .i64 x))
              (first | go_keep | (exact ⟨(B4.cell hg2).trans c0, (B4.cell hg2).trans c1⟩))
              (first | (go_at_call 163; ((with_reducible refine cC.mono ?_); rintro e w4 ⟨rfl, hb4⟩; have B4 := bel_trans hB2d hb4; have H4 := Lib.hid (Blk.below Hrow.out B4); have z0 := (B4.cell (p := ⟨g, k, none⟩) hg2).trans c0; have z1 := (B4.cell (p := ⟨g, k + 1, none⟩) hg2).trans c1; have p0 := (B4.frozen (p := ⟨g, k, none⟩) hg2).trans q0; have p1 := (B4.frozen (p := ⟨g, k + 1, none⟩) hg2).trans q1)))
            have hg4 : w2.grownBy w4 (some g) := gr_of_below B4 B4.tape
            go_wp2
            go_roundw
            case rel => exact ⟨_, m + 1, rfl, by omega, by omega, by go_num, hG2.trans hg4, Lib.hid (Hn.out _ (by
              have h := H4.out
              rw [show pre ++ (y :: P).reverse ++ x :: (Q ++ rest) = (pre ++ P.reverse) ++ y :: x :: (Q ++ rest) by simp]
              exact h))⟩
            case measure => simp [intOf]; omega
    · have Hn : Hid (RowN wr g (pre ++ (isortR cf [] seg).reverse ++ post)) := by
        have h := hR.out
        rw [List.take_of_length_le (by omega), List.drop_eq_nil_of_le (by omega)] at h
        exact h
      have hpm : ¬ (pre.length : Int) + m < pre.length + seg.length := by omega
      clear hR
      go_wp2
      go_end0
      exact ⟨⟨_, rfl⟩, by (have h := Hn.out; rwa [List.append_assoc] at h), hG⟩
end Go.Proofs.Ytbmniajimkondaa.T
namespace Go.Proofs.Ytbmniajimkondaa.T
open Go.RowKit L
set_option linter.unusedVariables false
set_option linter.unusedSimpArgs false

set_option maxRecDepth 100000 in
set_option maxHeartbeats 8000000 in
theorem stable_few (g gc gl n : Nat) (l : List Tm) (w0 : World) (hc : CmpIn g gc gl n l w0) (zs : List Nat) (hlt : ∀ z ∈ zs, z < n) (N cap : Nat) (hN : N = zs.length) (hN2 : N < 20) (w : World) (hb : Below g w0 w) (hr : RowN w g zs) :
    Calls Try.prog 211 #[.slice (some ⟨g, 0, none⟩) N cap, .int .i64 N, .func (.func 163) #[] #[.pointer (some ⟨gc, 0, none⟩), .pointer (some ⟨gl, 0, none⟩)]] w fun e w' => (∃ v, e = .returned v) ∧ RowN w' g (isortR (fun i j => cmpT (atL l i) (atL l j)) [] zs).reverse ∧ w.grownBy w' (some g) := by
  have cI := insertion_any g gc gl n l w0 hc [] zs [] (by simpa using hlt) N cap (by simpa using hN) (by omega) w hb (by simpa using hr)
  simp only [List.length_nil, List.nil_append, List.append_nil] at cI
  rw [show ((0 : Nat) : Int) = 0 from rfl, Int.zero_add, ← hN] at cI
  have h1 : ¬ (20 : Int) ≤ (N : Int) := by omega
  have h2 : ¬ (20 : Int) < (N : Int) := by omega
  clear hr hc hlt hN
  generalize (isortR (fun i j => cmpT (atL l i) (atL l j)) [] zs).reverse = Z at *
  go_enter Try.func211, Try.ntmps211
  go_wp2
  refine wp_loop_rounds 1 ?_
  rw [rounds_succ]
  go_wp2_with (go_at_call 238; ((with_reducible refine cI.mono ?_); rintro e w1 ⟨⟨v, rfl⟩, hR, hG⟩; have HR := Lib.hid hR; clear hR))
  refine wp_loop_rounds 1 ?_
  rw [rounds_succ]
  go_wp2
  go_end0
  exact ⟨⟨_, rfl⟩, HR.out, hG⟩
theorem stableFunc_few (g gc gl n : Nat) (l : List Tm) (w0 : World) (hc : CmpIn g gc gl n l w0) (zs : List Nat) (hlt : ∀ z ∈ zs, z < n) (N cap : Nat) (hN : N = zs.length) (hN2 : N < 20) (w : World) (hb : Below g w0 w) (hr : RowN w g zs) :
    Calls Try.prog 162 #[.slice (some ⟨g, 0, none⟩) N cap, .func (.func 163) #[] #[.pointer (some ⟨gc, 0, none⟩), .pointer (some ⟨gl, 0, none⟩)]] w fun e w' => (∃ v, e = .returned v) ∧ RowN w' g (isortR (fun i j => cmpT (atL l i) (atL l j)) [] zs).reverse ∧ w.grownBy w' (some g) := by
  have cI := stable_few g gc gl n l w0 hc zs hlt N cap hN hN2 w hb hr
  clear hr hc hlt hN
  generalize (isortR (fun i j => cmpT (atL l i) (atL l j)) [] zs).reverse = Z at *
  go_enter Try.func162, Try.ntmps162
  go_wp2_with (go_at_call 211; ((with_reducible refine cI.mono ?_); rintro e w1 ⟨⟨v, rfl⟩, hR, hG⟩; have HR := Lib.hid hR; clear hR))
  go_end0
  exact ⟨⟨_, rfl⟩, HR.out, hG⟩
def EqIn (g gc gl n : Nat) (l : List Tm) (w0 : World) : Prop := ∀ (i j : Nat) (w : World), Below g w0 w → g ≤ w.heap.size → i < n → j < n →
  Calls Try.prog 165 #[.int .i64 i, .int .i64 j, .pointer (some ⟨gc, 0, none⟩), .pointer (some ⟨gl, 0, none⟩)] w fun e w' => e = .returned (.bool (eqT (atL l i) (atL l j))) ∧ Below w.heap.size w w'

set_option maxRecDepth 100000 in
set_option maxHeartbeats 8000000 in
theorem compact_apart (g gc gl n : Nat) (l : List Tm) (w0 : World) (hc : EqIn g gc gl n l w0) (zs : List Nat) (hlt : ∀ z ∈ zs, z < n) (hne : ∀ k x y, zs[k]? = some x → zs[k + 1]? = some y → eqT (atL l y) (atL l x) = false) (N cap : Nat) (hN : N = zs.length) (hN2 : N ≤ 1000000) (w : World) (hb : Below g w0 w) (hr : RowN w g zs) :
    Calls Try.prog 164 #[.slice (some ⟨g, 0, none⟩) N cap, .func (.func 165) #[] #[.pointer (some ⟨gc, 0, none⟩), .pointer (some ⟨gl, 0, none⟩)]] w fun e w' => e = .returned (.slice (some ⟨g, 0, none⟩) N cap) ∧ RowN w' g zs ∧ w.grownBy w' (some g) := by
  have hg := Blk.lt hr
  by_cases h2 : N < 2
  · have h2' : (N : Int) < 2 := by omega
    have Hr := Lib.hid hr
    clear hr hc hne hlt hN
    go_enter Try.func164, Try.ntmps164
    go_wp2
    go_ret
    exact ⟨rfl, Hr.out, World.grownBy.refl _ _⟩
  · have h2' : ¬ (N : Int) < 2 := by omega
    have HC := Lib.hid hc
    have Hlt := Lib.hid hlt
    have Hne := Lib.hid hne
    have HN := Lib.hid hN
    have Hr := Lib.hid hr
    clear hr hc hne hlt hN
    go_enter Try.func164, Try.ntmps164
    go_wp2
    go_loopw [5] (fun i wr0 => ∃ (wr : World) (k : Nat), wr = wr0 ∧ k < N ∧ i = .int .i64 ((k : Int) + 1) ∧ w.grownBy wr (some g) ∧ Hid (RowN wr g zs)) (fun i _ => N - (intOf i).toNat)
    case atStart => exact ⟨_, 0, rfl, by omega, rfl, World.grownBy.refl _ _, Hr⟩
    case round =>
      obtain ⟨wr, k, rfl, hk, rfl, hG, hR⟩ := hrel
      by_cases hlk : k + 1 < N
      · have hk0 : k < zs.length := by have := HN.out; omega
        have hk1 : k + 1 < zs.length := by have := HN.out; omega
        obtain ⟨x, hx⟩ : ∃ x, zs[k]? = some x := ⟨_, List.getElem?_eq_getElem hk0⟩
        obtain ⟨y, hy⟩ : ∃ y, zs[k + 1]? = some y := ⟨_, List.getElem?_eq_getElem hk1⟩
        have c0 := RowN.at hR.out hx
        have c1 := RowN.at hR.out hy
        have hgr := Blk.lt hR.out
        have hBd : Below wr.heap.size wr wr.drew := (Below.refl _ _).drew
        have hB2 : Below g w0 wr.drew := (hb.trans (gr_below hG (Nat.le_of_lt hg) (Nat.le_refl _))).drew
        have cE := HC.out y x wr.drew hB2 (Nat.le_of_lt hgr) (Hlt.out y (List.mem_of_getElem? hy)) (Hlt.out x (List.mem_of_getElem? hx))
        rw [Hne.out k x y hx hy] at cE
        clear hx hy hk0 hk1
        have hwr : IntKind.i64.wrap ((k : Int) + 1 - 1) = (k : Int) := by rw [IntKind.wrap_i64]; omega
        have hwr2 : IntKind.i64.wrap (k : Int) = (k : Int) := by rw [IntKind.wrap_i64]; omega
        have hi0 : 0 ≤ (k : Int) := by omega
        have hi1 : 0 ≤ (k : Int) + 1 := by omega
        have hi2 : (k : Int) + 1 < (N : Int) := by omega
        have hi3 : (k : Int) < (N : Int) := by omega
        go_wp2_with fail
        go_region_held3 (fun w' => w'.cell? ⟨g, k, none⟩ = some (.int .i64 x) ∧ w'.cell? ⟨g, k + 1, none⟩ = some (.int .i64 y))
          (first | go_keep | (exact ⟨(B4.cell hgr).trans c0, (B4.cell hgr).trans c1⟩))
          (first | (go_at_call 165; ((with_reducible refine cE.mono ?_); rintro e w4 ⟨rfl, hb4⟩; have B4 := bel_trans hBd hb4; have H4 := Lib.hid (Blk.below hR.out B4))))
        have hg4 : wr.grownBy w4 (some g) := gr_of_below B4 B4.tape
        go_wp2
        go_roundw
        case rel => exact ⟨_, k + 1, rfl, by omega, by go_num, hG.trans hg4, H4⟩
        case measure => simp [intOf]; omega
      · have hi2 : ¬ (k : Int) + 1 < (N : Int) := by omega
        go_wp2
        go_ret
        exact ⟨rfl, hR.out, hG⟩
end Go.Proofs.Ytbmniajimkondaa.T
namespace Go.Proofs.Ytbmniajimkondaa.T
open Go.RowKit L
set_option linter.unusedVariables false
set_option linter.unusedSimpArgs false

def ints (zs : List Nat) : List Int := zs.map (fun z : Nat => (z : Int))
theorem ints_map (zs : List Nat) : (ints zs).map (Value.int .i64) = zs.map (fun z : Nat => Value.int .i64 (z : Int)) := by simp [ints]
theorem RowN.holds {w : World} {g : Nat} {zs : List Nat} (h : RowN w g zs) : Go.Sort.Holds (Value.int .i64) w g 0 (ints zs).toArray :=
  holds_of_blockI h (by rw [ints_map]; simp [ints]; exact List.take_of_length_le (by simp))
theorem sort_ints {zs ys : List Nat} (hp : zs.Perm ys) (hs : ys.Pairwise (fun x y => x < y)) : (ints zs).mergeSort (fun x y => decide (x ≤ y)) = ints ys := by
  refine List.Perm.eq_of_pairwise (le := fun x y => x ≤ y) (fun a b _ _ h1 h2 => by omega) ?_ ?_ ?_
  · have := List.pairwise_mergeSort (le := fun x y : Int => decide (x ≤ y)) (fun a b c h1 h2 => by simp at *; omega) (fun a b => by simp; omega) (ints zs)
    simpa using this
  · unfold ints
    rw [List.pairwise_map]
    exact hs.imp (fun h => by omega)
  · exact (List.mergeSort_perm _ _).trans (hp.map _)
theorem sort_row (g : Nat) (zs ys : List Nat) (hp : zs.Perm ys) (hs : ys.Pairwise (fun x y => x < y)) (N cap : Nat) (hN : N = zs.length) (hN2 : N ≤ 1000000) (w : World) (hr : RowN w g zs) :
    Calls Try.prog 166 #[.slice (some ⟨g, 0, none⟩) N cap] w fun e w' => (∃ v, e = .returned v) ∧ RowN w' g ys ∧ w.grownBy w' (some g) := by
  have hl : (ints zs).length = N := by rw [hN]; simp [ints]
  have hc := Try.slices_Sort_int g 0 cap (ints zs) w hr.holds (Blk.lt hr) (by omega)
  rw [hl, sort_ints hp hs] at hc
  refine hc.mono fun e w' ⟨he, n, os, hw⟩ => ?_
  subst hw
  refine ⟨⟨_, he⟩, ?_, grownBy_sortedI _⟩
  have hb := heap_sortedI (os := os) (n := n) (ints ys).toArray hr
  unfold RowN Blk
  rw [hb]
  congr 2
  have hly : ys.length = zs.length := hp.length_eq.symm
  have ht := take_putCellsI (zs.map (fun z : Nat => Value.int .i64 (z : Int))).toArray (ints ys) (by simp [ints, hly])
  rw [ints_map] at ht
  apply Array.toList_inj.1
  rw [← ht, List.take_of_length_le]
  simp [Go.Sort.putCells, ints, hly]
theorem nodup_inj {α : Type} {l : List α} (h : l.Nodup) {i j : Nat} (hi : i < l.length) (hj : j < l.length) (e : l[i] = l[j]) : i = j := by
  rcases Nat.lt_trichotomy i j with h1 | h1 | h1
  · exact absurd e (List.pairwise_iff_getElem.1 h i j hi hj h1)
  · exact h1
  · exact absurd e.symm (List.pairwise_iff_getElem.1 h j i hj hi h1)
theorem intI : (Try.prog.info? 3).map (fun i => (i.zero, i.size, i.bytes)) = some (some (.int .i64 0), 1, 8) := by kernel_rfl
theorem made_row (n : Nat) (w : World) : RowN (w.alloc (.cells (madeCells #[.int .i64 0] n) 3)) w.heap.size (List.replicate n 0) := by
  have h := heap_alloc_new w (.cells (madeCells #[Value.int .i64 0] n) 3)
  unfold RowN Blk
  rw [h]
  congr 2
  apply Array.ext (by simp [size_madeCells]) 
  intro i h1 h2
  simp [madeCells, Nat.mod_one]
theorem range_step (n k : Nat) (h : k < n) : (List.range k ++ List.replicate (n - k) 0).set k k = List.range (k + 1) ++ List.replicate (n - (k + 1)) 0 := by
  rw [List.set_append_right _ _ (by simp), List.length_range, Nat.sub_self, show n - k = n - (k + 1) + 1 by omega, List.replicate_succ, List.set_cons_zero, List.range_succ]
  simp

/-! a row of terms that is filled place by place -/
def HdA (w0 : World) (h : Hd) (t : Tm) : Prop := h.op = opT t ∧ h.nm = nameT t ∧ h.nu = numT t ∧ Ar w0.heap.size w0 t h.a h.n h.c
def PartM (w0 : World) (g : Nat) (ls : List Tm) (m k : Nat) (wr : World) : Prop :=
  ∃ hs, hs.length = k ∧ OwnT wr w0.heap.size (.slice (some ⟨g, 0, none⟩) m m) (hs ++ List.replicate (m - k) Hd.zero) ∧ ∀ (j : Nat) (h : Hd) (t : Tm), hs[j]? = some h → ls[j]? = some t → HdA w0 h t
theorem PartM.go {w0 wr w5 : World} {g : Nat} {ls : List Tm} {x : Tm} {m k : Nat} {h : Hd} (hp : PartM w0 g ls m k wr) (hk : k < m) (hx : ls[k]? = some x) (b5 : Below wr.heap.size wr w5) (hf : HdA w0 h x) :
    (w5.cell? ⟨g, k * 4, none⟩ = some (.int .i64 0) ∧ w5.cell? ⟨g, k * 4 + 1, none⟩ = some (.string ⟨#[]⟩) ∧ w5.cell? ⟨g, k * 4 + 2, none⟩ = some (.int .i64 0) ∧ w5.cell? ⟨g, k * 4 + 3, none⟩ = some (.slice none 0 0)) ∧ (w5.frozen? ⟨g, k * 4, none⟩ = false ∧ w5.frozen? ⟨g, k * 4 + 1, none⟩ = false ∧ w5.frozen? ⟨g, k * 4 + 2, none⟩ = false ∧ w5.frozen? ⟨g, k * 4 + 3, none⟩ = false) ∧ Hid (PartM w0 g ls m (k + 1) (set4 w5 g k h)) := by
  obtain ⟨hs, hl, ho, hfr⟩ := hp
  have hg : g < wr.heap.size := ho.row.lt
  have hlt : k < (hs ++ List.replicate (m - k) Hd.zero).length := by rw [List.length_append, List.length_replicate]; omega
  obtain ⟨c0, c1, c2, c3⟩ := ho.at hlt
  have e : (hs ++ List.replicate (m - k) Hd.zero)[k] = Hd.zero := by
    rw [List.getElem_append_right (by omega), List.getElem_replicate]
  rw [e] at c0 c1 c2 c3
  have hz : ∀ j, wr.frozen? ⟨g, j, none⟩ = false := fun j => ho.row.free j
  have ho5 := (ho.below b5).set k h hlt
  rw [show m - k = m - (k + 1) + 1 by omega, ← hl, list_step, hl] at ho5
  refine ⟨⟨(b5.cell (p := ⟨g, _, none⟩) hg).trans c0, (b5.cell (p := ⟨g, _, none⟩) hg).trans c1, (b5.cell (p := ⟨g, _, none⟩) hg).trans c2, (b5.cell (p := ⟨g, _, none⟩) hg).trans c3⟩, ⟨(b5.frozen (p := ⟨g, _, none⟩) hg).trans (hz _), (b5.frozen (p := ⟨g, _, none⟩) hg).trans (hz _), (b5.frozen (p := ⟨g, _, none⟩) hg).trans (hz _), (b5.frozen (p := ⟨g, _, none⟩) hg).trans (hz _)⟩, Lib.hid ⟨hs ++ [h], by simp [hl], ho5, fun j h' t hj ht => ?_⟩⟩
  rcases Nat.lt_or_ge j hs.length with h1 | h1
  · rw [List.getElem?_append_left h1] at hj
    exact hfr j h' t hj ht
  · have hj2 := (List.getElem?_eq_some_iff.1 hj).1
    have hjk : j = k := by simp at hj2; omega
    subst hjk
    rw [List.getElem?_append_right h1, show j - hs.length = 0 by omega] at hj
    simp only [List.getElem?_cons_zero, Option.some.injEq] at hj
    rw [hx] at ht
    injection ht with ht
    subst hj ht
    exact hf
theorem PartM.done {w0 wr : World} {g : Nat} {ls : List Tm} {m : Nat} (hp : PartM w0 g ls m m wr) (hm : ls.length = m) (hb : Below w0.heap.size w0 wr) : TsW wr (some ⟨g, 0, none⟩) m m ls := by
  obtain ⟨hs, hl, ho, hfr⟩ := hp
  rw [Nat.sub_self, List.replicate_zero, List.append_nil] at ho
  refine ho.isT (Nat.le_refl _) (by omega) fun k hk hk2 => ?_
  obtain ⟨q1, q2, q3, q4⟩ := hfr k hs[k] ls[k] (List.getElem?_eq_getElem hk2) (List.getElem?_eq_getElem hk)
  exact ⟨q1, q2, q3, Ar.mono hb.size _ (Ar.bel hb _ q4)⟩
set_option maxRecDepth 100000 in
set_option maxHeartbeats 4000000 in
theorem firsts3_any (gl : Nat) (A : Option Addr) (n c : Nat) (l : List Tm) (i : Nat) (w0 w : World) (hb : Below w0.heap.size w0 w) (hg : Blk w gl #[.slice A n c] 22) (hT : TsW w0 A n c l) (hi : i < n) :
    Calls Try.prog 168 #[.int .i64 i, .pointer (some ⟨gl, 0, none⟩)] w fun e w' => ∃ h : Hd, e = .returned (.agg #[.int .i64 h.op, .string h.nm, .int .i64 h.nu, .slice h.a h.n h.c]) ∧ HdA w0 h (atL l i) ∧ Below w.heap.size w w' := by
  obtain ⟨bb, o, t, A1, M, Cc, rfl, hbb, y0, y1, y2, y3, hx, hok⟩ := hT.at hi
  have hn : n ≤ 9223372036854775807 := by have h1 := hT.2.1; have h2 := hT.2.2.1; unfold maxLen at h2; omega
  rw [atL_some hx]
  have hA : HdA w0 (hdOf t A1 M Cc) t := ⟨rfl, rfl, rfl, hok⟩
  obtain ⟨W1, hW1, hB1, hs1, R1⟩ := box1 w 0 ⟨#[]⟩ 0 none 0 0
  have c0 := Blk.cell (Blk.below hg hB1) 0
  have hbw : bb < w.heap.size := Nat.lt_of_lt_of_le hbb hb.size
  have x0 := (hB1.cell (p := ⟨bb, _, none⟩) hbw).trans ((hb.cell (p := ⟨bb, _, none⟩) hbb).trans y0)
  have x1 := (hB1.cell (p := ⟨bb, _, none⟩) hbw).trans ((hb.cell (p := ⟨bb, _, none⟩) hbb).trans y1)
  have x2 := (hB1.cell (p := ⟨bb, _, none⟩) hbw).trans ((hb.cell (p := ⟨bb, _, none⟩) hbb).trans y2)
  have x3 := (hB1.cell (p := ⟨bb, _, none⟩) hbw).trans ((hb.cell (p := ⟨bb, _, none⟩) hbb).trans y3)
  obtain ⟨r0, r1, r2, r3⟩ := R1.free
  obtain ⟨v0, v1, v2, v3⟩ := R1.four
  obtain ⟨z0, z1, z2, z3⟩ := (TBox.put R1 (opT t) (nameT t) (numT t) A1 M Cc).four
  have HA := Lib.hid hA
  have HB := Lib.hid (put_below hB1 (Nat.le_refl w.heap.size) (.int .i64 (opT t)) (.string (nameT t)) (.int .i64 (numT t)) (.slice A1 M Cc))
  clear hA hok hx hT R1 hg y0 y1 y2 y3
  unfold hdOf at HA
  have hi0 : 0 ≤ (i : Int) := by omega
  have hi1 : (i : Int) < (n : Int) := by omega
  generalize atL l i = tt at *
  generalize opT t = op at *
  generalize nameT t = nm at *
  generalize numT t = nu at *
  go_enter Try.func168, Try.ntmps168
  go_wp2
  simp [bodyPost, results, Try.results168, go_sem, z0, z1, z2, z3]
  exact ⟨⟨op, nm, nu, A1, M, Cc⟩, ⟨rfl, rfl, rfl, rfl, rfl, rfl⟩, HA.out, HB.out⟩
set_option maxRecDepth 100000 in
set_option maxHeartbeats 4000000 in
theorem mapFirst_any (gl : Nat) (A : Option Addr) (n c : Nat) (l : List Tm) (zs : List Nat) (g cap m : Nat) (w0 w : World) (hb : Below w0.heap.size w0 w) (hg : Blk w gl #[.slice A n c] 22) (hT : TsW w0 A n c l) (hz : ∀ z ∈ zs, z < n) (hr : RowN w g zs) (hm : m = zs.length) (hm0 : 0 < m) (hm2 : m ≤ 1000000) :
    Calls Try.prog 167 #[.slice (some ⟨g, 0, none⟩) m cap, .func (.func 168) #[] #[.pointer (some ⟨gl, 0, none⟩)]] w fun e w' => e = .returned (.slice (some ⟨w.heap.size, 0, none⟩) m m) ∧ TsW w' (some ⟨w.heap.size, 0, none⟩) m m (zs.map (atL l)) ∧ Below w.heap.size w w' := by
  have hmk := make_terms m hm2 w
  have hmd := made_terms m hm2 w
  obtain ⟨W1, hW1⟩ : ∃ W1, w.alloc (.cells (madeCells #[.int .i64 0, .string ⟨#[]⟩, .int .i64 0, .slice none 0 0] (m * 4)) 24) = W1 := ⟨_, rfl⟩
  rw [hW1] at hmk hmd
  have hB1 : Below w.heap.size w W1 := by rw [← hW1]; exact bel_alloc (Below.refl _ _) _
  have hm1 : ((m : Int) == 0) = false := by simp; omega
  obtain ⟨ls, hls⟩ : ∃ ls, zs.map (atL l) = ls := ⟨_, rfl⟩
  have hTw : TsW w A n c l := TsW.b hT hb
  have P0 : PartM w w.heap.size ls m 0 W1 := ⟨[], rfl, by simpa using hmd, fun j h t hj => by simp at hj⟩
  have hlm : ls.length = m := by rw [← hls, List.length_map, hm]
  have HK := Lib.hid (show ∀ k, k < m → ∃ z, zs[k]? = some z ∧ z < n ∧ ls[k]? = some (atL l z) from fun k hk => ⟨zs[k], List.getElem?_eq_getElem (by omega), hz _ (List.getElem_mem (by omega)), by
    subst hls
    rw [List.getElem?_map, List.getElem?_eq_getElem (show k < zs.length by omega)]; rfl⟩)
  rw [hls]
  have HP0 := Lib.hid P0
  have HG := Lib.hid hg
  have HR := Lib.hid hr
  have HT := Lib.hid hTw
  have HL := Lib.hid hlm
  clear hg hT hTw hz hr hm hmd P0 hW1 hls hlm hb
  go_enter Try.func167, Try.ntmps167
  go_wp2
  go_loopw [16] (fun i wr0 => ∃ (wr : World) (k : Nat), wr = wr0 ∧ k ≤ m ∧ i = .int .i64 k ∧ Below w.heap.size w wr ∧ Hid (PartM w w.heap.size ls m k wr)) (fun i _ => m - (intOf i).toNat)
  case atStart => exact ⟨_, 0, rfl, by omega, rfl, hB1, HP0⟩
  case round =>
    obtain ⟨wr, k, rfl, hk, rfl, hB, hR⟩ := hrel
    by_cases hlt : k < m
    · obtain ⟨z, hzk, hzn, hlk⟩ := HK.out k hlt
      have c0 := (hB.cell (p := ⟨_, k, none⟩) (Blk.lt HR.out)).trans (RowN.at HR.out hzk)
      have cc := firsts3_any gl A n c l z w wr hB (Blk.below HG.out hB) HT.out hzn
      have Hlk := Lib.hid hlk
      clear hzk hlk HK
      generalize atL l z = x at *
      have hk0 : 0 ≤ (k : Int) := by omega
      have hk1 : (k : Int) < (m : Int) := by omega
      go_wp2_with (go_at_call 168; ((with_reducible refine cc.mono ?_); rintro e w5 ⟨h, rfl, hF, hb5⟩; obtain ⟨⟨q0, q1, q2, q3⟩, ⟨g0, g1, g2, g3⟩, Hn⟩ := PartM.go hR.out hlt Hlk.out hb5 hF; clear hF))
      go_roundw
      case rel => exact ⟨_, k + 1, rfl, by omega, by go_num, set4_below (bel_trans hB hb5) (Nat.le_refl _) k _, Hn⟩
      case measure => simp [intOf]; omega
    · obtain rfl : k = m := by omega
      have Hd := Lib.hid (PartM.done hR.out HL.out hB)
      clear hR
      go_wp2
      go_ret
      exact ⟨rfl, Hd.out, hB⟩
theorem range_atL {l : List Tm} {n : Nat} (h : l.length = n) : (List.range n).map (atL l) = l := by
  refine List.ext_getElem (by simp [h]) fun i h1 h2 => ?_
  rw [List.getElem_map, List.getElem_range]
  exact atL_some (List.getElem?_eq_getElem h2)

set_option maxRecDepth 100000 in
set_option maxHeartbeats 8000000 in
theorem firsts_few (A : Option Addr) (n c : Nat) (l : List Tm) (w : World) (hT : TsW w A n c l) (h0 : 0 < n) (hn : n < 20) (hd : l.Nodup) :
    Calls Try.prog 107 #[.slice A n c, .func (.func 54) #[] #[]] w fun e w' => ∃ g, e = .returned (.slice (some ⟨g, 0, none⟩) n n) ∧ TsW w' (some ⟨g, 0, none⟩) n n l ∧ Below w.heap.size w w' := by
  obtain ⟨W0, hW0⟩ : ∃ W0, w.alloc (.cells #[.slice A n c] 22) = W0 := ⟨_, rfl⟩
  have hB0 : Below w.heap.size w W0 := by rw [← hW0]; exact bel_alloc (Below.refl _ _) _
  have hs0 : W0.heap.size = w.heap.size + 1 := by rw [← hW0]; simp
  have R0 : Blk W0 w.heap.size #[.slice A n c] 22 := by rw [← hW0]; exact Blk.new w _ _
  obtain ⟨W1, hW1⟩ : ∃ W1, W0.alloc (.cells #[.func (.func 54) #[] #[]] 68) = W1 := ⟨_, rfl⟩
  have hB1 : Below w.heap.size w W1 := by rw [← hW1]; exact bel_alloc hB0 _
  have hs1 : W1.heap.size = w.heap.size + 2 := by rw [← hW1]; simp [hs0]
  have R1 : Blk W1 w.heap.size #[.slice A n c] 22 := by rw [← hW1]; exact Blk.alloc R0 _
  have Q1 : Blk W1 (w.heap.size + 1) #[.func (.func 54) #[] #[]] 68 := by rw [← hW1, ← hs0]; exact Blk.new W0 _ _
  have hT1 : IsT W1.heap.size W1 A n c l := TsW.b hT hB1
  have hc1 : CmpIn (w.heap.size + 2) (w.heap.size + 1) w.heap.size n l W1 := fun i j W hb hs hi hj => firsts1_any (w.heap.size + 1) w.heap.size A n c l i j W ((hb.block _ (by omega)).trans Q1) ((hb.block _ (by omega)).trans R1) ((hT1.bel (hb.mono (by omega))).mono (by omega)) hi hj
  have hc2 : EqIn (w.heap.size + 2) (w.heap.size + 1) w.heap.size n l W1 := fun i j W hb hs hi hj => firsts2_any (w.heap.size + 1) w.heap.size A n c l i j W ((hb.block _ (by omega)).trans Q1) ((hb.block _ (by omega)).trans R1) ((hT1.bel (hb.mono (by omega))).mono (by omega)) hi hj
  have hl : l.length = n := hT.1.symm
  obtain ⟨W2, hW2⟩ : ∃ W2, W1.alloc (.cells (madeCells #[.int .i64 0] n) 3) = W2 := ⟨_, rfl⟩
  have hmk := fun w => run_make_row' (P := Try.prog) 155 3 (.int .i64 0) 8 Try.underlying155 intI rfl .i64 .i64 n (by omega) (by omega) w
  have hmk1 := hmk W1
  rw [hW2] at hmk1
  have hB2 : Below W1.heap.size W1 W2 := by rw [← hW2]; exact bel_alloc (Below.refl _ _) _
  have R2 : RowN W2 (w.heap.size + 2) (List.range 0 ++ List.replicate (n - 0) 0) := by
    rw [← hW2, ← hs1]; simpa using made_row n W1
  have r0 := Blk.cell R1 0
  have hsz2 : w.heap.size + 3 ≤ W2.heap.size := by rw [← hW2]; simp; omega
  -- the sorts, in whatever world that has grown so
  have cS := fun (W : World) (hg : W2.grownBy W (some (w.heap.size + 2))) (hr : RowN W (w.heap.size + 2) (List.range n)) =>
    stableFunc_few (w.heap.size + 2) (w.heap.size + 1) w.heap.size n l W1 hc1 (List.range n) (by simp) n n (by simp) hn W ((hB2.mono (by omega)).trans (gr_below hg (by omega) (Nat.le_refl _))) hr
  obtain ⟨Z, hZ⟩ : ∃ Z, (isortR (fun i j => cmpT (atL l i) (atL l j)) [] (List.range n)).reverse = Z := ⟨_, rfl⟩
  have hp : Z.Perm (List.range n) := by
    rw [← hZ]
    exact (List.reverse_perm _).trans (by simpa using isortR_perm (fun i j => cmpT (atL l i) (atL l j)) (List.range n) [])
  rw [hZ] at cS
  have hZl : Z.length = n := by rw [hp.length_eq]; simp
  have hZn : Z.Nodup := hp.nodup_iff.2 List.nodup_range
  have hZlt : ∀ z ∈ Z, z < n := fun z hz => by simpa using hp.mem_iff.1 hz
  have hne : ∀ k x y, Z[k]? = some x → Z[k + 1]? = some y → eqT (atL l y) (atL l x) = false := fun k x y hx hy => by
    rw [eqT_no]
    intro he
    have hxl := hZlt x (List.mem_of_getElem? hx)
    have hyl := hZlt y (List.mem_of_getElem? hy)
    have ex : atL l x = l[x]'(by omega) := atL_some (List.getElem?_eq_getElem _)
    have ey : atL l y = l[y]'(by omega) := atL_some (List.getElem?_eq_getElem _)
    rw [ex, ey] at he
    have hxy : y = x := nodup_inj hd _ _ he
    subst hxy
    obtain ⟨h1, e1⟩ := List.getElem?_eq_some_iff.1 hx
    obtain ⟨h2, e2⟩ := List.getElem?_eq_some_iff.1 hy
    have := nodup_inj hZn _ _ (e1.trans e2.symm)
    omega
  have cC := fun (W : World) (hg : W2.grownBy W (some (w.heap.size + 2))) (hr : RowN W (w.heap.size + 2) Z) =>
    compact_apart (w.heap.size + 2) (w.heap.size + 1) w.heap.size n l W1 hc2 Z hZlt hne n n hZl.symm (by omega) W ((hB2.mono (by omega)).trans (gr_below hg (by omega) (Nat.le_refl _))) hr
  have cO := fun (W : World) (hr : RowN W (w.heap.size + 2) Z) => sort_row (w.heap.size + 2) Z (List.range n) hp List.pairwise_lt_range n n hZl.symm (by omega) W hr
  have HR2 := Lib.hid R2
  have HB := Lib.hid (show ∀ W, W2.grownBy W (some (w.heap.size + 2)) → Below w.heap.size w W from fun W hg => (bel_trans hB1 hB2).trans (gr_below hg (by omega) (by omega)))
  have HMp := Lib.hid (show ∀ W, W2.grownBy W (some (w.heap.size + 2)) → RowN W (w.heap.size + 2) (List.range n) → Calls Try.prog 167 #[.slice (some ⟨w.heap.size + 2, 0, none⟩) n n, .func (.func 168) #[] #[.pointer (some ⟨w.heap.size, 0, none⟩)]] W fun e w' => e = .returned (.slice (some ⟨W.heap.size, 0, none⟩) n n) ∧ TsW w' (some ⟨W.heap.size, 0, none⟩) n n l ∧ Below W.heap.size W w' from fun W hg hr => by
    have hbW := (bel_trans hB1 hB2).trans (gr_below hg (by omega) (by omega) : Below w.heap.size W2 W)
    have h2 := gr_below hg (show w.heap.size + 2 ≤ W2.heap.size by omega) (Nat.le_refl _)
    have := mapFirst_any w.heap.size A n c l (List.range n) (w.heap.size + 2) n n w W hbW (((hB2.mono (by omega)).trans h2).block _ (by omega) |>.trans R1) hT (by simp) hr (by simp) h0 (by omega)
    rwa [range_atL hl] at this)
  clear hT R1 hT1 hc1 hc2 hl hW2 hmk R2 hZ hp hZl hZn hZlt hne hd R0 Q1
  go_enter Try.func107, Try.ntmps107
  go_wp2
  go_loopw [12] (fun i wr0 => ∃ (wr : World) (k : Nat), wr = wr0 ∧ k ≤ n ∧ i = .int .i64 k ∧ W2.grownBy wr (some (w.heap.size + 2)) ∧ Hid (RowN wr (w.heap.size + 2) (List.range k ++ List.replicate (n - k) 0))) (fun i _ => n - (intOf i).toNat)
  case atStart => exact ⟨_, 0, rfl, by omega, rfl, World.grownBy.refl _ _, HR2⟩
  case round =>
    obtain ⟨wr, k, rfl, hk, rfl, hG, hR⟩ := hrel
    by_cases hlt : k < n
    · have hz : (List.range k ++ List.replicate (n - k) 0)[k]? = some 0 := by
        rw [List.getElem?_append_right (by simp), List.length_range, Nat.sub_self, List.getElem?_replicate, if_pos (by omega)]
      have c0 := RowN.at hR.out hz
      have q0 := Blk.free hR.out k
      have hn1 := Lib.hid (RowN.set hR.out k k)
      have hst := Lib.hid (range_step n k hlt)
      clear hz
      have hk0 : 0 ≤ (k : Int) := by omega
      have hk1 : (k : Int) < (n : Int) := by omega
      go_wp2
      go_roundw
      case rel => exact ⟨_, k + 1, rfl, by omega, by go_num, gr_set hG _ _, Lib.hid (by have h := hn1.out; rwa [hst.out] at h)⟩
      case measure => simp [intOf]; omega
    · obtain rfl : k = n := by omega
      have hrn : RowN wr (w.heap.size + 2) (List.range k) := by have h := hR.out; simpa using h
      have cS1 := cS wr hG hrn
      clear hR cS hrn
      go_wp2_with (first
        | (go_at_call 162; ((with_reducible refine cS1.mono ?_); rintro e w5 ⟨⟨v, rfl⟩, hR5, hG5⟩; have H5 := Lib.hid hR5; clear hR5; have G5 := hG.trans hG5))
        | (go_at_call 164; ((with_reducible refine (cC _ G5 H5.out).mono ?_); rintro e w6 ⟨rfl, hR6, hG6⟩; have H6 := Lib.hid hR6; clear hR6; have G6 := G5.trans hG6))
        | (go_at_call 166; ((with_reducible refine (cO _ H6.out).mono ?_); rintro e w7 ⟨⟨v2, rfl⟩, hR7, hG7⟩; have H7 := Lib.hid hR7; clear hR7; have G7 := G6.trans hG7))
        | (go_at_call 167; ((with_reducible refine (HMp.out _ G7 H7.out).mono ?_); rintro e w8 ⟨rfl, hT8, hb8⟩; have H8 := Lib.hid hT8; clear hT8)))
      go_ret
      exact ⟨_, rfl, H8.out, bel_trans (HB.out _ G7) hb8⟩
end Go.Proofs.Ytbmniajimkondaa.T
namespace Go.Proofs.Ytbmniajimkondaa.T
open Go.RowKit L
set_option linter.unusedVariables false
set_option linter.unusedSimpArgs false

theorem collect_any (B g g2 : Nat) (w0 w : World) (t : Tm) (a : Option Addr) (m c : Nat) (hsz : size t ≤ 1000000) (hA : Ar B w0 t a m c) (hB : Below B w0 w) (hBw : B ≤ w.heap.size) (hT : TBox w g (opT t) (nameT t) (numT t) a m c) (hF : Blk w g2 #[.func (.func 59) #[] #[]] 67) :
    Calls Try.prog 108 #[.func (.func 173) #[] #[.pointer (some ⟨g, 0, none⟩), .pointer (some ⟨g2, 0, none⟩)]] w fun e w' => ∃ v, e = .returned v ∧ (∃ pts : List (Pt B w0), pts.map Pt.t = all t ∧ OwnT w' w.heap.size v (pts.map hdP)) ∧ Below w.heap.size w w' := by
  have cA := (callsIn_wide (n := 5)).1 (AppendSeq_in B g g2 w0 w t a m c hsz hA hB hBw hT hF)
  clear hT hA hF
  go_enter Try.func108, Try.ntmps108
  go_wp2_with (go_at_call 169; ((with_reducible refine cA.mono ?_); rintro e w1 ⟨v, rfl, ho, hb1⟩; have Ho := Lib.hid ho; clear ho))
  go_ret
  exact ⟨_, rfl, Ho.out, hb1⟩
set_option maxRecDepth 100000 in
set_option maxHeartbeats 8000000 in
theorem Parts_few (t : Tm) (a : Option Addr) (m c : Nat) (w : World) (hsz : size t < 20) (hd : (all t).Nodup) (hA : ArW w t a m c) :
    Calls Try.prog 53 #[.agg #[.int .i64 (opT t), .string (nameT t), .int .i64 (numT t), .slice a m c]] w fun e w' => (∃ A C, e = .returned (.slice A (size t) C)) ∧ Below w.heap.size w w' := by
  obtain ⟨W1, hW1, hB1, hs1, S1⟩ := box1 w (opT t) (nameT t) (numT t) a m c
  obtain ⟨W2, hW2, hB2, hs2, S2, F2⟩ := box_all W1 (opT t) (nameT t) (numT t) a m c
  have cAll := all_any (opT t) (nameT t) (numT t) a m c W1
  rw [hW2] at cAll
  have hB12 := bel_trans hB1 hB2
  have cC := collect_any w.heap.size (W1.heap.size + 1) (W1.heap.size + 2) w W2 t a m c (by omega) hA hB12 hB12.size S2 F2
  have hAw := hA
  rw [hs1] at cC cAll
  obtain ⟨s0, s1, s2, s3⟩ := S1.four
  have hp := size_pos t
  have hal : (all t).length = size t := all_len t
  have HF := Lib.hid (show ∀ (w3 : World) (v : Value), Below W2.heap.size W2 w3 → (∃ pts : List (Pt w.heap.size w), pts.map Pt.t = all t ∧ OwnT w3 W2.heap.size v (pts.map hdP)) → ∃ g1 C1, v = .slice (some ⟨g1, 0, none⟩) (size t) C1 ∧ TsW w3 (some ⟨g1, 0, none⟩) (size t) C1 (all t) from fun w3 v hb3 ⟨pts, hm, ho⟩ => by
    have hpl : pts.length = size t := by rw [← hal, ← hm]; simp
    obtain ⟨A1, C1, hv, _, _, _, hg⟩ := ho.slice
    have hpl2 : (pts.map hdP).length = size t := by simp [hpl]
    rw [hpl2] at hv hg
    obtain ⟨g1, hg1, _, _⟩ := hg hp
    subst hg1 hv
    refine ⟨g1, C1, rfl, ho.isT (Nat.le_refl _) (by rw [hpl2, hal]) fun k hk hk2 => ?_⟩
    have hk3 : k < pts.length := by simpa using hk2
    have e1 : (pts.map hdP)[k] = hdP pts[k] := by simp
    have e2 : (all t)[k] = pts[k].t := by
      have : (all t)[k]? = some pts[k].t := by rw [← hm]; simp [hk3]
      exact (List.getElem?_eq_some_iff.1 this).2
    rw [e1, e2]
    have hbw := (bel_trans hB12 hb3)
    exact ⟨rfl, rfl, rfl, Ar.mono hbw.size _ (Ar.bel hbw _ pts[k].ok)⟩)
  have HS := Lib.hid (show sizes (all t) ≤ 1000000 from by
    have h1 : ∀ x ∈ all t, size x ≤ size t := by
      refine Tm.ind (P := fun t => ∀ x ∈ all t, size x ≤ size t) (fun t ih x hx => ?_) t
      rw [all_mk] at hx
      rcases List.mem_cons.1 hx with rfl | hx
      · exact Nat.le_refl _
      · have : ∀ l : List Tm, (∀ y ∈ l, ∀ x ∈ all y, size x ≤ size y) → ∀ x ∈ alls l, size x ≤ sizes l := fun l => by
          induction l with
          | nil => intro _ x hx; simp [alls] at hx
          | cons y l ih2 =>
            intro h x hx
            rw [alls] at hx
            rw [sizes]
            rcases List.mem_append.1 hx with hx | hx
            · have := h y (by simp) x hx; omega
            · have := ih2 (fun z hz => h z (by simp [hz])) x hx; omega
        have h1 := this (argsT t) ih x hx
        have h2 : size t = 1 + sizes (argsT t) := by cases t; rw [size]; rfl
        omega
    have h2 : ∀ l : List Tm, (∀ x ∈ l, size x ≤ 20) → sizes l ≤ l.length * 20 := fun l => by
      induction l with
      | nil => intro _; simp [sizes]
      | cons y l ih => intro h; rw [sizes, List.length_cons]; have := h y (by simp); have := ih (fun z hz => h z (by simp [hz])); omega
    have := h2 (all t) (fun x hx => by have := h1 x hx; omega)
    rw [hal] at this
    omega)
  clear hA S1 S2 hAw F2
  generalize hall : all t = pl at *
  generalize hn : size t = n at *
  generalize opT t = op at *
  generalize nameT t = nm at *
  generalize numT t = nu at *
  clear hall hn
  go_enter Try.func53, Try.ntmps53
  go_wp2_with (first
    | (go_at_call 55; ((with_reducible refine cAll.mono ?_); rintro e w1 ⟨rfl, rfl⟩))
    | (go_at_call 108; ((with_reducible refine cC.mono ?_); rintro e w3 ⟨v, rfl, ho, hb3⟩; obtain ⟨g1, C1, rfl, hT3⟩ := HF.out w3 v hb3 ho; clear ho; have HT3 := Lib.hid hT3; clear hT3))
    | (go_at_call 107; ((with_reducible refine (firsts_few _ _ _ _ _ HT3.out hp hsz hd).mono ?_); rintro e w4 ⟨g4, rfl, hT4, hb4⟩; have HT4 := Lib.hid hT4; clear hT4))
    | (go_at_call 106; ((with_reducible refine (mapCopy_of _ (fun t _ => Copy_any t) HS.out _ _ _ _ HT4.out).mono ?_); rintro e w5 ⟨A5, C5, rfl, _, _, hb5⟩)))
  go_ret
  exact ⟨⟨_, _, rfl⟩, bel_trans hB12 (bel_trans (bel_trans hb3 hb4) hb5)⟩
end Go.Proofs.Ytbmniajimkondaa.T
namespace Go.Proofs.Ytbmniajimkondaa.T
open Go.RowKit L
set_option linter.unusedVariables false
set_option linter.unusedSimpArgs false

theorem depths_app (l m : List Tm) : depths (l ++ m) = max (depths l) (depths m) := by
  induction l with
  | nil => rw [List.nil_append, depths]; omega
  | cons t l ih => rw [List.cons_append, depths, depths, ih]; omega
theorem depth_args (t : Tm) : depth t = 1 + depths (argsT t) := by cases t; rw [depth]; rfl
theorem depths_take {x : Tm} {l : List Tm} {k : Nat} (h : l[k]? = some x) : depths (l.take (k + 1)) = max (depths (l.take k)) (depth x) := by
  rw [take_t h, depths_app, depths, depths]; omega
theorem depths_le {l : List Tm} (k : Nat) : depths (l.take k) ≤ depths l := by
  have := depths_app (l.take k) (l.drop k)
  rw [List.take_append_drop] at this
  omega
def HeightOk (t : Tm) : Prop := ∀ (a : Option Addr) (m c : Nat) (w : World), depth t ≤ 1000000 → ArW w t a m c →
  Calls Try.prog 118 #[.agg #[.int .i64 (opT t), .string (nameT t), .int .i64 (numT t), .slice a m c], .func (.func 59) #[] #[]] w fun e w' => e = .returned (.int .i64 (depth t : Nat)) ∧ Below w.heap.size w w'

set_option maxRecDepth 100000 in
set_option maxHeartbeats 4000000 in
theorem height_step (t : Tm) (hok : ∀ x ∈ argsT t, HeightOk x) : HeightOk t := by
  intro a m c w hd hA
  obtain ⟨W2, hW2, hB2, hs2, S2⟩ := box1 w (opT t) (nameT t) (numT t) a m c
  have hT := TsW.b (ArW.args hA) hB2
  rw [depth_args] at hd ⊢
  have hk2 : ∀ k x, (argsT t)[k]? = some x → HeightOk x := fun k x h => hok x (List.mem_of_getElem? h)
  have hn : m ≤ 9223372036854775807 := by have h1 := hT.2.1; have h2 := hT.2.2.1; unfold maxLen at h2; omega
  have hle := fun k => @depths_le (argsT t) k
  have htk : ∀ k x, (argsT t)[k]? = some x → depths ((argsT t).take (k + 1)) = max (depths ((argsT t).take k)) (depth x) := fun k x h => depths_take h
  have hend : ∀ k, m ≤ k → depths ((argsT t).take k) = depths (argsT t) := fun k h => by rw [List.take_of_length_le (by rw [← hT.1]; exact h)]
  have h0 : depths ((argsT t).take 0) = 0 := rfl
  generalize argsT t = la at *
  obtain ⟨F, hF⟩ : ∃ F : Nat → Nat, ∀ k, depths (la.take k) = F k := ⟨_, fun _ => rfl⟩
  simp only [hF] at hle htk hend h0
  generalize depths la = R at *
  obtain ⟨s0, s1, s2, s3⟩ := S2.four
  have H1 := Lib.hid hT
  have Htk := Lib.hid htk
  have Hend := Lib.hid hend
  have HK := Lib.hid hk2
  have Hle := Lib.hid hle
  have H0 := Lib.hid h0
  clear hA hT htk hend hk2 hok hF S2 hle h0
  generalize opT t = op at *
  generalize nameT t = nm at *
  generalize numT t = nu at *
  go_enter Try.func118, Try.ntmps118
  go_wp2_with (go_at_call 59; ((with_reducible refine (args_any _ _ _ _ _ _ W2).mono ?_); rintro e W2b ⟨rfl, hW2b⟩; have HW2 := Lib.hid hW2b; clear hW2b))
  have hB2b : Below W2.heap.size W2 W2b := by rw [HW2.out]; exact bel_alloc (Below.refl _ _) _
  clear HW2
  go_loopw [5, 12] (fun q i wr0 => ∃ (wr : World) (k h : Nat), wr = wr0 ∧ k ≤ m ∧ q = .int .i64 h ∧ i = .int .i64 k ∧ Below W2.heap.size W2 wr ∧ Hid (h = F k)) (fun q i _ => m - (intOf i).toNat)
  case atStart => exact ⟨_, 0, 0, rfl, by omega, rfl, rfl, hB2b, H0.out.symm⟩
  case round =>
    obtain ⟨wr, k, h, rfl, hk, rfl, rfl, hB, hR⟩ := hrel
    by_cases hlt : k < m
    · obtain ⟨bb, o, x, A, M, Cc, rfl, hb, y0, y1, y2, y3, hx, hok⟩ := (TsW.b H1.out hB).at hlt
      obtain ⟨W4, hW4, hB4, hs4, S4⟩ := box1 wr (opT x) (nameT x) (numT x) A M Cc
      have hmx := Htk.out k x hx
      have hl1 := Hle.out (k + 1)
      have hl0 := Hle.out k
      have hhk := hR.out
      have cs := HK.out k x hx A M Cc W4 (by omega) (ArW.b hok hB4)
      obtain ⟨f0, f1, f2, f3⟩ := S4.four
      have B4 := bel_trans hB hB4
      rw [← hhk] at hmx
      have Hmx := Lib.hid hmx
      have hdx : depth x ≤ 1000000 := by omega
      have hhb : h ≤ 1000000 := by omega
      clear hx hok H1 Htk HK S4 hmx hR hl0 hl1 hhk
      generalize depth x = dx at *
      generalize opT x = op' at *
      generalize nameT x = nm' at *
      generalize numT x = nu' at *
      have hk0 : 0 ≤ (k : Int) := by omega
      have hk1 : (k : Int) < (m : Int) := by omega
      go_wp2_with (go_at_call 118; ((with_reducible refine cs.mono ?_); rintro e w4 ⟨rfl, hb4⟩))
      go_roundw
      case rel => exact ⟨_, k + 1, max h dx, rfl, by omega, by congr 1; split <;> omega, by go_num, bel_trans B4 hb4, Hmx.out.symm⟩
      case measure => simp [intOf]; omega
    · have hnew : Hid (h = R) := by show _ = _; rw [hR.out, Hend.out k (by omega)]
      have hhb : h ≤ 1000000 := by have := hnew.out; omega
      clear hR
      go_wp2
      go_ret
      exact ⟨one (by rw [← hnew.out]; omega), bel_trans hB2 hB⟩
theorem height_any (t : Tm) : HeightOk t := Tm.ind height_step t

set_option maxRecDepth 100000 in
set_option maxHeartbeats 4000000 in
theorem treeDepth_few (t : Tm) (a : Option Addr) (m c : Nat) (w : World) (hsz : size t ≤ 4096) (hA : ArW w t a m c) :
    Calls Try.prog 58 #[.agg #[.int .i64 (opT t), .string (nameT t), .int .i64 (numT t), .slice a m c], .func (.func 59) #[] #[]] w fun e w' => e = .returned (.int .i64 ((min (depth t) 65 : Nat) : Int)) ∧ Below w.heap.size w w' := by
  obtain ⟨W2, hW2, hB2, hs2, S2⟩ := box1 w (opT t) (nameT t) (numT t) a m c
  have hd := depth_size t
  have cS := few_any t a m c W2 (ArW.b hA hB2)
  rw [show decide (size t ≤ 4096) = true from decide_eq_true hsz] at cS
  have cH := fun (w' : World) (h : Below W2.heap.size W2 w') => height_any t a m c w' (by omega) (ArW.b (ArW.b hA hB2) h)
  obtain ⟨s0, s1, s2, s3⟩ := S2.four
  have HS := Lib.hid S2
  clear S2 hA
  have Hm := Lib.hid (show ∀ R : Int, R = min (depth t : Int) 65 → R = ((min (depth t) 65 : Nat) : Int) from fun R h => by omega)
  generalize ((min (depth t) 65 : Nat) : Int) = R at *
  generalize size t = sz at *
  generalize depth t = dp at *
  generalize opT t = op at *
  generalize nameT t = nm at *
  generalize numT t = nu at *
  go_enter Try.func58, Try.ntmps58
  go_wp2_with (first
    | (go_at_call 117; ((with_reducible refine cS.mono ?_); rintro e w3 ⟨rfl, hb3⟩; obtain ⟨u0, u1, u2, u3⟩ := (TBox.b HS.out hb3).four))
    | (go_at_call 118; ((with_reducible refine (cH _ hb3).mono ?_); rintro e w4 ⟨rfl, hb4⟩)))
  all_goals go_ret
  all_goals exact ⟨one (Hm.out _ (by omega)), bel_trans hB2 (bel_trans hb3 hb4)⟩
set_option maxHeartbeats 4000000 in
theorem Depth_few (t : Tm) (a : Option Addr) (m c : Nat) (w : World) (hsz : size t ≤ 4096) (hA : ArW w t a m c) :
    Calls Try.prog 18 #[.agg #[.int .i64 (opT t), .string (nameT t), .int .i64 (numT t), .slice a m c]] w fun e w' => e = .returned (.int .i64 ((min (depth t) 65 : Nat) : Int)) ∧ Below w.heap.size w w' := by
  obtain ⟨W2, hW2, hB2, hs2, S2⟩ := box1 w (opT t) (nameT t) (numT t) a m c
  have cS := treeDepth_few t a m c W2 hsz (ArW.b hA hB2)
  obtain ⟨s0, s1, s2, s3⟩ := S2.four
  clear S2 hA hsz
  generalize ((min (depth t) 65 : Nat) : Int) = R at *
  generalize opT t = op at *
  generalize nameT t = nm at *
  generalize numT t = nu at *
  go_enter Try.func18, Try.ntmps18
  go_wp2_with (go_at_call 58; ((with_reducible refine cS.mono ?_); rintro e w3 ⟨rfl, hb3⟩))
  go_ret
  exact ⟨rfl, bel_trans hB2 hb3⟩

end Go.Proofs.Ytbmniajimkondaa.T
namespace Go.Proofs.Ytbmniajimkondaa.T
open Go.RowKit L
set_option linter.unusedVariables false
set_option linter.unusedSimpArgs false

mutual
theorem dpTo_max : ∀ (t : Tm) (most : Nat), dpTo most t ≤ most + 1
  | .mk o s n l, most => by rw [dpTo]; have := dpTos_max l most 1 (Nat.le_refl _); omega
theorem dpTos_max : ∀ (l : List Tm) (most d : Nat), 1 ≤ d → dpTos most d l ≤ max d (most + 1)
  | [], most, d, _ => by rw [dpTos]; omega
  | t :: l, most, d, h0 => by
    rw [dpTos]
    split
    · have h1 := dpTo_max t (most - 1)
      have h2 := dpTos_max l most (max d (1 + dpTo (most - 1) t)) (by omega)
      omega
    · omega
end
theorem dpTo_args (most : Nat) (t : Tm) : dpTo most t = dpTos most 1 (argsT t) := by cases t; rw [dpTo]; rfl
def RefDepthOk (t : Tm) : Prop := ∀ (a : Option Addr) (n c most : Nat) (w : World), most ≤ 1000000000 → ArW w t a n c →
  Calls Try.prog 60 #[.agg #[.int .i64 (opT t), .string (nameT t), .int .i64 (numT t), .slice a n c], .int .i64 most] w fun e w' => e = .returned (.int .i64 (dpTo most t : Nat)) ∧ Below w.heap.size w w'
set_option maxRecDepth 100000 in
set_option maxHeartbeats 4000000 in
theorem refdepth_step (t : Tm) (hok : ∀ x ∈ argsT t, RefDepthOk x) : RefDepthOk t := by
  intro a n c most w hm hA
  obtain ⟨W2, hW2, hB2, hs2, S2⟩ := box1 w (opT t) (nameT t) (numT t) a n c
  have hT := TsW.b (ArW.args hA) hB2
  rw [dpTo_args]
  generalize hl : argsT t = l at *
  have hst : ∀ k x q, l[k]? = some x → q ≤ most → dpTos most q (l.drop k) = dpTos most (max q (1 + dpTo (most - 1) x)) (l.drop (k + 1)) := fun k x q h h2 => by rw [drop_t h, dpTos, if_pos h2]
  have he : ∀ k q, n ≤ k → dpTos most q (l.drop k) = q := fun k q h => by rw [List.drop_eq_nil_of_le (by rw [← hT.1]; exact h), dpTos]
  have he2 : ∀ k q, most < q → dpTos most q (l.drop k) = q := fun k q h => by
    cases hd : l.drop k with
    | nil => rw [dpTos]
    | cons x r => rw [dpTos, if_neg (by omega)]
  have hn : n ≤ 9223372036854775807 := by have h1 := hT.2.1; have h2 := hT.2.2.1; unfold maxLen at h2; omega
  have hk2 : ∀ k x, l[k]? = some x → RefDepthOk x := fun k x h => hok x (List.mem_of_getElem? h)
  have h0 : dpTos most 1 l = dpTos most 1 (l.drop 0) := rfl
  rw [h0]
  obtain ⟨F, hF⟩ : ∃ F : Nat → Nat → Nat, ∀ k q, dpTos most q (l.drop k) = F k q := ⟨_, fun _ _ => rfl⟩
  simp only [hF] at hst he he2 ⊢
  generalize hRR : F 0 1 = R
  have HR0 := Lib.hid hRR
  clear hRR
  clear hF h0 hok
  obtain ⟨s0, s1, s2, s3⟩ := S2.four
  have H1 := Lib.hid hT
  have Hst := Lib.hid hst
  have He := Lib.hid he
  have He2 := Lib.hid he2
  have HK := Lib.hid hk2
  have HS := Lib.hid S2
  clear hA hT hst he he2 hk2 S2 hl s0 s1 s2
  generalize opT t = op at *
  generalize nameT t = nm at *
  generalize numT t = nu at *
  go_enter Try.func60, Try.ntmps60
  go_wp2
  go_loopw [5, 6] (fun q i wr0 => ∃ (wr : World) (k nk : Nat), wr = wr0 ∧ k ≤ n ∧ 1 ≤ nk ∧ nk ≤ most + 1 ∧ q = .int .i64 nk ∧ i = .int .i64 k ∧ Below W2.heap.size W2 wr ∧ Hid (F k nk = R)) (fun q i _ => n - (intOf i).toNat)
  case atStart => exact ⟨_, 0, 1, rfl, by omega, by omega, by omega, rfl, rfl, Below.refl _ _, HR0⟩
  case round =>
    obtain ⟨wr, k, nk, rfl, hk, hnk1, hnk, rfl, rfl, hB, hR⟩ := hrel
    obtain ⟨_, _, _, s3r⟩ := (TBox.b HS.out hB).four
    by_cases hlt : k < n
    · by_cases hq : nk ≤ most
      · obtain ⟨bb, o, x, A, M, Cc, rfl, hb, y0, y1, y2, y3, hx, hok⟩ := (TsW.b H1.out hB).at hlt
        have hs1 := Lib.hid (Hst.out k x nk hx hq)
        have cs := HK.out k x hx A M Cc (most - 1) wr (by omega) hok
        have hmx := dpTo_max x (most - 1)
        have em : ((most - 1 : Nat) : Int) = (most : Int) - 1 := by omega
        rw [em] at cs
        clear hx hok H1 Hst HK HS em
        generalize dpTo (most - 1) x = sz at *
        generalize opT x = op' at *
        generalize nameT x = nm' at *
        generalize numT x = nu' at *
        have hnew : Hid (F (k + 1) (max nk (1 + sz)) = R) := by show _ = _; rw [← hR.out, hs1.out]
        clear hR hs1
        have hk0 : 0 ≤ (k : Int) := by omega
        have hk1 : (k : Int) < (n : Int) := by omega
        go_wp2_with (go_at_call 60; ((with_reducible refine cs.mono ?_); rintro e w4 ⟨rfl, hb4⟩))
        go_roundw
        case rel => exact ⟨_, k + 1, max nk (1 + sz), rfl, by omega, by omega, by omega, by congr 1; (try split) <;> omega, by go_num, bel_trans hB hb4, hnew⟩
        case measure => simp [intOf]; omega
      · have hnew : Hid (nk = R) := by show _ = _; rw [← hR.out, He2.out k nk (by omega)]
        clear hR
        go_wp2
        go_ret
        exact ⟨one (by rw [← hnew.out]), bel_trans hB2 hB⟩
    · have hnew : Hid (nk = R) := by show _ = _; rw [← hR.out, He.out k nk (by omega)]
      clear hR
      go_wp2
      go_ret
      exact ⟨one (by rw [← hnew.out]), bel_trans hB2 hB⟩
theorem refdepth_any (t : Tm) : RefDepthOk t := Tm.ind refdepth_step t
set_option maxHeartbeats 4000000 in
theorem refDepth_any (t : Tm) (a : Option Addr) (m c : Nat) (w : World) (hA : ArW w t a m c) :
    Calls Try.prog 19 #[.agg #[.int .i64 (opT t), .string (nameT t), .int .i64 (numT t), .slice a m c]] w fun e w' => e = .returned (.int .i64 ((min (depth t) 65 : Nat) : Int)) ∧ Below w.heap.size w w' := by
  obtain ⟨W2, hW2, hB2, hs2, S2⟩ := box1 w (opT t) (nameT t) (numT t) a m c
  have cS := refdepth_any t a m c 64 W2 (by omega) (ArW.b hA hB2)
  rw [show ((64 : Nat) : Int) = 64 from rfl] at cS
  obtain ⟨s0, s1, s2, s3⟩ := S2.four
  have h1 := dpTo_min t 64
  clear S2 hA
  generalize dpTo 64 t = sz at *
  have H1 := Lib.hid (show ((min sz 65 : Nat) : Int) = ((min (depth t) 65 : Nat) : Int) by rw [show (65 : Nat) = 64 + 1 from rfl, h1])
  clear h1
  generalize ((min (depth t) 65 : Nat) : Int) = R at *
  generalize opT t = op at *
  generalize nameT t = nm at *
  generalize numT t = nu at *
  go_enter Try.func19, Try.ntmps19
  go_wp2_with (go_at_call 60; ((with_reducible refine cS.mono ?_); rintro e W5 ⟨rfl, hb5⟩))
  all_goals go_ret
  all_goals exact ⟨one (by rw [← H1.out]; omega), bel_trans hB2 hb5⟩
end Go.Proofs.Ytbmniajimkondaa.T
namespace Go.Proofs.Ytbmniajimkondaa.T
open Go.RowKit L
set_option linter.unusedVariables false
set_option linter.unusedSimpArgs false

def exX : Tm := .mk 1 ⟨#[120]⟩ 0 []
def ex3 : Tm := .mk 4 ⟨#[]⟩ 3 []
def exT : Tm := .mk 3 ⟨#[102]⟩ 0 [exX, ex3]
theorem ex_size : size exT = 3 := rfl
theorem ex_depth : depth exT = 2 := rfl
theorem ex_apart : (all exT).Nodup := by simp [all, alls, exT, exX, ex3]
theorem ex_cmp : cmpT ex3 exX = 1 := rfl
/-- the example in memory -/
theorem ex_mem (w : World) : ∃ W, (w.alloc (.cells #[.int .i64 1, .string ⟨#[120]⟩, .int .i64 0, .slice none 0 0, .int .i64 4, .string ⟨#[]⟩, .int .i64 3, .slice none 0 0] 24)).alloc (.cells #[.int .i64 3, .string ⟨#[102]⟩, .int .i64 0, .slice (some ⟨w.heap.size, 0, none⟩) 2 2] 24) = W ∧ Below w.heap.size w W ∧ W.heap.size = w.heap.size + 2 ∧
    Blk W w.heap.size #[.int .i64 1, .string ⟨#[120]⟩, .int .i64 0, .slice none 0 0, .int .i64 4, .string ⟨#[]⟩, .int .i64 3, .slice none 0 0] 24 ∧ TBox W (w.heap.size + 1) 3 ⟨#[102]⟩ 0 (some ⟨w.heap.size, 0, none⟩) 2 2 := by
  refine ⟨_, rfl, bel_alloc (bel_alloc (Below.refl _ _) _) _, by simp, Blk.alloc (Blk.new w _ _) _, ?_⟩
  have := TBox.new (w.alloc (.cells #[.int .i64 1, .string ⟨#[120]⟩, .int .i64 0, .slice none 0 0, .int .i64 4, .string ⟨#[]⟩, .int .i64 3, .slice none 0 0] 24)) 3 ⟨#[102]⟩ 0 (some ⟨w.heap.size, 0, none⟩) 2 2
  rwa [World.size_alloc] at this
theorem leaf_ar (B : Nat) (w : World) (o : Int) (s : ByteArray) (z : Int) : Ar B w (.mk o s z []) none 0 0 := by
  rw [Ar]; exact ⟨rfl, Nat.le_refl _, Nat.zero_le _, fun _ => rfl, fun h => absurd h (by omega)⟩
theorem ex_ar {w W : World} (hb : Below w.heap.size w W) (hs : w.heap.size < W.heap.size) (h : Blk W w.heap.size #[.int .i64 1, .string ⟨#[120]⟩, .int .i64 0, .slice none 0 0, .int .i64 4, .string ⟨#[]⟩, .int .i64 3, .slice none 0 0] 24) : ArW W exT (some ⟨w.heap.size, 0, none⟩) 2 2 := by
  unfold ArW exT
  rw [Ar]
  refine ⟨rfl, Nat.le_refl _, by unfold maxLen; omega, fun h => (by cases h), fun _ => ⟨w.heap.size, 0, rfl, hs, ?_⟩⟩
  rw [Rw, Rw, Rw]
  exact ⟨⟨none, 0, 0, Blk.cell h 0, Blk.cell h 1, Blk.cell h 2, Blk.cell h 3, leaf_ar _ _ _ _ _⟩, ⟨none, 0, 0, Blk.cell h 4, Blk.cell h 5, Blk.cell h 6, Blk.cell h 7, leaf_ar _ _ _ _ _⟩, trivial⟩

set_option maxRecDepth 100000 in
set_option maxHeartbeats 8000000 in
theorem goes_any (w : World) : Calls Try.prog 13 #[] w fun e w' => e = .returned (.bool true) ∧ Below w.heap.size w w' := by
  obtain ⟨W, hW, hB, hs, R, S⟩ := ex_mem w
  have hA := ex_ar hB (by omega) R
  have hBd : Below W.heap.size W W.drew := (Below.refl _ _).drew
  have c1 := fun (w' : World) (h : Below W.heap.size W w') => tSize_any exT (some ⟨w.heap.size, 0, none⟩) 2 2 w' (ArW.b hA h)
  have c2 := fun (w' : World) (h : Below W.heap.size W w') => Depth_few exT (some ⟨w.heap.size, 0, none⟩) 2 2 w' (by rw [ex_size]; omega) (ArW.b hA h)
  have c3 := fun (w' : World) (h : Below W.heap.size W w') => Parts_few exT (some ⟨w.heap.size, 0, none⟩) 2 2 w' (by rw [ex_size]; omega) ex_apart (ArW.b hA h)
  have c4 := fun (w' : World) (h : Below W.heap.size W w') => Compare_any ex3 exX none 0 0 none 0 0 w' (leaf_ar _ _ _ _ _) (leaf_ar _ _ _ _ _)
  rw [ex_cmp] at c4
  rw [ex_size] at c1 c3
  rw [ex_depth] at c2
  have e1 : ((min 3 4097 : Nat) : Int) = 3 := rfl
  have e2 : ((min 2 65 : Nat) : Int) = 2 := rfl
  rw [e1] at c1
  rw [e2] at c2
  simp only [show opT exT = 3 from rfl, show nameT exT = ⟨#[102]⟩ from rfl, show numT exT = 0 from rfl] at c1 c2 c3
  simp only [show opT ex3 = 4 from rfl, show nameT ex3 = ⟨#[]⟩ from rfl, show numT ex3 = 3 from rfl, show opT exX = 1 from rfl, show nameT exX = ⟨#[120]⟩ from rfl, show numT exX = 0 from rfl] at c4
  have lS := Blk.lt S
  have lR := Blk.lt R
  obtain ⟨s0, s1, s2, s3⟩ := S.four
  have r0 := Blk.cell R 0
  have r1 := Blk.cell R 1
  have r2 := Blk.cell R 2
  have r3 := Blk.cell R 3
  have r4 := Blk.cell R 4
  have r5 := Blk.cell R 5
  have r6 := Blk.cell R 6
  have r7 := Blk.cell R 7
  clear hA e1 e2
  go_enter Try.func13, Try.ntmps13
  go_wp2_with fail
  go_region_held3 (fun w' => w'.cell? ⟨w.heap.size + 1, 0, none⟩ = some (.int .i64 3) ∧ w'.cell? ⟨w.heap.size + 1, 1, none⟩ = some (.string ⟨#[102]⟩) ∧ w'.cell? ⟨w.heap.size + 1, 2, none⟩ = some (.int .i64 0) ∧ w'.cell? ⟨w.heap.size + 1, 3, none⟩ = some (.slice (some ⟨w.heap.size, 0, none⟩) 2 2) ∧ w'.cell? ⟨w.heap.size, 0, none⟩ = some (.int .i64 1) ∧ w'.cell? ⟨w.heap.size, 1, none⟩ = some (.string ⟨#[120]⟩) ∧ w'.cell? ⟨w.heap.size, 2, none⟩ = some (.int .i64 0) ∧ w'.cell? ⟨w.heap.size, 3, none⟩ = some (.slice none 0 0) ∧ w'.cell? ⟨w.heap.size, 4, none⟩ = some (.int .i64 4) ∧ w'.cell? ⟨w.heap.size, 5, none⟩ = some (.string ⟨#[]⟩) ∧ w'.cell? ⟨w.heap.size, 6, none⟩ = some (.int .i64 3) ∧ w'.cell? ⟨w.heap.size, 7, none⟩ = some (.slice none 0 0))
    (first | (exact ⟨(Bz.cell lS).trans s0, (Bz.cell lS).trans s1, (Bz.cell lS).trans s2, (Bz.cell lS).trans s3, (Bz.cell lR).trans r0, (Bz.cell lR).trans r1, (Bz.cell lR).trans r2, (Bz.cell lR).trans r3, (Bz.cell lR).trans r4, (Bz.cell lR).trans r5, (Bz.cell lR).trans r6, (Bz.cell lR).trans r7⟩) | go_keep)
    (first
      | (go_at_call 16; ((with_reducible refine (c1 _ (by assumption)).mono ?_); rintro e w4 ⟨rfl, hb4⟩; have Bz := bel_trans (a := W) (by assumption) hb4))
      | (go_at_call 18; ((with_reducible refine (c2 _ (by assumption)).mono ?_); rintro e w4 ⟨rfl, hb4⟩; have Bz := bel_trans (a := W) (by assumption) hb4))
      | (go_at_call 53; ((with_reducible refine (c3 _ (by assumption)).mono ?_); rintro e w4 ⟨⟨A7, C7, rfl⟩, hb4⟩; have Bz := bel_trans (a := W) (by assumption) hb4))
      | (go_at_call 54; ((with_reducible refine (c4 _ (by assumption)).mono ?_); rintro e w4 ⟨rfl, hb4⟩; have Bz := bel_trans (a := W) (by assumption) hb4)))
  all_goals go_wp2
  all_goals go_ret
  all_goals exact ⟨rfl, bel_trans hB Bz⟩
end Go.Proofs.Ytbmniajimkondaa.T
