/-
  What is proved: the sort of places; the claims of a list at places, in a new list.
-/
import Derived.Test.YtjjfbgadpgckeaaGreatC1
import Derived.Test.YtjjfbgadpgckeaaGreatShelf
import Derived.Test.YtjjfbgadpgckeaaGreatBC
import Derived.Sort.OwnSortedInts
import Derived.Laws.MakeOwn
namespace Go.Proofs.YtjjfbgadpgckeaaGreat.C
open Go.RowKit L T
set_option linter.unusedVariables false
set_option linter.unusedSimpArgs false

def ints (zs : List Nat) : List Int := zs.map (fun z : Nat => (z : Int))
theorem ints_map (zs : List Nat) : (ints zs).map (Value.int .i64) = zs.map (fun z : Nat => Value.int .i64 (z : Int)) := by simp [ints]
theorem RowN.holds {w : World} {g : Nat} {zs : List Nat} (h : RowN w g zs) : Go.Sort.Holds (Value.int .i64) w g 0 (ints zs).toArray :=
  holds_of_blockI h (by rw [ints_map]; simp [ints]; exact List.take_of_length_le (by simp))
theorem sort_ints {zs ys : List Nat} (hp : zs.Perm ys) (hs : ys.Pairwise (fun x y => x < y)) : (ints zs).mergeSort (fun x y => decide (x ≤ y)) = ints ys := by
  refine List.Perm.eq_of_pairwise (le := fun x y => x ≤ y) (fun a b _ _ h1 h2 => by omega) ?_ ?_ ?_
  · have := List.pairwise_mergeSort (le := fun x y : Int => decide (x ≤ y)) (fun a b c h1 h2 => by simp at *; omega) (fun a b => by simp; omega) (ints zs)
    simpa using this
  · unfold ints
    rw [List.pairwise_map]
    exact hs.imp (fun h => by omega)
  · exact (List.mergeSort_perm _ _).trans (hp.map _)
theorem sort_row (g : Nat) (zs ys : List Nat) (hp : zs.Perm ys) (hs : ys.Pairwise (fun x y => x < y)) (N cap : Nat) (hN : N = zs.length) (hN2 : N ≤ 1000000) (w : World) (hr : RowN w g zs) :
    Calls Tryz.prog 75 #[.slice (some ⟨g, 0, none⟩) N cap] w fun e w' => (∃ v, e = .returned v) ∧ RowN w' g ys ∧ w.grownBy w' (some g) := by
  have hl : (ints zs).length = N := by rw [hN]; simp [ints]
  have hc := Tryz.slices_Sort_int g 0 cap (ints zs) w hr.holds (Blk.lt hr) (by omega)
  rw [hl, sort_ints hp hs] at hc
  refine hc.mono fun e w' ⟨he, n, os, hw⟩ => ?_
  subst hw
  refine ⟨⟨_, he⟩, ?_, grownBy_sortedI _⟩
  have hb := heap_sortedI (os := os) (n := n) (ints ys).toArray hr
  unfold RowN Blk
  rw [hb]
  congr 2
  have hly : ys.length = zs.length := hp.length_eq.symm
  have ht := take_putCellsI (zs.map (fun z : Nat => Value.int .i64 (z : Int))).toArray (ints ys) (by simp [ints, hly])
  rw [ints_map] at ht
  apply Array.toList_inj.1
  rw [← ht, List.take_of_length_le]
  simp [Go.Sort.putCells, ints, hly]
theorem nodup_inj {α : Type} {l : List α} (h : l.Nodup) {i j : Nat} (hi : i < l.length) (hj : j < l.length) (e : l[i] = l[j]) : i = j := by
  rcases Nat.lt_trichotomy i j with h1 | h1 | h1
  · exact absurd e (List.pairwise_iff_getElem.1 h i j hi hj h1)
  · exact h1
  · exact absurd e.symm (List.pairwise_iff_getElem.1 h j i hj hi h1)
theorem intI : (Tryz.prog.info? 3).map (fun i => (i.zero, i.size, i.bytes)) = some (some (.int .i64 0), 1, 8) := by kernel_rfl
theorem made_row (n : Nat) (w : World) : RowN (w.alloc (.cells (madeCells #[.int .i64 0] n) 3)) w.heap.size (List.replicate n 0) := by
  have h := heap_alloc_new w (.cells (madeCells #[Value.int .i64 0] n) 3)
  unfold RowN Blk
  rw [h]
  congr 2
  apply Array.ext (by simp [size_madeCells]) 
  intro i h1 h2
  simp [madeCells, Nat.mod_one]
theorem range_step (n k : Nat) (h : k < n) : (List.range k ++ List.replicate (n - k) 0).set k k = List.range (k + 1) ++ List.replicate (n - (k + 1)) 0 := by
  rw [List.set_append_right _ _ (by simp), List.length_range, Nat.sub_self, show n - k = n - (k + 1) + 1 by omega, List.replicate_succ, List.set_cons_zero, List.range_succ]
  simp

/-! a row of terms that is filled place by place -/
def HdA (w0 : World) (h : Hc) (t : Cl) : Prop := h.op = opC t ∧ h.nm = nmC t ∧ h.so = soC t ∧ ArC w0.heap.size w0 t h.k h.a h.n h.c
def PartM (w0 : World) (g : Nat) (ls : List Cl) (m k : Nat) (wr : World) : Prop :=
  ∃ hs, hs.length = k ∧ OwnC wr w0.heap.size (.slice (some ⟨g, 0, none⟩) m m) (hs ++ List.replicate (m - k) Hc.zero) ∧ ∀ (j : Nat) (h : Hc) (t : Cl), hs[j]? = some h → ls[j]? = some t → HdA w0 h t
theorem PartM.go {w0 wr w5 : World} {g : Nat} {ls : List Cl} {x : Cl} {m k : Nat} {h : Hc} (hp : PartM w0 g ls m k wr) (hk : k < m) (hx : ls[k]? = some x) (b5 : Below wr.heap.size wr w5) (hf : HdA w0 h x) :
    (w5.cell? ⟨g, k * 5, none⟩ = some (.int .i64 0) ∧ w5.cell? ⟨g, k * 5 + 1, none⟩ = some (.string ⟨#[]⟩) ∧ w5.cell? ⟨g, k * 5 + 2, none⟩ = some (.string ⟨#[]⟩) ∧ w5.cell? ⟨g, k * 5 + 3, none⟩ = some (.slice none 0 0) ∧ w5.cell? ⟨g, k * 5 + 4, none⟩ = some (.slice none 0 0)) ∧ (w5.frozen? ⟨g, k * 5, none⟩ = false ∧ w5.frozen? ⟨g, k * 5 + 1, none⟩ = false ∧ w5.frozen? ⟨g, k * 5 + 2, none⟩ = false ∧ w5.frozen? ⟨g, k * 5 + 3, none⟩ = false ∧ w5.frozen? ⟨g, k * 5 + 4, none⟩ = false) ∧ Hid (PartM w0 g ls m (k + 1) (set5 w5 g k h)) := by
  obtain ⟨hs, hl, ho, hfr⟩ := hp
  have hg : g < wr.heap.size := ho.row.lt
  have hlt : k < (hs ++ List.replicate (m - k) Hc.zero).length := by rw [List.length_append, List.length_replicate]; omega
  obtain ⟨c0, c1, c2, c3, c4⟩ := ho.at hlt
  have e : (hs ++ List.replicate (m - k) Hc.zero)[k] = Hc.zero := by
    rw [List.getElem_append_right (by omega), List.getElem_replicate]
  rw [e] at c0 c1 c2 c3 c4
  have hz : ∀ j, wr.frozen? ⟨g, j, none⟩ = false := fun j => ho.row.free j
  have ho5 := (ho.below b5).set k h hlt
  rw [show m - k = m - (k + 1) + 1 by omega, ← hl, list_step, hl] at ho5
  refine ⟨⟨(b5.cell (p := ⟨g, _, none⟩) hg).trans c0, (b5.cell (p := ⟨g, _, none⟩) hg).trans c1, (b5.cell (p := ⟨g, _, none⟩) hg).trans c2, (b5.cell (p := ⟨g, _, none⟩) hg).trans c3, (b5.cell (p := ⟨g, _, none⟩) hg).trans c4⟩, ⟨(b5.frozen (p := ⟨g, _, none⟩) hg).trans (hz _), (b5.frozen (p := ⟨g, _, none⟩) hg).trans (hz _), (b5.frozen (p := ⟨g, _, none⟩) hg).trans (hz _), (b5.frozen (p := ⟨g, _, none⟩) hg).trans (hz _), (b5.frozen (p := ⟨g, _, none⟩) hg).trans (hz _)⟩, Lib.hid ⟨hs ++ [h], by simp [hl], ho5, fun j h' t hj ht => ?_⟩⟩
  rcases Nat.lt_or_ge j hs.length with h1 | h1
  · rw [List.getElem?_append_left h1] at hj
    exact hfr j h' t hj ht
  · have hj2 := (List.getElem?_eq_some_iff.1 hj).1
    have hjk : j = k := by simp at hj2; omega
    subst hjk
    rw [List.getElem?_append_right h1, show j - hs.length = 0 by omega] at hj
    simp only [List.getElem?_cons_zero, Option.some.injEq] at hj
    rw [hx] at ht
    injection ht with ht
    subst hj ht
    exact hf
theorem PartM.done {w0 wr : World} {g : Nat} {ls : List Cl} {m : Nat} (hp : PartM w0 g ls m m wr) (hm : ls.length = m) (hb : Below w0.heap.size w0 wr) : CsW wr (some ⟨g, 0, none⟩) m m ls := by
  obtain ⟨hs, hl, ho, hfr⟩ := hp
  rw [Nat.sub_self, List.replicate_zero, List.append_nil] at ho
  refine ho.isC (Nat.le_refl _) (by omega) fun k hk hk2 => ?_
  obtain ⟨q1, q2, q3, q4⟩ := hfr k hs[k] ls[k] (List.getElem?_eq_getElem hk2) (List.getElem?_eq_getElem hk)
  exact ⟨q1, q2, q3, ArC.mono hb.size _ (ArC.bel hb _ q4)⟩
set_option maxRecDepth 100000 in
set_option maxHeartbeats 4000000 in
theorem firsts3_any (gl : Nat) (A : Option Addr) (n c : Nat) (l : List Cl) (i : Nat) (w0 w : World) (hb : Below w0.heap.size w0 w) (hg : Blk w gl #[.slice A n c] 23) (hT : CsW w0 A n c l) (hi : i < n) :
    Calls Tryz.prog 91 #[.int .i64 i, .pointer (some ⟨gl, 0, none⟩)] w fun e w' => ∃ h : Hc, e = .returned (.agg #[.int .i64 h.op, .string h.nm, .string h.so, .slice h.k.a h.k.n h.k.c, .slice h.a h.n h.c]) ∧ HdA w0 h (atC l i) ∧ Below w.heap.size w w' := by
  obtain ⟨bb, o, t, kk, A1, M, Cc, rfl, hbb, y0, y1, y2, y3, y4, hx, hok⟩ := hT.at hi
  have hn : n ≤ 9223372036854775807 := by have h1 := hT.2.1; have h2 := hT.2.2.1; unfold maxLen at h2; omega
  rw [atC_some hx]
  have hA : HdA w0 (hcOf t kk A1 M Cc) t := ⟨rfl, rfl, rfl, hok⟩
  obtain ⟨W1, hW1, hB1, hs1, R1⟩ := cbox1 w 0 ⟨#[]⟩ ⟨#[]⟩ SS.nil none 0 0
  dsimp only [SS.nil] at hW1
  have c0 := Blk.cell (Blk.below hg hB1) 0
  have hbw : bb < w.heap.size := Nat.lt_of_lt_of_le hbb hb.size
  have x0 := (hB1.cell (p := ⟨bb, _, none⟩) hbw).trans ((hb.cell (p := ⟨bb, _, none⟩) hbb).trans y0)
  have x1 := (hB1.cell (p := ⟨bb, _, none⟩) hbw).trans ((hb.cell (p := ⟨bb, _, none⟩) hbb).trans y1)
  have x2 := (hB1.cell (p := ⟨bb, _, none⟩) hbw).trans ((hb.cell (p := ⟨bb, _, none⟩) hbb).trans y2)
  have x3 := (hB1.cell (p := ⟨bb, _, none⟩) hbw).trans ((hb.cell (p := ⟨bb, _, none⟩) hbb).trans y3)
  have x4 := (hB1.cell (p := ⟨bb, _, none⟩) hbw).trans ((hb.cell (p := ⟨bb, _, none⟩) hbb).trans y4)
  obtain ⟨r0, r1, r2, r3, r4⟩ := R1.free
  obtain ⟨v0, v1, v2, v3, v4⟩ := R1.five
  obtain ⟨z0, z1, z2, z3, z4⟩ := (CBox.put R1 (opC t) (nmC t) (soC t) kk A1 M Cc).five
  unfold put5 at z0 z1 z2 z3 z4
  have HA := Lib.hid hA
  have HB := Lib.hid (put5_below hB1 (Nat.le_refl w.heap.size) (.int .i64 (opC t)) (.string (nmC t)) (.string (soC t)) (.slice kk.a kk.n kk.c) (.slice A1 M Cc))
  unfold put5 at HB
  dsimp only [SS.nil] at v3
  clear hA hok hx hT R1 hg y0 y1 y2 y3 y4
  unfold hcOf at HA
  have hi0 : 0 ≤ (i : Int) := by omega
  have hi1 : (i : Int) < (n : Int) := by omega
  generalize atC l i = tt at *
  generalize opC t = op at *
  generalize nmC t = nm at *
  generalize soC t = nu at *
  go_enter Tryz.func91, Tryz.ntmps91
  go_wp2
  simp [bodyPost, results, Tryz.results91, go_sem, z0, z1, z2, z3, z4]
  exact ⟨⟨op, nm, nu, kk, A1, M, Cc⟩, ⟨rfl, rfl, rfl, ⟨rfl, rfl, rfl⟩, rfl, rfl, rfl⟩, HA.out, HB.out⟩
set_option maxRecDepth 100000 in
set_option maxHeartbeats 4000000 in
theorem mapFirst_any (gl : Nat) (A : Option Addr) (n c : Nat) (l : List Cl) (zs rest : List Nat) (g cap m : Nat) (w0 w : World) (hb : Below w0.heap.size w0 w) (hg : Blk w gl #[.slice A n c] 23) (hT : CsW w0 A n c l) (hz : ∀ z ∈ zs, z < n) (hr : RowN w g (zs ++ rest)) (hm : m = zs.length) (hm0 : 0 < m) (hm2 : m ≤ 1000000) :
    Calls Tryz.prog 90 #[.slice (some ⟨g, 0, none⟩) m cap, .func (.func 91) #[] #[.pointer (some ⟨gl, 0, none⟩)]] w fun e w' => e = .returned (.slice (some ⟨w.heap.size, 0, none⟩) m m) ∧ CsW w' (some ⟨w.heap.size, 0, none⟩) m m (zs.map (atC l)) ∧ Below w.heap.size w w' := by
  have hmk := make_claims m hm2 w
  have hmd := made_claims m hm2 w
  obtain ⟨W1, hW1⟩ : ∃ W1, w.alloc (.cells (madeCells #[.int .i64 0, .string ⟨#[]⟩, .string ⟨#[]⟩, .slice none 0 0, .slice none 0 0] (m * 5)) 25) = W1 := ⟨_, rfl⟩
  rw [hW1] at hmk hmd
  have hB1 : Below w.heap.size w W1 := by rw [← hW1]; exact bel_alloc (Below.refl _ _) _
  have hm1 : ((m : Int) == 0) = false := by simp; omega
  obtain ⟨ls, hls⟩ : ∃ ls, zs.map (atC l) = ls := ⟨_, rfl⟩
  have hTw : CsW w A n c l := CsW.b hT hb
  have P0 : PartM w w.heap.size ls m 0 W1 := ⟨[], rfl, by simpa using hmd, fun j h t hj => by simp at hj⟩
  have hlm : ls.length = m := by rw [← hls, List.length_map, hm]
  have HK := Lib.hid (show ∀ k, k < m → ∃ z, (zs ++ rest)[k]? = some z ∧ z < n ∧ ls[k]? = some (atC l z) from fun k hk => ⟨zs[k], by rw [List.getElem?_append_left (by omega)]; exact List.getElem?_eq_getElem (by omega), hz _ (List.getElem_mem (by omega)), by
    subst hls
    rw [List.getElem?_map, List.getElem?_eq_getElem (show k < zs.length by omega)]; rfl⟩)
  rw [hls]
  have HP0 := Lib.hid P0
  have HG := Lib.hid hg
  have HR := Lib.hid hr
  have HT := Lib.hid hTw
  have HL := Lib.hid hlm
  clear hg hT hTw hz hr hm hmd P0 hW1 hls hlm hb
  go_enter Tryz.func90, Tryz.ntmps90
  go_wp2
  go_loopw [16] (fun i wr0 => ∃ (wr : World) (k : Nat), wr = wr0 ∧ k ≤ m ∧ i = .int .i64 k ∧ Below w.heap.size w wr ∧ Hid (PartM w w.heap.size ls m k wr)) (fun i _ => m - (intOf i).toNat)
  case atStart => exact ⟨_, 0, rfl, by omega, rfl, hB1, HP0⟩
  case round =>
    obtain ⟨wr, k, rfl, hk, rfl, hB, hR⟩ := hrel
    by_cases hlt : k < m
    · obtain ⟨z, hzk, hzn, hlk⟩ := HK.out k hlt
      have c0 := (hB.cell (p := ⟨_, k, none⟩) (Blk.lt HR.out)).trans (RowN.at HR.out hzk)
      have cc := firsts3_any gl A n c l z w wr hB (Blk.below HG.out hB) HT.out hzn
      have Hlk := Lib.hid hlk
      clear hzk hlk HK
      generalize atC l z = x at *
      have hk0 : 0 ≤ (k : Int) := by omega
      have hk1 : (k : Int) < (m : Int) := by omega
      go_wp2_with (go_at_call 91; ((with_reducible refine cc.mono ?_); rintro e w5 ⟨h, rfl, hF, hb5⟩; obtain ⟨⟨q0, q1, q2, q3, q4⟩, ⟨g0, g1, g2, g3, g4⟩, Hn⟩ := PartM.go hR.out hlt Hlk.out hb5 hF; clear hF))
      go_roundw
      case rel => exact ⟨_, k + 1, rfl, by omega, by go_num, set5_below (bel_trans hB hb5) (Nat.le_refl _) k _, Hn⟩
      case measure => simp [intOf]; omega
    · obtain rfl : k = m := by omega
      have Hd := Lib.hid (PartM.done hR.out HL.out hB)
      clear hR
      go_wp2
      go_ret
      exact ⟨rfl, Hd.out, hB⟩
theorem range_atC {l : List Cl} {n : Nat} (h : l.length = n) : (List.range n).map (atC l) = l := by
  refine List.ext_getElem (by simp [h]) fun i h1 h2 => ?_
  rw [List.getElem_map, List.getElem_range]
  exact atC_some (List.getElem?_eq_getElem h2)
end Go.Proofs.YtjjfbgadpgckeaaGreat.C
