/-
  What is proved: the places of a list of terms at which a term stands that does not stand before, for fewer than twenty that are all apart.
-/
import Derived.Test.YtkgaaenkgopbcaaTrmP
import Derived.Test.YtkgaaenkgopbcaaShelf
import Derived.Test.YtkgaaenkgopbcaaLibF
import Derived.Sort.OwnSortedInts
import Derived.Laws.MakeOwn
namespace Go.Proofs.Ytkgaaenkgopbcaa.T
open Go.RowKit L
set_option linter.unusedVariables false
set_option linter.unusedSimpArgs false

def ints (zs : List Nat) : List Int := zs.map (fun z : Nat => (z : Int))
theorem ints_map (zs : List Nat) : (ints zs).map (Value.int .i64) = zs.map (fun z : Nat => Value.int .i64 (z : Int)) := by simp [ints]
theorem RowN.holds {w : World} {g : Nat} {zs : List Nat} (h : RowN w g zs) : Go.Sort.Holds (Value.int .i64) w g 0 (ints zs).toArray :=
  holds_of_blockI h (by rw [ints_map]; simp [ints]; exact List.take_of_length_le (by simp))
theorem sort_ints {zs ys : List Nat} (hp : zs.Perm ys) (hs : ys.Pairwise (fun x y => x < y)) : (ints zs).mergeSort (fun x y => decide (x ≤ y)) = ints ys := by
  refine List.Perm.eq_of_pairwise (le := fun x y => x ≤ y) (fun a b _ _ h1 h2 => by omega) ?_ ?_ ?_
  · have := List.pairwise_mergeSort (le := fun x y : Int => decide (x ≤ y)) (fun a b c h1 h2 => by simp at *; omega) (fun a b => by simp; omega) (ints zs)
    simpa using this
  · unfold ints
    rw [List.pairwise_map]
    exact hs.imp (fun h => by omega)
  · exact (List.mergeSort_perm _ _).trans (hp.map _)
theorem sort_row (g : Nat) (zs ys : List Nat) (hp : zs.Perm ys) (hs : ys.Pairwise (fun x y => x < y)) (N cap : Nat) (hN : N = zs.length) (hN2 : N ≤ 1000000) (w : World) (hr : RowN w g zs) :
    Calls Try.prog 73 #[.slice (some ⟨g, 0, none⟩) N cap] w fun e w' => (∃ v, e = .returned v) ∧ RowN w' g ys ∧ w.grownBy w' (some g) := by
  have hl : (ints zs).length = N := by rw [hN]; simp [ints]
  have hc := Try.slices_Sort_int g 0 cap (ints zs) w hr.holds (Blk.lt hr) (by omega)
  rw [hl, sort_ints hp hs] at hc
  refine hc.mono fun e w' ⟨he, n, os, hw⟩ => ?_
  subst hw
  refine ⟨⟨_, he⟩, ?_, grownBy_sortedI _⟩
  have hb := heap_sortedI (os := os) (n := n) (ints ys).toArray hr
  unfold RowN Blk
  rw [hb]
  congr 2
  have hly : ys.length = zs.length := hp.length_eq.symm
  have ht := take_putCellsI (zs.map (fun z : Nat => Value.int .i64 (z : Int))).toArray (ints ys) (by simp [ints, hly])
  rw [ints_map] at ht
  apply Array.toList_inj.1
  rw [← ht, List.take_of_length_le]
  simp [Go.Sort.putCells, ints, hly]
theorem nodup_inj {α : Type} {l : List α} (h : l.Nodup) {i j : Nat} (hi : i < l.length) (hj : j < l.length) (e : l[i] = l[j]) : i = j := by
  rcases Nat.lt_trichotomy i j with h1 | h1 | h1
  · exact absurd e (List.pairwise_iff_getElem.1 h i j hi hj h1)
  · exact h1
  · exact absurd e.symm (List.pairwise_iff_getElem.1 h j i hj hi h1)
theorem intI : (Try.prog.info? 3).map (fun i => (i.zero, i.size, i.bytes)) = some (some (.int .i64 0), 1, 8) := by kernel_rfl
theorem made_row (n : Nat) (w : World) : RowN (w.alloc (.cells (madeCells #[.int .i64 0] n) 3)) w.heap.size (List.replicate n 0) := by
  have h := heap_alloc_new w (.cells (madeCells #[Value.int .i64 0] n) 3)
  unfold RowN Blk
  rw [h]
  congr 2
  apply Array.ext (by simp [size_madeCells]) 
  intro i h1 h2
  simp [madeCells, Nat.mod_one]
theorem range_step (n k : Nat) (h : k < n) : (List.range k ++ List.replicate (n - k) 0).set k k = List.range (k + 1) ++ List.replicate (n - (k + 1)) 0 := by
  rw [List.set_append_right _ _ (by simp), List.length_range, Nat.sub_self, show n - k = n - (k + 1) + 1 by omega, List.replicate_succ, List.set_cons_zero, List.range_succ]
  simp

set_option maxRecDepth 100000 in
set_option maxHeartbeats 8000000 in
theorem firsts_few (A : Option Addr) (n c : Nat) (l : List Tm) (w : World) (hT : TsW w A n c l) (h0 : 0 < n) (hn : n < 20) (hd : l.Nodup) :
    Calls Try.prog 56 #[.slice A n c] w fun e w' => e = .returned (.slice (some ⟨w.heap.size + 1, 0, none⟩) n n) ∧ RowN w' (w.heap.size + 1) (List.range n) ∧ Below w.heap.size w w' := by
  obtain ⟨W1, hW1⟩ : ∃ W1, w.alloc (.cells #[.slice A n c] 22) = W1 := ⟨_, rfl⟩
  have hB1 : Below w.heap.size w W1 := by rw [← hW1]; exact bel_alloc (Below.refl _ _) _
  have hs1 : W1.heap.size = w.heap.size + 1 := by rw [← hW1]; simp
  have R1 : Blk W1 w.heap.size #[.slice A n c] 22 := by rw [← hW1]; exact Blk.new w _ _
  have hT1 : IsT W1.heap.size W1 A n c l := TsW.b hT hB1
  have hc1 : CmpIn (w.heap.size + 1) w.heap.size n l W1 := fun i j W hb hs hi hj => firsts1_any w.heap.size A n c l i j W ((hb.block _ (by omega)).trans R1) ((hT1.bel (hb.mono (by omega))).mono (by omega)) hi hj
  have hc2 : EqIn (w.heap.size + 1) w.heap.size n l W1 := fun i j W hb hs hi hj => firsts2_any w.heap.size A n c l i j W ((hb.block _ (by omega)).trans R1) ((hT1.bel (hb.mono (by omega))).mono (by omega)) hi hj
  have hl : l.length = n := hT.1.symm
  obtain ⟨W2, hW2⟩ : ∃ W2, W1.alloc (.cells (madeCells #[.int .i64 0] n) 3) = W2 := ⟨_, rfl⟩
  have hmk := fun w => run_make_row' (P := Try.prog) 58 3 (.int .i64 0) 8 Try.underlying58 intI rfl .i64 .i64 n (by omega) (by omega) w
  have hmk1 := hmk W1
  rw [hW2] at hmk1
  have hB2 : Below W1.heap.size W1 W2 := by rw [← hW2]; exact bel_alloc (Below.refl _ _) _
  have R2 : RowN W2 (w.heap.size + 1) (List.range 0 ++ List.replicate (n - 0) 0) := by
    rw [← hW2, ← hs1]; simpa using made_row n W1
  have r0 := Blk.cell R1 0
  have hsz2 : w.heap.size + 2 ≤ W2.heap.size := by rw [← hW2]; simp; omega
  -- the sorts, in whatever world that has grown so
  have cS := fun (W : World) (hg : W2.grownBy W (some (w.heap.size + 1))) (hr : RowN W (w.heap.size + 1) (List.range n)) =>
    stableFunc_few (w.heap.size + 1) w.heap.size n l W1 hc1 (List.range n) (by simp) n n (by simp) hn W ((hB2.mono (by omega)).trans (gr_below hg (by omega) (Nat.le_refl _))) hr
  obtain ⟨Z, hZ⟩ : ∃ Z, (isortR (fun i j => cmpT (atL l i) (atL l j)) [] (List.range n)).reverse = Z := ⟨_, rfl⟩
  have hp : Z.Perm (List.range n) := by
    rw [← hZ]
    exact (List.reverse_perm _).trans (by simpa using isortR_perm (fun i j => cmpT (atL l i) (atL l j)) (List.range n) [])
  rw [hZ] at cS
  have hZl : Z.length = n := by rw [hp.length_eq]; simp
  have hZn : Z.Nodup := hp.nodup_iff.2 List.nodup_range
  have hZlt : ∀ z ∈ Z, z < n := fun z hz => by simpa using hp.mem_iff.1 hz
  have hne : ∀ k x y, Z[k]? = some x → Z[k + 1]? = some y → eqT (atL l y) (atL l x) = false := fun k x y hx hy => by
    rw [eqT_no]
    intro he
    have hxl := hZlt x (List.mem_of_getElem? hx)
    have hyl := hZlt y (List.mem_of_getElem? hy)
    have ex : atL l x = l[x]'(by omega) := atL_some (List.getElem?_eq_getElem _)
    have ey : atL l y = l[y]'(by omega) := atL_some (List.getElem?_eq_getElem _)
    rw [ex, ey] at he
    have hxy : y = x := nodup_inj hd _ _ he
    subst hxy
    obtain ⟨h1, e1⟩ := List.getElem?_eq_some_iff.1 hx
    obtain ⟨h2, e2⟩ := List.getElem?_eq_some_iff.1 hy
    have := nodup_inj hZn _ _ (e1.trans e2.symm)
    omega
  have cC := fun (W : World) (hg : W2.grownBy W (some (w.heap.size + 1))) (hr : RowN W (w.heap.size + 1) Z) =>
    compact_apart (w.heap.size + 1) w.heap.size n l W1 hc2 Z hZlt hne n n hZl.symm (by omega) W ((hB2.mono (by omega)).trans (gr_below hg (by omega) (Nat.le_refl _))) hr
  have cO := fun (W : World) (hr : RowN W (w.heap.size + 1) Z) => sort_row (w.heap.size + 1) Z (List.range n) hp List.pairwise_lt_range n n hZl.symm (by omega) W hr
  have HR2 := Lib.hid R2
  have HB := Lib.hid (show ∀ W, W2.grownBy W (some (w.heap.size + 1)) → Below w.heap.size w W from fun W hg => (bel_trans hB1 hB2).trans (gr_below hg (by omega) (by omega)))
  clear hT R1 hT1 hc1 hc2 hl hW2 hmk R2 hZ hp hZl hZn hZlt hne hd
  go_enter Try.func56, Try.ntmps56
  go_wp2
  go_loopw [10] (fun i wr0 => ∃ (wr : World) (k : Nat), wr = wr0 ∧ k ≤ n ∧ i = .int .i64 k ∧ W2.grownBy wr (some (w.heap.size + 1)) ∧ Hid (RowN wr (w.heap.size + 1) (List.range k ++ List.replicate (n - k) 0))) (fun i _ => n - (intOf i).toNat)
  case atStart => exact ⟨_, 0, rfl, by omega, rfl, World.grownBy.refl _ _, HR2⟩
  case round =>
    obtain ⟨wr, k, rfl, hk, rfl, hG, hR⟩ := hrel
    by_cases hlt : k < n
    · have hz : (List.range k ++ List.replicate (n - k) 0)[k]? = some 0 := by
        rw [List.getElem?_append_right (by simp), List.length_range, Nat.sub_self, List.getElem?_replicate, if_pos (by omega)]
      have c0 := RowN.at hR.out hz
      have q0 := Blk.free hR.out k
      have hn1 := Lib.hid (RowN.set hR.out k k)
      have hst := Lib.hid (range_step n k hlt)
      clear hz
      have hk0 : 0 ≤ (k : Int) := by omega
      have hk1 : (k : Int) < (n : Int) := by omega
      go_wp2
      go_roundw
      case rel => exact ⟨_, k + 1, rfl, by omega, by go_num, gr_set hG _ _, Lib.hid (by have h := hn1.out; rwa [hst.out] at h)⟩
      case measure => simp [intOf]; omega
    · obtain rfl : k = n := by omega
      have hrn : RowN wr (w.heap.size + 1) (List.range k) := by have h := hR.out; simpa using h
      have cS1 := cS wr hG hrn
      clear hR cS hrn
      go_wp2_with (first
        | (go_at_call 69; ((with_reducible refine cS1.mono ?_); rintro e w5 ⟨⟨v, rfl⟩, hR5, hG5⟩; have H5 := Lib.hid hR5; clear hR5; have G5 := hG.trans hG5))
        | (go_at_call 71; ((with_reducible refine (cC _ G5 H5.out).mono ?_); rintro e w6 ⟨rfl, hR6, hG6⟩; have H6 := Lib.hid hR6; clear hR6; have G6 := G5.trans hG6))
        | (go_at_call 73; ((with_reducible refine (cO _ H6.out).mono ?_); rintro e w7 ⟨⟨v2, rfl⟩, hR7, hG7⟩; have H7 := Lib.hid hR7; clear hR7; have G7 := G6.trans hG7)))
      go_ret
      exact ⟨rfl, H7.out, HB.out _ G7⟩
end Go.Proofs.Ytkgaaenkgopbcaa.T
