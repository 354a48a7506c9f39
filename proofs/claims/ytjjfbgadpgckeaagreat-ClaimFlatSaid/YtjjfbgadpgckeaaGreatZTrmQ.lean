/-
  What is proved: the places of a list of terms at which a term stands that does not stand before, for fewer than twenty that are all apart.
-/
import Derived.Test.YtjjfbgadpgckeaaGreatB1
import Derived.Test.YtjjfbgadpgckeaaGreatShelf
import Derived.Test.YtjjfbgadpgckeaaGreatBL
import Derived.Test.YtjjfbgadpgckeaaGreatBT
import Derived.Sort.OwnSortedInts
import Derived.Laws.MakeOwn
namespace Go.Proofs.YtjjfbgadpgckeaaGreat.T
open Go.RowKit L
set_option linter.unusedVariables false
set_option linter.unusedSimpArgs false

def ints (zs : List Nat) : List Int := zs.map (fun z : Nat => (z : Int))
theorem ints_map (zs : List Nat) : (ints zs).map (Value.int .i64) = zs.map (fun z : Nat => Value.int .i64 (z : Int)) := by simp [ints]
theorem RowN.holds {w : World} {g : Nat} {zs : List Nat} (h : RowN w g zs) : Go.Sort.Holds (Value.int .i64) w g 0 (ints zs).toArray :=
  holds_of_blockI h (by rw [ints_map]; simp [ints]; exact List.take_of_length_le (by simp))
theorem sort_ints {zs ys : List Nat} (hp : zs.Perm ys) (hs : ys.Pairwise (fun x y => x < y)) : (ints zs).mergeSort (fun x y => decide (x ≤ y)) = ints ys := by
  refine List.Perm.eq_of_pairwise (le := fun x y => x ≤ y) (fun a b _ _ h1 h2 => by omega) ?_ ?_ ?_
  · have := List.pairwise_mergeSort (le := fun x y : Int => decide (x ≤ y)) (fun a b c h1 h2 => by simp at *; omega) (fun a b => by simp; omega) (ints zs)
    simpa using this
  · unfold ints
    rw [List.pairwise_map]
    exact hs.imp (fun h => by omega)
  · exact (List.mergeSort_perm _ _).trans (hp.map _)
theorem sort_row (g : Nat) (zs ys : List Nat) (hp : zs.Perm ys) (hs : ys.Pairwise (fun x y => x < y)) (N cap : Nat) (hN : N = zs.length) (hN2 : N ≤ 1000000) (w : World) (hr : RowN w g zs) :
    Calls Tryz.prog 75 #[.slice (some ⟨g, 0, none⟩) N cap] w fun e w' => (∃ v, e = .returned v) ∧ RowN w' g ys ∧ w.grownBy w' (some g) := by
  have hl : (ints zs).length = N := by rw [hN]; simp [ints]
  have hc := Tryz.slices_Sort_int g 0 cap (ints zs) w hr.holds (Blk.lt hr) (by omega)
  rw [hl, sort_ints hp hs] at hc
  refine hc.mono fun e w' ⟨he, n, os, hw⟩ => ?_
  subst hw
  refine ⟨⟨_, he⟩, ?_, grownBy_sortedI _⟩
  have hb := heap_sortedI (os := os) (n := n) (ints ys).toArray hr
  unfold RowN Blk
  rw [hb]
  congr 2
  have hly : ys.length = zs.length := hp.length_eq.symm
  have ht := take_putCellsI (zs.map (fun z : Nat => Value.int .i64 (z : Int))).toArray (ints ys) (by simp [ints, hly])
  rw [ints_map] at ht
  apply Array.toList_inj.1
  rw [← ht, List.take_of_length_le]
  simp [Go.Sort.putCells, ints, hly]
theorem nodup_inj {α : Type} {l : List α} (h : l.Nodup) {i j : Nat} (hi : i < l.length) (hj : j < l.length) (e : l[i] = l[j]) : i = j := by
  rcases Nat.lt_trichotomy i j with h1 | h1 | h1
  · exact absurd e (List.pairwise_iff_getElem.1 h i j hi hj h1)
  · exact h1
  · exact absurd e.symm (List.pairwise_iff_getElem.1 h j i hj hi h1)
theorem intI : (Tryz.prog.info? 3).map (fun i => (i.zero, i.size, i.bytes)) = some (some (.int .i64 0), 1, 8) := by kernel_rfl
theorem made_row (n : Nat) (w : World) : RowN (w.alloc (.cells (madeCells #[.int .i64 0] n) 3)) w.heap.size (List.replicate n 0) := by
  have h := heap_alloc_new w (.cells (madeCells #[Value.int .i64 0] n) 3)
  unfold RowN Blk
  rw [h]
  congr 2
  apply Array.ext (by simp [size_madeCells]) 
  intro i h1 h2
  simp [madeCells, Nat.mod_one]
theorem range_step (n k : Nat) (h : k < n) : (List.range k ++ List.replicate (n - k) 0).set k k = List.range (k + 1) ++ List.replicate (n - (k + 1)) 0 := by
  rw [List.set_append_right _ _ (by simp), List.length_range, Nat.sub_self, show n - k = n - (k + 1) + 1 by omega, List.replicate_succ, List.set_cons_zero, List.range_succ]
  simp

/-! a row of terms that is filled place by place -/
def HdA (w0 : World) (h : Hd) (t : Tm) : Prop := h.op = opT t ∧ h.nm = nameT t ∧ h.nu = numT t ∧ Ar w0.heap.size w0 t h.a h.n h.c
def PartM (w0 : World) (g : Nat) (ls : List Tm) (m k : Nat) (wr : World) : Prop :=
  ∃ hs, hs.length = k ∧ OwnT wr w0.heap.size (.slice (some ⟨g, 0, none⟩) m m) (hs ++ List.replicate (m - k) Hd.zero) ∧ ∀ (j : Nat) (h : Hd) (t : Tm), hs[j]? = some h → ls[j]? = some t → HdA w0 h t
theorem PartM.go {w0 wr w5 : World} {g : Nat} {ls : List Tm} {x : Tm} {m k : Nat} {h : Hd} (hp : PartM w0 g ls m k wr) (hk : k < m) (hx : ls[k]? = some x) (b5 : Below wr.heap.size wr w5) (hf : HdA w0 h x) :
    (w5.cell? ⟨g, k * 4, none⟩ = some (.int .i64 0) ∧ w5.cell? ⟨g, k * 4 + 1, none⟩ = some (.string ⟨#[]⟩) ∧ w5.cell? ⟨g, k * 4 + 2, none⟩ = some (.int .i64 0) ∧ w5.cell? ⟨g, k * 4 + 3, none⟩ = some (.slice none 0 0)) ∧ (w5.frozen? ⟨g, k * 4, none⟩ = false ∧ w5.frozen? ⟨g, k * 4 + 1, none⟩ = false ∧ w5.frozen? ⟨g, k * 4 + 2, none⟩ = false ∧ w5.frozen? ⟨g, k * 4 + 3, none⟩ = false) ∧ Hid (PartM w0 g ls m (k + 1) (set4 w5 g k h)) := by
  obtain ⟨hs, hl, ho, hfr⟩ := hp
  have hg : g < wr.heap.size := ho.row.lt
  have hlt : k < (hs ++ List.replicate (m - k) Hd.zero).length := by rw [List.length_append, List.length_replicate]; omega
  obtain ⟨c0, c1, c2, c3⟩ := ho.at hlt
  have e : (hs ++ List.replicate (m - k) Hd.zero)[k] = Hd.zero := by
    rw [List.getElem_append_right (by omega), List.getElem_replicate]
  rw [e] at c0 c1 c2 c3
  have hz : ∀ j, wr.frozen? ⟨g, j, none⟩ = false := fun j => ho.row.free j
  have ho5 := (ho.below b5).set k h hlt
  rw [show m - k = m - (k + 1) + 1 by omega, ← hl, list_step, hl] at ho5
  refine ⟨⟨(b5.cell (p := ⟨g, _, none⟩) hg).trans c0, (b5.cell (p := ⟨g, _, none⟩) hg).trans c1, (b5.cell (p := ⟨g, _, none⟩) hg).trans c2, (b5.cell (p := ⟨g, _, none⟩) hg).trans c3⟩, ⟨(b5.frozen (p := ⟨g, _, none⟩) hg).trans (hz _), (b5.frozen (p := ⟨g, _, none⟩) hg).trans (hz _), (b5.frozen (p := ⟨g, _, none⟩) hg).trans (hz _), (b5.frozen (p := ⟨g, _, none⟩) hg).trans (hz _)⟩, Lib.hid ⟨hs ++ [h], by simp [hl], ho5, fun j h' t hj ht => ?_⟩⟩
  rcases Nat.lt_or_ge j hs.length with h1 | h1
  · rw [List.getElem?_append_left h1] at hj
    exact hfr j h' t hj ht
  · have hj2 := (List.getElem?_eq_some_iff.1 hj).1
    have hjk : j = k := by simp at hj2; omega
    subst hjk
    rw [List.getElem?_append_right h1, show j - hs.length = 0 by omega] at hj
    simp only [List.getElem?_cons_zero, Option.some.injEq] at hj
    rw [hx] at ht
    injection ht with ht
    subst hj ht
    exact hf
theorem PartM.done {w0 wr : World} {g : Nat} {ls : List Tm} {m : Nat} (hp : PartM w0 g ls m m wr) (hm : ls.length = m) (hb : Below w0.heap.size w0 wr) : TsW wr (some ⟨g, 0, none⟩) m m ls := by
  obtain ⟨hs, hl, ho, hfr⟩ := hp
  rw [Nat.sub_self, List.replicate_zero, List.append_nil] at ho
  refine ho.isT (Nat.le_refl _) (by omega) fun k hk hk2 => ?_
  obtain ⟨q1, q2, q3, q4⟩ := hfr k hs[k] ls[k] (List.getElem?_eq_getElem hk2) (List.getElem?_eq_getElem hk)
  exact ⟨q1, q2, q3, Ar.mono hb.size _ (Ar.bel hb _ q4)⟩
set_option maxRecDepth 100000 in
set_option maxHeartbeats 4000000 in
theorem firsts3_any (gl : Nat) (A : Option Addr) (n c : Nat) (l : List Tm) (i : Nat) (w0 w : World) (hb : Below w0.heap.size w0 w) (hg : Blk w gl #[.slice A n c] 22) (hT : TsW w0 A n c l) (hi : i < n) :
    Calls Tryz.prog 77 #[.int .i64 i, .pointer (some ⟨gl, 0, none⟩)] w fun e w' => ∃ h : Hd, e = .returned (.agg #[.int .i64 h.op, .string h.nm, .int .i64 h.nu, .slice h.a h.n h.c]) ∧ HdA w0 h (atL l i) ∧ Below w.heap.size w w' := by
  obtain ⟨bb, o, t, A1, M, Cc, rfl, hbb, y0, y1, y2, y3, hx, hok⟩ := hT.at hi
  have hn : n ≤ 9223372036854775807 := by have h1 := hT.2.1; have h2 := hT.2.2.1; unfold maxLen at h2; omega
  rw [atL_some hx]
  have hA : HdA w0 (hdOf t A1 M Cc) t := ⟨rfl, rfl, rfl, hok⟩
  obtain ⟨W1, hW1, hB1, hs1, R1⟩ := box1 w 0 ⟨#[]⟩ 0 none 0 0
  have c0 := Blk.cell (Blk.below hg hB1) 0
  have hbw : bb < w.heap.size := Nat.lt_of_lt_of_le hbb hb.size
  have x0 := (hB1.cell (p := ⟨bb, _, none⟩) hbw).trans ((hb.cell (p := ⟨bb, _, none⟩) hbb).trans y0)
  have x1 := (hB1.cell (p := ⟨bb, _, none⟩) hbw).trans ((hb.cell (p := ⟨bb, _, none⟩) hbb).trans y1)
  have x2 := (hB1.cell (p := ⟨bb, _, none⟩) hbw).trans ((hb.cell (p := ⟨bb, _, none⟩) hbb).trans y2)
  have x3 := (hB1.cell (p := ⟨bb, _, none⟩) hbw).trans ((hb.cell (p := ⟨bb, _, none⟩) hbb).trans y3)
  obtain ⟨r0, r1, r2, r3⟩ := R1.free
  obtain ⟨v0, v1, v2, v3⟩ := R1.four
  obtain ⟨z0, z1, z2, z3⟩ := (TBox.put R1 (opT t) (nameT t) (numT t) A1 M Cc).four
  have HA := Lib.hid hA
  have HB := Lib.hid (put_below hB1 (Nat.le_refl w.heap.size) (.int .i64 (opT t)) (.string (nameT t)) (.int .i64 (numT t)) (.slice A1 M Cc))
  clear hA hok hx hT R1 hg y0 y1 y2 y3
  unfold hdOf at HA
  have hi0 : 0 ≤ (i : Int) := by omega
  have hi1 : (i : Int) < (n : Int) := by omega
  generalize atL l i = tt at *
  generalize opT t = op at *
  generalize nameT t = nm at *
  generalize numT t = nu at *
  go_enter Tryz.func77, Tryz.ntmps77
  go_wp2
  simp [bodyPost, results, Tryz.results77, go_sem, z0, z1, z2, z3]
  exact ⟨⟨op, nm, nu, A1, M, Cc⟩, ⟨rfl, rfl, rfl, rfl, rfl, rfl⟩, HA.out, HB.out⟩
set_option maxRecDepth 100000 in
set_option maxHeartbeats 4000000 in
theorem mapFirst_any (gl : Nat) (A : Option Addr) (n c : Nat) (l : List Tm) (zs : List Nat) (g cap m : Nat) (w0 w : World) (hb : Below w0.heap.size w0 w) (hg : Blk w gl #[.slice A n c] 22) (hT : TsW w0 A n c l) (hz : ∀ z ∈ zs, z < n) (hr : RowN w g zs) (hm : m = zs.length) (hm0 : 0 < m) (hm2 : m ≤ 1000000) :
    Calls Tryz.prog 76 #[.slice (some ⟨g, 0, none⟩) m cap, .func (.func 77) #[] #[.pointer (some ⟨gl, 0, none⟩)]] w fun e w' => e = .returned (.slice (some ⟨w.heap.size, 0, none⟩) m m) ∧ TsW w' (some ⟨w.heap.size, 0, none⟩) m m (zs.map (atL l)) ∧ Below w.heap.size w w' := by
  have hmk := make_terms m hm2 w
  have hmd := made_terms m hm2 w
  obtain ⟨W1, hW1⟩ : ∃ W1, w.alloc (.cells (madeCells #[.int .i64 0, .string ⟨#[]⟩, .int .i64 0, .slice none 0 0] (m * 4)) 53) = W1 := ⟨_, rfl⟩
  rw [hW1] at hmk hmd
  have hB1 : Below w.heap.size w W1 := by rw [← hW1]; exact bel_alloc (Below.refl _ _) _
  have hm1 : ((m : Int) == 0) = false := by simp; omega
  obtain ⟨ls, hls⟩ : ∃ ls, zs.map (atL l) = ls := ⟨_, rfl⟩
  have hTw : TsW w A n c l := TsW.b hT hb
  have P0 : PartM w w.heap.size ls m 0 W1 := ⟨[], rfl, by simpa using hmd, fun j h t hj => by simp at hj⟩
  have hlm : ls.length = m := by rw [← hls, List.length_map, hm]
  have HK := Lib.hid (show ∀ k, k < m → ∃ z, zs[k]? = some z ∧ z < n ∧ ls[k]? = some (atL l z) from fun k hk => ⟨zs[k], List.getElem?_eq_getElem (by omega), hz _ (List.getElem_mem (by omega)), by
    subst hls
    rw [List.getElem?_map, List.getElem?_eq_getElem (show k < zs.length by omega)]; rfl⟩)
  rw [hls]
  have HP0 := Lib.hid P0
  have HG := Lib.hid hg
  have HR := Lib.hid hr
  have HT := Lib.hid hTw
  have HL := Lib.hid hlm
  clear hg hT hTw hz hr hm hmd P0 hW1 hls hlm hb
  go_enter Tryz.func76, Tryz.ntmps76
  go_wp2
  go_loopw [16] (fun i wr0 => ∃ (wr : World) (k : Nat), wr = wr0 ∧ k ≤ m ∧ i = .int .i64 k ∧ Below w.heap.size w wr ∧ Hid (PartM w w.heap.size ls m k wr)) (fun i _ => m - (intOf i).toNat)
  case atStart => exact ⟨_, 0, rfl, by omega, rfl, hB1, HP0⟩
  case round =>
    obtain ⟨wr, k, rfl, hk, rfl, hB, hR⟩ := hrel
    by_cases hlt : k < m
    · obtain ⟨z, hzk, hzn, hlk⟩ := HK.out k hlt
      have c0 := (hB.cell (p := ⟨_, k, none⟩) (Blk.lt HR.out)).trans (RowN.at HR.out hzk)
      have cc := firsts3_any gl A n c l z w wr hB (Blk.below HG.out hB) HT.out hzn
      have Hlk := Lib.hid hlk
      clear hzk hlk HK
      generalize atL l z = x at *
      have hk0 : 0 ≤ (k : Int) := by omega
      have hk1 : (k : Int) < (m : Int) := by omega
      go_wp2_with (go_at_call 77; ((with_reducible refine cc.mono ?_); rintro e w5 ⟨h, rfl, hF, hb5⟩; obtain ⟨⟨q0, q1, q2, q3⟩, ⟨g0, g1, g2, g3⟩, Hn⟩ := PartM.go hR.out hlt Hlk.out hb5 hF; clear hF))
      go_roundw
      case rel => exact ⟨_, k + 1, rfl, by omega, by go_num, set4_below (bel_trans hB hb5) (Nat.le_refl _) k _, Hn⟩
      case measure => simp [intOf]; omega
    · obtain rfl : k = m := by omega
      have Hd := Lib.hid (PartM.done hR.out HL.out hB)
      clear hR
      go_wp2
      go_ret
      exact ⟨rfl, Hd.out, hB⟩
theorem range_atL {l : List Tm} {n : Nat} (h : l.length = n) : (List.range n).map (atL l) = l := by
  refine List.ext_getElem (by simp [h]) fun i h1 h2 => ?_
  rw [List.getElem_map, List.getElem_range]
  exact atL_some (List.getElem?_eq_getElem h2)

set_option maxRecDepth 100000 in
set_option maxHeartbeats 8000000 in
theorem firsts_few (A : Option Addr) (n c : Nat) (l : List Tm) (w : World) (hT : TsW w A n c l) (h0 : 0 < n) (hn : n < 20) (hd : l.Nodup) :
    Calls Tryz.prog 41 #[.slice A n c, .func (.func 43) #[] #[]] w fun e w' => ∃ g, e = .returned (.slice (some ⟨g, 0, none⟩) n n) ∧ TsW w' (some ⟨g, 0, none⟩) n n l ∧ Below w.heap.size w w' := by
  obtain ⟨W0, hW0⟩ : ∃ W0, w.alloc (.cells #[.slice A n c] 22) = W0 := ⟨_, rfl⟩
  have hB0 : Below w.heap.size w W0 := by rw [← hW0]; exact bel_alloc (Below.refl _ _) _
  have hs0 : W0.heap.size = w.heap.size + 1 := by rw [← hW0]; simp
  have R0 : Blk W0 w.heap.size #[.slice A n c] 22 := by rw [← hW0]; exact Blk.new w _ _
  obtain ⟨W1, hW1⟩ : ∃ W1, W0.alloc (.cells #[.func (.func 43) #[] #[]] 59) = W1 := ⟨_, rfl⟩
  have hB1 : Below w.heap.size w W1 := by rw [← hW1]; exact bel_alloc hB0 _
  have hs1 : W1.heap.size = w.heap.size + 2 := by rw [← hW1]; simp [hs0]
  have R1 : Blk W1 w.heap.size #[.slice A n c] 22 := by rw [← hW1]; exact Blk.alloc R0 _
  have Q1 : Blk W1 (w.heap.size + 1) #[.func (.func 43) #[] #[]] 59 := by rw [← hW1, ← hs0]; exact Blk.new W0 _ _
  have hT1 : IsT W1.heap.size W1 A n c l := TsW.b hT hB1
  have hc1 : CmpIn (w.heap.size + 2) (w.heap.size + 1) w.heap.size n l W1 := fun i j W hb hs hi hj => firsts1_any (w.heap.size + 1) w.heap.size A n c l i j W ((hb.block _ (by omega)).trans Q1) ((hb.block _ (by omega)).trans R1) ((hT1.bel (hb.mono (by omega))).mono (by omega)) hi hj
  have hc2 : EqIn (w.heap.size + 2) (w.heap.size + 1) w.heap.size n l W1 := fun i j W hb hs hi hj => firsts2_any (w.heap.size + 1) w.heap.size A n c l i j W ((hb.block _ (by omega)).trans Q1) ((hb.block _ (by omega)).trans R1) ((hT1.bel (hb.mono (by omega))).mono (by omega)) hi hj
  have hl : l.length = n := hT.1.symm
  obtain ⟨W2, hW2⟩ : ∃ W2, W1.alloc (.cells (madeCells #[.int .i64 0] n) 3) = W2 := ⟨_, rfl⟩
  have hmk := fun w => run_make_row' (P := Tryz.prog) 83 3 (.int .i64 0) 8 Tryz.underlying83 intI rfl .i64 .i64 n (by omega) (by omega) w
  have hmk1 := hmk W1
  rw [hW2] at hmk1
  have hB2 : Below W1.heap.size W1 W2 := by rw [← hW2]; exact bel_alloc (Below.refl _ _) _
  have R2 : RowN W2 (w.heap.size + 2) (List.range 0 ++ List.replicate (n - 0) 0) := by
    rw [← hW2, ← hs1]; simpa using made_row n W1
  have r0 := Blk.cell R1 0
  have hsz2 : w.heap.size + 3 ≤ W2.heap.size := by rw [← hW2]; simp; omega
  -- the sorts, in whatever world that has grown so
  have cS := fun (W : World) (hg : W2.grownBy W (some (w.heap.size + 2))) (hr : RowN W (w.heap.size + 2) (List.range n)) =>
    stableFunc_few (w.heap.size + 2) (w.heap.size + 1) w.heap.size n l W1 hc1 (List.range n) (by simp) n n (by simp) hn W ((hB2.mono (by omega)).trans (gr_below hg (by omega) (Nat.le_refl _))) hr
  obtain ⟨Z, hZ⟩ : ∃ Z, (isortR (fun i j => cmpT (atL l i) (atL l j)) [] (List.range n)).reverse = Z := ⟨_, rfl⟩
  have hp : Z.Perm (List.range n) := by
    rw [← hZ]
    exact (List.reverse_perm _).trans (by simpa using isortR_perm (fun i j => cmpT (atL l i) (atL l j)) (List.range n) [])
  rw [hZ] at cS
  have hZl : Z.length = n := by rw [hp.length_eq]; simp
  have hZn : Z.Nodup := hp.nodup_iff.2 List.nodup_range
  have hZlt : ∀ z ∈ Z, z < n := fun z hz => by simpa using hp.mem_iff.1 hz
  have hne : ∀ k x y, Z[k]? = some x → Z[k + 1]? = some y → eqT (atL l y) (atL l x) = false := fun k x y hx hy => by
    rw [eqT_no]
    intro he
    have hxl := hZlt x (List.mem_of_getElem? hx)
    have hyl := hZlt y (List.mem_of_getElem? hy)
    have ex : atL l x = l[x]'(by omega) := atL_some (List.getElem?_eq_getElem _)
    have ey : atL l y = l[y]'(by omega) := atL_some (List.getElem?_eq_getElem _)
    rw [ex, ey] at he
    have hxy : y = x := nodup_inj hd _ _ he
    subst hxy
    obtain ⟨h1, e1⟩ := List.getElem?_eq_some_iff.1 hx
    obtain ⟨h2, e2⟩ := List.getElem?_eq_some_iff.1 hy
    have := nodup_inj hZn _ _ (e1.trans e2.symm)
    omega
  have cC := fun (W : World) (hg : W2.grownBy W (some (w.heap.size + 2))) (hr : RowN W (w.heap.size + 2) Z) =>
    compact_apart (w.heap.size + 2) (w.heap.size + 1) w.heap.size n l W1 hc2 Z hZlt hne n n hZl.symm (by omega) W ((hB2.mono (by omega)).trans (gr_below hg (by omega) (Nat.le_refl _))) hr
  have cO := fun (W : World) (hr : RowN W (w.heap.size + 2) Z) => sort_row (w.heap.size + 2) Z (List.range n) hp List.pairwise_lt_range n n hZl.symm (by omega) W hr
  have HR2 := Lib.hid R2
  have HB := Lib.hid (show ∀ W, W2.grownBy W (some (w.heap.size + 2)) → Below w.heap.size w W from fun W hg => (bel_trans hB1 hB2).trans (gr_below hg (by omega) (by omega)))
  have HMp := Lib.hid (show ∀ W, W2.grownBy W (some (w.heap.size + 2)) → RowN W (w.heap.size + 2) (List.range n) → Calls Tryz.prog 76 #[.slice (some ⟨w.heap.size + 2, 0, none⟩) n n, .func (.func 77) #[] #[.pointer (some ⟨w.heap.size, 0, none⟩)]] W fun e w' => e = .returned (.slice (some ⟨W.heap.size, 0, none⟩) n n) ∧ TsW w' (some ⟨W.heap.size, 0, none⟩) n n l ∧ Below W.heap.size W w' from fun W hg hr => by
    have hbW := (bel_trans hB1 hB2).trans (gr_below hg (by omega) (by omega) : Below w.heap.size W2 W)
    have h2 := gr_below hg (show w.heap.size + 2 ≤ W2.heap.size by omega) (Nat.le_refl _)
    have := mapFirst_any w.heap.size A n c l (List.range n) (w.heap.size + 2) n n w W hbW (((hB2.mono (by omega)).trans h2).block _ (by omega) |>.trans R1) hT (by simp) hr (by simp) h0 (by omega)
    rwa [range_atL hl] at this)
  clear hT R1 hT1 hc1 hc2 hl hW2 hmk R2 hZ hp hZl hZn hZlt hne hd R0 Q1
  go_enter Tryz.func41, Tryz.ntmps41
  go_wp2
  go_loopw [12] (fun i wr0 => ∃ (wr : World) (k : Nat), wr = wr0 ∧ k ≤ n ∧ i = .int .i64 k ∧ W2.grownBy wr (some (w.heap.size + 2)) ∧ Hid (RowN wr (w.heap.size + 2) (List.range k ++ List.replicate (n - k) 0))) (fun i _ => n - (intOf i).toNat)
  case atStart => exact ⟨_, 0, rfl, by omega, rfl, World.grownBy.refl _ _, HR2⟩
  case round =>
    obtain ⟨wr, k, rfl, hk, rfl, hG, hR⟩ := hrel
    by_cases hlt : k < n
    · have hz : (List.range k ++ List.replicate (n - k) 0)[k]? = some 0 := by
        rw [List.getElem?_append_right (by simp), List.length_range, Nat.sub_self, List.getElem?_replicate, if_pos (by omega)]
      have c0 := RowN.at hR.out hz
      have q0 := Blk.free hR.out k
      have hn1 := Lib.hid (RowN.set hR.out k k)
      have hst := Lib.hid (range_step n k hlt)
      clear hz
      have hk0 : 0 ≤ (k : Int) := by omega
      have hk1 : (k : Int) < (n : Int) := by omega
      go_wp2
      go_roundw
      case rel => exact ⟨_, k + 1, rfl, by omega, by go_num, gr_set hG _ _, Lib.hid (by have h := hn1.out; rwa [hst.out] at h)⟩
      case measure => simp [intOf]; omega
    · obtain rfl : k = n := by omega
      have hrn : RowN wr (w.heap.size + 2) (List.range k) := by have h := hR.out; simpa using h
      have cS1 := cS wr hG hrn
      clear hR cS hrn
      go_wp2_with (first
        | (go_at_call 71; ((with_reducible refine cS1.mono ?_); rintro e w5 ⟨⟨v, rfl⟩, hR5, hG5⟩; have H5 := Lib.hid hR5; clear hR5; have G5 := hG.trans hG5))
        | (go_at_call 73; ((with_reducible refine (cC _ G5 H5.out).mono ?_); rintro e w6 ⟨rfl, hR6, hG6⟩; have H6 := Lib.hid hR6; clear hR6; have G6 := G5.trans hG6))
        | (go_at_call 75; ((with_reducible refine (cO _ H6.out).mono ?_); rintro e w7 ⟨⟨v2, rfl⟩, hR7, hG7⟩; have H7 := Lib.hid hR7; clear hR7; have G7 := G6.trans hG7))
        | (go_at_call 76; ((with_reducible refine (HMp.out _ G7 H7.out).mono ?_); rintro e w8 ⟨rfl, hT8, hb8⟩; have H8 := Lib.hid hT8; clear hT8)))
      go_ret
      exact ⟨_, rfl, H8.out, bel_trans (HB.out _ G7) hb8⟩
end Go.Proofs.YtjjfbgadpgckeaaGreat.T
