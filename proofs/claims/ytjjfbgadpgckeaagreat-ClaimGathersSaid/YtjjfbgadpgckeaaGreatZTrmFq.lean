/-
  What is proved: the places of a list of terms at which a term stands that does not stand before, for any list.
-/
import Derived.Test.YtjjfbgadpgckeaaGreatB4
import Derived.Test.YtjjfbgadpgckeaaGreatZTrmQ
namespace Go.Proofs.YtjjfbgadpgckeaaGreat.T
open Go.RowKit L
set_option linter.unusedVariables false
set_option linter.unusedSimpArgs false

theorem mem_gof {c : Nat → Nat → Int} (hc : Cmp3 c) {e : Nat → Nat → Bool} (he : ∀ y p, e y p = true ↔ c y p = 0) (z : Nat) : ∀ (l : List Nat) (p : Nat), Srt c (p :: l) → (z ∈ gof e p l ↔ z ∈ l ∧ ∀ q ∈ p :: l, q < z → c q z ≠ 0)
  | [], p, _ => by simp [gof]
  | y :: l, p, hs => by
    obtain ⟨s1, s2⟩ := List.pairwise_cons.1 hs
    obtain ⟨s3, s4⟩ := List.pairwise_cons.1 s2
    have ih := mem_gof hc he z l y s2
    have hpy := s1 y (by simp)
    have a0 := hc.anti p y
    rw [gof]
    by_cases h : e y p = true
    · rw [if_pos h, ih]
      have h0 := (he y p).1 h
      have hlt : p < y := by rcases hpy with h1 | h1 <;> omega
      constructor
      · rintro ⟨h1, h2⟩
        refine ⟨List.mem_cons_of_mem _ h1, fun q hq hqz => ?_⟩
        rcases List.mem_cons.1 hq with rfl | hq
        · intro h3
          have hyz := s3 z h1
          have b1 := hc.trans y q z (by omega) (by omega)
          have b2 := hc.anti q z
          have b3 := hc.anti y z
          have b4 := hc.trans z q y (by omega) (by omega)
          have h5 : c y z = 0 := by omega
          have h6 : y < z := by rcases hyz with h7 | h7 <;> omega
          exact h2 y (by simp) h6 h5
        · exact h2 q hq hqz
      · rintro ⟨h1, h2⟩
        rcases List.mem_cons.1 h1 with rfl | h1
        · exact absurd (show c p z = 0 by omega) (h2 p (by simp) hlt)
        · exact ⟨h1, fun q hq hqz => h2 q (List.mem_cons_of_mem _ hq) hqz⟩
    · rw [if_neg h, List.mem_cons, ih]
      have h0 : c y p ≠ 0 := fun h1 => h ((he y p).2 h1)
      have hpl : c p y < 0 := by rcases hpy with h1 | h1 <;> omega
      constructor
      · rintro (rfl | ⟨h1, h2⟩)
        · refine ⟨by simp, fun q hq hqz => ?_⟩
          rcases List.mem_cons.1 hq with rfl | hq
          · omega
          · rcases List.mem_cons.1 hq with rfl | hq
            · omega
            · have := s3 q hq
              have := hc.anti q z
              rcases s3 q hq with h3 | h3 <;> omega
        · refine ⟨List.mem_cons_of_mem _ h1, fun q hq hqz => ?_⟩
          rcases List.mem_cons.1 hq with rfl | hq
          · intro h3
            have hyz := lx_le (s3 z h1)
            have b2 := hc.anti q z
            have b4 := hc.trans y z q hyz (by omega)
            omega
          · exact h2 q hq hqz
      · rintro ⟨h1, h2⟩
        rcases List.mem_cons.1 h1 with rfl | h1
        · exact .inl rfl
        · exact .inr ⟨h1, fun q hq hqz => h2 q (List.mem_cons_of_mem _ hq) hqz⟩
theorem mem_comp {c : Nat → Nat → Int} (hc : Cmp3 c) {e : Nat → Nat → Bool} (he : ∀ y p, e y p = true ↔ c y p = 0) (z : Nat) : ∀ Z : List Nat, Srt c Z → (z ∈ comp e Z ↔ z ∈ Z ∧ ∀ q ∈ Z, q < z → c q z ≠ 0)
  | [], _ => by simp [comp]
  | x :: l, hs => by
    rw [comp, List.mem_cons, mem_gof hc he z l x hs]
    obtain ⟨s1, s2⟩ := List.pairwise_cons.1 hs
    constructor
    · rintro (rfl | ⟨h1, h2⟩)
      · refine ⟨by simp, fun q hq hqz => ?_⟩
        rcases List.mem_cons.1 hq with rfl | hq
        · omega
        · have := hc.anti q z
          rcases s1 q hq with h3 | h3 <;> omega
      · exact ⟨List.mem_cons_of_mem _ h1, h2⟩
    · rintro ⟨h1, h2⟩
      rcases List.mem_cons.1 h1 with rfl | h1
      · exact .inl rfl
      · exact .inr ⟨h1, h2⟩
/-- the places that stay -/
def fst1 (c : Nat → Nat → Int) (z : Nat) : Bool := (List.range z).all fun q => c q z != 0
def fsts (c : Nat → Nat → Int) (n : Nat) : List Nat := (List.range n).filter (fst1 c)
theorem fst1_iff {c : Nat → Nat → Int} {z : Nat} : fst1 c z = true ↔ ∀ q, q < z → c q z ≠ 0 := by simp [fst1]
theorem fsts_inc (c : Nat → Nat → Int) (n : Nat) : (fsts c n).Pairwise (fun x y => x < y) := List.pairwise_lt_range.sublist List.filter_sublist
theorem fsts_perm {c : Nat → Nat → Int} (hc : Cmp3 c) {e : Nat → Nat → Bool} (he : ∀ y p, e y p = true ↔ c y p = 0) {Z : List Nat} {n : Nat} (hp : Z.Perm (List.range n)) (hs : Srt c Z) : (comp e Z).Perm (fsts c n) := by
  have hn : Z.Nodup := hp.nodup_iff.2 List.nodup_range
  refine (List.perm_ext_iff_of_nodup (hn.sublist (comp_sub e Z)) ((fsts_inc c n).imp (fun h => by omega))).2 fun z => ?_
  rw [mem_comp hc he z Z hs, fsts, List.mem_filter, fst1_iff, List.mem_range, hp.mem_iff, List.mem_range]
  constructor
  · rintro ⟨h1, h2⟩
    exact ⟨h1, fun q hq => h2 q (hp.mem_iff.2 (List.mem_range.2 (by omega))) hq⟩
  · rintro ⟨h1, h2⟩
    exact ⟨h1, fun q hq hqz => h2 q hqz⟩
/-! of a list the terms that do not stand before -/
def uq : List Tm → List Tm → List Tm
  | out, [] => out
  | out, x :: r => if inT out x then uq out r else uq (out ++ [x]) r
theorem uq_snoc (x : Tm) : ∀ (r out : List Tm), uq out (r ++ [x]) = if inT (uq out r) x then uq out r else uq out r ++ [x]
  | [], out => by rw [List.nil_append, uq, uq, uq, uq]
  | y :: r, out => by
    rw [List.cons_append, uq, uq]
    split
    · exact uq_snoc x r out
    · exact uq_snoc x r (out ++ [y])
theorem linT_le {x y z : Tm} (h1 : cmpT x y ≤ 0) (h2 : cmpT y z ≤ 0) : cmpT x z ≤ 0 := by
  rcases linT.rng x y with a | a | a
  · rcases linT.rng y z with b | b | b
    · have := linT.trans x y z a b; omega
    · rw [← (linT.eq y z).1 b]; exact h1
    · omega
  · rw [(linT.eq x y).1 a]; exact h2
  · omega
def cfL (l : List Tm) (i j : Nat) : Int := cmpT (atL l i) (atL l j)
theorem cfL_cmp (l : List Tm) : Cmp3 (cfL l) := ⟨fun i j => linT.anti _ _, fun i j k => linT_le⟩
theorem cfL_eq {l : List Tm} {i j : Nat} : cfL l i j = 0 ↔ atL l i = atL l j := linT.eq _ _
theorem fsts_uq (l : List Tm) : ∀ k, k ≤ l.length → (∀ x, x ∈ (fsts (cfL l) k).map (atL l) ↔ x ∈ l.take k) ∧ (fsts (cfL l) k).map (atL l) = uq [] (l.take k)
  | 0, _ => ⟨fun x => by simp [fsts], by simp [fsts, uq]⟩
  | k + 1, hk => by
    obtain ⟨h1, h2⟩ := fsts_uq l k (by omega)
    have hx : l[k]? = some (atL l k) := by
      have : l[k]? = some l[k] := List.getElem?_eq_getElem (by omega)
      rw [this, atL_some this]
    have ht : l.take (k + 1) = l.take k ++ [atL l k] := by rw [List.take_add_one, hx]; rfl
    have hf : fsts (cfL l) (k + 1) = fsts (cfL l) k ++ (if fst1 (cfL l) k then [k] else []) := by
      rw [fsts, List.range_succ, List.filter_append, List.filter_cons, List.filter_nil]; rfl
    have hin : fst1 (cfL l) k = true ↔ ¬ atL l k ∈ l.take k := by
      rw [fst1_iff]
      constructor
      · intro h3 h4
        obtain ⟨q, h5, h6⟩ := List.mem_iff_getElem.1 h4
        have hq : q < k := by simp at h5; omega
        refine h3 q hq (cfL_eq.2 ?_)
        rw [← h6]
        rw [List.getElem_take]
        exact atL_some (List.getElem?_eq_getElem _)
      · intro h3 q hq h4
        refine h3 ?_
        rw [← cfL_eq.1 h4]
        have : l[q]? = some l[q] := List.getElem?_eq_getElem (by omega)
        rw [atL_some this]
        exact List.mem_take_iff_getElem.2 ⟨q, by omega, rfl⟩
    rw [hf, ht, uq_snoc, ← h2]
    by_cases h3 : fst1 (cfL l) k = true
    · have h4 : ¬ inT ((fsts (cfL l) k).map (atL l)) (atL l k) = true := fun h => hin.1 h3 ((h1 _).1 (inT_iff.1 h))
      rw [if_pos h3, if_neg h4]
      refine ⟨fun x => ?_, by simp⟩
      rw [List.map_append, List.mem_append, List.mem_append, h1]; simp
    · have h4 : inT ((fsts (cfL l) k).map (atL l)) (atL l k) = true := inT_iff.2 ((h1 _).2 (Classical.byContradiction fun h => h3 (hin.2 h)))
      rw [if_neg h3, if_pos h4]
      refine ⟨fun x => ?_, by simp⟩
      rw [List.append_nil, List.mem_append, h1]
      constructor
      · exact .inl
      · rintro (h5 | h5)
        · exact h5
        · rw [List.mem_singleton.1 h5]; exact (h1 _).1 (inT_iff.1 h4)
/-- .. of the whole list -/
theorem fsts_all (l : List Tm) : (fsts (cfL l) l.length).map (atL l) = uq [] l := by
  have := (fsts_uq l l.length (Nat.le_refl _)).2
  rwa [List.take_length] at this
theorem fsts_len (c : Nat → Nat → Int) (n : Nat) : (fsts c n).length ≤ n := by
  have := (List.filter_sublist (p := fst1 c) (l := List.range n)).length_le
  simpa [fsts] using this
theorem fsts_pos (c : Nat → Nat → Int) {n : Nat} (h : 0 < n) : 0 < (fsts c n).length := by
  refine List.length_pos_iff.2 fun he => ?_
  have : (0 : Nat) ∈ fsts c n := List.mem_filter.2 ⟨List.mem_range.2 h, fst1_iff.2 fun q hq => by omega⟩
  rw [he] at this; cases this
theorem sort_part (g : Nat) (zs ys R : List Nat) (hp : zs.Perm ys) (hs : ys.Pairwise (fun x y => x < y)) (N cap : Nat) (hN : N = zs.length) (hN2 : N ≤ 1000000) (w : World) (hr : RowN w g (zs ++ R)) :
    Calls Tryz.prog 75 #[.slice (some ⟨g, 0, none⟩) N cap] w fun e w' => (∃ v, e = .returned v) ∧ RowN w' g (ys ++ R) ∧ w.grownBy w' (some g) := by
  have hl : (ints zs).length = N := by rw [hN]; simp [ints]
  have hh : Go.Sort.Holds (Value.int .i64) w g 0 (ints zs).toArray := holds_of_blockI hr (by rw [ints_map]; simp [ints])
  have hc := Tryz.slices_Sort_int g 0 cap (ints zs) w hh (Blk.lt hr) (by omega)
  rw [hl, sort_ints hp hs] at hc
  refine hc.mono fun e w' ⟨he, n, os, hw⟩ => ?_
  subst hw
  refine ⟨⟨_, he⟩, ?_, grownBy_sortedI _⟩
  have hb := heap_sortedI (os := os) (n := n) (ints ys).toArray hr
  unfold RowN Blk
  rw [hb]
  congr 2
  have hly : ys.length = zs.length := hp.length_eq.symm
  apply Array.ext_getElem?
  intro j
  by_cases hj : j < ys.length
  · simp [Go.Sort.putCells, ints, hj, hly, List.getElem?_append_left, show j < zs.length by omega]
  · simp [Go.Sort.putCells, ints, hj, hly, List.getElem?_append_right, show ¬ j < zs.length by omega, show zs.length ≤ j by omega, show ys.length ≤ j by omega]
    rfl
set_option maxRecDepth 100000 in
set_option maxHeartbeats 4000000 in
theorem mapPart_any (gl : Nat) (A : Option Addr) (n c : Nat) (l : List Tm) (zs Rr : List Nat) (g cap m : Nat) (w0 w : World) (hb : Below w0.heap.size w0 w) (hg : Blk w gl #[.slice A n c] 22) (hT : TsW w0 A n c l) (hz : ∀ z ∈ zs, z < n) (hr : RowN w g (zs ++ Rr)) (hm : m = zs.length) (hm0 : 0 < m) (hm2 : m ≤ 1000000) :
    Calls Tryz.prog 76 #[.slice (some ⟨g, 0, none⟩) m cap, .func (.func 77) #[] #[.pointer (some ⟨gl, 0, none⟩)]] w fun e w' => e = .returned (.slice (some ⟨w.heap.size, 0, none⟩) m m) ∧ TsW w' (some ⟨w.heap.size, 0, none⟩) m m (zs.map (atL l)) ∧ Below w.heap.size w w' := by
  have hmk := make_terms m hm2 w
  have hmd := made_terms m hm2 w
  obtain ⟨W1, hW1⟩ : ∃ W1, w.alloc (.cells (madeCells #[.int .i64 0, .string ⟨#[]⟩, .int .i64 0, .slice none 0 0] (m * 4)) 53) = W1 := ⟨_, rfl⟩
  rw [hW1] at hmk hmd
  have hB1 : Below w.heap.size w W1 := by rw [← hW1]; exact bel_alloc (Below.refl _ _) _
  have hm1 : ((m : Int) == 0) = false := by simp; omega
  obtain ⟨ls, hls⟩ : ∃ ls, zs.map (atL l) = ls := ⟨_, rfl⟩
  have hTw : TsW w A n c l := TsW.b hT hb
  have P0 : PartM w w.heap.size ls m 0 W1 := ⟨[], rfl, by simpa using hmd, fun j h t hj => by simp at hj⟩
  have hlm : ls.length = m := by rw [← hls, List.length_map, hm]
  have HK := Lib.hid (show ∀ k, k < m → ∃ z, (zs ++ Rr)[k]? = some z ∧ z < n ∧ ls[k]? = some (atL l z) from fun k hk => ⟨zs[k], by rw [List.getElem?_append_left (by omega)]; exact List.getElem?_eq_getElem (by omega), hz _ (List.getElem_mem (by omega)), by
    subst hls
    rw [List.getElem?_map, List.getElem?_eq_getElem (show k < zs.length by omega)]; rfl⟩)
  rw [hls]
  have HP0 := Lib.hid P0
  have HG := Lib.hid hg
  have HR := Lib.hid hr
  have HT := Lib.hid hTw
  have HL := Lib.hid hlm
  clear hg hT hTw hz hr hm hmd P0 hW1 hls hlm hb
  go_enter Tryz.func76, Tryz.ntmps76
  go_wp2
  go_loopw [16] (fun i wr0 => ∃ (wr : World) (k : Nat), wr = wr0 ∧ k ≤ m ∧ i = .int .i64 k ∧ Below w.heap.size w wr ∧ Hid (PartM w w.heap.size ls m k wr)) (fun i _ => m - (intOf i).toNat)
  case atStart => exact ⟨_, 0, rfl, by omega, rfl, hB1, HP0⟩
  case round =>
    obtain ⟨wr, k, rfl, hk, rfl, hB, hR⟩ := hrel
    by_cases hlt : k < m
    · obtain ⟨z, hzk, hzn, hlk⟩ := HK.out k hlt
      have c0 := (hB.cell (p := ⟨_, k, none⟩) (Blk.lt HR.out)).trans (RowN.at HR.out hzk)
      have cc := firsts3_any gl A n c l z w wr hB (Blk.below HG.out hB) HT.out hzn
      have Hlk := Lib.hid hlk
      clear hzk hlk HK
      generalize atL l z = x at *
      have hk0 : 0 ≤ (k : Int) := by omega
      have hk1 : (k : Int) < (m : Int) := by omega
      go_wp2_with (go_at_call 77; ((with_reducible refine cc.mono ?_); rintro e w5 ⟨h, rfl, hF, hb5⟩; obtain ⟨⟨q0, q1, q2, q3⟩, ⟨g0, g1, g2, g3⟩, Hn⟩ := PartM.go hR.out hlt Hlk.out hb5 hF; clear hF))
      go_roundw
      case rel => exact ⟨_, k + 1, rfl, by omega, by go_num, set4_below (bel_trans hB hb5) (Nat.le_refl _) k _, Hn⟩
      case measure => simp [intOf]; omega
    · obtain rfl : k = m := by omega
      have Hd := Lib.hid (PartM.done hR.out HL.out hB)
      clear hR
      go_wp2
      go_ret
      exact ⟨rfl, Hd.out, hB⟩
set_option maxRecDepth 100000 in
set_option maxHeartbeats 8000000 in
theorem firsts_all (A : Option Addr) (n c : Nat) (l : List Tm) (w : World) (hT : TsW w A n c l) (h0 : 0 < n) (hn : n ≤ 1000000) :
    Calls Tryz.prog 41 #[.slice A n c, .func (.func 43) #[] #[]] w fun e w' => ∃ g m, e = .returned (.slice (some ⟨g, 0, none⟩) m m) ∧ 0 < m ∧ m ≤ n ∧ TsW w' (some ⟨g, 0, none⟩) m m (uq [] l) ∧ Below w.heap.size w w' := by
  obtain ⟨W0, hW0⟩ : ∃ W0, w.alloc (.cells #[.slice A n c] 22) = W0 := ⟨_, rfl⟩
  have hB0 : Below w.heap.size w W0 := by rw [← hW0]; exact bel_alloc (Below.refl _ _) _
  have hs0 : W0.heap.size = w.heap.size + 1 := by rw [← hW0]; simp
  have R0 : Blk W0 w.heap.size #[.slice A n c] 22 := by rw [← hW0]; exact Blk.new w _ _
  obtain ⟨W1, hW1⟩ : ∃ W1, W0.alloc (.cells #[.func (.func 43) #[] #[]] 59) = W1 := ⟨_, rfl⟩
  have hB1 : Below w.heap.size w W1 := by rw [← hW1]; exact bel_alloc hB0 _
  have hs1 : W1.heap.size = w.heap.size + 2 := by rw [← hW1]; simp [hs0]
  have R1 : Blk W1 w.heap.size #[.slice A n c] 22 := by rw [← hW1]; exact Blk.alloc R0 _
  have Q1 : Blk W1 (w.heap.size + 1) #[.func (.func 43) #[] #[]] 59 := by rw [← hW1, ← hs0]; exact Blk.new W0 _ _
  have hT1 : IsT W1.heap.size W1 A n c l := TsW.b hT hB1
  have hc1 : CmpIn (w.heap.size + 2) (w.heap.size + 1) w.heap.size n l W1 := fun i j W hb hs hi hj => firsts1_any (w.heap.size + 1) w.heap.size A n c l i j W ((hb.block _ (by omega)).trans Q1) ((hb.block _ (by omega)).trans R1) ((hT1.bel (hb.mono (by omega))).mono (by omega)) hi hj
  have hc2 : EqIn (w.heap.size + 2) (w.heap.size + 1) w.heap.size n l W1 := fun i j W hb hs hi hj => firsts2_any (w.heap.size + 1) w.heap.size A n c l i j W ((hb.block _ (by omega)).trans Q1) ((hb.block _ (by omega)).trans R1) ((hT1.bel (hb.mono (by omega))).mono (by omega)) hi hj
  have hl : l.length = n := hT.1.symm
  obtain ⟨W2, hW2⟩ : ∃ W2, W1.alloc (.cells (madeCells #[.int .i64 0] n) 3) = W2 := ⟨_, rfl⟩
  have hmk := fun w => run_make_row' (P := Tryz.prog) 83 3 (.int .i64 0) 8 Tryz.underlying83 intI rfl .i64 .i64 n (by omega) (by omega) w
  have hmk1 := hmk W1
  rw [hW2] at hmk1
  have hB2 : Below W1.heap.size W1 W2 := by rw [← hW2]; exact bel_alloc (Below.refl _ _) _
  have R2 : RowN W2 (w.heap.size + 2) (List.range 0 ++ List.replicate (n - 0) 0) := by
    rw [← hW2, ← hs1]; simpa using made_row n W1
  have r0 := Blk.cell R1 0
  have hsz2 : w.heap.size + 3 ≤ W2.heap.size := by rw [← hW2]; simp; omega
  have hcm := cfL_cmp l
  have cS := fun (W : World) (hg : W2.grownBy W (some (w.heap.size + 2))) (hr : RowN W (w.heap.size + 2) (List.range n)) =>
    stableFunc_any (w.heap.size + 2) (w.heap.size + 1) w.heap.size n l W1 hc1 (cfL l) (fun _ _ => rfl) hcm (List.range n) List.pairwise_lt_range (by simp) n n (by simp) hn W ((hB2.mono (by omega)).trans (gr_below hg (by omega) (Nat.le_refl _))) hr
  obtain ⟨m, hm⟩ : ∃ m, (fsts (cfL l) n).length = m := ⟨_, rfl⟩
  obtain ⟨Y, hY⟩ : ∃ Y, fsts (cfL l) n = Y := ⟨_, rfl⟩
  have hm0 : 0 < m := by rw [← hm]; exact fsts_pos _ h0
  have hmn : m ≤ n := by rw [← hm]; exact fsts_len _ _
  have hYl : Y.length = m := by rw [← hY]; exact hm
  have hYu : Y.map (atL l) = uq [] l := by rw [← hY, ← hl]; exact fsts_all l
  have hYz : ∀ z ∈ Y, z < n := fun z hz => by rw [← hY] at hz; exact List.mem_range.1 (List.mem_filter.1 hz).1
  have HC := Lib.hid (show ∀ (Z : List Nat) (W : World), W2.grownBy W (some (w.heap.size + 2)) → RowN W (w.heap.size + 2) Z → Z.Perm (List.range n) → Srt (cfL l) Z →
      Calls Tryz.prog 73 #[.slice (some ⟨w.heap.size + 2, 0, none⟩) n n, .func (.func 74) #[] #[.pointer (some ⟨w.heap.size + 1, 0, none⟩), .pointer (some ⟨w.heap.size, 0, none⟩)]] W fun e w' => e = .returned (.slice (some ⟨w.heap.size + 2, 0, none⟩) m n) ∧ (∃ K R, RowN w' (w.heap.size + 2) (K ++ R) ∧ K.Perm Y) ∧ W.grownBy w' (some (w.heap.size + 2)) from fun Z W hg hr hp hs => by
    have hef : ∀ i j, eqT (atL l i) (atL l j) = (cfL l i j == 0) := fun i j => by rw [Bool.eq_iff_iff, eqT_iff, beq_iff_eq]; exact cfL_eq.symm
    have hpm := fsts_perm hcm (e := fun i j => cfL l i j == 0) (fun y p => by simp) hp hs
    have h := compact_any (w.heap.size + 2) (w.heap.size + 1) w.heap.size n l W1 hc2 (fun i j => cfL l i j == 0) hef Z (fun z hz => List.mem_range.1 (hp.mem_iff.1 hz)) n (by rw [hp.length_eq]; simp) hn W ((hB2.mono (by omega)).trans (gr_below hg (by omega) (Nat.le_refl _))) hr
    rw [hpm.length_eq, hm] at h
    rw [hY] at hpm
    exact h.mono fun e w' ⟨k1, ⟨R, k2⟩, k3⟩ => ⟨k1, ⟨_, R, k2, hpm⟩, k3⟩)
  have HO := Lib.hid (show ∀ (W : World), (∃ K R, RowN W (w.heap.size + 2) (K ++ R) ∧ K.Perm Y) → Calls Tryz.prog 75 #[.slice (some ⟨w.heap.size + 2, 0, none⟩) m n] W fun e w' => (∃ v, e = .returned v) ∧ (∃ R, RowN w' (w.heap.size + 2) (Y ++ R)) ∧ W.grownBy w' (some (w.heap.size + 2)) from fun W ⟨K, R, h1, h2⟩ =>
    (sort_part (w.heap.size + 2) K Y R h2 (by rw [← hY]; exact fsts_inc _ _) m n (by rw [h2.length_eq, hYl]) (by omega) W h1).mono fun e w' ⟨k1, k2, k3⟩ => ⟨k1, ⟨R, k2⟩, k3⟩)
  have HR2 := Lib.hid R2
  have HB := Lib.hid (show ∀ W, W2.grownBy W (some (w.heap.size + 2)) → Below w.heap.size w W from fun W hg => (bel_trans hB1 hB2).trans (gr_below hg (by omega) (by omega)))
  have HMp := Lib.hid (show ∀ W, W2.grownBy W (some (w.heap.size + 2)) → (∃ R, RowN W (w.heap.size + 2) (Y ++ R)) → Calls Tryz.prog 76 #[.slice (some ⟨w.heap.size + 2, 0, none⟩) m n, .func (.func 77) #[] #[.pointer (some ⟨w.heap.size, 0, none⟩)]] W fun e w' => e = .returned (.slice (some ⟨W.heap.size, 0, none⟩) m m) ∧ TsW w' (some ⟨W.heap.size, 0, none⟩) m m (uq [] l) ∧ Below W.heap.size W w' from fun W hg ⟨R, hr⟩ => by
    have hbW := (bel_trans hB1 hB2).trans (gr_below hg (by omega) (by omega) : Below w.heap.size W2 W)
    have h2 := gr_below hg (show w.heap.size + 2 ≤ W2.heap.size by omega) (Nat.le_refl _)
    have := mapPart_any w.heap.size A n c l Y R (w.heap.size + 2) n m w W hbW (((hB2.mono (by omega)).trans h2).block _ (by omega) |>.trans R1) hT hYz hr hYl.symm hm0 (by omega)
    rwa [hYu] at this)
  have Hm := Lib.hid (show 0 < m ∧ m ≤ n from ⟨hm0, hmn⟩)
  clear hT R1 hT1 hc1 hc2 hl hW2 hmk R2 R0 Q1 hYz hYu hYl hm hY hcm hm0 hmn
  go_enter Tryz.func41, Tryz.ntmps41
  go_wp2
  go_loopw [12] (fun i wr0 => ∃ (wr : World) (k : Nat), wr = wr0 ∧ k ≤ n ∧ i = .int .i64 k ∧ W2.grownBy wr (some (w.heap.size + 2)) ∧ Hid (RowN wr (w.heap.size + 2) (List.range k ++ List.replicate (n - k) 0))) (fun i _ => n - (intOf i).toNat)
  case atStart => exact ⟨_, 0, rfl, by omega, rfl, World.grownBy.refl _ _, HR2⟩
  case round =>
    obtain ⟨wr, k, rfl, hk, rfl, hG, hR⟩ := hrel
    by_cases hlt : k < n
    · have hz : (List.range k ++ List.replicate (n - k) 0)[k]? = some 0 := by
        rw [List.getElem?_append_right (by simp), List.length_range, Nat.sub_self, List.getElem?_replicate, if_pos (by omega)]
      have c0 := RowN.at hR.out hz
      have q0 := Blk.free hR.out k
      have hn1 := Lib.hid (RowN.set hR.out k k)
      have hst := Lib.hid (range_step n k hlt)
      clear hz
      have hk0 : 0 ≤ (k : Int) := by omega
      have hk1 : (k : Int) < (n : Int) := by omega
      go_wp2
      go_roundw
      case rel => exact ⟨_, k + 1, rfl, by omega, by go_num, gr_set hG _ _, Lib.hid (by have h := hn1.out; rwa [hst.out] at h)⟩
      case measure => simp [intOf]; omega
    · obtain rfl : k = n := by omega
      have hrn : RowN wr (w.heap.size + 2) (List.range k) := by have h := hR.out; simpa using h
      have cS1 := cS wr hG hrn
      clear hR cS hrn
      go_wp2_with (first
        | (go_at_call 71; ((with_reducible refine cS1.mono ?_); rintro e w5 ⟨⟨v, rfl⟩, ⟨Z, hR5, hp5, hs5⟩, hG5⟩; have G5 := hG.trans hG5; have cC := HC.out Z w5 G5 hR5 hp5 hs5; clear hR5 hp5 hs5))
        | (go_at_call 73; ((with_reducible refine cC.mono ?_); rintro e w6 ⟨rfl, hR6, hG6⟩; have H6 := Lib.hid hR6; clear hR6; have G6 := G5.trans hG6))
        | (go_at_call 75; ((with_reducible refine (HO.out _ H6.out).mono ?_); rintro e w7 ⟨⟨v2, rfl⟩, hR7, hG7⟩; have H7 := Lib.hid hR7; clear hR7; have G7 := G6.trans hG7))
        | (go_at_call 76; ((with_reducible refine (HMp.out _ G7 H7.out).mono ?_); rintro e w8 ⟨rfl, hT8, hb8⟩; have H8 := Lib.hid hT8; clear hT8)))
      go_ret
      exact ⟨_, m, rfl, Hm.out.1, Hm.out.2, H8.out, bel_trans (HB.out _ G7) hb8⟩
end Go.Proofs.YtjjfbgadpgckeaaGreat.T
