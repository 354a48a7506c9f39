/-
  What is proved: the first of alike places; the sort of a part of a row of places.
-/
import Derived.Test.YthchjceibpcgbaaGreatDoorZFiSt
import Derived.Test.YthchjceibpcgbaaGreatDoorZFiCq
import Derived.Test.YthchjceibpcgbaaGreatDoorShelf
import Derived.Sort.OwnSortedInts
import Derived.Laws.MakeOwn
namespace Go.Proofs.YthchjceibpcgbaaGreatDoor.Fi
open Go.RowKit L Lt Cn
set_option linter.unusedVariables false
set_option linter.unusedSimpArgs false


def ints (zs : List Nat) : List Int := zs.map (fun z : Nat => (z : Int))
theorem ints_map (zs : List Nat) : (ints zs).map (Value.int .i64) = zs.map (fun z : Nat => Value.int .i64 (z : Int)) := by simp [ints]
theorem RowN.holds {w : World} {g : Nat} {zs : List Nat} (h : RowN w g zs) : Go.Sort.Holds (Value.int .i64) w g 0 (ints zs).toArray :=
  holds_of_blockI h (by rw [ints_map]; simp [ints]; exact List.take_of_length_le (by simp))
theorem sort_ints {zs ys : List Nat} (hp : zs.Perm ys) (hs : ys.Pairwise (fun x y => x < y)) : (ints zs).mergeSort (fun x y => decide (x ≤ y)) = ints ys := by
  refine List.Perm.eq_of_pairwise (le := fun x y => x ≤ y) (fun a b _ _ h1 h2 => by omega) ?_ ?_ ?_
  · have := List.pairwise_mergeSort (le := fun x y : Int => decide (x ≤ y)) (fun a b c h1 h2 => by simp at *; omega) (fun a b => by simp; omega) (ints zs)
    simpa using this
  · unfold ints
    rw [List.pairwise_map]
    exact hs.imp (fun h => by omega)
  · exact (List.mergeSort_perm _ _).trans (hp.map _)
theorem nodup_inj {α : Type} {l : List α} (h : l.Nodup) {i j : Nat} (hi : i < l.length) (hj : j < l.length) (e : l[i] = l[j]) : i = j := by
  rcases Nat.lt_trichotomy i j with h1 | h1 | h1
  · exact absurd e (List.pairwise_iff_getElem.1 h i j hi hj h1)
  · exact h1
  · exact absurd e.symm (List.pairwise_iff_getElem.1 h j i hj hi h1)
theorem made_row (n : Nat) (w : World) : RowN (w.alloc (.cells (madeCells #[.int .i64 0] n) 3)) w.heap.size (List.replicate n 0) := by
  have h := heap_alloc_new w (.cells (madeCells #[Value.int .i64 0] n) 3)
  unfold RowN Blk
  rw [h]
  congr 2
  apply Array.ext (by simp [size_madeCells]) 
  intro i h1 h2
  simp [madeCells, Nat.mod_one]
theorem range_step (n k : Nat) (h : k < n) : (List.range k ++ List.replicate (n - k) 0).set k k = List.range (k + 1) ++ List.replicate (n - (k + 1)) 0 := by
  rw [List.set_append_right _ _ (by simp), List.length_range, Nat.sub_self, show n - k = n - (k + 1) + 1 by omega, List.replicate_succ, List.set_cons_zero, List.range_succ]
  simp


theorem mem_gof {c : Nat → Nat → Int} (hc : Cmp3 c) {e : Nat → Nat → Bool} (he : ∀ y p, e y p = true ↔ c y p = 0) (z : Nat) : ∀ (l : List Nat) (p : Nat), Srt c (p :: l) → (z ∈ gof e p l ↔ z ∈ l ∧ ∀ q ∈ p :: l, q < z → c q z ≠ 0)
  | [], p, _ => by simp [gof]
  | y :: l, p, hs => by
    obtain ⟨s1, s2⟩ := List.pairwise_cons.1 hs
    obtain ⟨s3, s4⟩ := List.pairwise_cons.1 s2
    have ih := mem_gof hc he z l y s2
    have hpy := s1 y (by simp)
    have a0 := hc.anti p y
    rw [gof]
    by_cases h : e y p = true
    · rw [if_pos h, ih]
      have h0 := (he y p).1 h
      have hlt : p < y := by rcases hpy with h1 | h1 <;> omega
      constructor
      · rintro ⟨h1, h2⟩
        refine ⟨List.mem_cons_of_mem _ h1, fun q hq hqz => ?_⟩
        rcases List.mem_cons.1 hq with rfl | hq
        · intro h3
          have hyz := s3 z h1
          have b1 := hc.trans y q z (by omega) (by omega)
          have b2 := hc.anti q z
          have b3 := hc.anti y z
          have b4 := hc.trans z q y (by omega) (by omega)
          have h5 : c y z = 0 := by omega
          have h6 : y < z := by rcases hyz with h7 | h7 <;> omega
          exact h2 y (by simp) h6 h5
        · exact h2 q hq hqz
      · rintro ⟨h1, h2⟩
        rcases List.mem_cons.1 h1 with rfl | h1
        · exact absurd (show c p z = 0 by omega) (h2 p (by simp) hlt)
        · exact ⟨h1, fun q hq hqz => h2 q (List.mem_cons_of_mem _ hq) hqz⟩
    · rw [if_neg h, List.mem_cons, ih]
      have h0 : c y p ≠ 0 := fun h1 => h ((he y p).2 h1)
      have hpl : c p y < 0 := by rcases hpy with h1 | h1 <;> omega
      constructor
      · rintro (rfl | ⟨h1, h2⟩)
        · refine ⟨by simp, fun q hq hqz => ?_⟩
          rcases List.mem_cons.1 hq with rfl | hq
          · omega
          · rcases List.mem_cons.1 hq with rfl | hq
            · omega
            · have := s3 q hq
              have := hc.anti q z
              rcases s3 q hq with h3 | h3 <;> omega
        · refine ⟨List.mem_cons_of_mem _ h1, fun q hq hqz => ?_⟩
          rcases List.mem_cons.1 hq with rfl | hq
          · intro h3
            have hyz := lx_le (s3 z h1)
            have b2 := hc.anti q z
            have b4 := hc.trans y z q hyz (by omega)
            omega
          · exact h2 q hq hqz
      · rintro ⟨h1, h2⟩
        rcases List.mem_cons.1 h1 with rfl | h1
        · exact .inl rfl
        · exact .inr ⟨h1, fun q hq hqz => h2 q (List.mem_cons_of_mem _ hq) hqz⟩
theorem mem_comp {c : Nat → Nat → Int} (hc : Cmp3 c) {e : Nat → Nat → Bool} (he : ∀ y p, e y p = true ↔ c y p = 0) (z : Nat) : ∀ Z : List Nat, Srt c Z → (z ∈ comp e Z ↔ z ∈ Z ∧ ∀ q ∈ Z, q < z → c q z ≠ 0)
  | [], _ => by simp [comp]
  | x :: l, hs => by
    rw [comp, List.mem_cons, mem_gof hc he z l x hs]
    obtain ⟨s1, s2⟩ := List.pairwise_cons.1 hs
    constructor
    · rintro (rfl | ⟨h1, h2⟩)
      · refine ⟨by simp, fun q hq hqz => ?_⟩
        rcases List.mem_cons.1 hq with rfl | hq
        · omega
        · have := hc.anti q z
          rcases s1 q hq with h3 | h3 <;> omega
      · exact ⟨List.mem_cons_of_mem _ h1, h2⟩
    · rintro ⟨h1, h2⟩
      rcases List.mem_cons.1 h1 with rfl | h1
      · exact .inl rfl
      · exact .inr ⟨h1, h2⟩
/-- the places that stay -/
def fst1 (c : Nat → Nat → Int) (z : Nat) : Bool := (List.range z).all fun q => c q z != 0
def fsts (c : Nat → Nat → Int) (n : Nat) : List Nat := (List.range n).filter (fst1 c)
theorem fst1_iff {c : Nat → Nat → Int} {z : Nat} : fst1 c z = true ↔ ∀ q, q < z → c q z ≠ 0 := by simp [fst1]
theorem fsts_inc (c : Nat → Nat → Int) (n : Nat) : (fsts c n).Pairwise (fun x y => x < y) := List.pairwise_lt_range.sublist List.filter_sublist
theorem fsts_perm {c : Nat → Nat → Int} (hc : Cmp3 c) {e : Nat → Nat → Bool} (he : ∀ y p, e y p = true ↔ c y p = 0) {Z : List Nat} {n : Nat} (hp : Z.Perm (List.range n)) (hs : Srt c Z) : (comp e Z).Perm (fsts c n) := by
  have hn : Z.Nodup := hp.nodup_iff.2 List.nodup_range
  refine (List.perm_ext_iff_of_nodup (hn.sublist (comp_sub e Z)) ((fsts_inc c n).imp (fun h => by omega))).2 fun z => ?_
  rw [mem_comp hc he z Z hs, fsts, List.mem_filter, fst1_iff, List.mem_range, hp.mem_iff, List.mem_range]
  constructor
  · rintro ⟨h1, h2⟩
    exact ⟨h1, fun q hq => h2 q (hp.mem_iff.2 (List.mem_range.2 (by omega))) hq⟩
  · rintro ⟨h1, h2⟩
    exact ⟨h1, fun q hq hqz => h2 q hqz⟩
theorem fsts_len (c : Nat → Nat → Int) (n : Nat) : (fsts c n).length ≤ n := by
  have := (List.filter_sublist (p := fst1 c) (l := List.range n)).length_le
  simpa [fsts] using this
theorem fsts_pos (c : Nat → Nat → Int) {n : Nat} (h : 0 < n) : 0 < (fsts c n).length := by
  refine List.length_pos_iff.2 fun he => ?_
  have : (0 : Nat) ∈ fsts c n := List.mem_filter.2 ⟨List.mem_range.2 h, fst1_iff.2 fun q hq => by omega⟩
  rw [he] at this; cases this
theorem sort_part (g : Nat) (zs ys R : List Nat) (hp : zs.Perm ys) (hs : ys.Pairwise (fun x y => x < y)) (N cap : Nat) (hN : N = zs.length) (hN2 : N ≤ 1000000) (w : World) (hr : RowN w g (zs ++ R)) :
    Calls Tryz.prog 62 #[.slice (some ⟨g, 0, none⟩) N cap] w fun e w' => (∃ v, e = .returned v) ∧ RowN w' g (ys ++ R) ∧ w.grownBy w' (some g) := by
  have hl : (ints zs).length = N := by rw [hN]; simp [ints]
  have hh : Go.Sort.Holds (Value.int .i64) w g 0 (ints zs).toArray := holds_of_blockI hr (by rw [ints_map]; simp [ints])
  have hc := Tryz.slices_Sort_int g 0 cap (ints zs) w hh (Blk.lt hr) (by omega)
  rw [hl, sort_ints hp hs] at hc
  refine hc.mono fun e w' ⟨he, n, os, hw⟩ => ?_
  subst hw
  refine ⟨⟨_, he⟩, ?_, grownBy_sortedI _⟩
  have hb := heap_sortedI (os := os) (n := n) (ints ys).toArray hr
  unfold RowN Blk
  rw [hb]
  congr 2
  have hly : ys.length = zs.length := hp.length_eq.symm
  apply Array.ext_getElem?
  intro j
  by_cases hj : j < ys.length
  · simp [Go.Sort.putCells, ints, hj, hly, List.getElem?_append_left, show j < zs.length by omega]
  · simp [Go.Sort.putCells, ints, hj, hly, List.getElem?_append_right, show ¬ j < zs.length by omega, show zs.length ≤ j by omega, show ys.length ≤ j by omega]
    rfl
end Go.Proofs.YthchjceibpcgbaaGreatDoor.Fi
