/-
  What is proved: the arguments of the laws as lists; the chapter's examples hold.
-/
import Derived.Test.YtmamecchphockaaLtK
import Derived.SliceStrings
import Derived.Deep.Slices
import Derived.Deep.Grids
import Derived.ChangeArms
import Derived.ChangeSlices
import Derived.OpenShut
namespace Go.Proofs.Ytmamecchphockaa.Lt
open Go.RowKit Go.Deep Go.ChangeShapes Go.WideShapes L
set_option linter.unusedVariables false
set_option linter.unusedSimpArgs false

theorem ints_open_all {H : Type} {enc : TypeId × Value → H} {W : World} {a : Option Addr} {n c : Nat} {d : DataW H} {p : List MemPlace}
    (h : DataW.Trod enc Try.prog W 0 (fun _ => true) true 22 (.slice a n c) d p) : ∃ X, n ≤ 9223372036854775807 ∧ (SlI W a n c X ∧ R64s X) := by
  obtain ⟨fuel, hf⟩ := h
  rcases open_ints Try.underlying22 Try.underlying3 (by kernel_rfl) hf with ⟨hcs, _⟩ | ⟨ad, len, cap, zs, hcs, _, hl, hm, hz, _, hcell, hwz⟩
  · simp [Value.cells] at hcs
    obtain ⟨rfl, rfl, rfl⟩ := hcs
    exact ⟨[], by omega, SlI.nil _, fun x hx => absurd hx (by simp)⟩
  · simp [Value.cells] at hcs
    obtain ⟨rfl, rfl, rfl⟩ := hcs
    have hle : n ≤ zs.length := by rw [hz]; split <;> omega
    have hlen : (zs.take n).length = n := by rw [List.length_take]; omega
    refine ⟨zs.take n, by unfold maxLen at hm; omega, ⟨hlen.symm, hl, (fun h => by cases h), fun hn => ?_⟩, fun x hx => ?_⟩
    · obtain ⟨b, off, spot⟩ := ad
      have h0 := hcell 0 (by omega)
      have hspot : spot = none := by simpa [Addr.add] using World.cell?_spot h0
      subst hspot
      refine ⟨b, off, rfl, ?_, fun i hi => ?_⟩
      · rw [Go.WideShapes.add_plain] at h0
        exact World.block_lt_of_cell? _ _ h0
      · have hi2 : i < zs.length := by omega
        have := hcell i hi2
        rw [Go.WideShapes.add_plain] at this
        rw [this, List.getElem_take, List.getD_eq_getElem?_getD, List.getElem?_eq_getElem hi2]; rfl
    · have := hwz x (List.mem_of_mem_take hx)
      have := Go.bounds_i64 this
      exact ⟨this.1, by have := this.2; omega⟩
theorem bools_open_all {H : Type} {enc : TypeId × Value → H} {W : World} {a : Option Addr} {n c : Nat} {d : DataW H} {p : List MemPlace}
    (h : DataW.Trod enc Try.prog W 0 (fun _ => true) true 30 (.slice a n c) d p) : ∃ V, n ≤ 9223372036854775807 ∧ SlB W a n c V := by
  obtain ⟨fuel, hf⟩ := h
  rcases open_bools Try.underlying30 Try.underlying4 (by kernel_rfl) hf with ⟨hcs, _⟩ | ⟨ad, len, cap, B, hcs, _, hl, hm, _, hcell⟩
  · simp [Value.cells] at hcs
    obtain ⟨rfl, rfl, rfl⟩ := hcs
    exact ⟨[], by omega, rfl, Nat.le_refl _, fun h => absurd h (by omega)⟩
  · simp [Value.cells] at hcs
    obtain ⟨rfl, rfl, rfl⟩ := hcs
    refine ⟨(List.range n).map B, by unfold maxLen at hm; omega, by simp, hl, fun hn => ?_⟩
    obtain ⟨b, off, spot⟩ := ad
    have h0 := hcell 0 (by omega)
    have hspot : spot = none := by simpa [Addr.add] using World.cell?_spot h0
    subst hspot
    refine ⟨b, off, rfl, ?_, fun i hi => ?_⟩
    · rw [Go.WideShapes.add_plain] at h0
      exact World.block_lt_of_cell? _ _ h0
    · have hi2 : i < n := by simpa using hi
      have := hcell i (by omega)
      rw [Go.WideShapes.add_plain] at this
      rw [this]; simp
theorem lits_sl (w : World) (X : List Int) : SlI (w.alloc (.cells (vsI X).toArray 3)) (some ⟨w.heap.size, 0, none⟩) X.length X.length X :=
  ⟨rfl, Nat.le_refl _, (fun e => by cases e), fun _ => ⟨_, _, rfl, by simp, fun i hi => by
    rw [World.cell?_alloc_at _ _ _ _ rfl]
    simp [vsI, hi]⟩⟩
theorem ex1 : cl [3, -1, 3] = [-1, 3] ∧ opp (cl [3, -1, 3]) = false := by decide +kernel
theorem ex2 : rsL [1, 2] [-1, 3] 1 = [2, 3] ∧ erL [1, 2] [-1, 3] 1 = 0 := by decide +kernel
theorem r64_of {X : List Int} (h : (X.all fun x => decide (-9223372036854775808 ≤ x) && decide (x < 9223372036854775808)) = true) : R64s X := fun x hx => by
  have := List.all_eq_true.1 h x hx
  simpa [R64] using this
set_option maxRecDepth 100000 in
set_option maxHeartbeats 4000000 in
theorem alive_any (w : World) : Calls Try.prog 9 #[] w fun e w' => e = .returned (.bool true) ∧ Below w.heap.size w w' := by
  have c1 := Clean_any (some ⟨w.heap.size, 0, none⟩) 3 3 [3, -1, 3] (w.alloc (.cells #[.int .i64 3, .int .i64 (-1), .int .i64 3] 3)) (lits_sl w [3, -1, 3]) (r64_of rfl) (by omega)
  rw [ex1.1, show opp [-1, 3] = false by decide +kernel] at c1
  have C2 := Lib.hid (fun (W : World) => by
    have hB : Below W.heap.size (W.alloc (.cells #[.int .i64 1, .int .i64 2] 3)) ((W.alloc (.cells #[.int .i64 1, .int .i64 2] 3)).alloc (.cells #[.int .i64 (-1), .int .i64 3] 3)) := (Below.refl _ _).alloc (by simp) _
    have h1 := (lits_sl W [1, 2]).below (bel_alloc (Below.refl _ _) (.cells #[.int .i64 (-1), .int .i64 3] 3))
    have h2 := lits_sl (W.alloc (.cells #[.int .i64 1, .int .i64 2] 3)) [-1, 3]
    have := Resolve_any (some ⟨W.heap.size, 0, none⟩) 2 2 [1, 2] (some ⟨(W.alloc (.cells #[.int .i64 1, .int .i64 2] 3)).heap.size, 0, none⟩) 2 2 [-1, 3] 1 ((W.alloc (.cells #[.int .i64 1, .int .i64 2] 3)).alloc (.cells #[.int .i64 (-1), .int .i64 3] 3)) h1 (r64_of rfl) (by omega) h2 (r64_of rfl) (by omega)
    rw [ex2.1, ex2.2, World.size_alloc] at this
    exact this)
  have CI := Lib.hid (fun (W : World) A q k (h : SlI W A q k [-1, 3]) => by
    have := Ints_any A q k [-1, 3] (some ⟨W.heap.size, 0, none⟩) 2 2 [-1, 3] (W.alloc (.cells #[.int .i64 (-1), .int .i64 3] 3)) (h.below (bel_alloc (Below.refl _ _) _)) (lits_sl W [-1, 3]) (by rw [h.1]; decide)
    rwa [show decide (([-1, 3] : List Int) = [-1, 3]) = true from rfl] at this)
  have CJ := Lib.hid (fun (W : World) A q k (h : SlI W A q k [2, 3]) => by
    have := Ints_any A q k [2, 3] (some ⟨W.heap.size, 0, none⟩) 2 2 [2, 3] (W.alloc (.cells #[.int .i64 2, .int .i64 3] 3)) (h.below (bel_alloc (Below.refl _ _) _)) (lits_sl W [2, 3]) (by rw [h.1]; decide)
    rwa [show decide (([2, 3] : List Int) = [2, 3]) = true from rfl] at this)
  go_enter Try.func9, Try.ntmps9
  go_wp2_with (first
    | (go_at_call 10; ((with_reducible refine c1.mono ?_); rintro e w1 ⟨A1, q1, k1, rfl, hS1, hq1, hb1⟩; have S1 := Lib.hid hS1; have B1 := bel_trans (bel_alloc (Below.refl _ _) (.cells #[.int .i64 3, .int .i64 (-1), .int .i64 3] 3)) hb1; have c2 := C2.out w1; clear hS1 c1))
    | (go_at_call 27; ((with_reducible refine c2.mono ?_); rintro e w2 ⟨A2, q2, k2, rfl, hS2, hq2, hb2⟩; have hb12 := bel_trans (bel_alloc (bel_alloc (Below.refl _ w1) (.cells #[.int .i64 1, .int .i64 2] 3)) (.cells #[.int .i64 (-1), .int .i64 3] 3)) hb2; have B2 := bel_trans B1 hb12; have S2 := Lib.hid hS2; have c3 := CI.out w2 A1 q1 k1 (S1.out.below hb12); clear hS2 c2))
    | (go_at_call 14; ((with_reducible refine c3.mono ?_); rintro e w3 ⟨rfl, hb3⟩; have hb23 := bel_trans (bel_alloc (Below.refl _ w2) (.cells #[.int .i64 (-1), .int .i64 3] 3)) hb3; have B3 := bel_trans B2 hb23; have c4 := CJ.out w3 A2 q2 k2 (S2.out.below hb23); clear c3))
    | (go_at_call 14; ((with_reducible refine c4.mono ?_); rintro e w4 ⟨rfl, hb4⟩; have B4 := bel_trans B3 (bel_trans (bel_alloc (Below.refl _ w3) (.cells #[.int .i64 2, .int .i64 3] 3)) hb4))))
  go_ret
  exact ⟨rfl, B4⟩
end Go.Proofs.Ytmamecchphockaa.Lt
