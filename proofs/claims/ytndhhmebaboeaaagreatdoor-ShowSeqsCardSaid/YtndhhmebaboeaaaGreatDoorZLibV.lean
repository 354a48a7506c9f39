/-
  What is proved: an argument that is a slice of texts reads as a list of texts.
-/
import Derived.Test.YtndhhmebaboeaaaGreatDoorBL
import Derived.SliceStrings
import Derived.Deep.Slices
import Derived.ChangeArms
import Derived.OpenShut
namespace Go.Proofs.YtndhhmebaboeaaaGreatDoor.L
open Go.RowKit Go.Deep Go.ChangeShapes Go.WideShapes
set_option linter.unusedVariables false

/-- the texts of a list are of a size that Go's len can tell -/
def sizedS (X : List ByteArray) : Prop := ∀ x ∈ X, x.size ≤ 9223372036854775807
theorem strs_open {H : Type} {enc : TypeId × Value → H} {W : World} {a : Option Addr} {n c : Nat} {d : DataW H} {p : List MemPlace} {sp : Nat → Bool}
    (h : DataW.Trod enc Tryz.prog W 0 sp true 48 (.slice a n c) d p) : ∃ X, n ≤ 9223372036854775807 ∧ SlS W a n c X ∧ sizedS X := by
  obtain ⟨fuel, hf⟩ := h
  rcases open_strings Tryz.underlying48 Tryz.underlying9 (by kernel_rfl) hf with ⟨hcs, _⟩ | ⟨ad, len, cap, ss, hcs, _, hl, hmx, hss, _, hat, hsz⟩
  · simp [Value.cells] at hcs
    obtain ⟨rfl, rfl, rfl⟩ := hcs
    exact ⟨[], by omega, ⟨IsS.nil _ _, by omega, fun _ => rfl⟩, fun x hx => absurd hx (by simp)⟩
  · simp [Value.cells] at hcs
    obtain ⟨rfl, rfl, rfl⟩ := hcs
    have hle : n ≤ ss.length := by rw [hss]; split <;> omega
    have hlen : (ss.take n).length = n := by rw [List.length_take]; omega
    refine ⟨ss.take n, by unfold maxLen at hmx; omega, ⟨⟨hlen.symm, fun hn => ?_⟩, hl, fun h => by cases h⟩, fun x hx => ?_⟩
    · obtain ⟨b, off, spot⟩ := ad
      have h0 := hat 0 (by omega)
      have hspot : spot = none := by simpa [Addr.add] using World.cell?_spot h0
      subst hspot
      refine ⟨b, off, rfl, ?_, fun i hi => ?_⟩
      · rw [Go.WideShapes.add_plain] at h0
        exact World.block_lt_of_cell? _ _ h0
      · have hi2 : i < ss.length := by omega
        have := hat i hi2
        rw [Go.WideShapes.add_plain] at this
        rw [this, List.getElem_take, List.getD_eq_getElem?_getD, List.getElem?_eq_getElem hi2]; rfl
    · have := hsz x (List.mem_of_mem_take hx)
      unfold maxLen at this; omega
theorem strs_open_all {H : Type} {enc : TypeId × Value → H} {W : World} {a : Option Addr} {n c : Nat} {d : DataW H} {p : List MemPlace}
    (h : DataW.Trod enc Tryz.prog W 0 (fun _ => true) true 48 (.slice a n c) d p) : ∃ X, n ≤ 9223372036854775807 ∧ SlS W a n c X ∧ sizedS X := strs_open h
end Go.Proofs.YtndhhmebaboeaaaGreatDoor.L
