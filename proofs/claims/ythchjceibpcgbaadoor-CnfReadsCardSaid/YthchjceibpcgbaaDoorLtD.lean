/-
  What is proved: whether a literal holds, in the program and in the document; the document's Has, Count and Holds, the program's Count.
-/
import Derived.Test.YthchjceibpcgbaaDoorLtB
namespace Go.Proofs.YthchjceibpcgbaaDoor.Lt
open Go.RowKit L
set_option linter.unusedVariables false
set_option linter.unusedSimpArgs false

theorem hasL_take (X : List Int) (l : Int) (k : Nat) (x : Int) (hx : X[k]? = some x) : hasL (X.take (k + 1)) l = (hasL (X.take k) l || (isL l && x == l)) := by
  rw [List.take_add_one, hx]
  unfold hasL
  rw [Bool.eq_iff_iff]
  simp
  constructor
  · rintro ⟨h, h' | h'⟩
    · exact .inl ⟨h, h'⟩
    · exact .inr ⟨h, h'.symm⟩
  · rintro (⟨h, h'⟩ | ⟨h, h'⟩)
    · exact ⟨h, .inl h'⟩
    · exact ⟨h, .inr h'.symm⟩
theorem hasL_mem {X : List Int} {l : Int} (k : Nat) (hx : X[k]? = some l) (hl : isL l = true) : hasL X l = true := (hasL_iff _ _).2 ⟨hl, List.mem_of_getElem? hx⟩
end Go.Proofs.YthchjceibpcgbaaDoor.Lt
