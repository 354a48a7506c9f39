/-
  What is proved: the numbers of words, the words of a line, as the document reads them.
-/
import Derived.Test.YthchjceibpcgbaaGreatDoorZCnD
import Derived.Test.YthchjceibpcgbaaGreatDoorZCnB
import Derived.Test.YthchjceibpcgbaaGreatDoorDG
import Derived.Test.YthchjceibpcgbaaGreatDoorLO
namespace Go.Proofs.YthchjceibpcgbaaGreatDoor.Cn
open Go.RowKit L Lt
set_option linter.unusedVariables false
set_option linter.unusedSimpArgs false

theorem slS_one (w : World) (s : ByteArray) : SlS (w.alloc (.cells #[.string s] 9)) (some ⟨w.heap.size, 0, none⟩) 1 1 [s] := by
  refine ⟨⟨rfl, fun _ => ⟨_, _, rfl, by simp, fun k hk => ?_⟩⟩, Nat.le_refl _, fun h => by cases h⟩
  obtain rfl : k = 0 := by simp at hk; omega
  rw [World.cell?_alloc_at _ _ _ _ rfl]; rfl
/-- a list of texts, as lists of bytes -/
def lsS (S : List ByteArray) : List (List UInt8) := S.map (·.data.toList)
theorem nums_none {l : List (List UInt8)} {w : List UInt8} (hw : w ∈ l) (h : Dig.rdE w ≠ 0) : nums l = none := by
  unfold nums
  rw [if_neg]
  intro h2
  have := List.all_eq_true.1 h2 w hw
  simp at this
  exact h this
theorem nums_some {l : List (List UInt8)} (h : ∀ w ∈ l, Dig.rdE w = 0) : nums l = some (l.map Dig.rdV) := by
  unfold nums
  rw [if_pos]
  rw [List.all_eq_true]; intro w hw; simp [h w hw]
theorem tupB {v u : Value} {p q : Bool} (h : v = u) (h2 : p = q) : Ending.returned (.tuple #[v, .bool p]) = .returned (.tuple #[u, .bool q]) := by rw [h, h2]

end Go.Proofs.YthchjceibpcgbaaGreatDoor.Cn
