/-
  What is proved: the line p, as the document reads it.
-/
import Derived.Test.YthchjceibpcgbaaGreatDoorZCnH
namespace Go.Proofs.YthchjceibpcgbaaGreatDoor.Cn
open Go.RowKit L Lt
set_option linter.unusedVariables false
set_option linter.unusedSimpArgs false

def hdV : Except Int (Int × Int) → Int × Int × Int
  | .ok (n, m) => (n, m, 0)
  | .error e => (0, 0, e)
theorem tri {a b c a' b' c' : Int} (h : a = a' ∧ b = b' ∧ c = c') : Ending.returned (.tuple #[.int .i64 a, .int .i64 b, .int .i64 c]) = .returned (.tuple #[.int .i64 a', .int .i64 b', .int .i64 c']) := by rw [h.1, h.2.1, h.2.2]
/-- four words in memory -/
theorem four {w : World} {A : Option Addr} {c : Nat} {s0 s1 s2 s3 : ByteArray} (h : SlS w A 4 c [s0, s1, s2, s3]) :
    ∃ b o, A = some ⟨b, o, none⟩ ∧ 4 ≤ c ∧ w.cell? ⟨b, o, none⟩ = some (.string s0) ∧ w.cell? ⟨b, o + 1, none⟩ = some (.string s1) ∧ SlS w (some ⟨b, o + 2, none⟩) 2 (c - 2) [s2, s3] := by
  obtain ⟨b, o, rfl, hb, hr⟩ := h.1.2 (by omega)
  refine ⟨b, o, rfl, h.2.1, hr 0 (by simp), hr 1 (by simp), ⟨rfl, fun _ => ⟨b, o + 2, rfl, hb, fun k hk => ?_⟩⟩, by have := h.2.1; omega, fun e => by cases e⟩
  rcases k with _ | _ | k
  · exact hr 2 (by simp)
  · exact hr 3 (by simp)
  · simp at hk; omega
end Go.Proofs.YthchjceibpcgbaaGreatDoor.Cn
