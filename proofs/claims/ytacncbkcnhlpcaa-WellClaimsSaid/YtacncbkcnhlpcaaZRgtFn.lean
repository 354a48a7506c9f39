/-
  What is proved: what the form of a term's part allows (plain mathematics).
-/
import Derived.Test.YtacncbkcnhlpcaaZRgtM
import Derived.Test.YtacncbkcnhlpcaaZClmB
import Derived.Test.YtacncbkcnhlpcaaZLibTs
namespace Go.Proofs.Ytacncbkcnhlpcaa.C
open Go.RowKit L T
set_option linter.unusedVariables false
set_option linter.unusedSimpArgs false

theorem form_no {o : Int} {s : ByteArray} {n : Int} (h : formB o s n = false) : 1 ≤ o ∧ o ≤ 8 ∧ (o ≠ 1 → o ≠ 3 → s.toList.isEmpty = true) ∧ (o ≠ 2 → o ≠ 4 → o ≠ 8 → n = 0) ∧ (o = 2 → 0 ≤ n) := by
  simp only [formB, Bool.or_eq_false_iff, decide_eq_false_iff_not, Bool.and_eq_false_iff, beq_eq_false_iff_ne, bne_eq_false_iff_eq, Bool.not_eq_false'] at h
  obtain ⟨⟨h1, h2, h3⟩, h4, h5⟩ := h
  refine ⟨by omega, by omega, fun a b => ?_, fun a b c => ?_, fun a => ?_⟩
  · rcases h5 with (h | h) | h
    · exact absurd h a
    · exact absurd h b
    · exact h
  · rcases h4 with (h | h | h) | h
    · exact absurd h a
    · exact absurd h b
    · exact absurd h c
    · exact h
  · rcases h3 with h | h
    · exact absurd a h
    · omega
end Go.Proofs.Ytacncbkcnhlpcaa.C
