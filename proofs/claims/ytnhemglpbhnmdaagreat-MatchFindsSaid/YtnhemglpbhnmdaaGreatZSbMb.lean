/-
  What is proved: the first terms of lists put together, of neighbours swapped or left out (plain mathematics).
-/
import Derived.Test.YtnhemglpbhnmdaaGreatBM
import Derived.Test.YtnhemglpbhnmdaaGreatBB
namespace Go.Proofs.YtnhemglpbhnmdaaGreat.U
open Go.RowKit L T C B
set_option linter.unusedVariables false
set_option linter.unusedSimpArgs false

theorem getU_app (l m : List Pr) (s : ByteArray) : getU (l ++ m) s = match getU l s with | some u => some u | none => getU m s := by
  induction l with
  | nil => rw [getU]; rfl
  | cons p l ih =>
    rw [List.cons_append, getU, getU]
    by_cases h : (p.nm.toList == s.toList) = true
    · rw [if_pos h, if_pos h]
    · rw [if_neg h, if_neg h, ih]
theorem getU_swap (l m : List Pr) (p q : Pr) (h : (p.nm.toList == q.nm.toList) = false) (s : ByteArray) : getU (l ++ q :: p :: m) s = getU (l ++ p :: q :: m) s := by
  have e : getU (q :: p :: m) s = getU (p :: q :: m) s := by
    rw [getU, getU, getU, getU]
    by_cases h1 : (p.nm.toList == s.toList) = true
    · by_cases h2 : (q.nm.toList == s.toList) = true
      · rw [beq_iff_eq] at h1 h2
        rw [h1, ← h2, beq_self_eq_true] at h
        cases h
      · rw [if_pos h1, if_neg h2, if_pos h1]
    · by_cases h2 : (q.nm.toList == s.toList) = true
      · rw [if_neg h1, if_pos h2, if_neg h1]
      · rw [if_neg h1, if_neg h2, if_neg h1]
  rw [getU_app, getU_app, e]
theorem getU_drop (l m : List Pr) (p q : Pr) (h : (p.nm.toList == q.nm.toList) = true) (s : ByteArray) : getU (l ++ p :: m) s = getU (l ++ p :: q :: m) s := by
  have e : getU (p :: m) s = getU (p :: q :: m) s := by
    rw [getU, getU, getU]
    by_cases h1 : (p.nm.toList == s.toList) = true
    · rw [if_pos h1, if_pos h1]
    · have h2 : ¬ (q.nm.toList == s.toList) = true := by
        rw [beq_iff_eq] at h
        rw [← h]; exact h1
      rw [if_neg h1, if_neg h1, if_neg h2]
  rw [getU_app, getU_app, e]
theorem getU_map (f : Tm → Tm) (s : ByteArray) : ∀ l : List Pr, getU (l.map (fun p => (⟨p.nm, f p.t⟩ : Pr))) s = (getU l s).map f
  | [] => by rw [List.map_nil, getU]; rfl
  | p :: l => by
    rw [List.map_cons, getU, getU, getU_map f s l]
    by_cases h : (p.nm.toList == s.toList) = true
    · rw [if_pos h, if_pos h]; rfl
    · rw [if_neg h, if_neg h]
end Go.Proofs.YtnhemglpbhnmdaaGreat.U
