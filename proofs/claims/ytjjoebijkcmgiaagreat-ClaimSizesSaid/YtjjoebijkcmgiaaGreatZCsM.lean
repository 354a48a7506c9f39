/-
  What is proved: sizes, depths and first errors of claims put together (plain mathematics).
-/
import Derived.Test.YtjjoebijkcmgiaaGreatBR
namespace Go.Proofs.YtjjoebijkcmgiaaGreat.Cs
open Go.RowKit L T C
set_option linter.unusedVariables false

/-- two claims, joined -/
def andC (a b : Cl) : Cl := .mk 7 ⟨#[]⟩ ⟨#[]⟩ [] [a, b]
def notC (a : Cl) : Cl := .mk 6 ⟨#[]⟩ ⟨#[]⟩ [] [a]
theorem wt_and (a b : Cl) : wt (andC a b) = wt a + wt b + 1 := by
  rw [wt_mk]
  show 1 + sizes [] + wts [a, b] = _
  rw [sizes, wts, wts, wts]; omega
theorem wt_not (a : Cl) : wt (notC a) = wt a + 1 := by
  rw [wt_mk]
  show 1 + sizes [] + wts [a] = _
  rw [sizes, wts, wts]; omega
theorem dp_and (a b : Cl) : dpC (andC a b) = 1 + max (dpC a) (dpC b) := by
  rw [dpC_mk]
  show 1 + dpCs [a, b] = _
  rw [dpCs, dpCs, dpCs]; omega
theorem part_and (a b : Cl) : cpartE (andC a b) = cpartsE [a, b] := by
  rw [cpartE_mk]
  show (if formC 7 ⟨#[]⟩ ⟨#[]⟩ = true then (7 : Int) else if arityC 7 0 2 = true then 12 else if rightsE [] ≠ 0 then rightsE [] else cpartsE [a, b]) = _
  rw [if_neg (show ¬ formC 7 ⟨#[]⟩ ⟨#[]⟩ = true by decide +kernel), if_neg (by decide), if_neg (by rw [rightsE]; decide)]
theorem right_and (a b : Cl) (ha : wt a ≤ 400) (hb : wt b ≤ 400) : (crightE (andC a b) == 0) = ((crightE a == 0) && (crightE b == 0) && decide (((min (dpC (andC a b)) 65 : Nat) : Int) ≤ 64)) := by
  have hw := wt_and a b
  have hd := dp_and a b
  rw [Bool.eq_iff_iff, beq_iff_eq, Bool.and_eq_true, Bool.and_eq_true, beq_iff_eq, beq_iff_eq, decide_eq_true_eq]
  unfold crightE
  rw [if_neg (show ¬ 4096 < wt (andC a b) by omega), if_neg (show ¬ 4096 < wt a by omega), if_neg (show ¬ 4096 < wt b by omega), part_and, cpartsE, cpartsE, cpartsE]
  by_cases h : 64 < dpC (andC a b)
  · rw [if_pos h]
    refine ⟨fun h1 => by omega, fun h1 => by omega⟩
  · rw [if_neg h, if_neg (show ¬ 64 < dpC a by omega), if_neg (show ¬ 64 < dpC b by omega)]
    by_cases h1 : cpartE a = 0
    · by_cases h2 : cpartE b = 0
      · rw [if_neg (by simpa using h1), if_neg (by simpa using h2)]
        refine ⟨fun _ => ⟨⟨h1, h2⟩, by omega⟩, fun _ => rfl⟩
      · rw [if_neg (by simpa using h1), if_pos h2]
        exact ⟨fun e => absurd e h2, fun e => absurd e.1.2 h2⟩
    · rw [if_pos h1]
      exact ⟨fun e => absurd e h1, fun e => absurd e.1.1 h1⟩
theorem deep_and (a b : Cl) : ((min (dpC (andC a b)) 65 : Nat) : Int) = min (max ((min (dpC a) 65 : Nat) : Int) ((min (dpC b) 65 : Nat) : Int) + 1) 65 := by
  rw [dp_and]; omega
end Go.Proofs.YtjjoebijkcmgiaaGreat.Cs
