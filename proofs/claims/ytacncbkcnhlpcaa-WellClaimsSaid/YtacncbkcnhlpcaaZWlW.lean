/-
  What is proved: the sort of any right term, by package well's checker.
-/
import Derived.Test.YtacncbkcnhlpcaaZWlT
namespace Go.Proofs.Ytacncbkcnhlpcaa.Wl
open Go.RowKit L T C
open Sgn (SlG Fm Core cores hasN findC SlS.nul FBox FBox.new)
set_option linter.unusedVariables false
set_option linter.unusedSimpArgs false
set_option maxRecDepth 100000

theorem partE_eq (t : Tm) : partE t = if formB (opT t) (nameT t) (numT t) = true then 7 else if arityB (opT t) (argsT t).length = true then 12 else partsE (argsT t) := by cases t; rw [partE]; rfl
theorem parts_zero : ∀ {l : List Tm}, partsE l = 0 → ∀ t ∈ l, partE t = 0
  | [], _, t, h => by cases h
  | x :: l, h, t, ht => by
    rw [partsE] at h
    by_cases hx : partE x ≠ 0
    · rw [if_pos hx] at h; exact absurd h hx
    · rw [if_neg hx] at h
      rcases List.mem_cons.1 ht with rfl | ht
      · exact Classical.not_not.1 hx
      · exact parts_zero h t ht
theorem part_parts {t : Tm} (h : partE t = 0) : (opT t = 2 → 0 ≤ numT t) ∧ (opT t = 1 ∨ opT t = 2 → (argsT t).length = 0) ∧ (¬ opT t = 1 → ¬ opT t = 2 → ¬ opT t = 3 → (argsT t).length ≤ 2) ∧ (∀ x ∈ argsT t, partE x = 0) ∧ (argsT t).length ≤ 8 := by
  rw [partE_eq] at h
  by_cases hf : formB (opT t) (nameT t) (numT t) = true
  · rw [if_pos hf] at h; cases h
  rw [if_neg hf] at h
  by_cases ha : arityB (opT t) (argsT t).length = true
  · rw [if_pos ha] at h; cases h
  rw [if_neg ha] at h
  generalize (nameT t) = s at *
  generalize (numT t) = z at *
  generalize hn : (argsT t).length = n at *
  generalize opT t = o at *
  have hf1 : 1 ≤ o := by
    refine Int.not_lt.1 fun hlt => hf ?_
    unfold formB; rw [decide_eq_true hlt]; rfl
  have hf8 : o ≤ 8 := by
    refine Int.not_lt.1 fun hlt => hf ?_
    unfold formB; rw [decide_eq_true hlt]; simp
  have hn8 : n ≤ 8 := by
    refine Nat.not_lt.1 fun hlt => ha ?_
    unfold arityB; rw [decide_eq_true hlt]; simp
  refine ⟨fun h2 => ?_, fun h12 => ?_, fun h1 h2 h3 => ?_, parts_zero h, hn8⟩
  · refine Int.not_lt.1 fun hlt => hf ?_
    unfold formB; subst h2; rw [decide_eq_true hlt]; simp
  · refine Nat.eq_zero_of_not_pos fun hp => ha ?_
    have hA : argsI o = 0 := by rcases h12 with rfl | rfl <;> rfl
    unfold arityB; rw [hA]; simp; omega
  · refine Nat.not_lt.1 fun hlt => ha ?_
    have hA : argsI o = 0 ∨ argsI o = 1 ∨ argsI o = 2 := by
      unfold argsI; rw [if_neg h3]; split
      · exact .inr (.inr rfl)
      · split
        · exact .inr (.inl rfl)
        · exact .inl rfl
    unfold arityB
    rcases hA with hA | hA | hA <;> rw [hA] <;> simp <;> omega
theorem diff_nil (got : List ByteArray) : diff got [] = none := by cases got <;> rfl
theorem opW_eq (K : List Core) (V : List Vr) (B : List ByteArray) (o : Int) (s : ByteArray) (z : Int) (got : List ByteArray) :
    opW K V B o s z got = if (opA K V B o s z got.length).2.2 ≠ 0 then .bad (opA K V B o s z got.length).2.2 [] else askW got (opA K V B o s z got.length).1 (opA K V B o s z got.length).2.1 := by
  unfold opW opA askW
  by_cases h1 : o = 1
  · rw [if_pos h1, if_pos h1]
    cases sortV V s <;> simp [diff_nil]
  · rw [if_neg h1, if_neg h1]
    by_cases h2 : o = 2
    · rw [if_pos h2, if_pos h2]
      by_cases hb : (B.length : Int) ≤ z
      · rw [if_pos hb, if_pos hb]; simp
      · rw [if_neg hb, if_neg hb]; simp [diff_nil]
    · rw [if_neg h2, if_neg h2]
      by_cases h3 : o = 3
      · rw [if_pos h3, if_pos h3]
        unfold fnE
        simp only [Bool.bne_false]
        by_cases hx : (!hasN K s || (findC K s).2.2.toList == sBool.toList) = true
        · simp only [if_pos hx]; rfl
        · simp only [if_neg hx]
          by_cases hl : (findC K s).2.1.length ≠ got.length
          · simp only [if_pos hl]; rfl
          · simp only [if_neg hl]; rfl
      · rw [if_neg h3, if_neg h3]; simp
theorem opA_len {K : List Core} {V : List Vr} {B : List ByteArray} {t : Tm} (hp : partE t = 0) (he : (opA K V B (opT t) (nameT t) (numT t) (argsT t).length).2.2 = 0) : (opA K V B (opT t) (nameT t) (numT t) (argsT t).length).1.length = (argsT t).length := by
  obtain ⟨_, h12, _⟩ := part_parts hp
  unfold opA at he ⊢
  by_cases h1 : opT t = 1
  · rw [if_pos h1, h12 (.inl h1)]
    cases sortV V (nameT t) <;> rfl
  · rw [if_neg h1] at he ⊢
    by_cases h2 : opT t = 2
    · rw [if_pos h2, h12 (.inr h2)]
      split <;> rfl
    · rw [if_neg h2] at he ⊢
      by_cases h3 : opT t = 3
      · rw [if_pos h3] at he ⊢
        unfold fnE at he
        split at he
        · cases he
        · split at he
          · cases he
          · rename_i h; exact Classical.not_not.1 h
      · rw [if_neg h3]; simp
end Go.Proofs.Ytacncbkcnhlpcaa.Wl
