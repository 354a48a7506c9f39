/-
  What is proved: facts on whole numbers that the proofs about package num use: quotients rounded down and up, greatest common divisors. No program is in sight.
-/
namespace Go.Proofs.Ytneflljiocnkjaa.Num

/-- the quotient rounded down, rounded up, and what is left, out of the quotient that is rounded towards 0 -/
def dq (a b : Int) : Int := if a.tmod b ≠ 0 ∧ ¬(a.tmod b < 0 ↔ b < 0) then a.tdiv b - 1 else a.tdiv b
def dc (a b : Int) : Int := if a.tmod b ≠ 0 ∧ (a.tmod b < 0 ↔ b < 0) then a.tdiv b + 1 else a.tdiv b
def dm (a b : Int) : Int := if a.tmod b ≠ 0 ∧ ¬(a.tmod b < 0 ↔ b < 0) then a.tmod b + b else a.tmod b
/-- Has a by b an answer that fits? -/
def dB (a b : Int) : Bool := decide (b ≠ 0 ∧ ¬(a = -9223372036854775808 ∧ b = -1))
def dV (a b : Int) : Int := if b ≠ 0 ∧ ¬(a = -9223372036854775808 ∧ b = -1) then dq a b else 0
def cV (a b : Int) : Int := if b ≠ 0 ∧ ¬(a = -9223372036854775808 ∧ b = -1) then dc a b else 0
def mV (a b : Int) : Int := if b ≠ 0 then dm a b else 0

theorem quo_facts (a b : Int) (hb : b ≠ 0) : b * a.tdiv b + a.tmod b = a ∧ (a.tmod b).natAbs < b.natAbs ∧ (0 ≤ a → 0 ≤ a.tmod b) ∧ (a ≤ 0 → a.tmod b ≤ 0) ∧
    (a.tdiv b).natAbs ≤ a.natAbs ∧ (2 ≤ b.natAbs → 2 * (a.tdiv b).natAbs ≤ a.natAbs) := by
  refine ⟨Int.mul_tdiv_add_tmod a b, ?_, ?_, ?_, ?_, ?_⟩
  · rw [Int.natAbs_tmod]; exact Nat.mod_lt _ (by omega)
  · exact fun h => Int.tmod_nonneg b h
  · intro h
    have h1 := Int.tmod_nonneg b (a := -a) (by omega)
    rw [Int.neg_tmod] at h1
    omega
  · rw [Int.natAbs_tdiv]; exact Nat.div_le_self _ _
  · intro h
    rw [Int.natAbs_tdiv]
    show 2 * (a.natAbs / b.natAbs) ≤ _
    have h5 : a.natAbs / b.natAbs ≤ a.natAbs / 2 := Nat.div_le_div_left h (by omega)
    have : a.natAbs / 2 * 2 ≤ a.natAbs := Nat.div_mul_le_self _ _
    omega

theorem quo_fits (a b : Int) (a0 : -9223372036854775808 ≤ a) (a1 : a ≤ 9223372036854775807) (hb : b ≠ 0) (hab : ¬(b = -1 ∧ a = -9223372036854775808)) :
    -9223372036854775808 ≤ a.tdiv b ∧ a.tdiv b ≤ 9223372036854775807 := by
  obtain ⟨_, _, _, _, h5, h6⟩ := quo_facts a b hb
  by_cases e1 : b = 1
  · subst e1; rw [Int.tdiv_one]; omega
  · by_cases e2 : b = -1
    · subst e2; rw [Int.tdiv_neg, Int.tdiv_one]; omega
    · have := h6 (by omega)
      omega

/-- the rest's sign, its size, and that nothing is lost -/
theorem rest_facts (a b : Int) (hb : b ≠ 0) : dq a b * b + dm a b = a ∧ (0 < b → 0 ≤ dm a b ∧ dm a b < b) ∧ (b < 0 → dm a b ≤ 0 ∧ b < dm a b) := by
  obtain ⟨h1, h2, h3, h4, _, _⟩ := quo_facts a b hb
  unfold dq dm
  have e : b * a.tdiv b = a.tdiv b * b := Int.mul_comm _ _
  split
  · rw [Int.sub_mul]
    refine ⟨by omega, fun _ => by omega, fun _ => by omega⟩
  · refine ⟨by omega, fun _ => by omega, fun _ => by omega⟩

theorem dV_yes {a b : Int} (hb : b ≠ 0) (hab : ¬(b = -1 ∧ a = -9223372036854775808)) : dB a b = true ∧ dV a b = dq a b ∧ cV a b = dc a b := by
  have h : b ≠ 0 ∧ ¬(a = -9223372036854775808 ∧ b = -1) := ⟨hb, fun h => hab ⟨h.2, h.1⟩⟩
  unfold dB dV cV
  rw [if_pos h, if_pos h]
  simp [h]
theorem dV_no {a b : Int} (h : b = 0 ∨ b = -1 ∧ a = -9223372036854775808) : dB a b = false ∧ dV a b = 0 ∧ cV a b = 0 := by
  have h : ¬(b ≠ 0 ∧ ¬(a = -9223372036854775808 ∧ b = -1)) := by omega
  unfold dB dV cV
  rw [if_neg h, if_neg h]
  exact ⟨decide_eq_false h, rfl, rfl⟩

/-- where the quotient is not whole there is room for one more, and one less -/
theorem quo_room (a b : Int) (a0 : -9223372036854775808 ≤ a) (a1 : a ≤ 9223372036854775807) (hb : b ≠ 0) (hr : a.tmod b ≠ 0) :
    -9223372036854775808 ≤ a.tdiv b - 1 ∧ a.tdiv b + 1 ≤ 9223372036854775807 := by
  obtain ⟨_, h2, _, _, h5, h6⟩ := quo_facts a b hb
  have := h6 (by omega)
  omega

theorem dm_zero {a b : Int} (hb : b ≠ 0) : dm a b = 0 ↔ a.tmod b = 0 := by
  obtain ⟨_, h2, _, _, _, _⟩ := quo_facts a b hb
  unfold dm
  split <;> omega
/-- rounded up, out of what is rounded down -/
theorem dc_eq {a b : Int} (hb : b ≠ 0) : dc a b = if dm a b = 0 then dq a b else dq a b + 1 := by
  have h := dm_zero (a := a) hb
  unfold dc dq
  by_cases h1 : a.tmod b = 0
  · rw [if_pos (h.2 h1), if_neg (by simp [h1]), if_neg (by simp [h1])]
  · rw [if_neg (fun k => h1 (h.1 k))]
    by_cases h2 : a.tmod b < 0 ↔ b < 0
    · rw [if_pos ⟨h1, h2⟩, if_neg (fun k => k.2 h2)]
    · rw [if_neg (fun k => h2 k.2), if_pos ⟨h1, h2⟩]; omega
/-- a number and what is left of it lie on one side of 0 -/
theorem side {a b : Int} (hb : b ≠ 0) (h : a.tmod b ≠ 0) : (a < 0 ↔ a.tmod b < 0) := by
  obtain ⟨_, _, h3, h4, _, _⟩ := quo_facts a b hb
  omega
theorem by_minus_one (a : Int) : dm a (-1) = 0 ∧ dq a (-1) = -a := by
  unfold dm dq
  rw [Int.tmod_neg, Int.tmod_one, Int.tdiv_neg, Int.tdiv_one]
  simp

theorem dq_mul (a b : Int) (hb : b ≠ 0) : dq (a * b) b = a ∧ dm (a * b) b = 0 := by
  unfold dq dm
  rw [Int.mul_tmod_left, Int.mul_tdiv_cancel _ hb]
  simp

end Go.Proofs.Ytneflljiocnkjaa.Num
