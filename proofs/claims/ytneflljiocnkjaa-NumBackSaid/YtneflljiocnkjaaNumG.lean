/-
  What is proved: facts on greatest common divisors that the proofs about package num use. No program is in sight.
-/
namespace Go.Proofs.Ytneflljiocnkjaa.Num

/-- the gcd of two numbers that are not negative -/
def gc (x y : Int) : Int := (Nat.gcd x.toNat y.toNat : Int)
/-- the gcd of a list's sizes -/
def gl : List Int → Nat → Nat
  | [], g => g
  | a :: l, g => gl l (Nat.gcd g a.natAbs)

theorem gc_zero {x : Int} (h : 0 ≤ x) : gc x 0 = x := by unfold gc; simp; omega
theorem zero_gc {x : Int} (h : 0 ≤ x) : gc 0 x = x := by unfold gc; simp; omega
theorem gc_pos (x y : Int) : 0 ≤ gc x y := by unfold gc; omega
theorem gc_step {x y : Int} (hx : 0 ≤ x) (hy : 0 < y) : gc y (x % y) = gc x y := by
  obtain ⟨m, rfl⟩ := Int.eq_ofNat_of_zero_le hx
  obtain ⟨n, rfl⟩ := Int.eq_ofNat_of_zero_le (Int.le_of_lt hy)
  unfold gc
  rw [show ((m : Int) % (n : Int)).toNat = m % n by omega]
  simp only [Int.toNat_natCast]
  rw [Nat.gcd_comm n, ← Nat.gcd_rec, Nat.gcd_comm]
theorem gc_le {x y : Int} (hx : 0 < x) (_hy : 0 ≤ y) : gc x y ≤ x := by
  have := Nat.gcd_le_left y.toNat (m := x.toNat) (by omega)
  unfold gc; omega

/-- t: how often 2 divides n -/
def Twos (n : Nat) (t : Nat) : Prop := n % 2 ^ t = 0 ∧ n / 2 ^ t % 2 = 1

theorem odd_pow {m : Nat} (h : m % 2 = 1) (s : Nat) : Nat.Coprime m (2 ^ s) := by
  apply Nat.Coprime.pow_right
  rw [Nat.Coprime, Nat.gcd_comm, Nat.gcd_rec, h]
  simp

/-- a factor 2 of one number is in no common divisor with an odd one -/
theorem gcd_half {m n s : Nat} (hm : m % 2 = 1) (h : n % 2 ^ s = 0) : Nat.gcd m (n / 2 ^ s) = Nat.gcd m n := by
  have e : n = 2 ^ s * (n / 2 ^ s) := (Nat.mul_div_cancel' (Nat.dvd_of_mod_eq_zero h)).symm
  conv => rhs; rw [e]
  exact ((odd_pow hm s).symm.gcd_mul_left_cancel_right _).symm

theorem gcd_take {m n : Nat} (h : m ≤ n) : Nat.gcd m (n - m) = Nat.gcd m n := by
  rw [Nat.gcd_sub_self_right h]

/-- the factors 2 that two numbers share -/
theorem gcd_twos {M N t a : Nat} (h : Twos (M ||| N) t) (ha : Twos M a) : Nat.gcd M N = 2 ^ t * Nat.gcd (M / 2 ^ a) N := by
  obtain ⟨h1, h2⟩ := h
  obtain ⟨a1, a2⟩ := ha
  rw [Nat.or_mod_two_pow] at h1
  have m0 : M % 2 ^ t = 0 := by
    have := Nat.left_le_or (n := M % 2 ^ t) (m := N % 2 ^ t); omega
  have n0 : N % 2 ^ t = 0 := by
    have := Nat.right_le_or (n := M % 2 ^ t) (m := N % 2 ^ t); omega
  have h3 : (M / 2 ^ t) % 2 = 1 ∨ (N / 2 ^ t) % 2 = 1 := by
    rw [Nat.or_div_two_pow, Nat.or_mod_two_eq_one] at h2; exact h2
  have eM : M = 2 ^ t * (M / 2 ^ t) := (Nat.mul_div_cancel' (Nat.dvd_of_mod_eq_zero m0)).symm
  have eN : N = 2 ^ t * (N / 2 ^ t) := (Nat.mul_div_cancel' (Nat.dvd_of_mod_eq_zero n0)).symm
  have ea : M = 2 ^ a * (M / 2 ^ a) := (Nat.mul_div_cancel' (Nat.dvd_of_mod_eq_zero a1)).symm
  have e1 : Nat.gcd M N = 2 ^ t * Nat.gcd (M / 2 ^ t) (N / 2 ^ t) := by
    conv => lhs; rw [eM, eN]
    exact Nat.gcd_mul_left _ _ _
  rw [e1]
  congr 1
  rcases h3 with h3 | h3
  · have hta : t = a := by
      rcases Nat.lt_trichotomy t a with h | h | h
      · exfalso
        have e : M / 2 ^ t = 2 ^ (a - t) * (M / 2 ^ a) := by
          conv => lhs; rw [ea]
          rw [show 2 ^ a = 2 ^ t * 2 ^ (a - t) by rw [← Nat.pow_add]; congr 1; omega, Nat.mul_assoc, Nat.mul_div_cancel_left _ (Nat.two_pow_pos t)]
        rw [e, show a - t = (a - t - 1) + 1 by omega, Nat.pow_succ] at h3
        rw [show 2 ^ (a - t - 1) * 2 * (M / 2 ^ a) = 2 * (2 ^ (a - t - 1) * (M / 2 ^ a)) by rw [Nat.mul_comm (2 ^ (a - t - 1)) 2, Nat.mul_assoc]] at h3
        omega
      · exact h
      · exfalso
        have e : M / 2 ^ a = 2 ^ (t - a) * (M / 2 ^ t) := by
          conv => lhs; rw [eM]
          rw [show 2 ^ t = 2 ^ a * 2 ^ (t - a) by rw [← Nat.pow_add]; congr 1; omega, Nat.mul_assoc, Nat.mul_div_cancel_left _ (Nat.two_pow_pos a)]
        rw [e, show t - a = (t - a - 1) + 1 by omega, Nat.pow_succ] at a2
        rw [show 2 ^ (t - a - 1) * 2 * (M / 2 ^ t) = 2 * (2 ^ (t - a - 1) * (M / 2 ^ t)) by rw [Nat.mul_comm (2 ^ (t - a - 1)) 2, Nat.mul_assoc]] at a2
        omega
    subst hta
    exact gcd_half a2 n0
  · rw [show Nat.gcd (M / 2 ^ a) N = Nat.gcd (M / 2 ^ a) (N / 2 ^ t) from (gcd_half a2 n0).symm]
    have k1 : Nat.gcd (N / 2 ^ t) (M / 2 ^ t) = Nat.gcd (N / 2 ^ t) M := gcd_half h3 m0
    have k2 : Nat.gcd (N / 2 ^ t) (M / 2 ^ a) = Nat.gcd (N / 2 ^ t) M := gcd_half h3 a1
    rw [Nat.gcd_comm (M / 2 ^ t), Nat.gcd_comm (M / 2 ^ a), k1, k2]

theorem gl_step (l : List Int) (k g : Nat) (h : k < l.length) : gl (l.drop k) g = gl (l.drop (k + 1)) (Nat.gcd g (l.getD k 0).natAbs) := by
  rw [List.drop_eq_getElem_cons h]
  simp [gl, List.getD, List.getElem?_eq_getElem h]
theorem gl_end (l : List Int) (k g : Nat) (h : l.length ≤ k) : gl (l.drop k) g = g := by
  rw [List.drop_eq_nil_of_le h]; rfl
theorem gcd_max {g n b : Nat} (hg : g ≤ b) (hn : n ≤ b) : Nat.gcd g n ≤ b := by
  by_cases h : n = 0
  · subst h; simpa using hg
  · have := Nat.gcd_le_right g (n := n) (by omega)
    omega

/-- the gcd divides what it is the gcd of -/
theorem gl_dvd (l : List Int) : ∀ g : Nat, gl l g ∣ g ∧ ∀ z ∈ l, gl l g ∣ z.natAbs := by
  induction l with
  | nil => intro g; exact ⟨Nat.dvd_refl _, fun z h => by cases h⟩
  | cons a l ih =>
    intro g
    obtain ⟨h1, h2⟩ := ih (Nat.gcd g a.natAbs)
    refine ⟨Nat.dvd_trans h1 (Nat.gcd_dvd_left _ _), fun z hz => ?_⟩
    rcases List.mem_cons.1 hz with rfl | h
    · exact Nat.dvd_trans h1 (Nat.gcd_dvd_right _ _)
    · exact h2 z h
/-- what divides all of them divides the gcd -/
theorem dvd_gl (l : List Int) (d : Nat) : ∀ g : Nat, d ∣ g → (∀ z ∈ l, d ∣ z.natAbs) → d ∣ gl l g := by
  induction l with
  | nil => intro g hg _; exact hg
  | cons a l ih =>
    intro g hg h
    exact ih _ (Nat.dvd_gcd hg (h a (by simp))) fun z hz => h z (by simp [hz])
theorem gl_le (l : List Int) (b : Nat) (h : ∀ z ∈ l, z.natAbs ≤ b) : ∀ g : Nat, g ≤ b → gl l g ≤ b := by
  induction l with
  | nil => intro g hg; exact hg
  | cons a l ih =>
    intro g hg
    exact ih (fun z hz => h z (by simp [hz])) _ (gcd_max hg (h a (by simp)))

/-! Bezout -/
/-- what 64 bits with a sign keep of a number -/
def W (n : Int) : Int := (n + 9223372036854775808) % 18446744073709551616 - 9223372036854775808

theorem W_three (x q u : Int) (h : -9223372036854775808 ≤ x - q * u ∧ x - q * u ≤ 9223372036854775807) : W (x - W (W q * u)) = x - q * u := by
  obtain ⟨k, hk⟩ : ∃ k, W q = q - 18446744073709551616 * k := ⟨(q + 9223372036854775808) / 18446744073709551616, by unfold W; omega⟩
  have e : W q * u = q * u - 18446744073709551616 * (k * u) := by rw [hk, Int.sub_mul, Int.mul_assoc]
  rw [e]
  generalize q * u = p at *
  generalize k * u = t at *
  unfold W
  omega

/-- x is at most B from 0, or at most 1; and far inside 64 bits -/
def Bd (x B : Int) : Prop := -4611686018427387904 ≤ x ∧ x ≤ 4611686018427387904 ∧ ((-B ≤ x ∧ x ≤ B) ∨ (-1 ≤ x ∧ x ≤ 1))

theorem Bd_sign {s U B : Int} (hs : s = 1 ∨ s = -1) (h : Bd U B) : Bd (s * U) B := by
  unfold Bd at *
  rcases hs with rfl | rfl
  · simpa using h
  · simp only [Int.neg_mul, Int.one_mul]; omega
theorem Bd_neg {x B : Int} (h : Bd x B) : Bd (-x) B := by unfold Bd at *; omega

structure Bez (A B m n x y u v : Int) : Prop where
  m0 : 0 ≤ m
  n0 : 0 ≤ n
  m1 : m ≤ 9223372036854775808
  n1 : n ≤ 9223372036854775808
  g : gc m n = gc A B
  e : m = A * x + B * y
  bx : Bd x B
  by' : Bd y A
  rest : n ≠ 0 → ∃ s X U V Y : Int, (s = 1 ∨ s = -1) ∧ 0 ≤ X ∧ 0 ≤ U ∧ 0 ≤ V ∧ 0 ≤ Y ∧ x = s * X ∧ u = -(s * U) ∧ v = s * V ∧ y = -(s * Y) ∧
    U * m + X * n = B ∧ V * m + Y * n = A ∧ n = A * u + B * v ∧ Bd U B ∧ Bd V A

theorem bez_start {A B : Int} (a0 : 0 ≤ A) (b0 : 0 ≤ B) (a1 : A ≤ 9223372036854775808) (b1 : B ≤ 9223372036854775808) : Bez A B A B 1 0 0 1 where
  m0 := a0
  n0 := b0
  m1 := a1
  n1 := b1
  g := rfl
  e := by simp
  bx := by unfold Bd; omega
  by' := by unfold Bd; omega
  rest := fun _ => ⟨1, 1, 0, 1, 0, Or.inl rfl, by omega, by omega, by omega, by omega, by simp, by simp, by simp, by simp, by simp, by simp, by simp, by unfold Bd; omega, by unfold Bd; omega⟩

/-- a product that is small has a small factor -/
theorem small {U n X r B : Int} (hU : 0 ≤ U) (hn : 2 ≤ n) (hX : 0 ≤ X) (hr : 0 ≤ r) (hB : B ≤ 9223372036854775808) (h : U * n + X * r = B) : Bd U B := by
  have h1 : 0 ≤ X * r := Int.mul_nonneg hX hr
  have h2 : U * 2 ≤ U * n := Int.mul_le_mul_of_nonneg_left hn hU
  unfold Bd
  omega

theorem bez_step {A B m n x y u v : Int} (a1 : A ≤ 9223372036854775808) (b1 : B ≤ 9223372036854775808) (hn : n ≠ 0) (h : Bez A B m n x y u v) :
    Bez A B n (m % n) u v (W (x - W (W (m / n) * u))) (W (y - W (W (m / n) * v))) := by
  obtain ⟨m0, n0, m1, n1, hg, he, hx, hy, hrest⟩ := h
  have hrest' := hrest hn
  clear hrest
  obtain ⟨s, X, U, V, Y, hs, X0, U0, V0, Y0, ex, eu, ev, ey, eB, eA, en, bU, bV⟩ := hrest'
  have hnp : 0 < n := by omega
  have r0 := Int.emod_nonneg m hn
  have r1 := Int.emod_lt_of_pos m hnp
  have q0 : 0 ≤ m / n := Int.ediv_nonneg m0 n0
  have em : n * (m / n) + m % n = m := Int.mul_ediv_add_emod m n
  have hgs := gc_step m0 hnp
  refine ⟨n0, r0, n1, Int.le_trans (Int.le_of_lt r1) n1, hgs.trans hg, en, ?_, ?_, ?_⟩
  · rw [eu]; exact Bd_neg (Bd_sign hs bU)
  · rw [ev]; exact Bd_sign hs bV
  · intro hr
    generalize m / n = q at *
    generalize m % n = r at *
    have hr0 : 0 < r := by omega
    have U' : 0 ≤ X + q * U := Int.add_nonneg X0 (Int.mul_nonneg q0 U0)
    have V' : 0 ≤ Y + q * V := Int.add_nonneg Y0 (Int.mul_nonneg q0 V0)
    have eB' : (X + q * U) * n + U * r = B := by grind
    have eA' : (Y + q * V) * n + V * r = A := by grind
    have bU' := small U' (by omega) U0 (Int.le_of_lt hr0) b1 eB'
    have bV' := small V' (by omega) V0 (Int.le_of_lt hr0) a1 eA'
    have tu : x - q * u = s * (X + q * U) := by grind
    have tv : y - q * v = -(s * (Y + q * V)) := by grind
    have bu := Bd_sign hs bU'
    have bv := Bd_neg (Bd_sign hs bV')
    rw [← tu] at bu
    rw [← tv] at bv
    rw [W_three x q u ⟨by unfold Bd at bu; omega, by unfold Bd at bu; omega⟩, W_three y q v ⟨by unfold Bd at bv; omega, by unfold Bd at bv; omega⟩]
    refine ⟨-s, U, X + q * U, Y + q * V, V, by omega, U0, U', V', V0, by grind, by grind, by grind, by grind, eB', eA', by grind, bU', bV'⟩

end Go.Proofs.Ytneflljiocnkjaa.Num
