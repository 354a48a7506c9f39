/-
  What is proved: each statement of layer 1, as a Go function, returns true, at any input of its types, and nothing that was there is written.
-/
import Derived.Test.YtneflljiocnkjaaNumC
namespace Go.Proofs.Ytneflljiocnkjaa.Num
open Go.RowKit
set_option linter.unusedVariables false
set_option linter.unusedSimpArgs false

theorem sums_walk (a b : Int) (a0 : -9223372036854775808 ≤ a) (a1 : a ≤ 9223372036854775807) (b0 : -9223372036854775808 ≤ b) (b1 : b ≤ 9223372036854775807) (w : World) :
    Calls Try.prog 3 #[.int .i64 a, .int .i64 b] w fun e w' => e = .returned (.bool true) ∧ Below w.heap.size w w' := by
  have c1 := fun (w : World) => add_any a b a0 a1 b0 b1 w
  have c2 := fun (w : World) => sub_any a b a0 a1 b0 b1 w
  have c3 := fun (w : World) => mul_any a b a0 a1 b0 b1 w
  have c4 := fun (w : World) => neg_any a a0 a1 w
  have d1 := fun (w : World) => radd_any a b a0 a1 b0 b1 w
  have d2 := fun (w : World) => rsub_any a b a0 a1 b0 b1 w
  have d3 := fun (w : World) => rmul_any a b a0 a1 b0 b1 w
  have d4 := fun (w : World) => rneg_any a a0 a1 w
  generalize fitV (a + b) = v1 at *
  generalize fitV (a - b) = v2 at *
  generalize fitV (a * b) = v3 at *
  generalize fitV (-a) = v4 at *
  generalize fitB (a + b) = o1 at *
  generalize fitB (a - b) = o2 at *
  generalize fitB (a * b) = o3 at *
  generalize fitB (-a) = o4 at *
  go_enter Try.func3, Try.ntmps3
  go_wp2_with (first | (go_at_call 10; ((with_reducible refine (c1 _).mono ?_); rintro e w1 ⟨rfl, rfl⟩)) | (go_at_call 11; ((with_reducible refine (c2 _).mono ?_); rintro e w1 ⟨rfl, rfl⟩)) | (go_at_call 12; ((with_reducible refine (c3 _).mono ?_); rintro e w1 ⟨rfl, rfl⟩)) | (go_at_call 13; ((with_reducible refine (c4 _).mono ?_); rintro e w1 ⟨rfl, rfl⟩)) | (go_at_call 14; ((with_reducible refine (d1 _).mono ?_); rintro e w1 ⟨rfl, hw1⟩)) | (go_at_call 15; ((with_reducible refine (d2 _).mono ?_); rintro e w2 ⟨rfl, hw2⟩)) | (go_at_call 16; ((with_reducible refine (d3 _).mono ?_); rintro e w3 ⟨rfl, hw3⟩)) | (go_at_call 17; ((with_reducible refine (d4 _).mono ?_); rintro e w4 ⟨rfl, hw4⟩)) | (go_at_call 18; ((with_reducible refine (goes_any _).mono ?_); rintro e w5 ⟨rfl, hw5⟩)))
  go_ret
  exact ⟨rfl, by repeat (first | assumption | refine bel_trans ?_ (by assumption))⟩

theorem quotients_walk (a b : Int) (a0 : -9223372036854775808 ≤ a) (a1 : a ≤ 9223372036854775807) (b0 : -9223372036854775808 ≤ b) (b1 : b ≤ 9223372036854775807) (w : World) :
    Calls Try.prog 4 #[.int .i64 a, .int .i64 b] w fun e w' => e = .returned (.bool true) ∧ Below w.heap.size w w' := by
  have c1 := fun (w : World) => div_any a b a0 a1 b0 b1 w
  have c2 := fun (w : World) => ceil_any a b a0 a1 b0 b1 w
  have c3 := fun (w : World) => mod_any a b a0 a1 b0 b1 w
  have d1 := fun (w : World) => rdiv_any a b a0 a1 b0 b1 w
  have d2 := fun (w : World) => rceil_any a b a0 a1 b0 b1 w
  have d3 := fun (w : World) => rmod_any a b a0 a1 b0 b1 w
  generalize dV a b = v1 at *
  generalize cV a b = v2 at *
  generalize mV a b = v3 at *
  generalize dB a b = o1 at *
  generalize (b != 0) = o3 at *
  go_enter Try.func4, Try.ntmps4
  go_wp2_with (first | (go_at_call 19; ((with_reducible refine (c1 _).mono ?_); rintro e w1 ⟨rfl, hw1⟩)) | (go_at_call 20; ((with_reducible refine (c2 _).mono ?_); rintro e w1 ⟨rfl, hw2⟩)) | (go_at_call 21; ((with_reducible refine (c3 _).mono ?_); rintro e w1 ⟨rfl, rfl⟩)) | (go_at_call 22; ((with_reducible refine (d1 _).mono ?_); rintro e w1 ⟨rfl, hw3⟩)) | (go_at_call 23; ((with_reducible refine (d2 _).mono ?_); rintro e w2 ⟨rfl, hw4⟩)) | (go_at_call 24; ((with_reducible refine (d3 _).mono ?_); rintro e w3 ⟨rfl, rfl⟩)) | (go_at_call 18; ((with_reducible refine (goes_any _).mono ?_); rintro e w5 ⟨rfl, hw5⟩)))
  go_ret
  exact ⟨rfl, by repeat (first | assumption | refine bel_trans ?_ (by assumption))⟩

theorem rests_walk (a b : Int) (a0 : -9223372036854775808 ≤ a) (a1 : a ≤ 9223372036854775807) (b0 : -9223372036854775808 ≤ b) (b1 : b ≤ 9223372036854775807) (w : World) :
    Calls Try.prog 5 #[.int .i64 a, .int .i64 b] w fun e w' => e = .returned (.bool true) ∧ Below w.heap.size w w' := by
  have c1 := fun (w : World) => div_any a b a0 a1 b0 b1 w
  have c3 := fun (w : World) => mod_any a b a0 a1 b0 b1 w
  by_cases hb : b = 0
  · subst hb
    obtain ⟨d1, d2, _⟩ := dV_no (a := a) (b := 0) (Or.inl rfl)
    have e3 : mV a 0 = 0 := rfl
    have e4 : ((0 : Int) != 0) = false := rfl
    rw [d1, d2] at c1
    rw [e3, e4] at c3
    clear d1 d2 e3 e4
    go_enter Try.func5, Try.ntmps5
    go_wp2_with (first | (go_at_call 19; ((with_reducible refine (c1 _).mono ?_); rintro e w1 ⟨rfl, hw1⟩)) | (go_at_call 21; ((with_reducible refine (c3 _).mono ?_); rintro e w1 ⟨rfl, rfl⟩)) | (go_at_call 18; ((with_reducible refine (goes_any _).mono ?_); rintro e w5 ⟨rfl, hw5⟩)))
    go_ret
    exact ⟨rfl, by repeat (first | assumption | refine bel_trans ?_ (by assumption))⟩
  by_cases hab : b = -1 ∧ a = -9223372036854775808
  · obtain ⟨rfl, rfl⟩ := hab
    have d : dV (-9223372036854775808) (-1) = 0 ∧ dB (-9223372036854775808) (-1) = false := by decide
    have e : mV (-9223372036854775808) (-1) = 0 ∧ ((-1 : Int) != 0) = true := by decide
    rw [d.1, d.2] at c1
    rw [e.1, e.2] at c3
    clear d e
    go_enter Try.func5, Try.ntmps5
    go_wp2_with (first | (go_at_call 19; ((with_reducible refine (c1 _).mono ?_); rintro e w1 ⟨rfl, hw1⟩)) | (go_at_call 21; ((with_reducible refine (c3 _).mono ?_); rintro e w1 ⟨rfl, rfl⟩)) | (go_at_call 18; ((with_reducible refine (goes_any _).mono ?_); rintro e w5 ⟨rfl, hw5⟩)))
    go_ret
    exact ⟨rfl, by repeat (first | assumption | refine bel_trans ?_ (by assumption))⟩
  obtain ⟨d1, d2, _⟩ := dV_yes (a := a) hb hab
  have e3 : mV a b = dm a b := by unfold mV; rw [if_pos hb]
  have e4 : (b != 0) = true := by simp [hb]
  have e5 : (b == 0) = false := by simp [hb]
  obtain ⟨f1, f2, f3⟩ := rest_facts a b hb
  have fq : -9223372036854775808 ≤ dq a b ∧ dq a b ≤ 9223372036854775807 := by
    have h1 := quo_fits a b a0 a1 hb hab
    have h2 := quo_room a b a0 a1 hb
    unfold dq
    split <;> omega
  rw [d1, d2] at c1
  rw [e3, e4] at c3
  clear d1 d2 e3 e4 hab
  generalize dq a b = q at *
  generalize dm a b = m at *
  have m0 : -9223372036854775808 ≤ m := by omega
  have m1 : m ≤ 9223372036854775807 := by omega
  obtain ⟨q0, q1⟩ := fq
  have bq := mul_bd q0 q1 b0 b1
  have ct := fun (w : World) => times_any q b q0 q1 b0 b1 w
  have co := fun (w : World) => of_any m m0 m1 w
  have cp := fun (w : World) => plus_any (q * b) m w
  have cf := fun (w : World) => fits_any (q * b + m) (by omega) (by omega) w
  rw [f1] at cp cf
  have fa := fit_yes (n := a) ⟨a0, a1⟩
  rw [fa.1, fa.2] at cf
  have cm := fun (w : World) => far_any m m0 m1 w
  have cb := fun (w : World) => far_any b b0 b1 w
  have hfar : ab m < ab b := by unfold ab; split <;> split <;> omega
  have hz : m = 0 ∨ (m ≠ 0 ∧ (decide (m < 0) == decide (b < 0)) = true) := by
    by_cases h : m = 0
    · exact Or.inl h
    · refine Or.inr ⟨h, ?_⟩
      by_cases h1 : b < 0
      · have : m < 0 := by omega
        simp [h1, this]
      · have : ¬ m < 0 := by omega
        simp [h1, this]
  clear fa f1 f2 f3 bq hb
  generalize ab m = fm at *
  generalize ab b = fb at *
  generalize q * b = p at *
  rcases hz with rfl | ⟨hm, hs⟩
  · go_enter Try.func5, Try.ntmps5
    go_wp2_with (first | (go_at_call 19; ((with_reducible refine (c1 _).mono ?_); rintro e w1 ⟨rfl, hw1⟩)) | (go_at_call 21; ((with_reducible refine (c3 _).mono ?_); rintro e w1 ⟨rfl, rfl⟩)) | (go_at_call 27; ((with_reducible refine (ct _).mono ?_); rintro e w1 ⟨rfl, hw2⟩)) | (go_at_call 28; ((with_reducible refine (co _).mono ?_); rintro e w1 ⟨rfl, hw3⟩)) | (go_at_call 26; ((with_reducible refine (cp _).mono ?_); rintro e w1 ⟨rfl, hw4⟩)) | (go_at_call 25; ((with_reducible refine (cf _).mono ?_); rintro e w1 ⟨rfl, hw6⟩)) | (go_at_call 29; (first | with_reducible refine (cm _).mono ?_ | with_reducible refine (cb _).mono ?_); rintro e w' ⟨rfl, rfl⟩) | (go_at_call 18; ((with_reducible refine (goes_any _).mono ?_); rintro e w5 ⟨rfl, hw5⟩)))
    go_ret
    exact ⟨rfl, by repeat (first | assumption | refine bel_trans ?_ (by assumption))⟩
  · have hm0 : (m == 0) = false := by simp [hm]
    clear hm
    go_enter Try.func5, Try.ntmps5
    go_wp2_with (first | (go_at_call 19; ((with_reducible refine (c1 _).mono ?_); rintro e w1 ⟨rfl, hw1⟩)) | (go_at_call 21; ((with_reducible refine (c3 _).mono ?_); rintro e w1 ⟨rfl, rfl⟩)) | (go_at_call 27; ((with_reducible refine (ct _).mono ?_); rintro e w1 ⟨rfl, hw2⟩)) | (go_at_call 28; ((with_reducible refine (co _).mono ?_); rintro e w1 ⟨rfl, hw3⟩)) | (go_at_call 26; ((with_reducible refine (cp _).mono ?_); rintro e w1 ⟨rfl, hw4⟩)) | (go_at_call 25; ((with_reducible refine (cf _).mono ?_); rintro e w1 ⟨rfl, hw6⟩)) | (go_at_call 29; (first | with_reducible refine (cm _).mono ?_ | with_reducible refine (cb _).mono ?_); rintro e w' ⟨rfl, rfl⟩) | (go_at_call 18; ((with_reducible refine (goes_any _).mono ?_); rintro e w5 ⟨rfl, hw5⟩)))
    go_ret
    exact ⟨rfl, by repeat (first | assumption | refine bel_trans ?_ (by assumption))⟩

theorem back_walk (a b : Int) (a0 : -9223372036854775808 ≤ a) (a1 : a ≤ 9223372036854775807) (b0 : -9223372036854775808 ≤ b) (b1 : b ≤ 9223372036854775807) (w : World) :
    Calls Try.prog 9 #[.int .i64 a, .int .i64 b] w fun e w' => e = .returned (.bool true) ∧ Below w.heap.size w w' := by
  have c1 := fun (w : World) => add_any a b a0 a1 b0 b1 w
  have c2 : fitB (a + b) = true → ∀ w : World, Calls Try.prog 11 #[.int .i64 (fitV (a + b)), .int .i64 b] w fun e w' => e = .returned (.tuple #[.int .i64 a, .bool true]) ∧ w = w' := by
    intro h w
    have hf : -9223372036854775808 ≤ a + b ∧ a + b ≤ 9223372036854775807 := by simpa [fitB] using h
    rw [(fit_yes hf).1]
    have hs := sub_any (a + b) b hf.1 hf.2 b0 b1 w
    rw [show a + b - b = a by omega, (fit_yes ⟨a0, a1⟩).1, (fit_yes ⟨a0, a1⟩).2] at hs
    exact hs
  have c3 := fun (w : World) => mul_any a b a0 a1 b0 b1 w
  have c4 : fitB (a * b) = true → b ≠ 0 → ∀ w : World, Calls Try.prog 19 #[.int .i64 (fitV (a * b)), .int .i64 b] w fun e w' => e = .returned (.tuple #[.int .i64 a, .bool true]) ∧ Below w.heap.size w w' := by
    intro h hb w
    have hf : -9223372036854775808 ≤ a * b ∧ a * b ≤ 9223372036854775807 := by simpa [fitB] using h
    rw [(fit_yes hf).1]
    have hs := div_any (a * b) b hf.1 hf.2 b0 b1 w
    have hab : ¬(b = -1 ∧ a * b = -9223372036854775808) := by rintro ⟨rfl, h⟩; omega
    obtain ⟨d1, d2, _⟩ := dV_yes hb hab
    rw [d1, d2, (dq_mul a b hb).1] at hs
    exact hs
  have c5 : fitB (a * b) = true → b ≠ 0 → ∀ w : World, Calls Try.prog 21 #[.int .i64 (fitV (a * b)), .int .i64 b] w fun e w' => e = .returned (.tuple #[.int .i64 0, .bool true]) ∧ w = w' := by
    intro h hb w
    have hf : -9223372036854775808 ≤ a * b ∧ a * b ≤ 9223372036854775807 := by simpa [fitB] using h
    rw [(fit_yes hf).1]
    have hs := mod_any (a * b) b hf.1 hf.2 b0 b1 w
    have e3 : mV (a * b) b = 0 := by unfold mV; rw [if_pos hb]; exact (dq_mul a b hb).2
    have e4 : (b != 0) = true := by simp [hb]
    rw [e3, e4] at hs
    exact hs
  generalize fitV (a + b) = v1 at *
  generalize fitV (a * b) = v3 at *
  generalize fitB (a + b) = o1 at *
  generalize fitB (a * b) = o3 at *
  by_cases hb : b = 0
  · have hb1 : (b != 0) = false := by simp [hb]
    clear c4 c5 hb
    cases o1
    · clear c2
      cases o3
      · go_enter Try.func9, Try.ntmps9
        go_wp2_with (first | (go_at_call 10; ((with_reducible refine (c1 _).mono ?_); rintro e w1 ⟨rfl, rfl⟩)) | (go_at_call 12; ((with_reducible refine (c3 _).mono ?_); rintro e w1 ⟨rfl, rfl⟩)) | (go_at_call 18; ((with_reducible refine (goes_any _).mono ?_); rintro e w5 ⟨rfl, hw5⟩)))
        go_ret
        exact ⟨rfl, by repeat (first | assumption | refine bel_trans ?_ (by assumption))⟩
      · go_enter Try.func9, Try.ntmps9
        go_wp2_with (first | (go_at_call 10; ((with_reducible refine (c1 _).mono ?_); rintro e w1 ⟨rfl, rfl⟩)) | (go_at_call 12; ((with_reducible refine (c3 _).mono ?_); rintro e w1 ⟨rfl, rfl⟩)) | (go_at_call 18; ((with_reducible refine (goes_any _).mono ?_); rintro e w5 ⟨rfl, hw5⟩)))
        go_ret
        exact ⟨rfl, by repeat (first | assumption | refine bel_trans ?_ (by assumption))⟩
    · have k2 := c2 rfl
      clear c2
      cases o3
      · go_enter Try.func9, Try.ntmps9
        go_wp2_with (first | (go_at_call 10; ((with_reducible refine (c1 _).mono ?_); rintro e w1 ⟨rfl, rfl⟩)) | (go_at_call 12; ((with_reducible refine (c3 _).mono ?_); rintro e w1 ⟨rfl, rfl⟩)) | (go_at_call 11; ((with_reducible refine (k2 _).mono ?_); rintro e w1 ⟨rfl, rfl⟩)) | (go_at_call 18; ((with_reducible refine (goes_any _).mono ?_); rintro e w5 ⟨rfl, hw5⟩)))
        go_ret
        exact ⟨rfl, by repeat (first | assumption | refine bel_trans ?_ (by assumption))⟩
      · go_enter Try.func9, Try.ntmps9
        go_wp2_with (first | (go_at_call 10; ((with_reducible refine (c1 _).mono ?_); rintro e w1 ⟨rfl, rfl⟩)) | (go_at_call 12; ((with_reducible refine (c3 _).mono ?_); rintro e w1 ⟨rfl, rfl⟩)) | (go_at_call 11; ((with_reducible refine (k2 _).mono ?_); rintro e w1 ⟨rfl, rfl⟩)) | (go_at_call 18; ((with_reducible refine (goes_any _).mono ?_); rintro e w5 ⟨rfl, hw5⟩)))
        go_ret
        exact ⟨rfl, by repeat (first | assumption | refine bel_trans ?_ (by assumption))⟩
  · have hb1 : (b != 0) = true := by simp [hb]
    cases o1
    · clear c2
      cases o3
      · clear c4 c5 hb
        go_enter Try.func9, Try.ntmps9
        go_wp2_with (first | (go_at_call 10; ((with_reducible refine (c1 _).mono ?_); rintro e w1 ⟨rfl, rfl⟩)) | (go_at_call 12; ((with_reducible refine (c3 _).mono ?_); rintro e w1 ⟨rfl, rfl⟩)) | (go_at_call 18; ((with_reducible refine (goes_any _).mono ?_); rintro e w5 ⟨rfl, hw5⟩)))
        go_ret
        exact ⟨rfl, by repeat (first | assumption | refine bel_trans ?_ (by assumption))⟩
      · have k4 := c4 rfl hb
        have k5 := c5 rfl hb
        clear c4 c5 hb
        go_enter Try.func9, Try.ntmps9
        go_wp2_with (first | (go_at_call 10; ((with_reducible refine (c1 _).mono ?_); rintro e w1 ⟨rfl, rfl⟩)) | (go_at_call 12; ((with_reducible refine (c3 _).mono ?_); rintro e w1 ⟨rfl, rfl⟩)) | (go_at_call 19; ((with_reducible refine (k4 _).mono ?_); rintro e w2 ⟨rfl, hw2⟩)) | (go_at_call 21; ((with_reducible refine (k5 _).mono ?_); rintro e w1 ⟨rfl, rfl⟩)) | (go_at_call 18; ((with_reducible refine (goes_any _).mono ?_); rintro e w5 ⟨rfl, hw5⟩)))
        go_ret
        exact ⟨rfl, by repeat (first | assumption | refine bel_trans ?_ (by assumption))⟩
    · have k2 := c2 rfl
      clear c2
      cases o3
      · clear c4 c5 hb
        go_enter Try.func9, Try.ntmps9
        go_wp2_with (first | (go_at_call 10; ((with_reducible refine (c1 _).mono ?_); rintro e w1 ⟨rfl, rfl⟩)) | (go_at_call 12; ((with_reducible refine (c3 _).mono ?_); rintro e w1 ⟨rfl, rfl⟩)) | (go_at_call 11; ((with_reducible refine (k2 _).mono ?_); rintro e w1 ⟨rfl, rfl⟩)) | (go_at_call 18; ((with_reducible refine (goes_any _).mono ?_); rintro e w5 ⟨rfl, hw5⟩)))
        go_ret
        exact ⟨rfl, by repeat (first | assumption | refine bel_trans ?_ (by assumption))⟩
      · have k4 := c4 rfl hb
        have k5 := c5 rfl hb
        clear c4 c5 hb
        go_enter Try.func9, Try.ntmps9
        go_wp2_with (first | (go_at_call 10; ((with_reducible refine (c1 _).mono ?_); rintro e w1 ⟨rfl, rfl⟩)) | (go_at_call 12; ((with_reducible refine (c3 _).mono ?_); rintro e w1 ⟨rfl, rfl⟩)) | (go_at_call 11; ((with_reducible refine (k2 _).mono ?_); rintro e w1 ⟨rfl, rfl⟩)) | (go_at_call 19; ((with_reducible refine (k4 _).mono ?_); rintro e w2 ⟨rfl, hw2⟩)) | (go_at_call 21; ((with_reducible refine (k5 _).mono ?_); rintro e w1 ⟨rfl, rfl⟩)) | (go_at_call 18; ((with_reducible refine (goes_any _).mono ?_); rintro e w5 ⟨rfl, hw5⟩)))
        go_ret
        exact ⟨rfl, by repeat (first | assumption | refine bel_trans ?_ (by assumption))⟩

theorem gl_two (a b : Int) : ((gl [a, b] 0 : Nat) : Int) = gc (ab a) (ab b) := by
  rw [ab_nat, ab_nat]
  unfold gc
  simp [gl]

theorem bezouts_walk (a b : Int) (a0 : -9223372036854775808 ≤ a) (a1 : a ≤ 9223372036854775807) (b0 : -9223372036854775808 ≤ b) (b1 : b ≤ 9223372036854775807) (w : World) :
    Calls Try.prog 8 #[.int .i64 a, .int .i64 b] w fun e w' => e = .returned (.bool true) ∧ Below w.heap.size w w' := by
  have c2 := fun (bl : Nat) (w : World) h0 h1 h2 => refgcd_two bl 2 a b w h0 h1 h2 a0 a1 b0 b1
  rw [gl_two] at c2
  by_cases hf : gc (ab a) (ab b) ≤ 9223372036854775807
  · have c1 := fun (w : World) => bezout_yes a b a0 a1 b0 b1 hf w
    have h0 := gc_pos (ab a) (ab b)
    obtain ⟨f1, f2⟩ := fit_yes (n := gc (ab a) (ab b)) (by omega)
    rw [f1, f2] at c2
    clear f1 f2
    have ct := fun (x y : Int) h1 h2 h3 h4 (w : World) => times_any x y h1 h2 h3 h4 w
    have cfa := fun (w : World) => far_any a a0 a1 w
    have cfb := fun (w : World) => far_any b b0 b1 w
    have hA := ab_bd a0 a1
    have hB := ab_bd b0 b1
    generalize gc (ab a) (ab b) = g at *
    generalize ab a = A at *
    generalize ab b = B at *
    go_enter Try.func8, Try.ntmps8
    go_wp2_with (go_at_call 34; ((with_reducible refine (c1 _).mono ?_); rintro e w1 ⟨x, y, rfl, hw1, HZ, ⟨x0, x1⟩, ⟨y0, y1⟩⟩))
    have fx := far_any x (by omega) (by omega)
    have fy := far_any y (by omega) (by omega)
    have cx := fun (w : World) => times_any a x a0 a1 (by omega) (by omega) w
    have cy := fun (w : World) => times_any b y b0 b1 (by omega) (by omega) w
    have bp := mul_bd a0 a1 (b := x) (by omega) (by omega)
    have bq := mul_bd b0 b1 (b := y) (by omega) (by omega)
    have cp := fun (w : World) => plus_any (a * x) (b * y) w
    have cf := fun (w : World) => fits_any (a * x + b * y) (by have := HZ.out.1; omega) (by have := HZ.out.1; omega) w
    rw [HZ.out.1] at cp cf
    have fg := fit_yes (n := g) (by omega)
    rw [fg.1, fg.2] at cf
    have mx : ab x ≤ max 1 B := by
      obtain ⟨_, _, h⟩ := HZ.out.2.1
      unfold ab; split <;> omega
    have my : ab y ≤ max 1 A := by
      obtain ⟨_, _, h⟩ := HZ.out.2.2
      unfold ab; split <;> omega
    clear bp bq fg ct HZ
    generalize a * x = p at *
    generalize b * y = q at *
    generalize ab x = ax at *
    generalize ab y = ay at *
    go_wp2_with (first | (go_at_call 31; ((with_reducible refine (c2 _ _ (by simp [go_sem]) (by simp [go_sem]) (by simp [go_sem])).mono ?_); rintro e w2 ⟨rfl, hw2⟩)) | (go_at_call 27; (first | with_reducible refine (cx _).mono ?_ | with_reducible refine (cy _).mono ?_); rintro e w3 ⟨rfl, hw3⟩) | (go_at_call 26; ((with_reducible refine (cp _).mono ?_); rintro e w1 ⟨rfl, hw4⟩)) | (go_at_call 25; ((with_reducible refine (cf _).mono ?_); rintro e w1 ⟨rfl, hw6⟩)) | (go_at_call 29; (first | with_reducible refine (fx _).mono ?_ | with_reducible refine (fy _).mono ?_ | with_reducible refine (cfa _).mono ?_ | with_reducible refine (cfb _).mono ?_); rintro e w' ⟨rfl, rfl⟩) | (go_at_call 18; ((with_reducible refine (goes_any _).mono ?_); rintro e w5 ⟨rfl, hw5⟩)))
    all_goals
      go_ret
      exact ⟨rfl, by repeat (first | assumption | refine bel_trans ?_ (by assumption) | refine bel_alloc ?_ _)⟩
  · have c1 := fun (w : World) => bezout_no a b a0 a1 b0 b1 hf w
    obtain ⟨f1, f2⟩ := fit_no (n := gc (ab a) (ab b)) (by omega)
    rw [f1, f2] at c2
    clear f1 f2 hf
    go_enter Try.func8, Try.ntmps8
    go_wp2_with (first | (go_at_call 34; ((with_reducible refine (c1 _).mono ?_); rintro e w1 ⟨rfl, hw1⟩)) | (go_at_call 31; ((with_reducible refine (c2 _ _ (by simp [go_sem]) (by simp [go_sem]) (by simp [go_sem])).mono ?_); rintro e w2 ⟨rfl, hw2⟩)) | (go_at_call 18; ((with_reducible refine (goes_any _).mono ?_); rintro e w5 ⟨rfl, hw5⟩)))
    go_ret
    exact ⟨rfl, bel_trans (bel_trans (bel_alloc hw1 _) hw2) hw5⟩

end Go.Proofs.Ytneflljiocnkjaa.Num
