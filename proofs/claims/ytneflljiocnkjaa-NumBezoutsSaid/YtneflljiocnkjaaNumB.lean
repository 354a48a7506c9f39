/-
  What is proved: the calls of the document's answers for layer 1 return the numbers named in the first text, and the world has new blocks at most.
-/
import Derived.Test.YtneflljiocnkjaaNumA
import Derived.Lib.Hide
namespace Go.Proofs.Ytneflljiocnkjaa.Num
open Go.RowKit
set_option linter.unusedVariables false
set_option linter.unusedSimpArgs false

theorem fits_of (n : Int) {a b : Int} (h1 : a = hi n) (h2 : b = lo n) (h0 : -170141183460469231731687303715884105728 ≤ n) (h1' : n < 170141183460469231731687303715884105728) (w : World) :
    Calls Try.prog 25 #[.agg #[.int .i64 a, .int .u64 b]] w fun e w' => e = .returned (.tuple #[.int .i64 (fitV n), .bool (fitB n)]) ∧ Below w.heap.size w w' := by
  subst h1 h2; exact fits_any n h0 h1' w

theorem radd_any (a b : Int) (a0 : -9223372036854775808 ≤ a) (a1 : a ≤ 9223372036854775807) (b0 : -9223372036854775808 ≤ b) (b1 : b ≤ 9223372036854775807) (w : World) :
    Calls Try.prog 14 #[.int .i64 a, .int .i64 b] w fun e w' => e = .returned (.tuple #[.int .i64 (fitV (a + b)), .bool (fitB (a + b))]) ∧ Below w.heap.size w w' := by
  go_enter Try.func14, Try.ntmps14
  go_wp2_with (first | (go_at_call 28; ((with_reducible refine (of_any _ (by assumption) (by assumption) _).mono ?_); rintro e w' ⟨rfl, hw⟩)) | (go_at_call 26; ((with_reducible refine (plus_any _ _ _).mono ?_); rintro e w' ⟨rfl, hw⟩)) | (go_at_call 25; ((with_reducible refine (fits_any _ (by omega) (by omega) _).mono ?_); rintro e w' ⟨rfl, hw⟩)))
  go_ret2
  exact ⟨rfl, by repeat (first | assumption | refine bel_trans ?_ (by assumption))⟩

theorem rsub_any (a b : Int) (a0 : -9223372036854775808 ≤ a) (a1 : a ≤ 9223372036854775807) (b0 : -9223372036854775808 ≤ b) (b1 : b ≤ 9223372036854775807) (w : World) :
    Calls Try.prog 15 #[.int .i64 a, .int .i64 b] w fun e w' => e = .returned (.tuple #[.int .i64 (fitV (a - b)), .bool (fitB (a - b))]) ∧ Below w.heap.size w w' := by
  rw [show a - b = a + -b by omega]
  go_enter Try.func15, Try.ntmps15
  go_wp2_with (first | (go_at_call 28; ((with_reducible refine (of_any _ (by assumption) (by assumption) _).mono ?_); rintro e w' ⟨rfl, hw⟩)) | (go_at_call 37; ((with_reducible refine (minus_any _ _).mono ?_); rintro e w' ⟨rfl, hw⟩)) | (go_at_call 26; ((with_reducible refine (plus_any _ _ _).mono ?_); rintro e w' ⟨rfl, hw⟩)) | (go_at_call 25; ((with_reducible refine (fits_any _ (by omega) (by omega) _).mono ?_); rintro e w' ⟨rfl, hw⟩)))
  go_ret2
  exact ⟨rfl, by repeat (first | assumption | refine bel_trans ?_ (by assumption))⟩

theorem rneg_any (a : Int) (a0 : -9223372036854775808 ≤ a) (a1 : a ≤ 9223372036854775807) (w : World) :
    Calls Try.prog 17 #[.int .i64 a] w fun e w' => e = .returned (.tuple #[.int .i64 (fitV (-a)), .bool (fitB (-a))]) ∧ Below w.heap.size w w' := by
  go_enter Try.func17, Try.ntmps17
  go_wp2_with (first | (go_at_call 28; ((with_reducible refine (of_any _ (by assumption) (by assumption) _).mono ?_); rintro e w' ⟨rfl, hw⟩)) | (go_at_call 37; ((with_reducible refine (minus_any _ _).mono ?_); rintro e w' ⟨rfl, hw⟩)) | (go_at_call 25; ((with_reducible refine (fits_any _ (by omega) (by omega) _).mono ?_); rintro e w' ⟨rfl, hw⟩)))
  go_ret2
  exact ⟨rfl, by repeat (first | assumption | refine bel_trans ?_ (by assumption))⟩

/-- what holds at the head of each round of Times -/
def TimesRel (w : World) (p : Int) (B4 B5 B6 : Nat) (u : Value) (wr : World) : Prop :=
  ∃ k X O : Int, u = .int .u64 k ∧ (0 ≤ k ∧ k ≤ 9223372036854775808) ∧ Hid (O + X * k = p) ∧
    wr.cell? ⟨B5, 0, none⟩ = some (.int .i64 (hi X)) ∧ wr.cell? ⟨B5, 1, none⟩ = some (.int .u64 (lo X)) ∧
    wr.cell? ⟨B6, 0, none⟩ = some (.int .i64 (hi O)) ∧ wr.cell? ⟨B6, 1, none⟩ = some (.int .u64 (lo O)) ∧
    wr.cell? ⟨B4, 0, none⟩ = some (.int .i64 0) ∧ wr.cell? ⟨B4, 1, none⟩ = some (.int .u64 0) ∧
    (∀ o, wr.frozen? ⟨B5, o, none⟩ = false) ∧ (∀ o, wr.frozen? ⟨B6, o, none⟩ = false) ∧ (∀ o, wr.frozen? ⟨B4, o, none⟩ = false) ∧
    Below w.heap.size w wr ∧ B6 < wr.heap.size

set_option maxHeartbeats 1000000 in
theorem times_pos (a b : Int) (a0 : -9223372036854775808 ≤ a) (a1 : a ≤ 9223372036854775807) (b0 : 0 ≤ b) (b1 : b ≤ 9223372036854775807) (w : World) :
    Calls Try.prog 27 #[.int .i64 a, .int .i64 b] w fun e w' => e = .returned (.agg #[.int .i64 (hi (a * b)), .int .u64 (lo (a * b))]) ∧ Below w.heap.size w w' := by
  have hb : ¬ b < 0 := by omega
  have bm : -9223372036854775808 ≤ b := by omega
  have eb : ab b = b := ab_pos b0
  have HP : Hid (a * ab b = a * b) := by rw [eb]; rfl
  have bb := ab_bd bm b1
  clear eb
  generalize a * b = p at *
  go_enter Try.func27, Try.ntmps27
  go_wp2_with (first | (go_at_call 28; ((with_reducible refine (of_any _ (by assumption) (by assumption) _).mono ?_); rintro e w1 ⟨rfl, hw1⟩; obtain ⟨hc1, hf1⟩ := bcell hw1; have hz1 : w.heap.size < w1.heap.size := by (have := hw1.size; simp at this; omega))) | (go_at_call 29; ((with_reducible refine (far_any _ (by assumption) (by assumption) _).mono ?_); rintro e w' ⟨rfl, rfl⟩)))
  go_loopw [7] (fun u wr => TimesRel w p w.heap.size w1.heap.size (w1.heap.size + 1) u wr) (fun u _ => (intOf u).toNat)
  case atStart =>
    refine ⟨ab b, a, 0, rfl, bb, ?_, ?_⟩
    · have := HP.out
      show 0 + a * ab b = p
      omega
    · have e1 : hi 0 = 0 := by rw [hi_eq]; decide
      have e2 : lo 0 = 0 := by rw [lo_eq]; decide
      rw [e1, e2]
      have hs := hw1.size
      simp at hs
      refine ⟨by simp [go_sem], by simp [go_sem], by simp [go_sem], by simp [go_sem], ?_, ?_, ?_, ?_, ?_, ?_, ?_⟩
      · simp [go_sem, hc1, hz1]
      · simp [go_sem, hc1, hz1]
      · intro o; simp [go_sem]
      · intro o; simp [go_sem]
      · intro o; simp [go_sem, hf1, hz1]
      · exact bel_alloc (bel_alloc (bel_trans (bel_alloc (Below.refl _ _) _) hw1) _) _
      · simp
  case round =>
    obtain ⟨k, X, O, rfl, ⟨hk0, hk1⟩, HE, x1, x2, o1, o2, r1, r2, fx, fo, fr, hbel, hz⟩ := hrel
    clear hc1 hf1
    have hz0 := hbel.size
    have hza : w1.heap.size < wr.heap.size := by omega
    have hzb : w.heap.size < wr.heap.size := by omega
    by_cases hk : k = 0
    · subst hk
      have HE' : O = p := by have := HE.out; omega
      clear HE
      subst HE'
      go_wp2
      simp [bodyPost, results, Try.results27, go_sem, r1, r2]
      exact (hbel.setCell (by simp) _).setCell (by simp) _
    · have hk2 : 0 < k := by omega
      clear hk
      by_cases hodd : k % 2 = 1
      · have ho : (k % 2 == 1) = true := by simp [hodd]
        have HE' : Hid (O + X + (X + X) * (k / 2) = p) := by
          have h1 := HE.out
          have h2 : k = 2 * (k / 2) + 1 := by omega
          rw [h2, Int.mul_add, ← Int.mul_assoc, Int.mul_comm X 2] at h1
          show O + X + (X + X) * (k / 2) = p
          rw [show X + X = 2 * X by omega]
          omega
        clear hodd HE
        go_wp2_with (first | (go_at_call 26; ((with_reducible refine (plus_any O X _).mono ?_); rintro e w2 ⟨rfl, hw2⟩; obtain ⟨hc2, hf2⟩ := bcell hw2; have hz2 := hw2.size; have hya := Nat.lt_of_lt_of_le hza hz2; have hyb := Nat.lt_of_lt_of_le hzb hz2; have hy := Nat.lt_of_lt_of_le hz hz2)) | (go_at_call 26; ((with_reducible refine (plus_any X X _).mono ?_); rintro e w3 ⟨rfl, hw3⟩; obtain ⟨hc3, hf3⟩ := bcell hw3; have hz3 := hw3.size; simp at hz3)))
        go_roundw
        case rel =>
          refine ⟨k / 2, X + X, O + X, rfl, ⟨by omega, by omega⟩, HE', ?_, ?_, ?_, ?_, ?_, ?_, ?_, ?_, ?_, ?_, ?_⟩
          · simp [go_sem, hc3, hc2, hya, hza, x1]
          · simp [go_sem, hc3, hc2, hya, hza, x2]
          · simp [go_sem, hc3, hc2, hy, hz, o1]
          · simp [go_sem, hc3, hc2, hy, hz, o2]
          · simp [go_sem, hc3, hc2, hyb, hzb, r1]
          · simp [go_sem, hc3, hc2, hyb, hzb, r2]
          · intro o; simp [go_sem, hf3, hf2, hya, hza, fx]
          · intro o; simp [go_sem, hf3, hf2, hy, hz, fo]
          · intro o; simp [go_sem, hf3, hf2, hyb, hzb, fr]
          · exact ((bel_trans (((bel_trans hbel hw2).setCell (by simp; omega) _).setCell (by simp; omega) _) hw3).setCell (by simp; omega) _).setCell (by simp; omega) _
          · simp [go_sem]; omega
        case measure => simp [intOf]; omega
      · have ho : (k % 2 == 1) = false := by simp [hodd]
        have HE' : Hid (O + (X + X) * (k / 2) = p) := by
          have h1 := HE.out
          have h2 : k = 2 * (k / 2) := by omega
          rw [h2, ← Int.mul_assoc, Int.mul_comm X 2] at h1
          show O + (X + X) * (k / 2) = p
          rw [show X + X = 2 * X by omega]
          omega
        clear hodd HE
        go_wp2_with (go_at_call 26; ((with_reducible refine (plus_any X X _).mono ?_); rintro e w2 ⟨rfl, hw2⟩; obtain ⟨hc2, hf2⟩ := bcell hw2; have hz2 := hw2.size; have hya := Nat.lt_of_lt_of_le hza hz2; have hyb := Nat.lt_of_lt_of_le hzb hz2; have hy := Nat.lt_of_lt_of_le hz hz2))
        go_roundw
        case rel =>
          refine ⟨k / 2, X + X, O, rfl, ⟨by omega, by omega⟩, HE', ?_, ?_, ?_, ?_, ?_, ?_, ?_, ?_, ?_, ?_, ?_⟩
          · simp [go_sem, hc2, hza, x1]
          · simp [go_sem, hc2, hza, x2]
          · simp [go_sem, hc2, hz, o1]
          · simp [go_sem, hc2, hz, o2]
          · simp [go_sem, hc2, hzb, r1]
          · simp [go_sem, hc2, hzb, r2]
          · intro o; simp [go_sem, hf2, hza, fx]
          · intro o; simp [go_sem, hf2, hz, fo]
          · intro o; simp [go_sem, hf2, hzb, fr]
          · exact ((bel_trans hbel hw2).setCell (by simp; omega) _).setCell (by simp; omega) _
          · simp [go_sem]; omega
        case measure => simp [intOf]; omega
set_option maxHeartbeats 1000000 in
theorem times_neg (a b : Int) (a0 : -9223372036854775808 ≤ a) (a1 : a ≤ 9223372036854775807) (b0 : b < 0) (bm : -9223372036854775808 ≤ b) (w : World) :
    Calls Try.prog 27 #[.int .i64 a, .int .i64 b] w fun e w' => e = .returned (.agg #[.int .i64 (hi (a * b)), .int .u64 (lo (a * b))]) ∧ Below w.heap.size w w' := by
  have b1 : b ≤ 9223372036854775807 := by omega
  have HP : Hid (-a * ab b = a * b) := by rw [ab_neg b0, Int.neg_mul_neg]; rfl
  have bb := ab_bd bm b1
  generalize a * b = p at *
  go_enter Try.func27, Try.ntmps27
  go_wp2_with (first | (go_at_call 28; ((with_reducible refine (of_any _ (by assumption) (by assumption) _).mono ?_); rintro e w1 ⟨rfl, hw1⟩; obtain ⟨hc1, hf1⟩ := bcell hw1; have hz1 : w.heap.size < w1.heap.size := by (have := hw1.size; simp at this; omega))) | (go_at_call 37; ((with_reducible refine (minus_any _ _).mono ?_); rintro e v1 ⟨rfl, hv1⟩; obtain ⟨hcv, hfv⟩ := bcell hv1; have hzv : w1.heap.size < v1.heap.size := by (have := hv1.size; simp at this; omega))) | (go_at_call 29; ((with_reducible refine (far_any _ (by assumption) (by assumption) _).mono ?_); rintro e w' ⟨rfl, rfl⟩)))
  have hzw : w.heap.size < v1.heap.size := by omega
  have hn1 : ¬ w1.heap.size = v1.heap.size := by omega
  have hn2 : ¬ v1.heap.size = w1.heap.size := by omega
  have hn3 : ¬ w.heap.size = w1.heap.size := by omega
  have hn4 : ¬ w1.heap.size = w.heap.size := by omega
  have hn5 : ¬ w.heap.size = v1.heap.size := by omega
  have hn6 : ¬ v1.heap.size = w.heap.size := by omega
  go_loopw [7] (fun u wr => TimesRel w p w.heap.size w1.heap.size (v1.heap.size) u wr) (fun u _ => (intOf u).toNat)
  case atStart =>
    refine ⟨ab b, -a, 0, rfl, bb, ?_, ?_⟩
    · have := HP.out
      show 0 + -a * ab b = p
      omega
    · have e1 : hi 0 = 0 := by rw [hi_eq]; decide
      have e2 : lo 0 = 0 := by rw [lo_eq]; decide
      rw [e1, e2]
      have hs := hw1.size
      simp at hs
      refine ⟨?_, ?_, ?_, ?_, ?_, ?_, ?_, ?_, ?_, ?_, ?_⟩
      · simp [go_sem, hcv, hzv]
      · simp [go_sem, hcv, hzv]
      · simp [go_sem, hcv, hzv]
      · simp [go_sem, hcv, hzv]
      · simp [go_sem, hc1, hz1, hcv, hzv, hzw, hn3, hn4]
      · simp [go_sem, hc1, hz1, hcv, hzv, hzw, hn3, hn4]
      · intro o; simp [go_sem, hfv, hzv]
      · intro o; simp [go_sem]
      · intro o; simp [go_sem, hf1, hz1, hfv, hzv, hzw, hn3, hn4]
      · exact bel_alloc (((bel_trans (bel_alloc (bel_trans (bel_alloc (Below.refl _ _) _) hw1) _) hv1).setCell (by simp; omega) _).setCell (by simp; omega) _) _
      · simp
  case round =>
    obtain ⟨k, X, O, rfl, ⟨hk0, hk1⟩, HE, x1, x2, o1, o2, r1, r2, fx, fo, fr, hbel, hz⟩ := hrel
    clear hc1 hf1 hcv hfv
    have hz0 := hbel.size
    have hza : w1.heap.size < wr.heap.size := by omega
    have hzb : w.heap.size < wr.heap.size := by omega
    by_cases hk : k = 0
    · subst hk
      have HE' : O = p := by have := HE.out; omega
      clear HE
      subst HE'
      go_wp2
      simp [bodyPost, results, Try.results27, go_sem, r1, r2]
      exact (hbel.setCell (by simp) _).setCell (by simp) _
    · have hk2 : 0 < k := by omega
      clear hk
      by_cases hodd : k % 2 = 1
      · have ho : (k % 2 == 1) = true := by simp [hodd]
        have HE' : Hid (O + X + (X + X) * (k / 2) = p) := by
          have h1 := HE.out
          have h2 : k = 2 * (k / 2) + 1 := by omega
          rw [h2, Int.mul_add, ← Int.mul_assoc, Int.mul_comm X 2] at h1
          show O + X + (X + X) * (k / 2) = p
          rw [show X + X = 2 * X by omega]
          omega
        clear hodd HE
        go_wp2_with (first | (go_at_call 26; ((with_reducible refine (plus_any O X _).mono ?_); rintro e w2 ⟨rfl, hw2⟩; obtain ⟨hc2, hf2⟩ := bcell hw2; have hz2 := hw2.size; have hya := Nat.lt_of_lt_of_le hza hz2; have hyb := Nat.lt_of_lt_of_le hzb hz2; have hy := Nat.lt_of_lt_of_le hz hz2)) | (go_at_call 26; ((with_reducible refine (plus_any X X _).mono ?_); rintro e w3 ⟨rfl, hw3⟩; obtain ⟨hc3, hf3⟩ := bcell hw3; have hz3 := hw3.size; simp at hz3)))
        go_roundw
        case rel =>
          refine ⟨k / 2, X + X, O + X, rfl, ⟨by omega, by omega⟩, HE', ?_, ?_, ?_, ?_, ?_, ?_, ?_, ?_, ?_, ?_, ?_⟩
          · simp [go_sem, hc3, hc2, hya, hza, x1]
          · simp [go_sem, hc3, hc2, hya, hza, x2]
          · simp [go_sem, hc3, hc2, hy, hz, o1]
          · simp [go_sem, hc3, hc2, hy, hz, o2]
          · simp [go_sem, hc3, hc2, hyb, hzb, r1]
          · simp [go_sem, hc3, hc2, hyb, hzb, r2]
          · intro o; simp [go_sem, hf3, hf2, hya, hza, fx]
          · intro o; simp [go_sem, hf3, hf2, hy, hz, fo]
          · intro o; simp [go_sem, hf3, hf2, hyb, hzb, fr]
          · exact ((bel_trans (((bel_trans hbel hw2).setCell (by simp; omega) _).setCell (by simp; omega) _) hw3).setCell (by simp; omega) _).setCell (by simp; omega) _
          · simp [go_sem]; omega
        case measure => simp [intOf]; omega
      · have ho : (k % 2 == 1) = false := by simp [hodd]
        have HE' : Hid (O + (X + X) * (k / 2) = p) := by
          have h1 := HE.out
          have h2 : k = 2 * (k / 2) := by omega
          rw [h2, ← Int.mul_assoc, Int.mul_comm X 2] at h1
          show O + (X + X) * (k / 2) = p
          rw [show X + X = 2 * X by omega]
          omega
        clear hodd HE
        go_wp2_with (go_at_call 26; ((with_reducible refine (plus_any X X _).mono ?_); rintro e w2 ⟨rfl, hw2⟩; obtain ⟨hc2, hf2⟩ := bcell hw2; have hz2 := hw2.size; have hya := Nat.lt_of_lt_of_le hza hz2; have hyb := Nat.lt_of_lt_of_le hzb hz2; have hy := Nat.lt_of_lt_of_le hz hz2))
        go_roundw
        case rel =>
          refine ⟨k / 2, X + X, O, rfl, ⟨by omega, by omega⟩, HE', ?_, ?_, ?_, ?_, ?_, ?_, ?_, ?_, ?_, ?_, ?_⟩
          · simp [go_sem, hc2, hza, x1]
          · simp [go_sem, hc2, hza, x2]
          · simp [go_sem, hc2, hz, o1]
          · simp [go_sem, hc2, hz, o2]
          · simp [go_sem, hc2, hzb, r1]
          · simp [go_sem, hc2, hzb, r2]
          · intro o; simp [go_sem, hf2, hza, fx]
          · intro o; simp [go_sem, hf2, hz, fo]
          · intro o; simp [go_sem, hf2, hzb, fr]
          · exact ((bel_trans hbel hw2).setCell (by simp; omega) _).setCell (by simp; omega) _
          · simp [go_sem]; omega
        case measure => simp [intOf]; omega
theorem times_any (a b : Int) (a0 : -9223372036854775808 ≤ a) (a1 : a ≤ 9223372036854775807) (b0 : -9223372036854775808 ≤ b) (b1 : b ≤ 9223372036854775807) (w : World) :
    Calls Try.prog 27 #[.int .i64 a, .int .i64 b] w fun e w' => e = .returned (.agg #[.int .i64 (hi (a * b)), .int .u64 (lo (a * b))]) ∧ Below w.heap.size w w' := by
  by_cases h : b < 0
  · exact times_neg a b a0 a1 h b0 w
  · exact times_pos a b a0 a1 (by omega) b1 w

theorem mul_bd {a b : Int} (a0 : -9223372036854775808 ≤ a) (a1 : a ≤ 9223372036854775807) (b0 : -9223372036854775808 ≤ b) (b1 : b ≤ 9223372036854775807) :
    -85070591730234615865843651857942052864 ≤ a * b ∧ a * b ≤ 85070591730234615865843651857942052864 := by
  have h : (a * b).natAbs ≤ 9223372036854775808 * 9223372036854775808 := by
    rw [Int.natAbs_mul]; exact Nat.mul_le_mul (by omega) (by omega)
  omega

theorem rmul_any (a b : Int) (a0 : -9223372036854775808 ≤ a) (a1 : a ≤ 9223372036854775807) (b0 : -9223372036854775808 ≤ b) (b1 : b ≤ 9223372036854775807) (w : World) :
    Calls Try.prog 16 #[.int .i64 a, .int .i64 b] w fun e w' => e = .returned (.tuple #[.int .i64 (fitV (a * b)), .bool (fitB (a * b))]) ∧ Below w.heap.size w w' := by
  have hb := mul_bd a0 a1 b0 b1
  have ht := fun (w : World) => times_any a b a0 a1 b0 b1 w
  have hf := fun (w : World) => fits_any (a * b) (by omega) (by omega) w
  generalize a * b = p at *
  go_enter Try.func16, Try.ntmps16
  go_wp2_with (first | (go_at_call 27; ((with_reducible refine (ht _).mono ?_); rintro e w' ⟨rfl, hw⟩)) | (go_at_call 25; ((with_reducible refine (hf _).mono ?_); rintro e w' ⟨rfl, hw⟩)))
  go_ret2
  exact ⟨rfl, by repeat (first | assumption | refine bel_trans ?_ (by assumption))⟩

theorem rmod_any (a b : Int) (a0 : -9223372036854775808 ≤ a) (a1 : a ≤ 9223372036854775807) (b0 : -9223372036854775808 ≤ b) (b1 : b ≤ 9223372036854775807) (w : World) :
    Calls Try.prog 24 #[.int .i64 a, .int .i64 b] w fun e w' => e = .returned (.tuple #[.int .i64 (mV a b), .bool (b != 0)]) ∧ w = w' := by
  unfold mV
  by_cases hb : b = 0
  · subst hb
    go_enter Try.func24, Try.ntmps24
    go_wp2
    go_ret2
    exact ⟨rfl, rfl⟩
  · by_cases hm : b = -1
    · subst hm
      have e := (by_minus_one a).1
      rw [if_pos (by decide), e]
      clear e
      go_enter Try.func24, Try.ntmps24
      go_wp2
      go_ret2
      exact ⟨rfl, rfl⟩
    have hb1 : (b == 0) = false := by simp [hb]
    have hb2 : (b != 0) = true := by simp [hb]
    have hb3 : (b == -1) = false := by simp [hm]
    obtain ⟨_, q2, _, _, _, _⟩ := quo_facts a b hb
    rw [if_pos hb, hb2]
    unfold dm
    generalize hr : a.tmod b = r at *
    clear hm
    by_cases h1 : r = 0
    · have h2 : (r != 0) = false := by simp [h1]
      rw [if_neg (by simp [h1])]
      clear h1 q2 hb2
      go_enter Try.func24, Try.ntmps24
      go_wp2
      go_ret2
      exact ⟨rfl, rfl⟩
    · have h2 : (r != 0) = true := by simp [h1]
      by_cases h3 : r < 0 ↔ b < 0
      · have h4 : (!decide (r < 0) == decide (b < 0)) = false := by simp [h3]
        rw [if_neg (by simp [h3])]
        clear h1 h3 q2 hb2
        go_enter Try.func24, Try.ntmps24
        go_wp2
        go_ret2
        exact ⟨rfl, rfl⟩
      · have h4 : (!decide (r < 0) == decide (b < 0)) = true := by by_cases r < 0 <;> by_cases b < 0 <;> simp_all
        rw [if_pos ⟨h1, h3⟩]
        have r1 : -9223372036854775808 ≤ r + b := by omega
        have r2 : r + b ≤ 9223372036854775807 := by omega
        clear h1 h3 q2 hb2
        go_enter Try.func24, Try.ntmps24
        go_wp2
        go_ret2
        exact ⟨rfl, rfl⟩

theorem rdiv_any (a b : Int) (a0 : -9223372036854775808 ≤ a) (a1 : a ≤ 9223372036854775807) (b0 : -9223372036854775808 ≤ b) (b1 : b ≤ 9223372036854775807) (w : World) :
    Calls Try.prog 22 #[.int .i64 a, .int .i64 b] w fun e w' => e = .returned (.tuple #[.int .i64 (dV a b), .bool (dB a b)]) ∧ Below w.heap.size w w' := by
  by_cases hb : b = 0
  · subst hb
    obtain ⟨d1, d2, _⟩ := dV_no (a := a) (b := 0) (by simp)
    rw [d1, d2]
    clear d1 d2
    go_enter Try.func22, Try.ntmps22
    go_wp2
    go_ret2
    exact ⟨rfl, Below.refl _ _⟩
  · by_cases hm : b = -1
    · subst hm
      have e : dV a (-1) = fitV (-a) ∧ dB a (-1) = fitB (-a) := by
        by_cases h : a = -9223372036854775808
        · subst h; decide
        · obtain ⟨d1, d2, _⟩ := dV_yes (a := a) hb (by omega)
          obtain ⟨f1, f2⟩ := fit_yes (n := -a) (by omega)
          rw [d1, d2, f1, f2, (by_minus_one a).2]
          exact ⟨rfl, rfl⟩
      rw [e.1, e.2]
      clear e
      go_enter Try.func22, Try.ntmps22
      go_wp2_with (go_at_call 17; ((with_reducible refine (rneg_any a a0 a1 _).mono ?_); rintro e w' ⟨rfl, hw⟩))
      go_ret2
      exact ⟨rfl, hw⟩
    have hb1 : (b == 0) = false := by simp [hb]
    have hb3 : (b == -1) = false := by simp [hm]
    have hab : ¬(b = -1 ∧ a = -9223372036854775808) := by omega
    obtain ⟨d1, d2, _⟩ := dV_yes (a := a) hb hab
    rw [d1, d2]
    have qf := quo_fits a b a0 a1 hb hab
    have qr := quo_room a b a0 a1 hb
    have hs := side (a := a) hb
    unfold dq
    clear d1 d2 hm hab
    generalize hq : a.tdiv b = q at *
    generalize hr : a.tmod b = r at *
    obtain ⟨qf1, qf2⟩ := qf
    by_cases h1 : r = 0
    · have h2 : (r != 0) = false := by simp [h1]
      rw [if_neg (by simp [h1])]
      clear h1 qr hs
      go_enter Try.func22, Try.ntmps22
      go_wp2
      go_ret2
      exact ⟨rfl, Below.refl _ _⟩
    · have h2 : (r != 0) = true := by simp [h1]
      obtain ⟨qr1, qr2⟩ := qr h1
      have hs1 := hs h1
      by_cases h3 : r < 0 ↔ b < 0
      · have h4 : (!decide (a < 0) == decide (b < 0)) = false := by simp [hs1, h3]
        rw [if_neg (by simp [h3])]
        clear h1 h3 hs hs1
        go_enter Try.func22, Try.ntmps22
        go_wp2
        go_ret2
        exact ⟨rfl, Below.refl _ _⟩
      · have h4 : (!decide (a < 0) == decide (b < 0)) = true := by by_cases r < 0 <;> by_cases b < 0 <;> simp_all
        rw [if_pos ⟨h1, h3⟩]
        clear h1 h3 hs hs1
        go_enter Try.func22, Try.ntmps22
        go_wp2
        go_ret2
        exact ⟨rfl, Below.refl _ _⟩

end Go.Proofs.Ytneflljiocnkjaa.Num
