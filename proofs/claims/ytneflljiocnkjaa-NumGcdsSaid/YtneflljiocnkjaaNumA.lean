/-
  What is proved: the calls of package num and of the document's answers that only compute (no loop) return the numbers named here, and the world is as it was, or has new blocks at most.
-/
import Derived.Test.YtneflljiocnkjaaProg
import Derived.Test.YtneflljiocnkjaaNumM
import Derived.WalkKit
import Derived.WalkSpells
import Derived.WalkLawsBesides
import Derived.Laws.ResultCell
import Derived.Shelf.Bits.Mul64
import Derived.Deep.QuietTactic
import Derived.BigQuiet
import Derived.Laws.Bits64b
namespace Go.Proofs.Ytneflljiocnkjaa.Num
open Go.RowKit
set_option linter.unusedVariables false

/-- Does n fit? -/
def fitB (n : Int) : Bool := decide (-9223372036854775808 ≤ n ∧ n ≤ 9223372036854775807)
/-- n if it fits, else 0. -/
def fitV (n : Int) : Int := if -9223372036854775808 ≤ n ∧ n ≤ 9223372036854775807 then n else 0
/-- how far from 0 -/
def ab (a : Int) : Int := if a < 0 then -a else a
/-- the two words of a number modulo 2^128 -/
def hi (n : Int) : Int := wrap64 (n / 18446744073709551616)
def lo (n : Int) : Int := n % 18446744073709551616
/-- the number of the size n that is negative if s -/
def sg (s : Bool) (n : Int) : Int := if s then -n else n

theorem fit_yes {n : Int} (h : -9223372036854775808 ≤ n ∧ n ≤ 9223372036854775807) : fitV n = n ∧ fitB n = true := by
  unfold fitB fitV; simp [h]
theorem fit_no {n : Int} (h : ¬(-9223372036854775808 ≤ n ∧ n ≤ 9223372036854775807)) : fitV n = 0 ∧ fitB n = false := by
  unfold fitB fitV; simp [h]
theorem bne_yes {p q : Prop} [Decidable p] [Decidable q] (h : (!decide p == decide q) = true) : ¬(p ↔ q) := by
  by_cases p <;> by_cases q <;> simp_all
theorem bne_no {p q : Prop} [Decidable p] [Decidable q] (h : (!decide p == decide q) = false) : (p ↔ q) := by
  by_cases p <;> by_cases q <;> simp_all
theorem beq_yes {p q : Prop} [Decidable p] [Decidable q] (h : (decide p == decide q) = true) : (p ↔ q) := by
  by_cases p <;> by_cases q <;> simp_all
theorem beq_no {p q : Prop} [Decidable p] [Decidable q] (h : (decide p == decide q) = false) : ¬(p ↔ q) := by
  by_cases p <;> by_cases q <;> simp_all
theorem pair {k : IntKind} {a b : Int} {p q : Bool} (h : b = a ∧ q = p) : Ending.returned (.tuple #[.int k a, .bool p]) = .returned (.tuple #[.int k b, .bool q]) := by
  obtain ⟨rfl, rfl⟩ := h; rfl
theorem one {k : IntKind} {a b : Int} (h : a = b) : Ending.returned (.int k a) = .returned (.int k b) := by rw [h]
theorem ab_neg {a : Int} (h : a < 0) : ab a = -a := by unfold ab; simp [h]
theorem ab_pos {a : Int} (h : 0 ≤ a) : ab a = a := by unfold ab; rw [if_neg (by omega)]
theorem ab_bd {a : Int} (a0 : -9223372036854775808 ≤ a) (a1 : a ≤ 9223372036854775807) : 0 ≤ ab a ∧ ab a ≤ 9223372036854775808 := by unfold ab; split <;> omega
theorem fit_eq {n v : Int} {b : Bool} (h : (-9223372036854775808 ≤ n ∧ n ≤ 9223372036854775807) ∧ v = n ∧ b = true ∨ ¬(-9223372036854775808 ≤ n ∧ n ≤ 9223372036854775807) ∧ v = 0 ∧ b = false) : fitV n = v ∧ fitB n = b := by
  rcases h with ⟨h, rfl, rfl⟩ | ⟨h, rfl, rfl⟩
  · exact fit_yes h
  · exact fit_no h

theorem bel_trans {a b c : World} (h : Below a.heap.size a b) (k : Below b.heap.size b c) : Below a.heap.size a c := h.trans (k.mono h.size)
theorem bel_alloc {a b : World} (h : Below a.heap.size a b) (o : Obj) : Below a.heap.size a (b.alloc o) := h.alloc h.size o
theorem bcell {W w1 : World} (hb : Below W.heap.size W w1) : (∀ b o, b < W.heap.size → w1.cell? ⟨b, o, none⟩ = W.cell? ⟨b, o, none⟩) ∧ (∀ b o, b < W.heap.size → w1.frozen? ⟨b, o, none⟩ = W.frozen? ⟨b, o, none⟩) :=
  ⟨fun b o h => hb.cell (p := ⟨b, o, none⟩) h, fun b o h => hb.frozen (p := ⟨b, o, none⟩) h⟩

theorem add_any (a b : Int) (a0 : -9223372036854775808 ≤ a) (a1 : a ≤ 9223372036854775807) (b0 : -9223372036854775808 ≤ b) (b1 : b ≤ 9223372036854775807) (w : World) :
    Calls Try.prog 10 #[.int .i64 a, .int .i64 b] w fun e w' => e = .returned (.tuple #[.int .i64 (fitV (a + b)), .bool (fitB (a + b))]) ∧ w = w' := by
  go_enter Try.func10, Try.ntmps10
  go_wp2
  · rename_i h
    have h := bne_yes h
    unfold wrap64 at h
    go_ret2
    exact ⟨pair (fit_no (by omega)), rfl⟩
  · rename_i h
    have h := bne_no h
    unfold wrap64 at h
    go_ret2
    exact ⟨pair (fit_eq (Or.inl ⟨by omega, by unfold wrap64; omega, rfl⟩)), rfl⟩

theorem sub_any (a b : Int) (a0 : -9223372036854775808 ≤ a) (a1 : a ≤ 9223372036854775807) (b0 : -9223372036854775808 ≤ b) (b1 : b ≤ 9223372036854775807) (w : World) :
    Calls Try.prog 11 #[.int .i64 a, .int .i64 b] w fun e w' => e = .returned (.tuple #[.int .i64 (fitV (a - b)), .bool (fitB (a - b))]) ∧ w = w' := by
  go_enter Try.func11, Try.ntmps11
  go_wp2
  · rename_i h
    have h := bne_yes h
    unfold wrap64 at h
    go_ret2
    exact ⟨pair (fit_no (by omega)), rfl⟩
  · rename_i h
    have h := bne_no h
    unfold wrap64 at h
    go_ret2
    exact ⟨pair (fit_eq (Or.inl ⟨by omega, by unfold wrap64; omega, rfl⟩)), rfl⟩

theorem neg_any (a : Int) (a0 : -9223372036854775808 ≤ a) (a1 : a ≤ 9223372036854775807) (w : World) :
    Calls Try.prog 13 #[.int .i64 a] w fun e w' => e = .returned (.tuple #[.int .i64 (fitV (-a)), .bool (fitB (-a))]) ∧ w = w' := by
  have hs := sub_any 0 a (by omega) (by omega) a0 a1
  rw [show (0 : Int) - a = -a by omega] at hs
  go_enter Try.func13, Try.ntmps13
  go_wp2_with (go_at_call 11; refine (hs _).mono ?_; rintro e w' ⟨rfl, rfl⟩)
  go_ret2
  exact ⟨rfl, rfl⟩

theorem size_any (a : Int) (a0 : -9223372036854775808 ≤ a) (a1 : a ≤ 9223372036854775807) (w : World) :
    Calls Try.prog 36 #[.int .i64 a] w fun e w' => e = .returned (.int .u64 (ab a)) ∧ w = w' := by
  go_enter Try.func36, Try.ntmps36
  go_wp2
  · go_ret
    exact ⟨one (by rw [ab_neg (by assumption), IntKind.wrap_u64, IntKind.wrap_u64]; omega), rfl⟩
  · go_ret
    exact ⟨one (by rw [ab_pos (by assumption)]), rfl⟩

theorem far_any (a : Int) (a0 : -9223372036854775808 ≤ a) (a1 : a ≤ 9223372036854775807) (w : World) :
    Calls Try.prog 29 #[.int .i64 a] w fun e w' => e = .returned (.int .u64 (ab a)) ∧ w = w' := by
  go_enter Try.func29, Try.ntmps29
  go_wp2
  · go_ret
    exact ⟨one (by rw [ab_neg (by assumption), IntKind.wrap_u64, IntKind.wrap_u64]; omega), rfl⟩
  · go_ret
    exact ⟨one (by rw [ab_pos (by assumption)]), rfl⟩

theorem signed_any (n : Int) (s : Bool) (n0 : 0 ≤ n) (n1 : n ≤ 18446744073709551615) (w : World) :
    Calls Try.prog 40 #[.int .u64 n, .bool s] w fun e w' => e = .returned (.tuple #[.int .i64 (fitV (sg s n)), .bool (fitB (sg s n))]) ∧ w = w' := by
  cases s
  · by_cases h : n ≤ 9223372036854775807
    · have h1 : decide (n > 9223372036854775808) = false := by simp; omega
      have h2 : (n == 9223372036854775808) = false := by simp; omega
      go_enter Try.func40, Try.ntmps40
      go_wp2
      go_ret2
      exact ⟨pair (fit_eq (Or.inl ⟨by unfold sg; simp; omega, by unfold sg; simp, rfl⟩)), rfl⟩
    · by_cases h1 : n = 9223372036854775808
      · subst h1
        go_enter Try.func40, Try.ntmps40
        go_wp2
        go_ret2
        exact ⟨pair (by decide), rfl⟩
      · have h2 : 9223372036854775808 < n := by omega
        go_enter Try.func40, Try.ntmps40
        go_wp2
        go_ret2
        exact ⟨pair (fit_no (by unfold sg; simp; omega)), rfl⟩
  · by_cases h : n ≤ 9223372036854775808
    · go_enter Try.func40, Try.ntmps40
      go_wp2
      all_goals
        go_ret2
        exact ⟨pair (fit_eq (Or.inl ⟨by unfold sg; simp; omega, by rw [IntKind.wrap_u64]; unfold wrap64 sg; simp; try omega, rfl⟩)), rfl⟩
    · have h2 : 9223372036854775808 < n := by omega
      go_enter Try.func40, Try.ntmps40
      go_wp2
      go_ret2
      exact ⟨pair (fit_no (by unfold sg; simp; omega)), rfl⟩

/-- the library's contract for Mul64, laid at this program (the shelf's command prints these numbers) -/
def mulRen : Go.Shelf.Ren := ⟨fun | 264 => 42 | n => n, fun | 53 => 28 | 46 => 51 | n => n, fun | n => n⟩
theorem mulLays : Go.Proofs.Lays.n264 Try.prog mulRen := {
  mixed := by kernel_rfl
  f264 := Try.func42.trans (congrArg some (by kernel_rfl))
  t46 := Try.underlying51
  a46 := Try.isAgg51
  z46 := Try.sizeOf51
  v46 := Try.zeroValue51
  t53 := Try.underlying28
  a53 := Try.isAgg28
  z53 := Try.sizeOf28
  v53 := Try.zeroValue28 }
theorem mul64_nat (x y : Nat) (hx : x < 18446744073709551616) (hy : y < 18446744073709551616) (w : World) :
    Calls Try.prog 42 #[.int .u64 x, .int .u64 y] w fun e w' => e = .returned (.tuple #[.int .u64 ((x * y / 18446744073709551616 : Nat) : Int), .int .u64 ((x * y % 18446744073709551616 : Nat) : Int)]) ∧ w' = w :=
  Any.bits_Mul64 mulLays x y hx hy w

theorem mul64_any (x y : Int) (x0 : 0 ≤ x) (x1 : x ≤ 18446744073709551615) (y0 : 0 ≤ y) (y1 : y ≤ 18446744073709551615) (w : World) :
    Calls Try.prog 42 #[.int .u64 x, .int .u64 y] w fun e w' => e = .returned (.tuple #[.int .u64 (x * y / 18446744073709551616), .int .u64 (x * y % 18446744073709551616)]) ∧ w = w' := by
  obtain ⟨m, rfl⟩ := Int.eq_ofNat_of_zero_le x0
  obtain ⟨n, rfl⟩ := Int.eq_ofNat_of_zero_le y0
  refine (mul64_nat m n (by omega) (by omega) w).mono fun e w' ⟨h, hw⟩ => ⟨?_, hw.symm⟩
  rw [h, ← Int.natCast_mul]
  congr 5 <;> omega

theorem product_any (m n : Int) (s : Bool) (m0 : 0 ≤ m) (m1 : m ≤ 18446744073709551615) (n0 : 0 ≤ n) (n1 : n ≤ 18446744073709551615) (w : World) :
    Calls Try.prog 35 #[.int .u64 m, .int .u64 n, .bool s] w fun e w' => e = .returned (.tuple #[.int .i64 (fitV (sg s (m * n))), .bool (fitB (sg s (m * n)))]) ∧ w = w' := by
  have p0 : 0 ≤ m * n := Int.mul_nonneg m0 n0
  have hm := fun (w : World) => mul64_any m n m0 m1 n0 n1 w
  have hs := fun (k : Int) (k0 : 0 ≤ k) (k1 : k ≤ 18446744073709551615) (w : World) => signed_any k s k0 k1 w
  generalize m * n = p at *
  go_enter Try.func35, Try.ntmps35
  go_wp2_with (first | (go_at_call 42; refine (hm _).mono ?_; rintro e w' ⟨rfl, rfl⟩) | (go_at_call 40; refine (hs _ (by omega) (by omega) _).mono ?_; rintro e w' ⟨rfl, rfl⟩))
  · rename_i h
    simp only [bne_iff_ne, ne_eq] at h
    go_ret2
    exact ⟨pair (fit_no (by unfold sg; split <;> omega)), rfl⟩
  · rename_i h
    simp only [bne_eq_false_iff_eq] at h
    have e : p % 18446744073709551616 = p := by omega
    go_ret2
    exact ⟨pair (by rw [e]; exact ⟨rfl, rfl⟩), rfl⟩

theorem mul_any (a b : Int) (a0 : -9223372036854775808 ≤ a) (a1 : a ≤ 9223372036854775807) (b0 : -9223372036854775808 ≤ b) (b1 : b ≤ 9223372036854775807) (w : World) :
    Calls Try.prog 12 #[.int .i64 a, .int .i64 b] w fun e w' => e = .returned (.tuple #[.int .i64 (fitV (a * b)), .bool (fitB (a * b))]) ∧ w = w' := by
  have e : sg (!decide (a < 0) == decide (b < 0)) (ab a * ab b) = a * b := by
    unfold sg
    by_cases h1 : a < 0
    · by_cases h2 : b < 0
      · simp [h1, h2, ab_neg h1, ab_neg h2, Int.neg_mul_neg]
      · simp [h1, h2, ab_neg h1, ab_pos (by omega : 0 ≤ b), Int.neg_mul]
    · by_cases h2 : b < 0
      · simp [h1, h2, ab_pos (by omega : 0 ≤ a), ab_neg h2, Int.mul_neg]
      · simp [h1, h2, ab_pos (by omega : 0 ≤ a), ab_pos (by omega : 0 ≤ b)]
  have ba := ab_bd a0 a1
  have bb := ab_bd b0 b1
  have hp := fun (w : World) => product_any (ab a) (ab b) (!decide (a < 0) == decide (b < 0)) ba.1 (by omega) bb.1 (by omega) w
  rw [e] at hp
  clear e
  go_enter Try.func12, Try.ntmps12
  go_wp2_with (first | (go_at_call 35; refine (hp _).mono ?_; rintro e w' ⟨rfl, rfl⟩) | (go_at_call 36; refine (size_any _ (by assumption) (by assumption) _).mono ?_; rintro e w' ⟨rfl, rfl⟩))
  go_ret2
  exact ⟨rfl, rfl⟩

theorem divide_any (a b : Int) (a0 : -9223372036854775808 ≤ a) (a1 : a ≤ 9223372036854775807) (b0 : -9223372036854775808 ≤ b) (b1 : b ≤ 9223372036854775807) (hb : b ≠ 0) (hab : ¬(b = -1 ∧ a = -9223372036854775808)) (w : World) :
    Calls Try.prog 38 #[.int .i64 a, .int .i64 b] w fun e w' => e = .returned (.tuple #[.int .i64 (a.tdiv b), .int .i64 (a.tmod b), .bool true]) ∧ Below w.heap.size w w' := by
  obtain ⟨q1, q2, q3, q4, q5, q6⟩ := quo_facts a b hb
  have q7 := quo_fits a b a0 a1 hb hab
  have hd : IntKind.i64.wrap (a.tdiv b) = a.tdiv b := IntWalk.i64_in _ ⟨by omega, by omega⟩
  have h1 : (b == 0) = false := by simp; omega
  by_cases h2 : b = -1
  · have h4 : (b == -1) = true := by simp; omega
    have h3 : (a == -9223372036854775808) = false := by simp; omega
    clear q1 q2 q3 q4 q5 q6 q7 hab h2
    go_enter Try.func38, Try.ntmps38
    go_wp2
    go_quiet (fail)
    go_wp2
    go_ret3
    exact ⟨rfl, below_drewN (Below.refl _ _) _⟩
  · have h3 : (b == -1) = false := by simp; omega
    clear q1 q2 q3 q4 q5 q6 q7 hab h2
    go_enter Try.func38, Try.ntmps38
    go_wp2
    go_quiet (fail)
    go_wp2
    go_ret3
    exact ⟨rfl, below_drewN (Below.refl _ _) _⟩

theorem divide_no (a b : Int) (h : b = 0 ∨ b = -1 ∧ a = -9223372036854775808) (w : World) :
    Calls Try.prog 38 #[.int .i64 a, .int .i64 b] w fun e w' => e = .returned (.tuple #[.int .i64 0, .int .i64 0, .bool false]) ∧ Below w.heap.size w w' := by
  rcases h with h | ⟨h, h'⟩
  · subst h
    go_enter Try.func38, Try.ntmps38
    go_wp2
    go_ret3
    exact ⟨rfl, Below.refl _ _⟩
  · subst h h'
    go_enter Try.func38, Try.ntmps38
    go_wp2
    go_ret3
    exact ⟨rfl, Below.refl _ _⟩

theorem div_any (a b : Int) (a0 : -9223372036854775808 ≤ a) (a1 : a ≤ 9223372036854775807) (b0 : -9223372036854775808 ≤ b) (b1 : b ≤ 9223372036854775807) (w : World) :
    Calls Try.prog 19 #[.int .i64 a, .int .i64 b] w fun e w' => e = .returned (.tuple #[.int .i64 (dV a b), .bool (dB a b)]) ∧ Below w.heap.size w w' := by
  by_cases h : b = 0 ∨ b = -1 ∧ a = -9223372036854775808
  · obtain ⟨d1, d2, d3⟩ := dV_no h
    have hd := fun (w : World) => divide_no a b h w
    rw [d1, d2]
    clear d1 d2 d3 h
    go_enter Try.func19, Try.ntmps19
    go_wp2_with (go_at_call 38; refine (hd _).mono ?_; rintro e w' ⟨rfl, hw⟩)
    go_ret2
    exact ⟨rfl, hw⟩
  · have hb : b ≠ 0 := by omega
    have hab : ¬(b = -1 ∧ a = -9223372036854775808) := by omega
    obtain ⟨d1, d2, d3⟩ := dV_yes hb hab
    have hd := fun (w : World) => divide_any a b a0 a1 b0 b1 hb hab w
    have qf := quo_fits a b a0 a1 hb hab
    have qr := quo_room a b a0 a1 hb
    rw [d1, d2]
    unfold dq
    clear d1 d2 d3 h hab hb
    generalize a.tdiv b = q at *
    generalize a.tmod b = r at *
    obtain ⟨qf1, qf2⟩ := qf
    by_cases h1 : r = 0
    · have h2 : (r != 0) = false := by simp [h1]
      rw [if_neg (by simp [h1])]
      clear h1 qr
      go_enter Try.func19, Try.ntmps19
      go_wp2_with (go_at_call 38; refine (hd _).mono ?_; rintro e w' ⟨rfl, hw⟩)
      go_ret2
      exact ⟨rfl, hw⟩
    · have h2 : (r != 0) = true := by simp [h1]
      obtain ⟨qr1, qr2⟩ := qr h1
      by_cases h3 : r < 0 ↔ b < 0
      · have h4 : (!decide (r < 0) == decide (b < 0)) = false := by simp [h3]
        rw [if_neg (by simp [h3])]
        clear h1 h3
        go_enter Try.func19, Try.ntmps19
        go_wp2_with (go_at_call 38; refine (hd _).mono ?_; rintro e w' ⟨rfl, hw⟩)
        go_ret2
        exact ⟨rfl, hw⟩
      · have h4 : (!decide (r < 0) == decide (b < 0)) = true := by by_cases r < 0 <;> by_cases b < 0 <;> simp_all
        rw [if_pos ⟨h1, h3⟩]
        clear h1 h3
        go_enter Try.func19, Try.ntmps19
        go_wp2_with (go_at_call 38; refine (hd _).mono ?_; rintro e w' ⟨rfl, hw⟩)
        go_ret2
        exact ⟨rfl, hw⟩

theorem ceil_any (a b : Int) (a0 : -9223372036854775808 ≤ a) (a1 : a ≤ 9223372036854775807) (b0 : -9223372036854775808 ≤ b) (b1 : b ≤ 9223372036854775807) (w : World) :
    Calls Try.prog 20 #[.int .i64 a, .int .i64 b] w fun e w' => e = .returned (.tuple #[.int .i64 (cV a b), .bool (dB a b)]) ∧ Below w.heap.size w w' := by
  by_cases h : b = 0 ∨ b = -1 ∧ a = -9223372036854775808
  · obtain ⟨d1, d2, d3⟩ := dV_no h
    have hd := fun (w : World) => divide_no a b h w
    rw [d1, d3]
    clear d1 d2 d3 h
    go_enter Try.func20, Try.ntmps20
    go_wp2_with (go_at_call 38; refine (hd _).mono ?_; rintro e w' ⟨rfl, hw⟩)
    go_ret2
    exact ⟨rfl, hw⟩
  · have hb : b ≠ 0 := by omega
    have hab : ¬(b = -1 ∧ a = -9223372036854775808) := by omega
    obtain ⟨d1, d2, d3⟩ := dV_yes hb hab
    have hd := fun (w : World) => divide_any a b a0 a1 b0 b1 hb hab w
    have qf := quo_fits a b a0 a1 hb hab
    have qr := quo_room a b a0 a1 hb
    rw [d1, d3]
    unfold dc
    clear d1 d2 d3 h hab hb
    generalize a.tdiv b = q at *
    generalize a.tmod b = r at *
    obtain ⟨qf1, qf2⟩ := qf
    by_cases h1 : r = 0
    · have h2 : (r != 0) = false := by simp [h1]
      rw [if_neg (by simp [h1])]
      clear h1 qr
      go_enter Try.func20, Try.ntmps20
      go_wp2_with (go_at_call 38; refine (hd _).mono ?_; rintro e w' ⟨rfl, hw⟩)
      go_ret2
      exact ⟨rfl, hw⟩
    · have h2 : (r != 0) = true := by simp [h1]
      obtain ⟨qr1, qr2⟩ := qr h1
      by_cases h3 : r < 0 ↔ b < 0
      · have h4 : (decide (r < 0) == decide (b < 0)) = true := by simp [h3]
        rw [if_pos ⟨h1, h3⟩]
        clear h1 h3
        go_enter Try.func20, Try.ntmps20
        go_wp2_with (go_at_call 38; refine (hd _).mono ?_; rintro e w' ⟨rfl, hw⟩)
        go_ret2
        exact ⟨rfl, hw⟩
      · have h4 : (decide (r < 0) == decide (b < 0)) = false := by by_cases r < 0 <;> by_cases b < 0 <;> simp_all
        rw [if_neg (by simp [h3])]
        clear h1 h3
        go_enter Try.func20, Try.ntmps20
        go_wp2_with (go_at_call 38; refine (hd _).mono ?_; rintro e w' ⟨rfl, hw⟩)
        go_ret2
        exact ⟨rfl, hw⟩

theorem mod_any (a b : Int) (a0 : -9223372036854775808 ≤ a) (a1 : a ≤ 9223372036854775807) (b0 : -9223372036854775808 ≤ b) (b1 : b ≤ 9223372036854775807) (w : World) :
    Calls Try.prog 21 #[.int .i64 a, .int .i64 b] w fun e w' => e = .returned (.tuple #[.int .i64 (mV a b), .bool (b != 0)]) ∧ w = w' := by
  unfold mV
  by_cases hb : b = 0
  · subst hb
    go_enter Try.func21, Try.ntmps21
    go_wp2
    go_ret2
    exact ⟨rfl, rfl⟩
  · have hb1 : (b == 0) = false := by simp [hb]
    have hb2 : (b != 0) = true := by simp [hb]
    obtain ⟨_, q2, _, _, _, _⟩ := quo_facts a b hb
    rw [if_pos hb, hb2]
    unfold dm
    generalize hr : a.tmod b = r at *
    by_cases h1 : r = 0
    · have h2 : (r != 0) = false := by simp [h1]
      rw [if_neg (by simp [h1])]
      clear h1 q2 hb2
      go_enter Try.func21, Try.ntmps21
      go_wp2
      go_ret2
      exact ⟨rfl, rfl⟩
    · have h2 : (r != 0) = true := by simp [h1]
      by_cases h3 : r < 0 ↔ b < 0
      · have h4 : (!decide (r < 0) == decide (b < 0)) = false := by simp [h3]
        rw [if_neg (by simp [h3])]
        clear h1 h3 q2 hb2
        go_enter Try.func21, Try.ntmps21
        go_wp2
        go_ret2
        exact ⟨rfl, rfl⟩
      · have h4 : (!decide (r < 0) == decide (b < 0)) = true := by by_cases r < 0 <;> by_cases b < 0 <;> simp_all
        rw [if_pos ⟨h1, h3⟩]
        have r1 : -9223372036854775808 ≤ r + b := by omega
        have r2 : r + b ≤ 9223372036854775807 := by omega
        clear h1 h3 q2 hb2
        go_enter Try.func21, Try.ntmps21
        go_wp2
        go_ret2
        exact ⟨rfl, rfl⟩

theorem hi_eq (n : Int) : hi n = (n / 18446744073709551616 + 9223372036854775808) % 18446744073709551616 - 9223372036854775808 := by unfold hi wrap64; simp
theorem lo_eq (n : Int) : lo n = n % 18446744073709551616 := by unfold lo; simp
theorem w64_eq (n : Int) : wrap64 n = (n + 9223372036854775808) % 18446744073709551616 - 9223372036854775808 := by unfold wrap64; simp
theorem wide {h l : Int} {n : Int} (a : h = hi n) (b : l = lo n) : Value.agg #[.int .i64 h, .int .u64 l] = .agg #[.int .i64 (hi n), .int .u64 (lo n)] := by rw [a, b]

theorem of_any (a : Int) (a0 : -9223372036854775808 ≤ a) (a1 : a ≤ 9223372036854775807) (w : World) :
    Calls Try.prog 28 #[.int .i64 a] w fun e w' => e = .returned (.agg #[.int .i64 (hi a), .int .u64 (lo a)]) ∧ Below w.heap.size w w' := by
  go_enter Try.func28, Try.ntmps28
  go_wp2
  · have h : a < 0 := by assumption
    simp [bodyPost, results, Try.results28, go_sem]
    have e1 := hi_eq a
    have e2 := lo_eq a
    rw [IntKind.wrap_u64]
    exact ⟨⟨by omega, by omega⟩, bel_alloc (Below.refl _ _) _⟩
  · have h : 0 ≤ a := by assumption
    simp [bodyPost, results, Try.results28, go_sem]
    have e1 := hi_eq a
    have e2 := lo_eq a
    exact ⟨⟨by omega, by omega⟩, bel_alloc (Below.refl _ _) _⟩

theorem fits_any (n : Int) (h0 : -170141183460469231731687303715884105728 ≤ n) (h1 : n < 170141183460469231731687303715884105728) (w : World) :
    Calls Try.prog 25 #[.agg #[.int .i64 (hi n), .int .u64 (lo n)]] w fun e w' => e = .returned (.tuple #[.int .i64 (fitV n), .bool (fitB n)]) ∧ Below w.heap.size w w' := by
  go_enter Try.func25, Try.ntmps25
  go_wp2
  all_goals
    have e1 := hi_eq n
    have e2 := lo_eq n
    have e3 := w64_eq (lo n)
    go_ret2
    refine ⟨pair ?_, bel_alloc (Below.refl _ _) _⟩
    first | exact fit_no (by omega) | exact fit_eq (Or.inl ⟨by omega, by omega, rfl⟩)

theorem plus_any (m n : Int) (w : World) :
    Calls Try.prog 26 #[.agg #[.int .i64 (hi m), .int .u64 (lo m)], .agg #[.int .i64 (hi n), .int .u64 (lo n)]] w fun e w' => e = .returned (.agg #[.int .i64 (hi (m + n)), .int .u64 (lo (m + n))]) ∧ Below w.heap.size w w' := by
  go_enter Try.func26, Try.ntmps26
  go_wp2
  all_goals
    have e1 := hi_eq m
    have e2 := lo_eq m
    have e3 := hi_eq n
    have e4 := lo_eq n
    have e5 := hi_eq (m + n)
    have e6 := lo_eq (m + n)
    have e7 := w64_eq (hi m + hi n)
    have e8 := w64_eq (wrap64 (hi m + hi n) + 1)
    have e9 := IntKind.wrap_u64 (lo m + lo n)
    simp [bodyPost, results, Try.results26, go_sem]
    exact ⟨⟨by omega, by omega⟩, bel_alloc (bel_alloc (bel_alloc (Below.refl _ _) _) _) _⟩

theorem plus_of (m n : Int) {a b c d : Int} (h1 : a = hi m) (h2 : b = lo m) (h3 : c = hi n) (h4 : d = lo n) (w : World) :
    Calls Try.prog 26 #[.agg #[.int .i64 a, .int .u64 b], .agg #[.int .i64 c, .int .u64 d]] w fun e w' => e = .returned (.agg #[.int .i64 (hi (m + n)), .int .u64 (lo (m + n))]) ∧ Below w.heap.size w w' := by
  subst h1 h2 h3 h4; exact plus_any m n w

theorem xor_ones (b : Nat) (hb : b < 18446744073709551616) : 18446744073709551615 ^^^ b = 18446744073709551615 - b := by
  have h := congrArg BitVec.toNat (BitVec.allOnes_xor (x := BitVec.ofNat 64 b))
  rw [BitVec.toNat_xor, BitVec.toNat_not, BitVec.toNat_ofNat, Nat.mod_eq_of_lt (by omega)] at h
  exact h

theorem not_lo (n : Int) : bits .xor .u64 IntKind.u64.max (lo n) = lo (-n - 1) := by
  have e1 := lo_eq n
  have e2 := lo_eq (-n - 1)
  obtain ⟨k, hk⟩ := Int.eq_ofNat_of_zero_le (a := lo n) (by omega)
  have e3 : IntKind.u64.max = ((18446744073709551615 : Nat) : Int) := by decide
  rw [e3, hk, bits_xor_u64_nat _ _ (by omega) (by omega), xor_ones _ (by omega)]
  omega

theorem minus_any (n : Int) (w : World) :
    Calls Try.prog 37 #[.agg #[.int .i64 (hi n), .int .u64 (lo n)]] w fun e w' => e = .returned (.agg #[.int .i64 (hi (-n)), .int .u64 (lo (-n))]) ∧ Below w.heap.size w w' := by
  have s1 : IntKind.u64.signed = false := rfl
  have s2 := not_lo n
  have s3 : wrap64 (-1 - hi n) = hi (-n - 1) := by
    have e1 := hi_eq n
    have e2 := hi_eq (-n - 1)
    have e3 := w64_eq (-1 - hi n)
    omega
  have s4 : (0 : Int) = hi 1 := by rw [hi_eq]; decide
  have s5 : (1 : Int) = lo 1 := by rw [lo_eq]; decide
  have hp := fun (w : World) => plus_of (-n - 1) 1 rfl rfl s4 s5 w
  rw [show -n - 1 + 1 = -n by omega] at hp
  clear s4 s5
  go_enter Try.func37, Try.ntmps37
  go_wp2_with (go_at_call 26; refine (hp _).mono ?_; rintro e w' ⟨rfl, hb⟩; obtain ⟨hc, hf⟩ := bcell hb; have hz : w.heap.size + 1 < w'.heap.size := by (have := hb.size; simp at this; omega))
  simp [bodyPost, results, Try.results37, go_sem, hc]
  exact ((bel_trans (bel_alloc (bel_alloc (Below.refl _ _) _) _) hb).setCell (by simp) _).setCell (by simp) _
end Go.Proofs.Ytneflljiocnkjaa.Num
