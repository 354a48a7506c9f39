/-
  What is proved: what Sub, Neg and Mul of package num return (the exact result, or 0 and false), the world as it was.
-/
import Derived.Test.YtjokaibkhlnfcaaDoorProg
import Derived.Test.YtjokaibkhlnfcaaDoorDigM
import Derived.WalkKit
import Derived.WalkSpells
import Derived.WalkLawsBesides
import Derived.Laws.ResultCell
import Derived.Shelf.Bits.Mul64
import Derived.Deep.QuietTactic
import Derived.BigQuiet
import Derived.Laws.Bits64b
namespace Go.Proofs.YtjokaibkhlnfcaaDoor.Dig
open Go.RowKit
set_option linter.unusedVariables false

/-- how far from 0 -/
def ab (a : Int) : Int := if a < 0 then -a else a

/-- the number of the size n that is negative if s -/
def sg (s : Bool) (n : Int) : Int := if s then -n else n

theorem bne_yes {p q : Prop} [Decidable p] [Decidable q] (h : (!decide p == decide q) = true) : ¬(p ↔ q) := by
  by_cases p <;> by_cases q <;> simp_all

theorem bne_no {p q : Prop} [Decidable p] [Decidable q] (h : (!decide p == decide q) = false) : (p ↔ q) := by
  by_cases p <;> by_cases q <;> simp_all

theorem beq_yes {p q : Prop} [Decidable p] [Decidable q] (h : (decide p == decide q) = true) : (p ↔ q) := by
  by_cases p <;> by_cases q <;> simp_all

theorem beq_no {p q : Prop} [Decidable p] [Decidable q] (h : (decide p == decide q) = false) : ¬(p ↔ q) := by
  by_cases p <;> by_cases q <;> simp_all

theorem pair {k : IntKind} {a b : Int} {p q : Bool} (h : b = a ∧ q = p) : Ending.returned (.tuple #[.int k a, .bool p]) = .returned (.tuple #[.int k b, .bool q]) := by
  obtain ⟨rfl, rfl⟩ := h; rfl

theorem one {k : IntKind} {a b : Int} (h : a = b) : Ending.returned (.int k a) = .returned (.int k b) := by rw [h]

theorem ab_neg {a : Int} (h : a < 0) : ab a = -a := by unfold ab; simp [h]

theorem ab_pos {a : Int} (h : 0 ≤ a) : ab a = a := by unfold ab; rw [if_neg (by omega)]

theorem ab_bd {a : Int} (a0 : -9223372036854775808 ≤ a) (a1 : a ≤ 9223372036854775807) : 0 ≤ ab a ∧ ab a ≤ 9223372036854775808 := by unfold ab; split <;> omega

theorem fit_eq {n v : Int} {b : Bool} (h : (-9223372036854775808 ≤ n ∧ n ≤ 9223372036854775807) ∧ v = n ∧ b = true ∨ ¬(-9223372036854775808 ≤ n ∧ n ≤ 9223372036854775807) ∧ v = 0 ∧ b = false) : fitV n = v ∧ fitB n = b := by
  rcases h with ⟨h, rfl, rfl⟩ | ⟨h, rfl, rfl⟩
  · exact fit_yes h
  · exact fit_no h

theorem bel_trans {a b c : World} (h : Below a.heap.size a b) (k : Below b.heap.size b c) : Below a.heap.size a c := h.trans (k.mono h.size)

theorem bel_alloc {a b : World} (h : Below a.heap.size a b) (o : Obj) : Below a.heap.size a (b.alloc o) := h.alloc h.size o

theorem bcell {W w1 : World} (hb : Below W.heap.size W w1) : (∀ b o, b < W.heap.size → w1.cell? ⟨b, o, none⟩ = W.cell? ⟨b, o, none⟩) ∧ (∀ b o, b < W.heap.size → w1.frozen? ⟨b, o, none⟩ = W.frozen? ⟨b, o, none⟩) :=
  ⟨fun b o h => hb.cell (p := ⟨b, o, none⟩) h, fun b o h => hb.frozen (p := ⟨b, o, none⟩) h⟩

theorem sub_any (a b : Int) (a0 : -9223372036854775808 ≤ a) (a1 : a ≤ 9223372036854775807) (b0 : -9223372036854775808 ≤ b) (b1 : b ≤ 9223372036854775807) (w : World) :
    Calls Tryd.prog 32 #[.int .i64 a, .int .i64 b] w fun e w' => e = .returned (.tuple #[.int .i64 (fitV (a - b)), .bool (fitB (a - b))]) ∧ w = w' := by
  go_enter Tryd.func32, Tryd.ntmps32
  go_wp2
  · rename_i h
    have h := bne_yes h
    unfold wrap64 at h
    go_ret2
    exact ⟨pair (fit_no (by omega)), rfl⟩
  · rename_i h
    have h := bne_no h
    unfold wrap64 at h
    go_ret2
    exact ⟨pair (fit_eq (Or.inl ⟨by omega, by unfold wrap64; omega, rfl⟩)), rfl⟩

theorem neg_any (a : Int) (a0 : -9223372036854775808 ≤ a) (a1 : a ≤ 9223372036854775807) (w : World) :
    Calls Tryd.prog 24 #[.int .i64 a] w fun e w' => e = .returned (.tuple #[.int .i64 (fitV (-a)), .bool (fitB (-a))]) ∧ w = w' := by
  have hs := sub_any 0 a (by omega) (by omega) a0 a1
  rw [show (0 : Int) - a = -a by omega] at hs
  go_enter Tryd.func24, Tryd.ntmps24
  go_wp2_with (go_at_call 32; refine (hs _).mono ?_; rintro e w' ⟨rfl, rfl⟩)
  go_ret2
  exact ⟨rfl, rfl⟩

theorem size_any (a : Int) (a0 : -9223372036854775808 ≤ a) (a1 : a ≤ 9223372036854775807) (w : World) :
    Calls Tryd.prog 39 #[.int .i64 a] w fun e w' => e = .returned (.int .u64 (ab a)) ∧ w = w' := by
  go_enter Tryd.func39, Tryd.ntmps39
  go_wp2
  · go_ret
    exact ⟨one (by rw [ab_neg (by assumption), IntKind.wrap_u64, IntKind.wrap_u64]; omega), rfl⟩
  · go_ret
    exact ⟨one (by rw [ab_pos (by assumption)]), rfl⟩

theorem signed_any (n : Int) (s : Bool) (n0 : 0 ≤ n) (n1 : n ≤ 18446744073709551615) (w : World) :
    Calls Tryd.prog 46 #[.int .u64 n, .bool s] w fun e w' => e = .returned (.tuple #[.int .i64 (fitV (sg s n)), .bool (fitB (sg s n))]) ∧ w = w' := by
  cases s
  · by_cases h : n ≤ 9223372036854775807
    · have h1 : decide (n > 9223372036854775808) = false := by simp; omega
      have h2 : (n == 9223372036854775808) = false := by simp; omega
      go_enter Tryd.func46, Tryd.ntmps46
      go_wp2
      go_ret2
      exact ⟨pair (fit_eq (Or.inl ⟨by unfold sg; simp; omega, by unfold sg; simp, rfl⟩)), rfl⟩
    · by_cases h1 : n = 9223372036854775808
      · subst h1
        go_enter Tryd.func46, Tryd.ntmps46
        go_wp2
        go_ret2
        exact ⟨pair (by decide), rfl⟩
      · have h2 : 9223372036854775808 < n := by omega
        go_enter Tryd.func46, Tryd.ntmps46
        go_wp2
        go_ret2
        exact ⟨pair (fit_no (by unfold sg; simp; omega)), rfl⟩
  · by_cases h : n ≤ 9223372036854775808
    · go_enter Tryd.func46, Tryd.ntmps46
      go_wp2
      all_goals
        go_ret2
        exact ⟨pair (fit_eq (Or.inl ⟨by unfold sg; simp; omega, by rw [IntKind.wrap_u64]; unfold wrap64 sg; simp; try omega, rfl⟩)), rfl⟩
    · have h2 : 9223372036854775808 < n := by omega
      go_enter Tryd.func46, Tryd.ntmps46
      go_wp2
      go_ret2
      exact ⟨pair (fit_no (by unfold sg; simp; omega)), rfl⟩

/-- the library's contract for Mul64, laid at this program (the shelf's command prints these numbers) -/
def mulRen : Go.Shelf.Ren := ⟨fun | 264 => 45 | n => n, fun | 53 => 44 | 46 => 62 | n => n, fun | n => n⟩

theorem mulLays : Go.Proofs.Lays.n264 Tryd.prog mulRen := {
  mixed := by kernel_rfl
  f264 := Tryd.func45.trans (congrArg some (by kernel_rfl))
  t46 := Tryd.underlying62
  a46 := Tryd.isAgg62
  z46 := Tryd.sizeOf62
  v46 := Tryd.zeroValue62
  t53 := Tryd.underlying44
  a53 := Tryd.isAgg44
  z53 := Tryd.sizeOf44
  v53 := Tryd.zeroValue44 }

theorem mul64_nat (x y : Nat) (hx : x < 18446744073709551616) (hy : y < 18446744073709551616) (w : World) :
    Calls Tryd.prog 45 #[.int .u64 x, .int .u64 y] w fun e w' => e = .returned (.tuple #[.int .u64 ((x * y / 18446744073709551616 : Nat) : Int), .int .u64 ((x * y % 18446744073709551616 : Nat) : Int)]) ∧ w' = w :=
  Any.bits_Mul64 mulLays x y hx hy w

theorem mul64_any (x y : Int) (x0 : 0 ≤ x) (x1 : x ≤ 18446744073709551615) (y0 : 0 ≤ y) (y1 : y ≤ 18446744073709551615) (w : World) :
    Calls Tryd.prog 45 #[.int .u64 x, .int .u64 y] w fun e w' => e = .returned (.tuple #[.int .u64 (x * y / 18446744073709551616), .int .u64 (x * y % 18446744073709551616)]) ∧ w = w' := by
  obtain ⟨m, rfl⟩ := Int.eq_ofNat_of_zero_le x0
  obtain ⟨n, rfl⟩ := Int.eq_ofNat_of_zero_le y0
  refine (mul64_nat m n (by omega) (by omega) w).mono fun e w' ⟨h, hw⟩ => ⟨?_, hw.symm⟩
  rw [h, ← Int.natCast_mul]
  congr 5 <;> omega

theorem product_any (m n : Int) (s : Bool) (m0 : 0 ≤ m) (m1 : m ≤ 18446744073709551615) (n0 : 0 ≤ n) (n1 : n ≤ 18446744073709551615) (w : World) :
    Calls Tryd.prog 38 #[.int .u64 m, .int .u64 n, .bool s] w fun e w' => e = .returned (.tuple #[.int .i64 (fitV (sg s (m * n))), .bool (fitB (sg s (m * n)))]) ∧ w = w' := by
  have p0 : 0 ≤ m * n := Int.mul_nonneg m0 n0
  have hm := fun (w : World) => mul64_any m n m0 m1 n0 n1 w
  have hs := fun (k : Int) (k0 : 0 ≤ k) (k1 : k ≤ 18446744073709551615) (w : World) => signed_any k s k0 k1 w
  generalize m * n = p at *
  go_enter Tryd.func38, Tryd.ntmps38
  go_wp2_with (first | (go_at_call 45; refine (hm _).mono ?_; rintro e w' ⟨rfl, rfl⟩) | (go_at_call 46; refine (hs _ (by omega) (by omega) _).mono ?_; rintro e w' ⟨rfl, rfl⟩))
  · rename_i h
    simp only [bne_iff_ne, ne_eq] at h
    go_ret2
    exact ⟨pair (fit_no (by unfold sg; split <;> omega)), rfl⟩
  · rename_i h
    simp only [bne_eq_false_iff_eq] at h
    have e : p % 18446744073709551616 = p := by omega
    go_ret2
    exact ⟨pair (by rw [e]; exact ⟨rfl, rfl⟩), rfl⟩

theorem mul_any (a b : Int) (a0 : -9223372036854775808 ≤ a) (a1 : a ≤ 9223372036854775807) (b0 : -9223372036854775808 ≤ b) (b1 : b ≤ 9223372036854775807) (w : World) :
    Calls Tryd.prog 31 #[.int .i64 a, .int .i64 b] w fun e w' => e = .returned (.tuple #[.int .i64 (fitV (a * b)), .bool (fitB (a * b))]) ∧ w = w' := by
  have e : sg (!decide (a < 0) == decide (b < 0)) (ab a * ab b) = a * b := by
    unfold sg
    by_cases h1 : a < 0
    · by_cases h2 : b < 0
      · simp [h1, h2, ab_neg h1, ab_neg h2, Int.neg_mul_neg]
      · simp [h1, h2, ab_neg h1, ab_pos (by omega : 0 ≤ b), Int.neg_mul]
    · by_cases h2 : b < 0
      · simp [h1, h2, ab_pos (by omega : 0 ≤ a), ab_neg h2, Int.mul_neg]
      · simp [h1, h2, ab_pos (by omega : 0 ≤ a), ab_pos (by omega : 0 ≤ b)]
  have ba := ab_bd a0 a1
  have bb := ab_bd b0 b1
  have hp := fun (w : World) => product_any (ab a) (ab b) (!decide (a < 0) == decide (b < 0)) ba.1 (by omega) bb.1 (by omega) w
  rw [e] at hp
  clear e
  go_enter Tryd.func31, Tryd.ntmps31
  go_wp2_with (first | (go_at_call 38; refine (hp _).mono ?_; rintro e w' ⟨rfl, rfl⟩) | (go_at_call 39; refine (size_any _ (by assumption) (by assumption) _).mono ?_; rintro e w' ⟨rfl, rfl⟩))
  go_ret2
  exact ⟨rfl, rfl⟩
end Go.Proofs.YtjokaibkhlnfcaaDoor.Dig
