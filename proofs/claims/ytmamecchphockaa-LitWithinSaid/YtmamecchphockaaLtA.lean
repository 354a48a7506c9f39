/-
  What is proved: literals, variables, their order: the program's and the document's small calls.
-/
import Derived.Test.YtmamecchphockaaLtM
import Derived.Test.YtmamecchphockaaLibO
import Derived.Test.YtmamecchphockaaLibE
import Derived.ArgAppend
namespace Go.Proofs.Ytmamecchphockaa.Lt
open Go.RowKit L
set_option linter.unusedVariables false
set_option linter.unusedSimpArgs false

theorem literal_any (x : Int) (w : World) : Calls Try.prog 32 #[.int .i64 x] w fun e w' => e = .returned (.bool (isL x)) ∧ w = w' := by
  have hr : Hid (isL x = (x != 0 && x != -9223372036854775808)) := rfl
  generalize isL x = R at *
  cases h1 : (x != 0)
  · have hR : Hid (false = R) := by show _ = _; rw [hr.out, h1]; rfl
    clear hr
    go_enter Try.func32, Try.ntmps32
    go_wp2
    go_ret
    exact ⟨oneB hR.out, rfl⟩
  · cases h2 : (x != -9223372036854775808)
    · have hR : Hid (false = R) := by show _ = _; rw [hr.out, h1, h2]; rfl
      clear hr
      go_enter Try.func32, Try.ntmps32
      go_wp2
      go_ret
      exact ⟨oneB hR.out, rfl⟩
    · have hR : Hid (true = R) := by show _ = _; rw [hr.out, h1, h2]; rfl
      clear hr
      go_enter Try.func32, Try.ntmps32
      go_wp2
      go_ret
      exact ⟨oneB hR.out, rfl⟩
theorem is_any (x : Int) (w : World) : Calls Try.prog 39 #[.int .i64 x] w fun e w' => e = .returned (.bool (isL x)) ∧ w = w' := by
  have hr : Hid (isL x = (x != 0 && x != -9223372036854775808)) := rfl
  generalize isL x = R at *
  cases h1 : (x != 0)
  · have hR : Hid (false = R) := by show _ = _; rw [hr.out, h1]; rfl
    clear hr
    go_enter Try.func39, Try.ntmps39
    go_wp2
    go_ret
    exact ⟨oneB hR.out, rfl⟩
  · cases h2 : (x != -9223372036854775808)
    · have hR : Hid (false = R) := by show _ = _; rw [hr.out, h1, h2]; rfl
      clear hr
      go_enter Try.func39, Try.ntmps39
      go_wp2
      go_ret
      exact ⟨oneB hR.out, rfl⟩
    · have hR : Hid (true = R) := by show _ = _; rw [hr.out, h1, h2]; rfl
      clear hr
      go_enter Try.func39, Try.ntmps39
      go_wp2
      go_ret
      exact ⟨oneB hR.out, rfl⟩
theorem w64 (n : Int) : wrap64 n = IntKind.i64.wrap n := by
  simp [IntKind.wrap, IntKind.bits, IntKind.signed, wrap64]
  split <;> omega
theorem variable_any (x : Int) (w : World) : Calls Try.prog 37 #[.int .i64 x] w fun e w' => e = .returned (.int .i64 (vr x)) ∧ w = w' := by
  have hr : Hid (vr x = if x < wrap64 (-x) then wrap64 (-x) else x) := by show _ = _; rw [w64]; rfl
  generalize vr x = R at *
  go_enter Try.func37, Try.ntmps37
  go_wp2
  all_goals go_ret
  all_goals exact ⟨L.one (by rw [hr.out]; split <;> omega), rfl⟩
theorem Of_any (x : Int) (w : World) (h : R64 x) : Calls Try.prog 29 #[.int .i64 x] w fun e w' => e = .returned (.int .i64 (vr x)) ∧ w = w' := by
  have hr : Hid ((if x < 0 then IntKind.i64.wrap (-x) else x) = vr x) := vr_of h
  generalize vr x = R at *
  clear h
  by_cases h1 : x < 0
  · have hR : Hid (wrap64 (-x) = R) := by show _ = _; rw [← hr.out, if_pos h1, w64]
    clear hr
    have q1 : decide (x < 0) = true := decide_eq_true h1
    go_enter Try.func29, Try.ntmps29
    go_wp2
    go_ret
    exact ⟨L.one hR.out, rfl⟩
  · have hR : Hid (x = R) := by show _ = _; rw [← hr.out, if_neg h1]
    clear hr
    have q1 : decide (x < 0) = false := decide_eq_false h1
    go_enter Try.func29, Try.ntmps29
    go_wp2
    go_ret
    exact ⟨L.one hR.out, rfl⟩
theorem isNaN_int (x : Int) (w : World) : Calls Try.prog 55 #[.int .i64 x] w fun e w' => e = .returned (.bool false) ∧ w = w' := by
  go_enter Try.func55, Try.ntmps55
  go_wp2
  go_ret
  exact ⟨by simp, rfl⟩
def cmpI (x y : Int) : Int := if x < y then -1 else if y < x then 1 else 0
theorem cmp_int (x y : Int) (w : World) : Calls Try.prog 36 #[.int .i64 x, .int .i64 y] w fun e w' => e = .returned (.int .i64 (cmpI x y)) ∧ w = w' := by
  have c1 := isNaN_int x w
  have c2 := isNaN_int y w
  have hr : Hid (cmpI x y = if x < y then -1 else if y < x then 1 else 0) := rfl
  generalize cmpI x y = R at *
  by_cases h1 : x < y
  · have hR : Hid ((-1 : Int) = R) := by show _ = _; rw [hr.out, if_pos h1]
    clear hr
    go_enter Try.func36, Try.ntmps36
    go_wp2_with (first
      | (go_at_call 55; ((with_reducible refine c1.mono ?_); rintro e w1 ⟨rfl, rfl⟩))
      | (go_at_call 55; ((with_reducible refine c2.mono ?_); rintro e w1 ⟨rfl, rfl⟩)))
    go_ret
    exact ⟨L.one hR.out, rfl⟩
  · by_cases h2 : y < x
    · have hR : Hid ((1 : Int) = R) := by show _ = _; rw [hr.out, if_neg h1, if_pos h2]
      clear hr
      go_enter Try.func36, Try.ntmps36
      go_wp2_with (first
        | (go_at_call 55; ((with_reducible refine c1.mono ?_); rintro e w1 ⟨rfl, rfl⟩))
        | (go_at_call 55; ((with_reducible refine c2.mono ?_); rintro e w1 ⟨rfl, rfl⟩)))
      go_ret
      exact ⟨L.one hR.out, rfl⟩
    · have hR : Hid ((0 : Int) = R) := by show _ = _; rw [hr.out, if_neg h1, if_neg h2]
      clear hr
      go_enter Try.func36, Try.ntmps36
      go_wp2_with (first
        | (go_at_call 55; ((with_reducible refine c1.mono ?_); rintro e w1 ⟨rfl, rfl⟩))
        | (go_at_call 55; ((with_reducible refine c2.mono ?_); rintro e w1 ⟨rfl, rfl⟩)))
      go_ret
      exact ⟨L.one hR.out, rfl⟩
/-- the literals' order as the program's comparison tells it -/
def cf (a b : Int) : Int := if cmpI (vr a) (vr b) ≠ 0 then cmpI (vr a) (vr b) else cmpI a b
theorem cf_ahd (a b : Int) : decide (cf a b < 0) = ahd a b := by
  unfold cf cmpI ahd
  rw [Bool.eq_iff_iff, decide_eq_true_eq]
  simp only [Bool.or_eq_true, Bool.and_eq_true, decide_eq_true_eq]
  constructor
  · intro h; repeat' split at h
    all_goals omega
  · intro h; repeat' split
    all_goals omega
theorem ahead_any (a b : Int) (w : World) (ha : R64 a) (hb : R64 b) : Calls Try.prog 40 #[.int .i64 a, .int .i64 b] w fun e w' => e = .returned (.bool (ahd a b)) ∧ w = w' := by
  have ca := Of_any a w ha
  have cb := Of_any b w hb
  have hr : Hid (ahd a b = (decide (vr a < vr b) || (decide (vr a = vr b) && decide (a < b)))) := rfl
  clear ha hb
  generalize ahd a b = R at *
  generalize vr a = x at *
  generalize vr b = y at *
  by_cases h1 : x < y
  · have hR : Hid (true = R) := by show _ = _; rw [hr.out, decide_eq_true h1]; rfl
    clear hr
    have q1 : decide (x < y) = true := decide_eq_true h1
    go_enter Try.func40, Try.ntmps40
    go_wp2_with (first
      | (go_at_call 29; ((with_reducible refine ca.mono ?_); rintro e w1 ⟨rfl, rfl⟩))
      | (go_at_call 29; ((with_reducible refine cb.mono ?_); rintro e w1 ⟨rfl, rfl⟩)))
    go_ret
    exact ⟨oneB hR.out, rfl⟩
  · by_cases h2 : x = y
    · subst h2
      have hR : Hid (decide (a < b) = R) := by show _ = _; rw [hr.out]; simp
      clear hr
      have q1 : decide (x < x) = false := decide_eq_false (by omega)
      have q2 : (x == x) = true := by simp
      generalize hq : decide (a < b) = r at hR
      go_enter Try.func40, Try.ntmps40
      go_wp2_with (first
        | (go_at_call 29; ((with_reducible refine ca.mono ?_); rintro e w1 ⟨rfl, rfl⟩))
        | (go_at_call 29; ((with_reducible refine cb.mono ?_); rintro e w1 ⟨rfl, rfl⟩)))
      all_goals go_ret
      all_goals exact ⟨oneB (by first | exact hR.out | (rw [← hR.out, ← hq]; simp) | (rw [← hR.out]; simp_all)), rfl⟩
    · have hR : Hid (false = R) := by show _ = _; rw [hr.out, decide_eq_false h1, decide_eq_false h2]; rfl
      clear hr
      have q1 : decide (x < y) = false := decide_eq_false h1
      have q2 : (x == y) = false := beq_no' h2
      go_enter Try.func40, Try.ntmps40
      go_wp2_with (first
        | (go_at_call 29; ((with_reducible refine ca.mono ?_); rintro e w1 ⟨rfl, rfl⟩))
        | (go_at_call 29; ((with_reducible refine cb.mono ?_); rintro e w1 ⟨rfl, rfl⟩)))
      go_ret
      exact ⟨oneB hR.out, rfl⟩
end Go.Proofs.Ytmamecchphockaa.Lt
