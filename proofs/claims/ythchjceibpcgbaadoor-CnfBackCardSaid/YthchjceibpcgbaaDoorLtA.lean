/-
  What is proved: literals, variables, their order: the program's and the document's small calls.
-/
import Derived.Test.YthchjceibpcgbaaDoorLtM
import Derived.Test.YthchjceibpcgbaaDoorLibO
import Derived.Test.YthchjceibpcgbaaDoorLibE
import Derived.ArgAppend
namespace Go.Proofs.YthchjceibpcgbaaDoor.Lt
open Go.RowKit L
set_option linter.unusedVariables false
set_option linter.unusedSimpArgs false

theorem literal_any (x : Int) (w : World) : Calls Tryd.prog 27 #[.int .i64 x] w fun e w' => e = .returned (.bool (isL x)) ∧ w = w' := by
  have hr : Hid (isL x = (x != 0 && x != -9223372036854775808)) := rfl
  generalize isL x = R at *
  cases h1 : (x != 0)
  · have hR : Hid (false = R) := by show _ = _; rw [hr.out, h1]; rfl
    clear hr
    go_enter Tryd.func27, Tryd.ntmps27
    go_wp2
    go_ret
    exact ⟨oneB hR.out, rfl⟩
  · cases h2 : (x != -9223372036854775808)
    · have hR : Hid (false = R) := by show _ = _; rw [hr.out, h1, h2]; rfl
      clear hr
      go_enter Tryd.func27, Tryd.ntmps27
      go_wp2
      go_ret
      exact ⟨oneB hR.out, rfl⟩
    · have hR : Hid (true = R) := by show _ = _; rw [hr.out, h1, h2]; rfl
      clear hr
      go_enter Tryd.func27, Tryd.ntmps27
      go_wp2
      go_ret
      exact ⟨oneB hR.out, rfl⟩
theorem is_any (x : Int) (w : World) : Calls Tryd.prog 30 #[.int .i64 x] w fun e w' => e = .returned (.bool (isL x)) ∧ w = w' := by
  have hr : Hid (isL x = (x != 0 && x != -9223372036854775808)) := rfl
  generalize isL x = R at *
  cases h1 : (x != 0)
  · have hR : Hid (false = R) := by show _ = _; rw [hr.out, h1]; rfl
    clear hr
    go_enter Tryd.func30, Tryd.ntmps30
    go_wp2
    go_ret
    exact ⟨oneB hR.out, rfl⟩
  · cases h2 : (x != -9223372036854775808)
    · have hR : Hid (false = R) := by show _ = _; rw [hr.out, h1, h2]; rfl
      clear hr
      go_enter Tryd.func30, Tryd.ntmps30
      go_wp2
      go_ret
      exact ⟨oneB hR.out, rfl⟩
    · have hR : Hid (true = R) := by show _ = _; rw [hr.out, h1, h2]; rfl
      clear hr
      go_enter Tryd.func30, Tryd.ntmps30
      go_wp2
      go_ret
      exact ⟨oneB hR.out, rfl⟩
theorem w64 (n : Int) : wrap64 n = IntKind.i64.wrap n := by
  simp [IntKind.wrap, IntKind.bits, IntKind.signed, wrap64]
  split <;> omega
theorem variable_any (x : Int) (w : World) : Calls Tryd.prog 28 #[.int .i64 x] w fun e w' => e = .returned (.int .i64 (vr x)) ∧ w = w' := by
  have hr : Hid (vr x = if x < wrap64 (-x) then wrap64 (-x) else x) := by show _ = _; rw [w64]; rfl
  generalize vr x = R at *
  go_enter Tryd.func28, Tryd.ntmps28
  go_wp2
  all_goals go_ret
  all_goals exact ⟨L.one (by rw [hr.out]; split <;> omega), rfl⟩
theorem Of_any (x : Int) (w : World) (h : R64 x) : Calls Tryd.prog 31 #[.int .i64 x] w fun e w' => e = .returned (.int .i64 (vr x)) ∧ w = w' := by
  have hr : Hid ((if x < 0 then IntKind.i64.wrap (-x) else x) = vr x) := vr_of h
  generalize vr x = R at *
  clear h
  by_cases h1 : x < 0
  · have hR : Hid (wrap64 (-x) = R) := by show _ = _; rw [← hr.out, if_pos h1, w64]
    clear hr
    have q1 : decide (x < 0) = true := decide_eq_true h1
    go_enter Tryd.func31, Tryd.ntmps31
    go_wp2
    go_ret
    exact ⟨L.one hR.out, rfl⟩
  · have hR : Hid (x = R) := by show _ = _; rw [← hr.out, if_neg h1]
    clear hr
    have q1 : decide (x < 0) = false := decide_eq_false h1
    go_enter Tryd.func31, Tryd.ntmps31
    go_wp2
    go_ret
    exact ⟨L.one hR.out, rfl⟩
def cmpI (x y : Int) : Int := if x < y then -1 else if y < x then 1 else 0
/-- the literals' order as the program's comparison tells it -/
def cf (a b : Int) : Int := if cmpI (vr a) (vr b) ≠ 0 then cmpI (vr a) (vr b) else cmpI a b
theorem cf_ahd (a b : Int) : decide (cf a b < 0) = ahd a b := by
  unfold cf cmpI ahd
  rw [Bool.eq_iff_iff, decide_eq_true_eq]
  simp only [Bool.or_eq_true, Bool.and_eq_true, decide_eq_true_eq]
  constructor
  · intro h; repeat' split at h
    all_goals omega
  · intro h; repeat' split
    all_goals omega
end Go.Proofs.YthchjceibpcgbaaDoor.Lt
