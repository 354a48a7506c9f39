/-
  What is proved: what cmp.Compare returns at int, int64, string; what cmp.Or returns for four numbers.
-/
import Derived.Test.YtelepojpnkoelaaZLibTe
namespace Go.Proofs.Ytelepojpnkoelaa.T
open Go.RowKit L
set_option linter.unusedVariables false
set_option linter.unusedSimpArgs false

theorem isNaN_int (x : Int) (w : World) : Calls Try.prog 69 #[.int .i64 x] w fun e w' => e = .returned (.bool false) ∧ w = w' := by
  go_enter Try.func69, Try.ntmps69
  go_wp2
  go_ret
  exact ⟨by simp, rfl⟩
theorem isNaN_i64 (x : Int) (w : World) : Calls Try.prog 70 #[.int .i64 x] w fun e w' => e = .returned (.bool false) ∧ w = w' := by
  go_enter Try.func70, Try.ntmps70
  go_wp2
  go_ret
  exact ⟨by simp, rfl⟩
theorem isNaN_str (x : ByteArray) (w : World) : Calls Try.prog 71 #[.string x] w fun e w' => e = .returned (.bool false) ∧ w = w' := by
  go_enter Try.func71, Try.ntmps71
  go_wp2
  go_ret
  exact ⟨by simp, rfl⟩
theorem cmp_int (x y : Int) (w : World) : Calls Try.prog 41 #[.int .i64 x, .int .i64 y] w fun e w' => e = .returned (.int .i64 (cmpI x y)) ∧ w = w' := by
  have c1 := isNaN_int x w
  have c2 := isNaN_int y w
  have hr : Hid (cmpI x y = if x < y then -1 else if y < x then 1 else 0) := rfl
  generalize cmpI x y = R at *
  by_cases h1 : x < y
  · have hR : Hid ((-1 : Int) = R) := by show _ = _; rw [hr.out, if_pos h1]
    clear hr
    go_enter Try.func41, Try.ntmps41
    go_wp2_with (first
      | (go_at_call 69; ((with_reducible refine c1.mono ?_); rintro e w1 ⟨rfl, rfl⟩))
      | (go_at_call 69; ((with_reducible refine c2.mono ?_); rintro e w1 ⟨rfl, rfl⟩)))
    go_ret
    exact ⟨one hR.out, rfl⟩
  · by_cases h2 : y < x
    · have hR : Hid ((1 : Int) = R) := by show _ = _; rw [hr.out, if_neg h1, if_pos h2]
      clear hr
      go_enter Try.func41, Try.ntmps41
      go_wp2_with (first
        | (go_at_call 69; ((with_reducible refine c1.mono ?_); rintro e w1 ⟨rfl, rfl⟩))
        | (go_at_call 69; ((with_reducible refine c2.mono ?_); rintro e w1 ⟨rfl, rfl⟩)))
      go_ret
      exact ⟨one hR.out, rfl⟩
    · have hR : Hid ((0 : Int) = R) := by show _ = _; rw [hr.out, if_neg h1, if_neg h2]
      clear hr
      go_enter Try.func41, Try.ntmps41
      go_wp2_with (first
        | (go_at_call 69; ((with_reducible refine c1.mono ?_); rintro e w1 ⟨rfl, rfl⟩))
        | (go_at_call 69; ((with_reducible refine c2.mono ?_); rintro e w1 ⟨rfl, rfl⟩)))
      go_ret
      exact ⟨one hR.out, rfl⟩
theorem cmp_i64 (x y : Int) (w : World) : Calls Try.prog 42 #[.int .i64 x, .int .i64 y] w fun e w' => e = .returned (.int .i64 (cmpI x y)) ∧ w = w' := by
  have c1 := isNaN_i64 x w
  have c2 := isNaN_i64 y w
  have hr : Hid (cmpI x y = if x < y then -1 else if y < x then 1 else 0) := rfl
  generalize cmpI x y = R at *
  by_cases h1 : x < y
  · have hR : Hid ((-1 : Int) = R) := by show _ = _; rw [hr.out, if_pos h1]
    clear hr
    go_enter Try.func42, Try.ntmps42
    go_wp2_with (first
      | (go_at_call 70; ((with_reducible refine c1.mono ?_); rintro e w1 ⟨rfl, rfl⟩))
      | (go_at_call 70; ((with_reducible refine c2.mono ?_); rintro e w1 ⟨rfl, rfl⟩)))
    go_ret
    exact ⟨one hR.out, rfl⟩
  · by_cases h2 : y < x
    · have hR : Hid ((1 : Int) = R) := by show _ = _; rw [hr.out, if_neg h1, if_pos h2]
      clear hr
      go_enter Try.func42, Try.ntmps42
      go_wp2_with (first
        | (go_at_call 70; ((with_reducible refine c1.mono ?_); rintro e w1 ⟨rfl, rfl⟩))
        | (go_at_call 70; ((with_reducible refine c2.mono ?_); rintro e w1 ⟨rfl, rfl⟩)))
      go_ret
      exact ⟨one hR.out, rfl⟩
    · have hR : Hid ((0 : Int) = R) := by show _ = _; rw [hr.out, if_neg h1, if_neg h2]
      clear hr
      go_enter Try.func42, Try.ntmps42
      go_wp2_with (first
        | (go_at_call 70; ((with_reducible refine c1.mono ?_); rintro e w1 ⟨rfl, rfl⟩))
        | (go_at_call 70; ((with_reducible refine c2.mono ?_); rintro e w1 ⟨rfl, rfl⟩)))
      go_ret
      exact ⟨one hR.out, rfl⟩
theorem less_yes {x y : ByteArray} : Go.Op.bytesLess x.toList y.toList = decide (cmpN x y = -1) := less_cmp _ _
theorem more_yes {x y : ByteArray} : Go.Op.bytesLess y.toList x.toList = decide (cmpN x y = 1) := by
  rw [less_cmp]
  have h := linN.anti x y
  have : cmpN y x = -1 ↔ cmpN x y = 1 := by omega
  exact decide_eq_decide.2 this
theorem same_yes {x y : ByteArray} : (x.toList == y.toList) = decide (cmpN x y = 0) := by
  rw [Bool.eq_iff_iff, eqS_iff, decide_eq_true_iff, linN.eq]
theorem cmp_str (x y : ByteArray) (w : World) : Calls Try.prog 43 #[.string x, .string y] w fun e w' => e = .returned (.int .i64 (cmpN x y)) ∧ w = w' := by
  have c1 := isNaN_str x w
  have c2 := isNaN_str y w
  have h1 := @less_yes x y
  have h2 := @more_yes x y
  have h3 := @same_yes x y
  rcases linN.rng x y with hc | hc | hc
  all_goals
    rw [hc] at h1 h2 h3 ⊢
    simp only [Int.reduceNeg, decide_true, Int.reduceEq, decide_false] at h1 h2 h3
    first | (have h4 : (x.toList = y.toList) = False := by simpa using h3) | (have h4 : (x.toList = y.toList) = True := by simpa using h3)
    clear hc
    go_enter Try.func43, Try.ntmps43
    go_wp2_with (first
      | (go_at_call 71; ((with_reducible refine c1.mono ?_); rintro e w1 ⟨rfl, rfl⟩))
      | (go_at_call 71; ((with_reducible refine c2.mono ?_); rintro e w1 ⟨rfl, rfl⟩)))
    go_ret
    exact ⟨rfl, rfl⟩
/-- four numbers in a row -/
def Four (w : World) (g : Nat) (x0 x1 x2 x3 : Int) : Prop := Blk w g #[.int .i64 x0, .int .i64 x1, .int .i64 x2, .int .i64 x3] 3
theorem Four.cells {w : World} {g : Nat} {x0 x1 x2 x3 : Int} (h : Four w g x0 x1 x2 x3) : w.cell? ⟨g, 0, none⟩ = some (.int .i64 x0) ∧ w.cell? ⟨g, 1, none⟩ = some (.int .i64 x1) ∧ w.cell? ⟨g, 2, none⟩ = some (.int .i64 x2) ∧ w.cell? ⟨g, 3, none⟩ = some (.int .i64 x3) := ⟨Blk.cell h 0, Blk.cell h 1, Blk.cell h 2, Blk.cell h 3⟩
theorem or_four (g : Nat) (x0 x1 x2 x3 : Int) (w : World) (h : Four w g x0 x1 x2 x3) :
    Calls Try.prog 40 #[.slice (some ⟨g, 0, none⟩) 4 4] w fun e w' => e = .returned (.int .i64 (lex x0 (lex x1 (lex x2 x3)))) ∧ w = w' := by
  obtain ⟨c0, c1, c2, c3⟩ := h.cells
  have hr : Hid (lex x0 (lex x1 (lex x2 x3)) = if x0 ≠ 0 then x0 else if x1 ≠ 0 then x1 else if x2 ≠ 0 then x2 else x3) := rfl
  generalize lex x0 (lex x1 (lex x2 x3)) = R at *
  clear h
  by_cases h0 : x0 = 0
  · subst h0
    by_cases h1 : x1 = 0
    · subst h1
      by_cases h2 : x2 = 0
      · subst h2
        by_cases h3 : x3 = 0
        · subst h3
          have hR : Hid ((0 : Int) = R) := by show _ = _; rw [hr.out]; simp
          clear hr
          go_enter Try.func40, Try.ntmps40
          go_wp2
          refine wp_loop_rounds 5 ?_
          rw [rounds_succ]; go_wp2
          rw [rounds_succ]; go_wp2
          rw [rounds_succ]; go_wp2
          rw [rounds_succ]; go_wp2
          rw [rounds_succ]; go_wp2
          go_ret
          exact ⟨one hR.out, rfl⟩
        · have hR : Hid (x3 = R) := by show _ = _; rw [hr.out]; simp
          have hb : (x3 != 0) = true := by simpa using h3
          clear hr
          go_enter Try.func40, Try.ntmps40
          go_wp2
          refine wp_loop_rounds 4 ?_
          rw [rounds_succ]; go_wp2
          rw [rounds_succ]; go_wp2
          rw [rounds_succ]; go_wp2
          rw [rounds_succ]; go_wp2
          go_ret
          exact ⟨one hR.out, rfl⟩
      · have hR : Hid (x2 = R) := by show _ = _; rw [hr.out]; simp [h2]
        have hb : (x2 != 0) = true := by simpa using h2
        clear hr
        go_enter Try.func40, Try.ntmps40
        go_wp2
        refine wp_loop_rounds 3 ?_
        rw [rounds_succ]; go_wp2
        rw [rounds_succ]; go_wp2
        rw [rounds_succ]; go_wp2
        go_ret
        exact ⟨one hR.out, rfl⟩
    · have hR : Hid (x1 = R) := by show _ = _; rw [hr.out]; simp [h1]
      have hb : (x1 != 0) = true := by simpa using h1
      clear hr
      go_enter Try.func40, Try.ntmps40
      go_wp2
      refine wp_loop_rounds 2 ?_
      rw [rounds_succ]; go_wp2
      rw [rounds_succ]; go_wp2
      go_ret
      exact ⟨one hR.out, rfl⟩
  · have hR : Hid (x0 = R) := by show _ = _; rw [hr.out]; simp [h0]
    have hb : (x0 != 0) = true := by simpa using h0
    clear hr
    go_enter Try.func40, Try.ntmps40
    go_wp2
    refine wp_loop_rounds 1 ?_
    rw [rounds_succ]; go_wp2
    go_ret
    exact ⟨one hR.out, rfl⟩
end Go.Proofs.Ytelepojpnkoelaa.T
