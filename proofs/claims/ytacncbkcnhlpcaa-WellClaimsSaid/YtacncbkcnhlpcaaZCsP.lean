/-
  What is proved: the first error of one part of a claim, whose terms have few parts, as package claim tells it.
-/
import Derived.Test.YtacncbkcnhlpcaaZCsV
import Derived.Test.YtacncbkcnhlpcaaZRgtQ
namespace Go.Proofs.Ytacncbkcnhlpcaa.Cs
open Go.RowKit L T C
set_option linter.unusedVariables false
set_option linter.unusedSimpArgs false

theorem takesC_any (op : Int) (nt ns : Nat) (w : World) :
    Calls Try.prog 89 #[.int .i64 op, .int .i64 nt, .int .i64 ns] w fun e w' => e = .returned (.bool (!arityC op nt ns)) ∧ w = w' := by
  have hop : op = 3 ∨ (op = 4 ∨ op = 5) ∨ (op = 6 ∨ op = 11 ∨ op = 12) ∨ (op = 7 ∨ op = 8 ∨ op = 9 ∨ op = 10) ∨ (op ≠ 3 ∧ op ≠ 4 ∧ op ≠ 5 ∧ op ≠ 6 ∧ op ≠ 11 ∧ op ≠ 12 ∧ op ≠ 7 ∧ op ≠ 8 ∧ op ≠ 9 ∧ op ≠ 10) := by omega
  rcases hop with rfl | h | h | h | ⟨n3, n4, n5, n6, n11, n12, n7, n8, n9, n10⟩
  · by_cases ha : nt ≤ 8
    · by_cases hb : ns = 0
      · have hr : Hid (true = (!arityC 3 nt ns)) := Lib.hid (by unfold arityC; simp [hb]; omega)
        have ha1 : (nt : Int) ≤ 8 := by omega
        have hb1 : ((ns : Int) == 0) = true := by simp [hb]
        generalize (!arityC 3 nt ns) = R at *
        clear ha hb
        go_enter Try.func89, Try.ntmps89
        go_wp2
        go_ret
        exact ⟨oneB hr.out, rfl⟩
      · have hr : Hid (false = (!arityC 3 nt ns)) := Lib.hid (by unfold arityC; simp; omega)
        have ha1 : (nt : Int) ≤ 8 := by omega
        have hb1 : ((ns : Int) == 0) = false := by simp; omega
        generalize (!arityC 3 nt ns) = R at *
        clear ha hb
        go_enter Try.func89, Try.ntmps89
        go_wp2
        go_ret
        exact ⟨oneB hr.out, rfl⟩
    · have hr : Hid (false = (!arityC 3 nt ns)) := Lib.hid (by unfold arityC; simp; omega)
      have ha1 : ¬ (nt : Int) ≤ 8 := by omega
      generalize (!arityC 3 nt ns) = R at *
      clear ha
      go_enter Try.func89, Try.ntmps89
      go_wp2
      go_ret
      exact ⟨oneB hr.out, rfl⟩
  · have hr : Hid ((decide (nt = 2) && decide (ns = 0)) = (!arityC op nt ns)) := Lib.hid (by rcases h with rfl | rfl <;> (unfold arityC wantT wantS; rw [Bool.eq_iff_iff]; simp [bne]))
    generalize (!arityC op nt ns) = R at *
    by_cases ha : nt = 2
    · have ha1 : ((nt : Int) == 2) = true := by simp [ha]
      by_cases hb : ns = 0
      · have hb1 : ((ns : Int) == 0) = true := by simp [hb]
        have hr2 : Hid (true = R) := Lib.hid (by rw [← hr.out, ha, hb]; rfl)
        clear ha hb hr
        rcases h with rfl | rfl <;>
        (go_enter Try.func89, Try.ntmps89
         go_wp2
         go_ret
         exact ⟨oneB hr2.out, rfl⟩)
      · have hb1 : ((ns : Int) == 0) = false := by simp; omega
        have hr2 : Hid (false = R) := Lib.hid (by rw [← hr.out]; simp [hb])
        clear ha hb hr
        rcases h with rfl | rfl <;>
        (go_enter Try.func89, Try.ntmps89
         go_wp2
         go_ret
         exact ⟨oneB hr2.out, rfl⟩)
    · have ha1 : ((nt : Int) == 2) = false := by simp; omega
      have hr2 : Hid (false = R) := Lib.hid (by rw [← hr.out]; simp [ha])
      clear ha hr
      rcases h with rfl | rfl <;>
      (go_enter Try.func89, Try.ntmps89
       go_wp2
       go_ret
       exact ⟨oneB hr2.out, rfl⟩)
  · have hr : Hid ((decide (nt = 0) && decide (ns = 1)) = (!arityC op nt ns)) := Lib.hid (by rcases h with rfl | rfl | rfl <;> (unfold arityC wantT wantS; rw [Bool.eq_iff_iff]; simp [bne]))
    generalize (!arityC op nt ns) = R at *
    by_cases ha : nt = 0
    · have ha1 : ((nt : Int) == 0) = true := by simp [ha]
      by_cases hb : ns = 1
      · have hb1 : ((ns : Int) == 1) = true := by simp [hb]
        have hr2 : Hid (true = R) := Lib.hid (by rw [← hr.out, ha, hb]; rfl)
        clear ha hb hr
        rcases h with rfl | rfl | rfl <;>
        (go_enter Try.func89, Try.ntmps89
         go_wp2
         go_ret
         exact ⟨oneB hr2.out, rfl⟩)
      · have hb1 : ((ns : Int) == 1) = false := by simp; omega
        have hr2 : Hid (false = R) := Lib.hid (by rw [← hr.out]; simp [hb])
        clear ha hb hr
        rcases h with rfl | rfl | rfl <;>
        (go_enter Try.func89, Try.ntmps89
         go_wp2
         go_ret
         exact ⟨oneB hr2.out, rfl⟩)
    · have ha1 : ((nt : Int) == 0) = false := by simp; omega
      have hr2 : Hid (false = R) := Lib.hid (by rw [← hr.out]; simp [ha])
      clear ha hr
      rcases h with rfl | rfl | rfl <;>
      (go_enter Try.func89, Try.ntmps89
       go_wp2
       go_ret
       exact ⟨oneB hr2.out, rfl⟩)
  · have hr : Hid ((decide (nt = 0) && decide (ns = 2)) = (!arityC op nt ns)) := Lib.hid (by rcases h with rfl | rfl | rfl | rfl <;> (unfold arityC wantT wantS; rw [Bool.eq_iff_iff]; simp [bne]))
    generalize (!arityC op nt ns) = R at *
    by_cases ha : nt = 0
    · have ha1 : ((nt : Int) == 0) = true := by simp [ha]
      by_cases hb : ns = 2
      · have hb1 : ((ns : Int) == 2) = true := by simp [hb]
        have hr2 : Hid (true = R) := Lib.hid (by rw [← hr.out, ha, hb]; rfl)
        clear ha hb hr
        rcases h with rfl | rfl | rfl | rfl <;>
        (go_enter Try.func89, Try.ntmps89
         go_wp2
         go_ret
         exact ⟨oneB hr2.out, rfl⟩)
      · have hb1 : ((ns : Int) == 2) = false := by simp; omega
        have hr2 : Hid (false = R) := Lib.hid (by rw [← hr.out]; simp [hb])
        clear ha hb hr
        rcases h with rfl | rfl | rfl | rfl <;>
        (go_enter Try.func89, Try.ntmps89
         go_wp2
         go_ret
         exact ⟨oneB hr2.out, rfl⟩)
    · have ha1 : ((nt : Int) == 0) = false := by simp; omega
      have hr2 : Hid (false = R) := Lib.hid (by rw [← hr.out]; simp [ha])
      clear ha hr
      rcases h with rfl | rfl | rfl | rfl <;>
      (go_enter Try.func89, Try.ntmps89
       go_wp2
       go_ret
       exact ⟨oneB hr2.out, rfl⟩)
  · have hr : Hid ((decide (nt = 0) && decide (ns = 0)) = (!arityC op nt ns)) := Lib.hid (by
      have e1 : wantT op = 0 := by unfold wantT; rw [if_neg (by omega)]
      have e2 : wantS op = 0 := by unfold wantS; rw [if_neg (by omega), if_neg (by omega)]
      unfold arityC
      rw [if_neg n3, e1, e2]
      rw [Bool.eq_iff_iff]; simp [bne])
    generalize (!arityC op nt ns) = R at *
    have q3 := beq_no' n3
    have q4 := beq_no' n4
    have q5 := beq_no' n5
    have q6 := beq_no' n6
    have q11 := beq_no' n11
    have q12 := beq_no' n12
    have q7 := beq_no' n7
    have q8 := beq_no' n8
    have q9 := beq_no' n9
    have q10 := beq_no' n10
    clear n3 n4 n5 n6 n11 n12 n7 n8 n9 n10
    by_cases ha : nt = 0
    · have ha1 : ((nt : Int) == 0) = true := by simp [ha]
      by_cases hb : ns = 0
      · have hb1 : ((ns : Int) == 0) = true := by simp [hb]
        have hr2 : Hid (true = R) := Lib.hid (by rw [← hr.out, ha, hb]; rfl)
        clear ha hb hr
        go_enter Try.func89, Try.ntmps89
        go_wp2
        go_ret
        exact ⟨oneB hr2.out, rfl⟩
      · have hb1 : ((ns : Int) == 0) = false := by simp; omega
        have hr2 : Hid (false = R) := Lib.hid (by rw [← hr.out]; simp [hb])
        clear ha hb hr
        go_enter Try.func89, Try.ntmps89
        go_wp2
        go_ret
        exact ⟨oneB hr2.out, rfl⟩
    · have ha1 : ((nt : Int) == 0) = false := by simp; omega
      have hr2 : Hid (false = R) := Lib.hid (by rw [← hr.out]; simp [ha])
      clear ha hr
      go_enter Try.func89, Try.ntmps89
      go_wp2
      go_ret
      exact ⟨oneB hr2.out, rfl⟩
theorem bindsC_any (op : Int) (s z : ByteArray) (ks : SS) (a : Option Addr) (n c : Nat) (w : World) :
    Calls Try.prog 88 #[.agg #[.int .i64 op, .string s, .string z, .slice ks.a ks.n ks.c, .slice a n c]] w fun e w' => e = .returned (.bool (op == 11 || op == 12)) ∧ Below w.heap.size w w' := by
  obtain ⟨W2, hW2, hB2, hs2, S2⟩ := cbox1 w op s z ks a n c
  obtain ⟨s0, s1, s2, s3, s4⟩ := S2.five
  clear S2
  cases h1 : op == 11 with
  | true =>
    go_enter Try.func88, Try.ntmps88
    go_wp2
    go_ret
    exact ⟨rfl, hB2⟩
  | false =>
    cases h2 : op == 12 with
    | true =>
      go_enter Try.func88, Try.ntmps88
      go_wp2
      go_ret
      exact ⟨rfl, hB2⟩
    | false =>
      go_enter Try.func88, Try.ntmps88
      go_wp2
      go_ret
      exact ⟨rfl, hB2⟩
end Go.Proofs.Ytacncbkcnhlpcaa.Cs
