/-
  What is proved: what the form of a term's part allows (plain mathematics).
  What is proved: package term's errors of one part, whatever its Args are.
-/
import Derived.Test.YtcigeclnbhcohaaGreatDoorBR
import Derived.Test.YtcigeclnbhcohaaGreatDoorBC
import Derived.Test.YtcigeclnbhcohaaGreatDoorBL
namespace Go.Proofs.YtcigeclnbhcohaaGreatDoor.C
open Go.RowKit L T
set_option linter.unusedVariables false
set_option linter.unusedSimpArgs false

theorem form_no {o : Int} {s : ByteArray} {n : Int} (h : formB o s n = false) : 1 ≤ o ∧ o ≤ 8 ∧ (o ≠ 1 → o ≠ 3 → s.toList.isEmpty = true) ∧ (o ≠ 2 → o ≠ 4 → o ≠ 8 → n = 0) ∧ (o = 2 → 0 ≤ n) := by
  simp only [formB, Bool.or_eq_false_iff, decide_eq_false_iff_not, Bool.and_eq_false_iff, beq_eq_false_iff_ne, bne_eq_false_iff_eq, Bool.not_eq_false'] at h
  obtain ⟨⟨h1, h2, h3⟩, h4, h5⟩ := h
  refine ⟨by omega, by omega, fun a b => ?_, fun a b c => ?_, fun a => ?_⟩
  · rcases h5 with (h | h) | h
    · exact absurd h a
    · exact absurd h b
    · exact h
  · rcases h4 with (h | h | h) | h
    · exact absurd h a
    · exact absurd h b
    · exact absurd h c
    · exact h
  · rcases h3 with h | h
    · exact absurd a h
    · omega
end Go.Proofs.YtcigeclnbhcohaaGreatDoor.C
namespace Go.Proofs.YtcigeclnbhcohaaGreatDoor.C
open Go.RowKit Go.Shelf L T
set_option linter.unusedVariables false
set_option linter.unusedSimpArgs false

def pE (o : Int) (s : ByteArray) (z : Int) (n : Nat) : Int := if formB o s z = true then 7 else if arityB o n = true then 12 else 0
def firstE : List Tm → Int
  | [] => 0
  | t :: l => if pE (opT t) (nameT t) (numT t) (argsT t).length ≠ 0 then pE (opT t) (nameT t) (numT t) (argsT t).length else firstE l
theorem firstE_app (l m : List Tm) : firstE (l ++ m) = if firstE l ≠ 0 then firstE l else firstE m := by
  induction l with
  | nil => rw [List.nil_append, firstE, if_neg (by simp)]
  | cons t l ih =>
    rw [List.cons_append, firstE, firstE, ih]
    by_cases h : pE (opT t) (nameT t) (numT t) (argsT t).length ≠ 0
    · rw [if_pos h, if_pos h, if_pos h]
    · rw [if_neg h, if_neg h]
mutual
theorem partE_first : ∀ t : Tm, partE t = firstE (all t)
  | .mk o s z l => by
    have h := partsE_first l
    rw [partE, all, firstE]
    unfold pE
    show _ = if (if formB o s z = true then (7 : Int) else if arityB o l.length = true then 12 else 0) ≠ 0 then _ else _
    by_cases h1 : formB o s z = true
    · rw [if_pos h1, if_pos h1, if_pos (by decide)]
      show _ = if formB o s z = true then (7 : Int) else _
      rw [if_pos h1]
    · rw [if_neg h1, if_neg h1]
      by_cases h2 : arityB o l.length = true
      · rw [if_pos h2, if_pos h2, if_pos (by decide)]
        show _ = if formB o s z = true then (7 : Int) else if arityB o l.length = true then 12 else 0
        rw [if_neg h1, if_pos h2]
      · rw [if_neg h2, if_neg h2, if_neg (by decide), h]
theorem partsE_first : ∀ l : List Tm, partsE l = firstE (alls l)
  | [] => rfl
  | t :: l => by
    have h1 := partE_first t
    have h2 := partsE_first l
    rw [partsE, alls, firstE_app, h1, h2]
end
set_option maxHeartbeats 4000000 in
theorem takesT_any (op : Int) (n : Nat) (w : World) (hn : n ≤ 9223372036854775807) :
    Calls Tryz.prog 90 #[.int .i64 op, .int .i64 n] w fun e w' => e = .returned (.bool (!arityB op n)) ∧ w = w' := by
  have hop : op = 5 ∨ op = 6 ∨ op = 7 ∨ op = 8 ∨ op = 3 ∨ (op ≠ 5 ∧ op ≠ 6 ∧ op ≠ 7 ∧ op ≠ 8 ∧ op ≠ 3) := by omega
  have e2 : ∀ k : Nat, k ≤ 8 → (!(decide ((0 : Int) ≤ (k : Int)) && ((n : Int) != (k : Int)) || decide (8 < n))) = decide (n = k) := fun k hk => by
    by_cases h : n = k
    · subst h; simp; omega
    · have : ((n : Int) != (k : Int)) = true := bne_iff_ne.2 (by omega)
      rw [this]; simp [h]
  have e0 := e2 0 (by omega)
  have e1 := e2 1 (by omega)
  have e22 := e2 2 (by omega)
  rcases hop with rfl | rfl | rfl | rfl | rfl | ⟨n5, n6, n7, n8, n3⟩
  · rw [show (!arityB 5 n) = decide (n = 2) from e22]
    have hR : Hid (decide ((n : Int) = 2) = decide (n = 2)) := Lib.hid (by rw [decide_eq_decide]; omega)
    clear e0 e1 e22 e2
    generalize decide (n = 2) = R at *
    go_enter Tryz.func90, Tryz.ntmps90
    go_wp2
    go_ret
    exact ⟨oneB (by first | exact hR.out | (rw [← hR.out]; first | rfl | (simp; done))), rfl⟩
  · rw [show (!arityB 6 n) = decide (n = 2) from e22]
    have hR : Hid (decide ((n : Int) = 2) = decide (n = 2)) := Lib.hid (by rw [decide_eq_decide]; omega)
    clear e0 e1 e22 e2
    generalize decide (n = 2) = R at *
    go_enter Tryz.func90, Tryz.ntmps90
    go_wp2
    go_ret
    exact ⟨oneB (by first | exact hR.out | (rw [← hR.out]; first | rfl | (simp; done))), rfl⟩
  · rw [show (!arityB 7 n) = decide (n = 1) from e1]
    have hR : Hid (decide ((n : Int) = 1) = decide (n = 1)) := Lib.hid (by rw [decide_eq_decide]; omega)
    clear e0 e1 e22 e2
    generalize decide (n = 1) = R at *
    go_enter Tryz.func90, Tryz.ntmps90
    go_wp2
    go_ret
    exact ⟨oneB (by first | exact hR.out | (rw [← hR.out]; first | rfl | (simp; done))), rfl⟩
  · rw [show (!arityB 8 n) = decide (n = 1) from e1]
    have hR : Hid (decide ((n : Int) = 1) = decide (n = 1)) := Lib.hid (by rw [decide_eq_decide]; omega)
    clear e0 e1 e22 e2
    generalize decide (n = 1) = R at *
    go_enter Tryz.func90, Tryz.ntmps90
    go_wp2
    go_ret
    exact ⟨oneB (by first | exact hR.out | (rw [← hR.out]; first | rfl | (simp; done))), rfl⟩
  · have h3 : (!arityB 3 n) = decide (n ≤ 8) := by
      have e : arityB 3 n = decide (8 < n) := by simp [arityB, argsI]
      rw [e, ← decide_not, decide_eq_decide]; omega
    rw [h3]
    have hR : Hid (decide ((n : Int) ≤ 8) = decide (n ≤ 8)) := Lib.hid (by rw [decide_eq_decide]; omega)
    clear e0 e1 e22 e2 h3
    generalize decide (n ≤ 8) = R at *
    go_enter Tryz.func90, Tryz.ntmps90
    go_wp2
    go_ret
    exact ⟨oneB (by first | exact hR.out | (rw [← hR.out]; first | rfl | (simp; done))), rfl⟩
  · have h0 : (!arityB op n) = decide (n = 0) := by
      have ea : argsI op = 0 := by unfold argsI; rw [if_neg n3, if_neg (by omega), if_neg (by omega)]
      unfold arityB; rw [ea]; exact e0
    rw [h0]
    have hR : Hid (decide ((n : Int) = 0) = decide (n = 0)) := Lib.hid (by rw [decide_eq_decide]; omega)
    have q5 := beq_no' n5
    have q6 := beq_no' n6
    have q7 := beq_no' n7
    have q8 := beq_no' n8
    have q3 := beq_no' n3
    clear e0 e1 e22 e2 h0 n5 n6 n7 n8 n3
    generalize decide (n = 0) = R at *
    go_enter Tryz.func90, Tryz.ntmps90
    go_wp2
    go_ret
    exact ⟨oneB (by first | exact hR.out | (rw [← hR.out]; first | rfl | (simp; done))), rfl⟩
set_option maxRecDepth 100000 in
set_option maxHeartbeats 16000000 in
theorem partErrorT_any (op : Int) (nm : ByteArray) (nu : Int) (a : Option Addr) (n c : Nat) (w : World) (hn : n ≤ 9223372036854775807) :
    Calls Tryz.prog 55 #[.agg #[.int .i64 op, .string nm, .int .i64 nu, .slice a n c]] w fun e w' => e = .returned (.int .i64 (pE op nm nu n)) ∧ Below w.heap.size w w' := by
  obtain ⟨W2, hW2, hB2, hs2, S2⟩ := box1 w op nm nu a n c
  have hR : pE op nm nu n = if formB op nm nu = true then 7 else if arityB op n = true then 12 else 0 := rfl
  have cK := fun (w' : World) => takesT_any op n w' hn
  generalize pE op nm nu n = R at *
  obtain ⟨s0, s1, s2, s3⟩ := S2.four
  clear S2 hs2
  by_cases hform : formB op nm nu = true
  · have hR7 : Hid ((7 : Int) = R) := Lib.hid (by rw [hR, if_pos hform])
    clear hR cK
    have hop : op < 1 ∨ 8 < op ∨ op = 1 ∨ op = 2 ∨ op = 3 ∨ op = 4 ∨ op = 5 ∨ op = 6 ∨ op = 7 ∨ op = 8 := by omega
    rcases hop with h | h | rfl | rfl | rfl | rfl | rfl | rfl | rfl | rfl
    · have q0 : decide (op < 1) = true := decide_eq_true h
      have q1 : (op == 1) = false := beq_no' (by omega)
      have q2 : (op == 2) = false := beq_no' (by omega)
      have q3 : (op == 3) = false := beq_no' (by omega)
      have q4 : (op == 4) = false := beq_no' (by omega)
      have q8 : (op == 8) = false := beq_no' (by omega)
      clear hform h
      go_enter Tryz.func55, Tryz.ntmps55
      go_wp2
      go_ret
      exact ⟨one hR7.out, hB2⟩
    · have q0 : decide (op < 1) = false := decide_eq_false (by omega)
      have q9 : decide (op > 8) = true := decide_eq_true h
      have q1 : (op == 1) = false := beq_no' (by omega)
      have q2 : (op == 2) = false := beq_no' (by omega)
      have q3 : (op == 3) = false := beq_no' (by omega)
      have q4 : (op == 4) = false := beq_no' (by omega)
      have q8 : (op == 8) = false := beq_no' (by omega)
      clear hform h
      go_enter Tryz.func55, Tryz.ntmps55
      go_wp2
      go_ret
      exact ⟨one hR7.out, hB2⟩
    all_goals
      rcases hE : nm.toList.isEmpty with _ | _
      all_goals
        rcases Int.lt_trichotomy nu 0 with hz | rfl | hz
        all_goals
          try (have z1 : (nu != 0) = true := bne_iff_ne.2 (by omega))
          try (first | (have z2 : decide (nu < 0) = true := decide_eq_true hz) | (have z2 : decide (nu < 0) = false := decide_eq_false (by omega)))
          try (clear hz)
          first
            | (exfalso; revert hform; simp only [formB]; simp_all; done)
            | (clear hform
               go_enter Tryz.func55, Tryz.ntmps55
               go_wp2
               go_ret
               exact ⟨one hR7.out, hB2⟩)
  · have hf := form_no (Bool.not_eq_true _ ▸ hform)
    rw [if_neg hform] at hR
    clear hform
    obtain ⟨hop1, hop8, hE, hz, h2⟩ := hf
    have hop : op = 1 ∨ op = 2 ∨ op = 3 ∨ op = 4 ∨ op = 5 ∨ op = 6 ∨ op = 7 ∨ op = 8 := by omega
    clear hop1 hop8
    rcases hop with rfl | rfl | rfl | rfl | rfl | rfl | rfl | rfl
    · -- op 1
      clear hE
      obtain rfl := hz (by omega) (by omega) (by omega)
      clear h2
      cases har : arityB 1 n with
      | false =>
        rw [har] at cK
        rw [har, if_neg (by simp)] at hR
        have hr : Hid ((0 : Int) = R) := Lib.hid hR.symm
        clear hR har
        go_enter Tryz.func55, Tryz.ntmps55
        go_wp2_with (go_at_call 90; ((with_reducible refine (cK _).mono ?_); rintro e w1 ⟨rfl, rfl⟩))
        all_goals go_ret
        all_goals exact ⟨one hr.out, hB2⟩
      | true =>
        rw [har] at cK
        rw [har, if_pos rfl] at hR
        have hr : Hid ((12 : Int) = R) := Lib.hid hR.symm
        clear hR har
        go_enter Tryz.func55, Tryz.ntmps55
        go_wp2_with (go_at_call 90; ((with_reducible refine (cK _).mono ?_); rintro e w1 ⟨rfl, rfl⟩))
        all_goals go_ret
        all_goals exact ⟨one hr.out, hB2⟩
    · -- op 2
      have hE := hE (by omega) (by omega)
      have z2 : decide (nu < 0) = false := decide_eq_false (by have := h2 rfl; omega)
      clear hz h2
      cases har : arityB 2 n with
      | false =>
        rw [har] at cK
        rw [har, if_neg (by simp)] at hR
        have hr : Hid ((0 : Int) = R) := Lib.hid hR.symm
        clear hR har
        go_enter Tryz.func55, Tryz.ntmps55
        go_wp2_with (go_at_call 90; ((with_reducible refine (cK _).mono ?_); rintro e w1 ⟨rfl, rfl⟩))
        all_goals go_ret
        all_goals exact ⟨one hr.out, hB2⟩
      | true =>
        rw [har] at cK
        rw [har, if_pos rfl] at hR
        have hr : Hid ((12 : Int) = R) := Lib.hid hR.symm
        clear hR har
        go_enter Tryz.func55, Tryz.ntmps55
        go_wp2_with (go_at_call 90; ((with_reducible refine (cK _).mono ?_); rintro e w1 ⟨rfl, rfl⟩))
        all_goals go_ret
        all_goals exact ⟨one hr.out, hB2⟩
    · -- op 3
      clear hE
      obtain rfl := hz (by omega) (by omega) (by omega)
      clear h2
      cases har : arityB 3 n with
      | false =>
        rw [har] at cK
        rw [har, if_neg (by simp)] at hR
        have hr : Hid ((0 : Int) = R) := Lib.hid hR.symm
        clear hR har
        go_enter Tryz.func55, Tryz.ntmps55
        go_wp2_with (go_at_call 90; ((with_reducible refine (cK _).mono ?_); rintro e w1 ⟨rfl, rfl⟩))
        all_goals go_ret
        all_goals exact ⟨one hr.out, hB2⟩
      | true =>
        rw [har] at cK
        rw [har, if_pos rfl] at hR
        have hr : Hid ((12 : Int) = R) := Lib.hid hR.symm
        clear hR har
        go_enter Tryz.func55, Tryz.ntmps55
        go_wp2_with (go_at_call 90; ((with_reducible refine (cK _).mono ?_); rintro e w1 ⟨rfl, rfl⟩))
        all_goals go_ret
        all_goals exact ⟨one hr.out, hB2⟩
    · -- op 4
      have hE := hE (by omega) (by omega)
      clear hz h2
      cases har : arityB 4 n with
      | false =>
        rw [har] at cK
        rw [har, if_neg (by simp)] at hR
        have hr : Hid ((0 : Int) = R) := Lib.hid hR.symm
        clear hR har
        go_enter Tryz.func55, Tryz.ntmps55
        go_wp2_with (go_at_call 90; ((with_reducible refine (cK _).mono ?_); rintro e w1 ⟨rfl, rfl⟩))
        all_goals go_ret
        all_goals exact ⟨one hr.out, hB2⟩
      | true =>
        rw [har] at cK
        rw [har, if_pos rfl] at hR
        have hr : Hid ((12 : Int) = R) := Lib.hid hR.symm
        clear hR har
        go_enter Tryz.func55, Tryz.ntmps55
        go_wp2_with (go_at_call 90; ((with_reducible refine (cK _).mono ?_); rintro e w1 ⟨rfl, rfl⟩))
        all_goals go_ret
        all_goals exact ⟨one hr.out, hB2⟩
    · -- op 5
      have hE := hE (by omega) (by omega)
      obtain rfl := hz (by omega) (by omega) (by omega)
      clear h2
      cases har : arityB 5 n with
      | false =>
        rw [har] at cK
        rw [har, if_neg (by simp)] at hR
        have hr : Hid ((0 : Int) = R) := Lib.hid hR.symm
        clear hR har
        go_enter Tryz.func55, Tryz.ntmps55
        go_wp2_with (go_at_call 90; ((with_reducible refine (cK _).mono ?_); rintro e w1 ⟨rfl, rfl⟩))
        all_goals go_ret
        all_goals exact ⟨one hr.out, hB2⟩
      | true =>
        rw [har] at cK
        rw [har, if_pos rfl] at hR
        have hr : Hid ((12 : Int) = R) := Lib.hid hR.symm
        clear hR har
        go_enter Tryz.func55, Tryz.ntmps55
        go_wp2_with (go_at_call 90; ((with_reducible refine (cK _).mono ?_); rintro e w1 ⟨rfl, rfl⟩))
        all_goals go_ret
        all_goals exact ⟨one hr.out, hB2⟩
    · -- op 6
      have hE := hE (by omega) (by omega)
      obtain rfl := hz (by omega) (by omega) (by omega)
      clear h2
      cases har : arityB 6 n with
      | false =>
        rw [har] at cK
        rw [har, if_neg (by simp)] at hR
        have hr : Hid ((0 : Int) = R) := Lib.hid hR.symm
        clear hR har
        go_enter Tryz.func55, Tryz.ntmps55
        go_wp2_with (go_at_call 90; ((with_reducible refine (cK _).mono ?_); rintro e w1 ⟨rfl, rfl⟩))
        all_goals go_ret
        all_goals exact ⟨one hr.out, hB2⟩
      | true =>
        rw [har] at cK
        rw [har, if_pos rfl] at hR
        have hr : Hid ((12 : Int) = R) := Lib.hid hR.symm
        clear hR har
        go_enter Tryz.func55, Tryz.ntmps55
        go_wp2_with (go_at_call 90; ((with_reducible refine (cK _).mono ?_); rintro e w1 ⟨rfl, rfl⟩))
        all_goals go_ret
        all_goals exact ⟨one hr.out, hB2⟩
    · -- op 7
      have hE := hE (by omega) (by omega)
      obtain rfl := hz (by omega) (by omega) (by omega)
      clear h2
      cases har : arityB 7 n with
      | false =>
        rw [har] at cK
        rw [har, if_neg (by simp)] at hR
        have hr : Hid ((0 : Int) = R) := Lib.hid hR.symm
        clear hR har
        go_enter Tryz.func55, Tryz.ntmps55
        go_wp2_with (go_at_call 90; ((with_reducible refine (cK _).mono ?_); rintro e w1 ⟨rfl, rfl⟩))
        all_goals go_ret
        all_goals exact ⟨one hr.out, hB2⟩
      | true =>
        rw [har] at cK
        rw [har, if_pos rfl] at hR
        have hr : Hid ((12 : Int) = R) := Lib.hid hR.symm
        clear hR har
        go_enter Tryz.func55, Tryz.ntmps55
        go_wp2_with (go_at_call 90; ((with_reducible refine (cK _).mono ?_); rintro e w1 ⟨rfl, rfl⟩))
        all_goals go_ret
        all_goals exact ⟨one hr.out, hB2⟩
    · -- op 8
      have hE := hE (by omega) (by omega)
      clear hz h2
      cases har : arityB 8 n with
      | false =>
        rw [har] at cK
        rw [har, if_neg (by simp)] at hR
        have hr : Hid ((0 : Int) = R) := Lib.hid hR.symm
        clear hR har
        go_enter Tryz.func55, Tryz.ntmps55
        go_wp2_with (go_at_call 90; ((with_reducible refine (cK _).mono ?_); rintro e w1 ⟨rfl, rfl⟩))
        all_goals go_ret
        all_goals exact ⟨one hr.out, hB2⟩
      | true =>
        rw [har] at cK
        rw [har, if_pos rfl] at hR
        have hr : Hid ((12 : Int) = R) := Lib.hid hR.symm
        clear hR har
        go_enter Tryz.func55, Tryz.ntmps55
        go_wp2_with (go_at_call 90; ((with_reducible refine (cK _).mono ?_); rintro e w1 ⟨rfl, rfl⟩))
        all_goals go_ret
        all_goals exact ⟨one hr.out, hB2⟩
end Go.Proofs.YtcigeclnbhcohaaGreatDoor.C
