/-
  What is proved: the first error of a term by the document of layer 7: its Depth, Size, part, Right, at any term.
  What is proved: the first error of a term by the document of layer 7: part, Right, at any term.
-/
import Derived.Test.YtacncbkcnhlpcaaZRgtFn
import Derived.Test.YtacncbkcnhlpcaaZRgtM
import Derived.Test.YtacncbkcnhlpcaaZLibTs
namespace Go.Proofs.Ytacncbkcnhlpcaa.C
open Go.RowKit L T
set_option linter.unusedVariables false
set_option linter.unusedSimpArgs false

theorem depths_le_take (l : List Tm) (k : Nat) : depths (l.take k) ≤ depths l := by
  have h := depths_appR (l.take k) (l.drop k)
  rw [List.take_append_drop] at h
  omega
def Dep7Ok (t : Tm) : Prop := ∀ (a : Option Addr) (n c most : Nat) (w : World), most ≤ 1000000000 → ArW w t a n c →
  Calls Try.prog 83 #[.agg #[.int .i64 (opT t), .string (nameT t), .int .i64 (numT t), .slice a n c], .int .i64 most] w fun e w' => e = .returned (.int .i64 ((min (depth t) (most + 1) : Nat) : Int)) ∧ Below w.heap.size w w'
set_option maxRecDepth 100000 in
set_option maxHeartbeats 4000000 in
theorem dep7_step (t : Tm) (hok : ∀ x ∈ argsT t, Dep7Ok x) : Dep7Ok t := by
  intro a n c most w hm hA
  obtain ⟨W2, hW2, hB2, hs2, S2⟩ := box1 w (opT t) (nameT t) (numT t) a n c
  have hT := TsW.b (ArW.args hA) hB2
  rw [depth_argsR]
  have hk2 : ∀ k x, (argsT t)[k]? = some x → Dep7Ok x := fun k x h => hok x (List.mem_of_getElem? h)
  have hn : n ≤ 9223372036854775807 := by have h1 := hT.2.1; have h2 := hT.2.2.1; unfold maxLen at h2; omega
  have htk : ∀ k x, (argsT t)[k]? = some x → depths ((argsT t).take (k + 1)) = max (depths ((argsT t).take k)) (depth x) := fun k x h => depths_takeR h
  have hend : ∀ k, n ≤ k → depths ((argsT t).take k) = depths (argsT t) := fun k h => by rw [List.take_of_length_le (by rw [← hT.1]; exact h)]
  have hle : ∀ k, depths ((argsT t).take k) ≤ depths (argsT t) := fun k => depths_le_take _ k
  have h0 : depths ((argsT t).take 0) = 0 := rfl
  generalize argsT t = la at *
  obtain ⟨F, hF⟩ : ∃ F : Nat → Nat, ∀ k, depths (la.take k) = F k := ⟨_, fun _ => rfl⟩
  simp only [hF] at htk hend h0 hle
  generalize depths la = R at *
  obtain ⟨s0, s1, s2, s3⟩ := S2.four
  have H1 := Lib.hid hT
  have Htk := Lib.hid htk
  have Hend := Lib.hid hend
  have Hle := Lib.hid hle
  have HK := Lib.hid hk2
  have HS := Lib.hid S2
  have HR0 : Hid (1 = min (1 + F 0) (most + 1)) := Lib.hid (by rw [h0]; omega)
  clear hA hT htk hend hk2 hok hF S2 h0 hle
  generalize opT t = op at *
  generalize nameT t = nm at *
  generalize numT t = nu at *
  go_enter Try.func83, Try.ntmps83
  go_wp2
  go_loopw [5, 6] (fun q i wr0 => ∃ (wr : World) (k h : Nat), wr = wr0 ∧ k ≤ n ∧ q = .int .i64 h ∧ i = .int .i64 k ∧ Below W2.heap.size W2 wr ∧ 1 ≤ h ∧ h ≤ 1000000001 ∧ Hid (h = min (1 + F k) (most + 1))) (fun q i _ => n - (intOf i).toNat)
  case atStart => exact ⟨_, 0, 1, rfl, by omega, rfl, rfl, Below.refl _ _, by omega, by omega, HR0⟩
  case round =>
    obtain ⟨wr, k, h, rfl, hk, rfl, rfl, hB, hh1, hhm, hR⟩ := hrel
    obtain ⟨_, _, _, s3r⟩ := (TBox.b HS.out hB).four
    by_cases hlt : k < n
    · by_cases hhd : h ≤ most
      · have q1 : decide (h ≤ most) = true := decide_eq_true (by omega)
        obtain ⟨bb, o, x, A, M, Cc, rfl, hb, y0, y1, y2, y3, hx, hok⟩ := (TsW.b H1.out hB).at hlt
        have cs := HK.out k x hx A M Cc (most - 1) wr (by omega) hok
        have em : ((most - 1 : Nat) : Int) = (most : Int) - 1 := by omega
        rw [em] at cs
        have hst : Hid (max h (1 + min (depth x) (most - 1 + 1)) = min (1 + F (k + 1)) (most + 1)) := Lib.hid (by rw [Htk.out k x hx, hR.out]; have := hR.out; omega)
        clear hx hok H1 Htk HK HS em hR
        generalize hdx : min (depth x) (most - 1 + 1) = dx at *
        have hdm : dx ≤ 1000000000 := by omega
        clear hdx
        generalize opT x = op' at *
        generalize nameT x = nm' at *
        generalize numT x = nu' at *
        have hk0 : 0 ≤ (k : Int) := by omega
        have hk1 : (k : Int) < (n : Int) := by omega
        clear hhd
        go_wp2_with (go_at_call 83; ((with_reducible refine cs.mono ?_); rintro e w4 ⟨rfl, hb4⟩))
        all_goals
          go_roundw
          case rel => exact ⟨_, k + 1, max h (1 + dx), rfl, by omega, by congr 1; split <;> omega, by go_num, bel_trans hB hb4, by omega, by omega, hst⟩
          case measure => simp [intOf]; omega
      · have q1 : decide (h ≤ most) = false := decide_eq_false (by omega)
        have hnew : Hid ((h : Int) = ((min (1 + R) (most + 1) : Nat) : Int)) := Lib.hid (by have h1 := hR.out; have h2 := Hle.out k; omega)
        have hk1 : (k : Int) < (n : Int) := by omega
        clear hR hhd
        go_wp2
        go_ret
        exact ⟨one hnew.out, bel_trans hB2 hB⟩
    · have hnew : Hid ((h : Int) = ((min (1 + R) (most + 1) : Nat) : Int)) := Lib.hid (by have h1 := hR.out; rw [Hend.out k (by omega)] at h1; omega)
      clear hR
      go_wp2
      go_ret
      exact ⟨one hnew.out, bel_trans hB2 hB⟩
theorem dep7_any (t : Tm) : Dep7Ok t := Tm.ind dep7_step t
set_option maxRecDepth 100000 in
theorem Depth7_any (t : Tm) (a : Option Addr) (n c : Nat) (w : World) (hA : ArW w t a n c) :
    Calls Try.prog 55 #[.agg #[.int .i64 (opT t), .string (nameT t), .int .i64 (numT t), .slice a n c]] w fun e w' => e = .returned (.int .i64 ((min (depth t) 65 : Nat) : Int)) ∧ Below w.heap.size w w' := by
  obtain ⟨W2, hW2, hB2, hs2, S2⟩ := box1 w (opT t) (nameT t) (numT t) a n c
  have cT := dep7_any t a n c 64 W2 (by omega) (ArW.b hA hB2)
  rw [show ((64 : Nat) : Int) = 64 from rfl, show (64 + 1 : Nat) = 65 from rfl] at cT
  obtain ⟨s0, s1, s2, s3⟩ := S2.four
  clear hA S2
  generalize hd : min (depth t) 65 = d at *
  have hd65 : (d : Int) ≤ 65 := by omega
  generalize opT t = op at *
  generalize nameT t = nm at *
  generalize numT t = nu at *
  clear hd
  go_enter Try.func55, Try.ntmps55
  go_wp2_with (go_at_call 83; ((with_reducible refine cT.mono ?_); rintro e w3 ⟨rfl, hb3⟩))
  go_ret
  refine ⟨?_, bel_trans hB2 hb3⟩
  first | rfl | (congr 2; done) | (congr 2; (repeat' split) <;> omega)
set_option maxRecDepth 100000 in
theorem Size7_any (t : Tm) (a : Option Addr) (n c : Nat) (w : World) (hA : ArW w t a n c) :
    Calls Try.prog 56 #[.agg #[.int .i64 (opT t), .string (nameT t), .int .i64 (numT t), .slice a n c]] w fun e w' => e = .returned (.int .i64 ((min (size t) 4097 : Nat) : Int)) ∧ Below w.heap.size w w' := by
  obtain ⟨W2, hW2, hB2, hs2, S2⟩ := box1 w (opT t) (nameT t) (numT t) a n c
  have cT := Size_any t a n c 4096 W2 (by omega) (ArW.b hA hB2)
  rw [show ((4096 : Nat) : Int) = 4096 from rfl] at cT
  have hsz : szTo 4096 t = min (size t) 4097 := by
    have h1 := szTo_max t 4096
    have h2 := szTo_le t 4096
    have h3 := szTo_small t 4096
    by_cases h : size t ≤ 4096
    · have := h3 h; omega
    · omega
  obtain ⟨s0, s1, s2, s3⟩ := S2.four
  clear hA S2
  rw [hsz] at cT
  clear hsz
  generalize hd : min (size t) 4097 = d at *
  have hd2 : (d : Int) ≤ 4097 := by omega
  clear hd
  generalize opT t = op at *
  generalize nameT t = nm at *
  generalize numT t = nu at *
  go_enter Try.func56, Try.ntmps56
  go_wp2_with (go_at_call 12; ((with_reducible refine cT.mono ?_); rintro e w3 ⟨rfl, hb3⟩))
  go_ret
  refine ⟨?_, bel_trans hB2 hb3⟩
  first | rfl | (congr 2; done) | (congr 2; (repeat' split) <;> omega)
end Go.Proofs.Ytacncbkcnhlpcaa.C
namespace Go.Proofs.Ytacncbkcnhlpcaa.C
open Go.RowKit L T
set_option linter.unusedVariables false
set_option linter.unusedSimpArgs false

/-- how many arguments an Op asks for; -1: any number up to 8 -/
def argsF (o : Int) : Int := if o = 3 then -1 else if o = 5 ∨ o = 6 then 2 else if o = 7 ∨ o = 8 then 1 else 0
set_option maxRecDepth 100000 in
theorem args7_any (op : Int) (w : World) : Calls Try.prog 84 #[.int .i64 op] w fun e w' => e = .returned (.int .i64 (argsF op)) ∧ w = w' := by
  by_cases h3 : op = 3
  · subst h3
    go_enter Try.func84, Try.ntmps84
    go_wp2
    go_ret
    exact ⟨rfl, rfl⟩
  · have q3 : (op == 3) = false := beq_no' h3
    by_cases h5 : op = 5
    · subst h5
      go_enter Try.func84, Try.ntmps84
      go_wp2
      go_ret
      exact ⟨rfl, rfl⟩
    · have q5 : (op == 5) = false := beq_no' h5
      by_cases h6 : op = 6
      · subst h6
        go_enter Try.func84, Try.ntmps84
        go_wp2
        go_ret
        exact ⟨rfl, rfl⟩
      · have q6 : (op == 6) = false := beq_no' h6
        by_cases h7 : op = 7
        · subst h7
          go_enter Try.func84, Try.ntmps84
          go_wp2
          go_ret
          exact ⟨rfl, rfl⟩
        · have q7 : (op == 7) = false := beq_no' h7
          by_cases h8 : op = 8
          · subst h8
            go_enter Try.func84, Try.ntmps84
            go_wp2
            go_ret
            exact ⟨rfl, rfl⟩
          · have q8 : (op == 8) = false := beq_no' h8
            have hA : Hid ((0 : Int) = argsF op) := by unfold argsF; rw [if_neg h3, if_neg (by omega), if_neg (by omega)]; exact Lib.hid rfl
            generalize argsF op = Q at *
            clear h3 h5 h6 h7 h8
            go_enter Try.func84, Try.ntmps84
            go_wp2
            go_ret
            exact ⟨one hA.out, rfl⟩
/-- the number of arguments is wrong -/
theorem arity_args {o : Int} {n : Nat} (h1 : 1 ≤ o) (h8 : o ≤ 8) : arityB o n = ((decide (0 ≤ argsF o) && decide ((n : Int) ≠ argsF o)) || decide (8 < n)) := by
  have ho : o = 1 ∨ o = 2 ∨ o = 3 ∨ o = 4 ∨ o = 5 ∨ o = 6 ∨ o = 7 ∨ o = 8 := by omega
  rw [Bool.eq_iff_iff]
  rcases ho with rfl | rfl | rfl | rfl | rfl | rfl | rfl | rfl <;> simp [arityB, argsF, argsI] <;> omega
def Part7Ok (t : Tm) : Prop := ∀ (a : Option Addr) (n c : Nat) (w : World), ArW w t a n c →
  Calls Try.prog 57 #[.agg #[.int .i64 (opT t), .string (nameT t), .int .i64 (numT t), .slice a n c]] w fun e w' => e = .returned (.int .i64 (partE t)) ∧ Below w.heap.size w w'
set_option maxRecDepth 100000 in
set_option maxHeartbeats 16000000 in
theorem part7_step (t : Tm) (hok : ∀ x ∈ argsT t, Part7Ok x) : Part7Ok t := by
  intro a n c w hA
  obtain ⟨W2, hW2, hB2, hs2, S2⟩ := box1 w (opT t) (nameT t) (numT t) a n c
  have hT := TsW.b (ArW.args hA) hB2
  have hR : Hid (partE t = if formB (opT t) (nameT t) (numT t) = true then 7 else if arityB (opT t) n = true then 12 else partsE (argsT t)) := Lib.hid (by rw [partE_mk, ← hT.1])
  generalize partE t = R at *
  have hk2 : ∀ k x, (argsT t)[k]? = some x → Part7Ok x := fun k x h => hok x (List.mem_of_getElem? h)
  have hst : ∀ k x, (argsT t)[k]? = some x → partsE ((argsT t).drop k) = if partE x ≠ 0 then partE x else partsE ((argsT t).drop (k + 1)) := fun k x h => by rw [drop_t h, partsE]
  have he : ∀ k, n ≤ k → partsE ((argsT t).drop k) = 0 := fun k h => by rw [List.drop_eq_nil_of_le (by rw [← hT.1]; exact h), partsE]
  have hn : n ≤ 9223372036854775807 := by have h1 := hT.2.1; have h2 := hT.2.2.1; unfold maxLen at h2; omega
  have h0 : partsE (argsT t) = partsE ((argsT t).drop 0) := rfl
  rw [h0] at hR
  generalize argsT t = l at *
  obtain ⟨F, hF⟩ : ∃ F : Nat → Int, ∀ k, partsE (l.drop k) = F k := ⟨_, fun _ => rfl⟩
  simp only [hF] at hst he hR
  obtain ⟨s0, s1, s2, s3⟩ := S2.four
  have H1 := Lib.hid hT
  have Hst := Lib.hid hst
  have He := Lib.hid he
  have HK := Lib.hid hk2
  have HS := Lib.hid S2
  clear hA hT hst he hk2 hok hF S2 h0
  generalize opT t = op at *
  generalize nameT t = nm at *
  generalize numT t = nu at *
  by_cases hform : formB op nm nu = true
  · have hR7 : Hid ((7 : Int) = R) := Lib.hid (by rw [hR.out, if_pos hform])
    clear hR H1 Hst He HK HS
    rcases hE : nm.toList.isEmpty with _ | _
    all_goals
      by_cases c0 : op < 1
      · have q0 : decide (op < 1) = true := decide_eq_true c0
        clear hform c0
        go_enter Try.func57, Try.ntmps57
        go_wp2
        go_ret
        exact ⟨one hR7.out, hB2⟩
      have q0 : decide (op < 1) = false := decide_eq_false c0
      by_cases c9 : 8 < op
      · have q9 : decide (op > 8) = true := decide_eq_true c9
        clear hform c0 c9
        go_enter Try.func57, Try.ntmps57
        go_wp2
        go_ret
        exact ⟨one hR7.out, hB2⟩
      have q9 : decide (op > 8) = false := decide_eq_false c9
      by_cases c2 : op = 2
      · subst c2
        by_cases hlt : nu < 0
        · have z2 : decide (nu < 0) = true := decide_eq_true hlt
          clear hform hlt
          go_enter Try.func57, Try.ntmps57
          go_wp2
          go_ret
          exact ⟨one hR7.out, hB2⟩
        · have z2 : decide (nu < 0) = false := decide_eq_false hlt
          first
            | (exfalso; revert hform; simp only [formB]; simp_all; done)
            | (clear hform hlt
               go_enter Try.func57, Try.ntmps57
               go_wp2
               go_ret
               exact ⟨one hR7.out, hB2⟩)
      have qe2 : (op == 2) = false := beq_no' (by omega)
      have qn2 : (op != 2) = true := bne_iff_ne.2 (by omega)
      by_cases c4 : op = 4
      · subst c4
        first
          | (exfalso; revert hform; simp only [formB]; simp_all; done)
          | (clear hform
             go_enter Try.func57, Try.ntmps57
             go_wp2
             go_ret
             exact ⟨one hR7.out, hB2⟩)
      have qe4 : (op == 4) = false := beq_no' (by omega)
      have qn4 : (op != 4) = true := bne_iff_ne.2 (by omega)
      by_cases c8 : op = 8
      · subst c8
        first
          | (exfalso; revert hform; simp only [formB]; simp_all; done)
          | (clear hform
             go_enter Try.func57, Try.ntmps57
             go_wp2
             go_ret
             exact ⟨one hR7.out, hB2⟩)
      have qe8 : (op == 8) = false := beq_no' (by omega)
      have qn8 : (op != 8) = true := bne_iff_ne.2 (by omega)
      by_cases hz : nu = 0
      · subst hz
        by_cases c1 : op = 1
        · subst c1
          exfalso; revert hform; simp only [formB]; simp_all; done
        by_cases c3 : op = 3
        · subst c3
          exfalso; revert hform; simp only [formB]; simp_all; done
        have qe1 : (op == 1) = false := beq_no' (by omega)
        have qn1 : (op != 1) = true := bne_iff_ne.2 (by omega)
        have qe3 : (op == 3) = false := beq_no' (by omega)
        have qn3 : (op != 3) = true := bne_iff_ne.2 (by omega)
        first
          | (exfalso; revert hform; simp only [formB]; simp_all; done)
          | (clear hform c0 c9 c2 c4 c8 c1 c3
             go_enter Try.func57, Try.ntmps57
             go_wp2
             go_ret
             exact ⟨one hR7.out, hB2⟩)
      · have z1 : (nu != 0) = true := bne_iff_ne.2 hz
        clear hform c0 c9 c2 c4 c8 hz
        go_enter Try.func57, Try.ntmps57
        go_wp2
        go_ret
        exact ⟨one hR7.out, hB2⟩
  · have hf := form_no (Bool.not_eq_true _ ▸ hform)
    rw [if_neg hform] at hR
    clear hform
    obtain ⟨hop1, hop8, hE, hz, h2⟩ := hf
    have hAr := arity_args (n := n) hop1 hop8
    have cA := fun (w : World) => args7_any op w
    have q0 : decide (op < 1) = false := decide_eq_false (by omega)
    have q9 : decide (op > 8) = false := decide_eq_false (by omega)
    have hcls : (op = 2 ∧ decide (nu < 0) = false ∧ nm.toList.isEmpty = true) ∨ (op = 4 ∧ nm.toList.isEmpty = true) ∨ (op = 8 ∧ nm.toList.isEmpty = true) ∨ (op = 1 ∧ nu = 0) ∨ (op = 3 ∧ nu = 0) ∨ (op ≠ 1 ∧ op ≠ 2 ∧ op ≠ 3 ∧ op ≠ 4 ∧ op ≠ 8 ∧ nu = 0 ∧ nm.toList.isEmpty = true) := by
      by_cases c2 : op = 2
      · exact .inl ⟨c2, decide_eq_false (by have := h2 c2; omega), hE (by omega) (by omega)⟩
      by_cases c4 : op = 4
      · exact .inr (.inl ⟨c4, hE (by omega) (by omega)⟩)
      by_cases c8 : op = 8
      · exact .inr (.inr (.inl ⟨c8, hE (by omega) (by omega)⟩))
      by_cases c1 : op = 1
      · exact .inr (.inr (.inr (.inl ⟨c1, hz c2 c4 c8⟩)))
      by_cases c3 : op = 3
      · exact .inr (.inr (.inr (.inr (.inl ⟨c3, hz c2 c4 c8⟩))))
      exact .inr (.inr (.inr (.inr (.inr ⟨c1, c2, c3, c4, c8, hz c2 c4 c8, hE c1 c3⟩))))
    clear hop1 hop8 hE hz h2
    rcases hcls with ⟨rfl, z2, e1⟩ | ⟨rfl, e1⟩ | ⟨rfl, e1⟩ | ⟨rfl, rfl⟩ | ⟨rfl, rfl⟩ | ⟨c1, c2, c3, c4, c8, rfl, e1⟩
    rotate_left 5
    · have qe1 : (op == 1) = false := beq_no' (by omega)
      have qn1 : (op != 1) = true := bne_iff_ne.2 (by omega)
      have qe2 : (op == 2) = false := beq_no' (by omega)
      have qn2 : (op != 2) = true := bne_iff_ne.2 (by omega)
      have qe3 : (op == 3) = false := beq_no' (by omega)
      have qn3 : (op != 3) = true := bne_iff_ne.2 (by omega)
      have qe4 : (op == 4) = false := beq_no' (by omega)
      have qn4 : (op != 4) = true := bne_iff_ne.2 (by omega)
      have qe8 : (op == 8) = false := beq_no' (by omega)
      have qn8 : (op != 8) = true := bne_iff_ne.2 (by omega)
      clear c1 c2 c3 c4 c8
      generalize argsF op = Q at *
      by_cases hw : arityB op n = true
      · have hR12 : Hid ((12 : Int) = R) := Lib.hid (by rw [hR.out, if_pos hw])
        rw [hw] at hAr
        clear hR H1 Hst He HK HS hw
        by_cases hQ : 0 ≤ Q
        · have g1 : decide (Q ≥ 0) = true := decide_eq_true hQ
          by_cases hne : (n : Int) = Q
          · have g2 : ((n : Int) != Q) = false := by rw [hne]; simp
            have g3 : decide (8 < n) = true := by simpa [hne] using hAr.symm
            have g4 : decide ((n : Int) > 8) = true := decide_eq_true (by have := of_decide_eq_true g3; omega)
            clear hAr hQ hne
            go_enter Try.func57, Try.ntmps57
            go_wp2_with (go_at_call 84; ((with_reducible refine (cA _).mono ?_); rintro e w3 ⟨rfl, rfl⟩))
            go_ret
            exact ⟨one hR12.out, hB2⟩
          · have g2 : ((n : Int) != Q) = true := bne_iff_ne.2 hne
            clear hAr hQ hne
            go_enter Try.func57, Try.ntmps57
            go_wp2_with (go_at_call 84; ((with_reducible refine (cA _).mono ?_); rintro e w3 ⟨rfl, rfl⟩))
            go_ret
            exact ⟨one hR12.out, hB2⟩
        · have g1 : decide (Q ≥ 0) = false := decide_eq_false hQ
          have g3 : decide (8 < n) = true := by rw [decide_eq_false hQ] at hAr; simpa using hAr.symm
          have g4 : decide ((n : Int) > 8) = true := decide_eq_true (by have := of_decide_eq_true g3; omega)
          clear hAr hQ
          go_enter Try.func57, Try.ntmps57
          go_wp2_with (go_at_call 84; ((with_reducible refine (cA _).mono ?_); rintro e w3 ⟨rfl, rfl⟩))
          go_ret
          exact ⟨one hR12.out, hB2⟩
      · have hR0 : Hid (F 0 = R) := Lib.hid (by rw [hR.out, if_neg hw])
        rw [Bool.eq_false_iff.2 hw] at hAr
        have HR0 := hR0
        have g8 : ¬ 8 < n := by intro h; rw [decide_eq_true h] at hAr; simp at hAr
        have g4 : decide ((n : Int) > 8) = false := decide_eq_false (by omega)
        have g3 : decide (8 < n) = false := decide_eq_false g8
        clear hR hw g8
        by_cases hQ : 0 ≤ Q
        · have g1 : decide (Q ≥ 0) = true := decide_eq_true hQ
          have hne : (n : Int) = Q := by
            by_cases h : (n : Int) = Q
            · exact h
            · rw [decide_eq_true hQ, decide_eq_true h] at hAr; simp at hAr
          have g2 : ((n : Int) != Q) = false := by rw [hne]; simp
          clear hAr hQ hne
          go_enter Try.func57, Try.ntmps57
          go_wp2_with (go_at_call 84; ((with_reducible refine (cA _).mono ?_); rintro e w3 ⟨rfl, rfl⟩))
          go_loopw [4] (fun i wr0 => ∃ (wr : World) (k : Nat), wr = wr0 ∧ k ≤ n ∧ i = .int .i64 k ∧ Below W2.heap.size W2 wr ∧ Hid (F k = R)) (fun i _ => n - (intOf i).toNat)
          case atStart => exact ⟨_, 0, rfl, by omega, rfl, Below.refl _ _, HR0⟩
          case round =>
            obtain ⟨wr, k, rfl, hk, rfl, hB, hRk⟩ := hrel
            obtain ⟨_, _, _, s3r⟩ := (TBox.b HS.out hB).four
            by_cases hlt : k < n
            · obtain ⟨bb, o, x, A, M, Cc, rfl, hb, y0, y1, y2, y3, hx, hok⟩ := (TsW.b H1.out hB).at hlt
              have hs1 := Lib.hid (Hst.out k x hx)
              have cs := HK.out k x hx A M Cc wr hok
              clear hx hok H1 Hst HK HS
              generalize partE x = px at *
              generalize opT x = op' at *
              generalize nameT x = nm' at *
              generalize numT x = nu' at *
              have hk0 : 0 ≤ (k : Int) := by omega
              have hk1 : (k : Int) < (n : Int) := by omega
              by_cases hp : px = 0
              · have p1 : (px != 0) = false := by rw [hp]; rfl
                have hnew : Hid (F (k + 1) = R) := Lib.hid (by rw [← hRk.out, hs1.out, if_neg (by omega)])
                clear hRk hs1 hp
                go_wp2_with (go_at_call 57; ((with_reducible refine cs.mono ?_); rintro e w4 ⟨rfl, hb4⟩))
                go_roundw
                case rel => exact ⟨_, k + 1, rfl, by omega, by go_num, bel_trans hB hb4, hnew⟩
                case measure => simp [intOf]; omega
              · have p1 : (px != 0) = true := bne_iff_ne.2 hp
                have hnew : Hid (px = R) := Lib.hid (by rw [← hRk.out, hs1.out, if_pos hp])
                clear hRk hs1 hp
                go_wp2_with (go_at_call 57; ((with_reducible refine cs.mono ?_); rintro e w4 ⟨rfl, hb4⟩))
                go_ret
                exact ⟨one hnew.out, bel_trans hB2 (bel_trans hB hb4)⟩
            · have hnew : Hid ((0 : Int) = R) := Lib.hid (by rw [← hRk.out, He.out k (by omega)])
              clear hRk
              go_wp2
              go_ret
              exact ⟨one hnew.out, bel_trans hB2 hB⟩
        · have g1 : decide (Q ≥ 0) = false := decide_eq_false hQ
          clear hAr hQ
          go_enter Try.func57, Try.ntmps57
          go_wp2_with (go_at_call 84; ((with_reducible refine (cA _).mono ?_); rintro e w3 ⟨rfl, rfl⟩))
          go_loopw [4] (fun i wr0 => ∃ (wr : World) (k : Nat), wr = wr0 ∧ k ≤ n ∧ i = .int .i64 k ∧ Below W2.heap.size W2 wr ∧ Hid (F k = R)) (fun i _ => n - (intOf i).toNat)
          case atStart => exact ⟨_, 0, rfl, by omega, rfl, Below.refl _ _, HR0⟩
          case round =>
            obtain ⟨wr, k, rfl, hk, rfl, hB, hRk⟩ := hrel
            obtain ⟨_, _, _, s3r⟩ := (TBox.b HS.out hB).four
            by_cases hlt : k < n
            · obtain ⟨bb, o, x, A, M, Cc, rfl, hb, y0, y1, y2, y3, hx, hok⟩ := (TsW.b H1.out hB).at hlt
              have hs1 := Lib.hid (Hst.out k x hx)
              have cs := HK.out k x hx A M Cc wr hok
              clear hx hok H1 Hst HK HS
              generalize partE x = px at *
              generalize opT x = op' at *
              generalize nameT x = nm' at *
              generalize numT x = nu' at *
              have hk0 : 0 ≤ (k : Int) := by omega
              have hk1 : (k : Int) < (n : Int) := by omega
              by_cases hp : px = 0
              · have p1 : (px != 0) = false := by rw [hp]; rfl
                have hnew : Hid (F (k + 1) = R) := Lib.hid (by rw [← hRk.out, hs1.out, if_neg (by omega)])
                clear hRk hs1 hp
                go_wp2_with (go_at_call 57; ((with_reducible refine cs.mono ?_); rintro e w4 ⟨rfl, hb4⟩))
                go_roundw
                case rel => exact ⟨_, k + 1, rfl, by omega, by go_num, bel_trans hB hb4, hnew⟩
                case measure => simp [intOf]; omega
              · have p1 : (px != 0) = true := bne_iff_ne.2 hp
                have hnew : Hid (px = R) := Lib.hid (by rw [← hRk.out, hs1.out, if_pos hp])
                clear hRk hs1 hp
                go_wp2_with (go_at_call 57; ((with_reducible refine cs.mono ?_); rintro e w4 ⟨rfl, hb4⟩))
                go_ret
                exact ⟨one hnew.out, bel_trans hB2 (bel_trans hB hb4)⟩
            · have hnew : Hid ((0 : Int) = R) := Lib.hid (by rw [← hRk.out, He.out k (by omega)])
              clear hRk
              go_wp2
              go_ret
              exact ⟨one hnew.out, bel_trans hB2 hB⟩
    · generalize argsF 2 = Q at *
      by_cases hw : arityB 2 n = true
      · have hR12 : Hid ((12 : Int) = R) := Lib.hid (by rw [hR.out, if_pos hw])
        rw [hw] at hAr
        clear hR H1 Hst He HK HS hw
        by_cases hQ : 0 ≤ Q
        · have g1 : decide (Q ≥ 0) = true := decide_eq_true hQ
          by_cases hne : (n : Int) = Q
          · have g2 : ((n : Int) != Q) = false := by rw [hne]; simp
            have g3 : decide (8 < n) = true := by simpa [hne] using hAr.symm
            have g4 : decide ((n : Int) > 8) = true := decide_eq_true (by have := of_decide_eq_true g3; omega)
            clear hAr hQ hne
            go_enter Try.func57, Try.ntmps57
            go_wp2_with (go_at_call 84; ((with_reducible refine (cA _).mono ?_); rintro e w3 ⟨rfl, rfl⟩))
            go_ret
            exact ⟨one hR12.out, hB2⟩
          · have g2 : ((n : Int) != Q) = true := bne_iff_ne.2 hne
            clear hAr hQ hne
            go_enter Try.func57, Try.ntmps57
            go_wp2_with (go_at_call 84; ((with_reducible refine (cA _).mono ?_); rintro e w3 ⟨rfl, rfl⟩))
            go_ret
            exact ⟨one hR12.out, hB2⟩
        · have g1 : decide (Q ≥ 0) = false := decide_eq_false hQ
          have g3 : decide (8 < n) = true := by rw [decide_eq_false hQ] at hAr; simpa using hAr.symm
          have g4 : decide ((n : Int) > 8) = true := decide_eq_true (by have := of_decide_eq_true g3; omega)
          clear hAr hQ
          go_enter Try.func57, Try.ntmps57
          go_wp2_with (go_at_call 84; ((with_reducible refine (cA _).mono ?_); rintro e w3 ⟨rfl, rfl⟩))
          go_ret
          exact ⟨one hR12.out, hB2⟩
      · have hR0 : Hid (F 0 = R) := Lib.hid (by rw [hR.out, if_neg hw])
        rw [Bool.eq_false_iff.2 hw] at hAr
        have HR0 := hR0
        have g8 : ¬ 8 < n := by intro h; rw [decide_eq_true h] at hAr; simp at hAr
        have g4 : decide ((n : Int) > 8) = false := decide_eq_false (by omega)
        have g3 : decide (8 < n) = false := decide_eq_false g8
        clear hR hw g8
        by_cases hQ : 0 ≤ Q
        · have g1 : decide (Q ≥ 0) = true := decide_eq_true hQ
          have hne : (n : Int) = Q := by
            by_cases h : (n : Int) = Q
            · exact h
            · rw [decide_eq_true hQ, decide_eq_true h] at hAr; simp at hAr
          have g2 : ((n : Int) != Q) = false := by rw [hne]; simp
          clear hAr hQ hne
          go_enter Try.func57, Try.ntmps57
          go_wp2_with (go_at_call 84; ((with_reducible refine (cA _).mono ?_); rintro e w3 ⟨rfl, rfl⟩))
          go_loopw [4] (fun i wr0 => ∃ (wr : World) (k : Nat), wr = wr0 ∧ k ≤ n ∧ i = .int .i64 k ∧ Below W2.heap.size W2 wr ∧ Hid (F k = R)) (fun i _ => n - (intOf i).toNat)
          case atStart => exact ⟨_, 0, rfl, by omega, rfl, Below.refl _ _, HR0⟩
          case round =>
            obtain ⟨wr, k, rfl, hk, rfl, hB, hRk⟩ := hrel
            obtain ⟨_, _, _, s3r⟩ := (TBox.b HS.out hB).four
            by_cases hlt : k < n
            · obtain ⟨bb, o, x, A, M, Cc, rfl, hb, y0, y1, y2, y3, hx, hok⟩ := (TsW.b H1.out hB).at hlt
              have hs1 := Lib.hid (Hst.out k x hx)
              have cs := HK.out k x hx A M Cc wr hok
              clear hx hok H1 Hst HK HS
              generalize partE x = px at *
              generalize opT x = op' at *
              generalize nameT x = nm' at *
              generalize numT x = nu' at *
              have hk0 : 0 ≤ (k : Int) := by omega
              have hk1 : (k : Int) < (n : Int) := by omega
              by_cases hp : px = 0
              · have p1 : (px != 0) = false := by rw [hp]; rfl
                have hnew : Hid (F (k + 1) = R) := Lib.hid (by rw [← hRk.out, hs1.out, if_neg (by omega)])
                clear hRk hs1 hp
                go_wp2_with (go_at_call 57; ((with_reducible refine cs.mono ?_); rintro e w4 ⟨rfl, hb4⟩))
                go_roundw
                case rel => exact ⟨_, k + 1, rfl, by omega, by go_num, bel_trans hB hb4, hnew⟩
                case measure => simp [intOf]; omega
              · have p1 : (px != 0) = true := bne_iff_ne.2 hp
                have hnew : Hid (px = R) := Lib.hid (by rw [← hRk.out, hs1.out, if_pos hp])
                clear hRk hs1 hp
                go_wp2_with (go_at_call 57; ((with_reducible refine cs.mono ?_); rintro e w4 ⟨rfl, hb4⟩))
                go_ret
                exact ⟨one hnew.out, bel_trans hB2 (bel_trans hB hb4)⟩
            · have hnew : Hid ((0 : Int) = R) := Lib.hid (by rw [← hRk.out, He.out k (by omega)])
              clear hRk
              go_wp2
              go_ret
              exact ⟨one hnew.out, bel_trans hB2 hB⟩
        · have g1 : decide (Q ≥ 0) = false := decide_eq_false hQ
          clear hAr hQ
          go_enter Try.func57, Try.ntmps57
          go_wp2_with (go_at_call 84; ((with_reducible refine (cA _).mono ?_); rintro e w3 ⟨rfl, rfl⟩))
          go_loopw [4] (fun i wr0 => ∃ (wr : World) (k : Nat), wr = wr0 ∧ k ≤ n ∧ i = .int .i64 k ∧ Below W2.heap.size W2 wr ∧ Hid (F k = R)) (fun i _ => n - (intOf i).toNat)
          case atStart => exact ⟨_, 0, rfl, by omega, rfl, Below.refl _ _, HR0⟩
          case round =>
            obtain ⟨wr, k, rfl, hk, rfl, hB, hRk⟩ := hrel
            obtain ⟨_, _, _, s3r⟩ := (TBox.b HS.out hB).four
            by_cases hlt : k < n
            · obtain ⟨bb, o, x, A, M, Cc, rfl, hb, y0, y1, y2, y3, hx, hok⟩ := (TsW.b H1.out hB).at hlt
              have hs1 := Lib.hid (Hst.out k x hx)
              have cs := HK.out k x hx A M Cc wr hok
              clear hx hok H1 Hst HK HS
              generalize partE x = px at *
              generalize opT x = op' at *
              generalize nameT x = nm' at *
              generalize numT x = nu' at *
              have hk0 : 0 ≤ (k : Int) := by omega
              have hk1 : (k : Int) < (n : Int) := by omega
              by_cases hp : px = 0
              · have p1 : (px != 0) = false := by rw [hp]; rfl
                have hnew : Hid (F (k + 1) = R) := Lib.hid (by rw [← hRk.out, hs1.out, if_neg (by omega)])
                clear hRk hs1 hp
                go_wp2_with (go_at_call 57; ((with_reducible refine cs.mono ?_); rintro e w4 ⟨rfl, hb4⟩))
                go_roundw
                case rel => exact ⟨_, k + 1, rfl, by omega, by go_num, bel_trans hB hb4, hnew⟩
                case measure => simp [intOf]; omega
              · have p1 : (px != 0) = true := bne_iff_ne.2 hp
                have hnew : Hid (px = R) := Lib.hid (by rw [← hRk.out, hs1.out, if_pos hp])
                clear hRk hs1 hp
                go_wp2_with (go_at_call 57; ((with_reducible refine cs.mono ?_); rintro e w4 ⟨rfl, hb4⟩))
                go_ret
                exact ⟨one hnew.out, bel_trans hB2 (bel_trans hB hb4)⟩
            · have hnew : Hid ((0 : Int) = R) := Lib.hid (by rw [← hRk.out, He.out k (by omega)])
              clear hRk
              go_wp2
              go_ret
              exact ⟨one hnew.out, bel_trans hB2 hB⟩
    · generalize argsF 4 = Q at *
      by_cases hw : arityB 4 n = true
      · have hR12 : Hid ((12 : Int) = R) := Lib.hid (by rw [hR.out, if_pos hw])
        rw [hw] at hAr
        clear hR H1 Hst He HK HS hw
        by_cases hQ : 0 ≤ Q
        · have g1 : decide (Q ≥ 0) = true := decide_eq_true hQ
          by_cases hne : (n : Int) = Q
          · have g2 : ((n : Int) != Q) = false := by rw [hne]; simp
            have g3 : decide (8 < n) = true := by simpa [hne] using hAr.symm
            have g4 : decide ((n : Int) > 8) = true := decide_eq_true (by have := of_decide_eq_true g3; omega)
            clear hAr hQ hne
            go_enter Try.func57, Try.ntmps57
            go_wp2_with (go_at_call 84; ((with_reducible refine (cA _).mono ?_); rintro e w3 ⟨rfl, rfl⟩))
            go_ret
            exact ⟨one hR12.out, hB2⟩
          · have g2 : ((n : Int) != Q) = true := bne_iff_ne.2 hne
            clear hAr hQ hne
            go_enter Try.func57, Try.ntmps57
            go_wp2_with (go_at_call 84; ((with_reducible refine (cA _).mono ?_); rintro e w3 ⟨rfl, rfl⟩))
            go_ret
            exact ⟨one hR12.out, hB2⟩
        · have g1 : decide (Q ≥ 0) = false := decide_eq_false hQ
          have g3 : decide (8 < n) = true := by rw [decide_eq_false hQ] at hAr; simpa using hAr.symm
          have g4 : decide ((n : Int) > 8) = true := decide_eq_true (by have := of_decide_eq_true g3; omega)
          clear hAr hQ
          go_enter Try.func57, Try.ntmps57
          go_wp2_with (go_at_call 84; ((with_reducible refine (cA _).mono ?_); rintro e w3 ⟨rfl, rfl⟩))
          go_ret
          exact ⟨one hR12.out, hB2⟩
      · have hR0 : Hid (F 0 = R) := Lib.hid (by rw [hR.out, if_neg hw])
        rw [Bool.eq_false_iff.2 hw] at hAr
        have HR0 := hR0
        have g8 : ¬ 8 < n := by intro h; rw [decide_eq_true h] at hAr; simp at hAr
        have g4 : decide ((n : Int) > 8) = false := decide_eq_false (by omega)
        have g3 : decide (8 < n) = false := decide_eq_false g8
        clear hR hw g8
        by_cases hQ : 0 ≤ Q
        · have g1 : decide (Q ≥ 0) = true := decide_eq_true hQ
          have hne : (n : Int) = Q := by
            by_cases h : (n : Int) = Q
            · exact h
            · rw [decide_eq_true hQ, decide_eq_true h] at hAr; simp at hAr
          have g2 : ((n : Int) != Q) = false := by rw [hne]; simp
          clear hAr hQ hne
          go_enter Try.func57, Try.ntmps57
          go_wp2_with (go_at_call 84; ((with_reducible refine (cA _).mono ?_); rintro e w3 ⟨rfl, rfl⟩))
          go_loopw [4] (fun i wr0 => ∃ (wr : World) (k : Nat), wr = wr0 ∧ k ≤ n ∧ i = .int .i64 k ∧ Below W2.heap.size W2 wr ∧ Hid (F k = R)) (fun i _ => n - (intOf i).toNat)
          case atStart => exact ⟨_, 0, rfl, by omega, rfl, Below.refl _ _, HR0⟩
          case round =>
            obtain ⟨wr, k, rfl, hk, rfl, hB, hRk⟩ := hrel
            obtain ⟨_, _, _, s3r⟩ := (TBox.b HS.out hB).four
            by_cases hlt : k < n
            · obtain ⟨bb, o, x, A, M, Cc, rfl, hb, y0, y1, y2, y3, hx, hok⟩ := (TsW.b H1.out hB).at hlt
              have hs1 := Lib.hid (Hst.out k x hx)
              have cs := HK.out k x hx A M Cc wr hok
              clear hx hok H1 Hst HK HS
              generalize partE x = px at *
              generalize opT x = op' at *
              generalize nameT x = nm' at *
              generalize numT x = nu' at *
              have hk0 : 0 ≤ (k : Int) := by omega
              have hk1 : (k : Int) < (n : Int) := by omega
              by_cases hp : px = 0
              · have p1 : (px != 0) = false := by rw [hp]; rfl
                have hnew : Hid (F (k + 1) = R) := Lib.hid (by rw [← hRk.out, hs1.out, if_neg (by omega)])
                clear hRk hs1 hp
                go_wp2_with (go_at_call 57; ((with_reducible refine cs.mono ?_); rintro e w4 ⟨rfl, hb4⟩))
                go_roundw
                case rel => exact ⟨_, k + 1, rfl, by omega, by go_num, bel_trans hB hb4, hnew⟩
                case measure => simp [intOf]; omega
              · have p1 : (px != 0) = true := bne_iff_ne.2 hp
                have hnew : Hid (px = R) := Lib.hid (by rw [← hRk.out, hs1.out, if_pos hp])
                clear hRk hs1 hp
                go_wp2_with (go_at_call 57; ((with_reducible refine cs.mono ?_); rintro e w4 ⟨rfl, hb4⟩))
                go_ret
                exact ⟨one hnew.out, bel_trans hB2 (bel_trans hB hb4)⟩
            · have hnew : Hid ((0 : Int) = R) := Lib.hid (by rw [← hRk.out, He.out k (by omega)])
              clear hRk
              go_wp2
              go_ret
              exact ⟨one hnew.out, bel_trans hB2 hB⟩
        · have g1 : decide (Q ≥ 0) = false := decide_eq_false hQ
          clear hAr hQ
          go_enter Try.func57, Try.ntmps57
          go_wp2_with (go_at_call 84; ((with_reducible refine (cA _).mono ?_); rintro e w3 ⟨rfl, rfl⟩))
          go_loopw [4] (fun i wr0 => ∃ (wr : World) (k : Nat), wr = wr0 ∧ k ≤ n ∧ i = .int .i64 k ∧ Below W2.heap.size W2 wr ∧ Hid (F k = R)) (fun i _ => n - (intOf i).toNat)
          case atStart => exact ⟨_, 0, rfl, by omega, rfl, Below.refl _ _, HR0⟩
          case round =>
            obtain ⟨wr, k, rfl, hk, rfl, hB, hRk⟩ := hrel
            obtain ⟨_, _, _, s3r⟩ := (TBox.b HS.out hB).four
            by_cases hlt : k < n
            · obtain ⟨bb, o, x, A, M, Cc, rfl, hb, y0, y1, y2, y3, hx, hok⟩ := (TsW.b H1.out hB).at hlt
              have hs1 := Lib.hid (Hst.out k x hx)
              have cs := HK.out k x hx A M Cc wr hok
              clear hx hok H1 Hst HK HS
              generalize partE x = px at *
              generalize opT x = op' at *
              generalize nameT x = nm' at *
              generalize numT x = nu' at *
              have hk0 : 0 ≤ (k : Int) := by omega
              have hk1 : (k : Int) < (n : Int) := by omega
              by_cases hp : px = 0
              · have p1 : (px != 0) = false := by rw [hp]; rfl
                have hnew : Hid (F (k + 1) = R) := Lib.hid (by rw [← hRk.out, hs1.out, if_neg (by omega)])
                clear hRk hs1 hp
                go_wp2_with (go_at_call 57; ((with_reducible refine cs.mono ?_); rintro e w4 ⟨rfl, hb4⟩))
                go_roundw
                case rel => exact ⟨_, k + 1, rfl, by omega, by go_num, bel_trans hB hb4, hnew⟩
                case measure => simp [intOf]; omega
              · have p1 : (px != 0) = true := bne_iff_ne.2 hp
                have hnew : Hid (px = R) := Lib.hid (by rw [← hRk.out, hs1.out, if_pos hp])
                clear hRk hs1 hp
                go_wp2_with (go_at_call 57; ((with_reducible refine cs.mono ?_); rintro e w4 ⟨rfl, hb4⟩))
                go_ret
                exact ⟨one hnew.out, bel_trans hB2 (bel_trans hB hb4)⟩
            · have hnew : Hid ((0 : Int) = R) := Lib.hid (by rw [← hRk.out, He.out k (by omega)])
              clear hRk
              go_wp2
              go_ret
              exact ⟨one hnew.out, bel_trans hB2 hB⟩
    · generalize argsF 8 = Q at *
      by_cases hw : arityB 8 n = true
      · have hR12 : Hid ((12 : Int) = R) := Lib.hid (by rw [hR.out, if_pos hw])
        rw [hw] at hAr
        clear hR H1 Hst He HK HS hw
        by_cases hQ : 0 ≤ Q
        · have g1 : decide (Q ≥ 0) = true := decide_eq_true hQ
          by_cases hne : (n : Int) = Q
          · have g2 : ((n : Int) != Q) = false := by rw [hne]; simp
            have g3 : decide (8 < n) = true := by simpa [hne] using hAr.symm
            have g4 : decide ((n : Int) > 8) = true := decide_eq_true (by have := of_decide_eq_true g3; omega)
            clear hAr hQ hne
            go_enter Try.func57, Try.ntmps57
            go_wp2_with (go_at_call 84; ((with_reducible refine (cA _).mono ?_); rintro e w3 ⟨rfl, rfl⟩))
            go_ret
            exact ⟨one hR12.out, hB2⟩
          · have g2 : ((n : Int) != Q) = true := bne_iff_ne.2 hne
            clear hAr hQ hne
            go_enter Try.func57, Try.ntmps57
            go_wp2_with (go_at_call 84; ((with_reducible refine (cA _).mono ?_); rintro e w3 ⟨rfl, rfl⟩))
            go_ret
            exact ⟨one hR12.out, hB2⟩
        · have g1 : decide (Q ≥ 0) = false := decide_eq_false hQ
          have g3 : decide (8 < n) = true := by rw [decide_eq_false hQ] at hAr; simpa using hAr.symm
          have g4 : decide ((n : Int) > 8) = true := decide_eq_true (by have := of_decide_eq_true g3; omega)
          clear hAr hQ
          go_enter Try.func57, Try.ntmps57
          go_wp2_with (go_at_call 84; ((with_reducible refine (cA _).mono ?_); rintro e w3 ⟨rfl, rfl⟩))
          go_ret
          exact ⟨one hR12.out, hB2⟩
      · have hR0 : Hid (F 0 = R) := Lib.hid (by rw [hR.out, if_neg hw])
        rw [Bool.eq_false_iff.2 hw] at hAr
        have HR0 := hR0
        have g8 : ¬ 8 < n := by intro h; rw [decide_eq_true h] at hAr; simp at hAr
        have g4 : decide ((n : Int) > 8) = false := decide_eq_false (by omega)
        have g3 : decide (8 < n) = false := decide_eq_false g8
        clear hR hw g8
        by_cases hQ : 0 ≤ Q
        · have g1 : decide (Q ≥ 0) = true := decide_eq_true hQ
          have hne : (n : Int) = Q := by
            by_cases h : (n : Int) = Q
            · exact h
            · rw [decide_eq_true hQ, decide_eq_true h] at hAr; simp at hAr
          have g2 : ((n : Int) != Q) = false := by rw [hne]; simp
          clear hAr hQ hne
          go_enter Try.func57, Try.ntmps57
          go_wp2_with (go_at_call 84; ((with_reducible refine (cA _).mono ?_); rintro e w3 ⟨rfl, rfl⟩))
          go_loopw [4] (fun i wr0 => ∃ (wr : World) (k : Nat), wr = wr0 ∧ k ≤ n ∧ i = .int .i64 k ∧ Below W2.heap.size W2 wr ∧ Hid (F k = R)) (fun i _ => n - (intOf i).toNat)
          case atStart => exact ⟨_, 0, rfl, by omega, rfl, Below.refl _ _, HR0⟩
          case round =>
            obtain ⟨wr, k, rfl, hk, rfl, hB, hRk⟩ := hrel
            obtain ⟨_, _, _, s3r⟩ := (TBox.b HS.out hB).four
            by_cases hlt : k < n
            · obtain ⟨bb, o, x, A, M, Cc, rfl, hb, y0, y1, y2, y3, hx, hok⟩ := (TsW.b H1.out hB).at hlt
              have hs1 := Lib.hid (Hst.out k x hx)
              have cs := HK.out k x hx A M Cc wr hok
              clear hx hok H1 Hst HK HS
              generalize partE x = px at *
              generalize opT x = op' at *
              generalize nameT x = nm' at *
              generalize numT x = nu' at *
              have hk0 : 0 ≤ (k : Int) := by omega
              have hk1 : (k : Int) < (n : Int) := by omega
              by_cases hp : px = 0
              · have p1 : (px != 0) = false := by rw [hp]; rfl
                have hnew : Hid (F (k + 1) = R) := Lib.hid (by rw [← hRk.out, hs1.out, if_neg (by omega)])
                clear hRk hs1 hp
                go_wp2_with (go_at_call 57; ((with_reducible refine cs.mono ?_); rintro e w4 ⟨rfl, hb4⟩))
                go_roundw
                case rel => exact ⟨_, k + 1, rfl, by omega, by go_num, bel_trans hB hb4, hnew⟩
                case measure => simp [intOf]; omega
              · have p1 : (px != 0) = true := bne_iff_ne.2 hp
                have hnew : Hid (px = R) := Lib.hid (by rw [← hRk.out, hs1.out, if_pos hp])
                clear hRk hs1 hp
                go_wp2_with (go_at_call 57; ((with_reducible refine cs.mono ?_); rintro e w4 ⟨rfl, hb4⟩))
                go_ret
                exact ⟨one hnew.out, bel_trans hB2 (bel_trans hB hb4)⟩
            · have hnew : Hid ((0 : Int) = R) := Lib.hid (by rw [← hRk.out, He.out k (by omega)])
              clear hRk
              go_wp2
              go_ret
              exact ⟨one hnew.out, bel_trans hB2 hB⟩
        · have g1 : decide (Q ≥ 0) = false := decide_eq_false hQ
          clear hAr hQ
          go_enter Try.func57, Try.ntmps57
          go_wp2_with (go_at_call 84; ((with_reducible refine (cA _).mono ?_); rintro e w3 ⟨rfl, rfl⟩))
          go_loopw [4] (fun i wr0 => ∃ (wr : World) (k : Nat), wr = wr0 ∧ k ≤ n ∧ i = .int .i64 k ∧ Below W2.heap.size W2 wr ∧ Hid (F k = R)) (fun i _ => n - (intOf i).toNat)
          case atStart => exact ⟨_, 0, rfl, by omega, rfl, Below.refl _ _, HR0⟩
          case round =>
            obtain ⟨wr, k, rfl, hk, rfl, hB, hRk⟩ := hrel
            obtain ⟨_, _, _, s3r⟩ := (TBox.b HS.out hB).four
            by_cases hlt : k < n
            · obtain ⟨bb, o, x, A, M, Cc, rfl, hb, y0, y1, y2, y3, hx, hok⟩ := (TsW.b H1.out hB).at hlt
              have hs1 := Lib.hid (Hst.out k x hx)
              have cs := HK.out k x hx A M Cc wr hok
              clear hx hok H1 Hst HK HS
              generalize partE x = px at *
              generalize opT x = op' at *
              generalize nameT x = nm' at *
              generalize numT x = nu' at *
              have hk0 : 0 ≤ (k : Int) := by omega
              have hk1 : (k : Int) < (n : Int) := by omega
              by_cases hp : px = 0
              · have p1 : (px != 0) = false := by rw [hp]; rfl
                have hnew : Hid (F (k + 1) = R) := Lib.hid (by rw [← hRk.out, hs1.out, if_neg (by omega)])
                clear hRk hs1 hp
                go_wp2_with (go_at_call 57; ((with_reducible refine cs.mono ?_); rintro e w4 ⟨rfl, hb4⟩))
                go_roundw
                case rel => exact ⟨_, k + 1, rfl, by omega, by go_num, bel_trans hB hb4, hnew⟩
                case measure => simp [intOf]; omega
              · have p1 : (px != 0) = true := bne_iff_ne.2 hp
                have hnew : Hid (px = R) := Lib.hid (by rw [← hRk.out, hs1.out, if_pos hp])
                clear hRk hs1 hp
                go_wp2_with (go_at_call 57; ((with_reducible refine cs.mono ?_); rintro e w4 ⟨rfl, hb4⟩))
                go_ret
                exact ⟨one hnew.out, bel_trans hB2 (bel_trans hB hb4)⟩
            · have hnew : Hid ((0 : Int) = R) := Lib.hid (by rw [← hRk.out, He.out k (by omega)])
              clear hRk
              go_wp2
              go_ret
              exact ⟨one hnew.out, bel_trans hB2 hB⟩
    · generalize argsF 1 = Q at *
      by_cases hw : arityB 1 n = true
      · have hR12 : Hid ((12 : Int) = R) := Lib.hid (by rw [hR.out, if_pos hw])
        rw [hw] at hAr
        clear hR H1 Hst He HK HS hw
        by_cases hQ : 0 ≤ Q
        · have g1 : decide (Q ≥ 0) = true := decide_eq_true hQ
          by_cases hne : (n : Int) = Q
          · have g2 : ((n : Int) != Q) = false := by rw [hne]; simp
            have g3 : decide (8 < n) = true := by simpa [hne] using hAr.symm
            have g4 : decide ((n : Int) > 8) = true := decide_eq_true (by have := of_decide_eq_true g3; omega)
            clear hAr hQ hne
            go_enter Try.func57, Try.ntmps57
            go_wp2_with (go_at_call 84; ((with_reducible refine (cA _).mono ?_); rintro e w3 ⟨rfl, rfl⟩))
            go_ret
            exact ⟨one hR12.out, hB2⟩
          · have g2 : ((n : Int) != Q) = true := bne_iff_ne.2 hne
            clear hAr hQ hne
            go_enter Try.func57, Try.ntmps57
            go_wp2_with (go_at_call 84; ((with_reducible refine (cA _).mono ?_); rintro e w3 ⟨rfl, rfl⟩))
            go_ret
            exact ⟨one hR12.out, hB2⟩
        · have g1 : decide (Q ≥ 0) = false := decide_eq_false hQ
          have g3 : decide (8 < n) = true := by rw [decide_eq_false hQ] at hAr; simpa using hAr.symm
          have g4 : decide ((n : Int) > 8) = true := decide_eq_true (by have := of_decide_eq_true g3; omega)
          clear hAr hQ
          go_enter Try.func57, Try.ntmps57
          go_wp2_with (go_at_call 84; ((with_reducible refine (cA _).mono ?_); rintro e w3 ⟨rfl, rfl⟩))
          go_ret
          exact ⟨one hR12.out, hB2⟩
      · have hR0 : Hid (F 0 = R) := Lib.hid (by rw [hR.out, if_neg hw])
        rw [Bool.eq_false_iff.2 hw] at hAr
        have HR0 := hR0
        have g8 : ¬ 8 < n := by intro h; rw [decide_eq_true h] at hAr; simp at hAr
        have g4 : decide ((n : Int) > 8) = false := decide_eq_false (by omega)
        have g3 : decide (8 < n) = false := decide_eq_false g8
        clear hR hw g8
        by_cases hQ : 0 ≤ Q
        · have g1 : decide (Q ≥ 0) = true := decide_eq_true hQ
          have hne : (n : Int) = Q := by
            by_cases h : (n : Int) = Q
            · exact h
            · rw [decide_eq_true hQ, decide_eq_true h] at hAr; simp at hAr
          have g2 : ((n : Int) != Q) = false := by rw [hne]; simp
          clear hAr hQ hne
          go_enter Try.func57, Try.ntmps57
          go_wp2_with (go_at_call 84; ((with_reducible refine (cA _).mono ?_); rintro e w3 ⟨rfl, rfl⟩))
          go_loopw [4] (fun i wr0 => ∃ (wr : World) (k : Nat), wr = wr0 ∧ k ≤ n ∧ i = .int .i64 k ∧ Below W2.heap.size W2 wr ∧ Hid (F k = R)) (fun i _ => n - (intOf i).toNat)
          case atStart => exact ⟨_, 0, rfl, by omega, rfl, Below.refl _ _, HR0⟩
          case round =>
            obtain ⟨wr, k, rfl, hk, rfl, hB, hRk⟩ := hrel
            obtain ⟨_, _, _, s3r⟩ := (TBox.b HS.out hB).four
            by_cases hlt : k < n
            · obtain ⟨bb, o, x, A, M, Cc, rfl, hb, y0, y1, y2, y3, hx, hok⟩ := (TsW.b H1.out hB).at hlt
              have hs1 := Lib.hid (Hst.out k x hx)
              have cs := HK.out k x hx A M Cc wr hok
              clear hx hok H1 Hst HK HS
              generalize partE x = px at *
              generalize opT x = op' at *
              generalize nameT x = nm' at *
              generalize numT x = nu' at *
              have hk0 : 0 ≤ (k : Int) := by omega
              have hk1 : (k : Int) < (n : Int) := by omega
              by_cases hp : px = 0
              · have p1 : (px != 0) = false := by rw [hp]; rfl
                have hnew : Hid (F (k + 1) = R) := Lib.hid (by rw [← hRk.out, hs1.out, if_neg (by omega)])
                clear hRk hs1 hp
                go_wp2_with (go_at_call 57; ((with_reducible refine cs.mono ?_); rintro e w4 ⟨rfl, hb4⟩))
                go_roundw
                case rel => exact ⟨_, k + 1, rfl, by omega, by go_num, bel_trans hB hb4, hnew⟩
                case measure => simp [intOf]; omega
              · have p1 : (px != 0) = true := bne_iff_ne.2 hp
                have hnew : Hid (px = R) := Lib.hid (by rw [← hRk.out, hs1.out, if_pos hp])
                clear hRk hs1 hp
                go_wp2_with (go_at_call 57; ((with_reducible refine cs.mono ?_); rintro e w4 ⟨rfl, hb4⟩))
                go_ret
                exact ⟨one hnew.out, bel_trans hB2 (bel_trans hB hb4)⟩
            · have hnew : Hid ((0 : Int) = R) := Lib.hid (by rw [← hRk.out, He.out k (by omega)])
              clear hRk
              go_wp2
              go_ret
              exact ⟨one hnew.out, bel_trans hB2 hB⟩
        · have g1 : decide (Q ≥ 0) = false := decide_eq_false hQ
          clear hAr hQ
          go_enter Try.func57, Try.ntmps57
          go_wp2_with (go_at_call 84; ((with_reducible refine (cA _).mono ?_); rintro e w3 ⟨rfl, rfl⟩))
          go_loopw [4] (fun i wr0 => ∃ (wr : World) (k : Nat), wr = wr0 ∧ k ≤ n ∧ i = .int .i64 k ∧ Below W2.heap.size W2 wr ∧ Hid (F k = R)) (fun i _ => n - (intOf i).toNat)
          case atStart => exact ⟨_, 0, rfl, by omega, rfl, Below.refl _ _, HR0⟩
          case round =>
            obtain ⟨wr, k, rfl, hk, rfl, hB, hRk⟩ := hrel
            obtain ⟨_, _, _, s3r⟩ := (TBox.b HS.out hB).four
            by_cases hlt : k < n
            · obtain ⟨bb, o, x, A, M, Cc, rfl, hb, y0, y1, y2, y3, hx, hok⟩ := (TsW.b H1.out hB).at hlt
              have hs1 := Lib.hid (Hst.out k x hx)
              have cs := HK.out k x hx A M Cc wr hok
              clear hx hok H1 Hst HK HS
              generalize partE x = px at *
              generalize opT x = op' at *
              generalize nameT x = nm' at *
              generalize numT x = nu' at *
              have hk0 : 0 ≤ (k : Int) := by omega
              have hk1 : (k : Int) < (n : Int) := by omega
              by_cases hp : px = 0
              · have p1 : (px != 0) = false := by rw [hp]; rfl
                have hnew : Hid (F (k + 1) = R) := Lib.hid (by rw [← hRk.out, hs1.out, if_neg (by omega)])
                clear hRk hs1 hp
                go_wp2_with (go_at_call 57; ((with_reducible refine cs.mono ?_); rintro e w4 ⟨rfl, hb4⟩))
                go_roundw
                case rel => exact ⟨_, k + 1, rfl, by omega, by go_num, bel_trans hB hb4, hnew⟩
                case measure => simp [intOf]; omega
              · have p1 : (px != 0) = true := bne_iff_ne.2 hp
                have hnew : Hid (px = R) := Lib.hid (by rw [← hRk.out, hs1.out, if_pos hp])
                clear hRk hs1 hp
                go_wp2_with (go_at_call 57; ((with_reducible refine cs.mono ?_); rintro e w4 ⟨rfl, hb4⟩))
                go_ret
                exact ⟨one hnew.out, bel_trans hB2 (bel_trans hB hb4)⟩
            · have hnew : Hid ((0 : Int) = R) := Lib.hid (by rw [← hRk.out, He.out k (by omega)])
              clear hRk
              go_wp2
              go_ret
              exact ⟨one hnew.out, bel_trans hB2 hB⟩
    · generalize argsF 3 = Q at *
      by_cases hw : arityB 3 n = true
      · have hR12 : Hid ((12 : Int) = R) := Lib.hid (by rw [hR.out, if_pos hw])
        rw [hw] at hAr
        clear hR H1 Hst He HK HS hw
        by_cases hQ : 0 ≤ Q
        · have g1 : decide (Q ≥ 0) = true := decide_eq_true hQ
          by_cases hne : (n : Int) = Q
          · have g2 : ((n : Int) != Q) = false := by rw [hne]; simp
            have g3 : decide (8 < n) = true := by simpa [hne] using hAr.symm
            have g4 : decide ((n : Int) > 8) = true := decide_eq_true (by have := of_decide_eq_true g3; omega)
            clear hAr hQ hne
            go_enter Try.func57, Try.ntmps57
            go_wp2_with (go_at_call 84; ((with_reducible refine (cA _).mono ?_); rintro e w3 ⟨rfl, rfl⟩))
            go_ret
            exact ⟨one hR12.out, hB2⟩
          · have g2 : ((n : Int) != Q) = true := bne_iff_ne.2 hne
            clear hAr hQ hne
            go_enter Try.func57, Try.ntmps57
            go_wp2_with (go_at_call 84; ((with_reducible refine (cA _).mono ?_); rintro e w3 ⟨rfl, rfl⟩))
            go_ret
            exact ⟨one hR12.out, hB2⟩
        · have g1 : decide (Q ≥ 0) = false := decide_eq_false hQ
          have g3 : decide (8 < n) = true := by rw [decide_eq_false hQ] at hAr; simpa using hAr.symm
          have g4 : decide ((n : Int) > 8) = true := decide_eq_true (by have := of_decide_eq_true g3; omega)
          clear hAr hQ
          go_enter Try.func57, Try.ntmps57
          go_wp2_with (go_at_call 84; ((with_reducible refine (cA _).mono ?_); rintro e w3 ⟨rfl, rfl⟩))
          go_ret
          exact ⟨one hR12.out, hB2⟩
      · have hR0 : Hid (F 0 = R) := Lib.hid (by rw [hR.out, if_neg hw])
        rw [Bool.eq_false_iff.2 hw] at hAr
        have HR0 := hR0
        have g8 : ¬ 8 < n := by intro h; rw [decide_eq_true h] at hAr; simp at hAr
        have g4 : decide ((n : Int) > 8) = false := decide_eq_false (by omega)
        have g3 : decide (8 < n) = false := decide_eq_false g8
        clear hR hw g8
        by_cases hQ : 0 ≤ Q
        · have g1 : decide (Q ≥ 0) = true := decide_eq_true hQ
          have hne : (n : Int) = Q := by
            by_cases h : (n : Int) = Q
            · exact h
            · rw [decide_eq_true hQ, decide_eq_true h] at hAr; simp at hAr
          have g2 : ((n : Int) != Q) = false := by rw [hne]; simp
          clear hAr hQ hne
          go_enter Try.func57, Try.ntmps57
          go_wp2_with (go_at_call 84; ((with_reducible refine (cA _).mono ?_); rintro e w3 ⟨rfl, rfl⟩))
          go_loopw [4] (fun i wr0 => ∃ (wr : World) (k : Nat), wr = wr0 ∧ k ≤ n ∧ i = .int .i64 k ∧ Below W2.heap.size W2 wr ∧ Hid (F k = R)) (fun i _ => n - (intOf i).toNat)
          case atStart => exact ⟨_, 0, rfl, by omega, rfl, Below.refl _ _, HR0⟩
          case round =>
            obtain ⟨wr, k, rfl, hk, rfl, hB, hRk⟩ := hrel
            obtain ⟨_, _, _, s3r⟩ := (TBox.b HS.out hB).four
            by_cases hlt : k < n
            · obtain ⟨bb, o, x, A, M, Cc, rfl, hb, y0, y1, y2, y3, hx, hok⟩ := (TsW.b H1.out hB).at hlt
              have hs1 := Lib.hid (Hst.out k x hx)
              have cs := HK.out k x hx A M Cc wr hok
              clear hx hok H1 Hst HK HS
              generalize partE x = px at *
              generalize opT x = op' at *
              generalize nameT x = nm' at *
              generalize numT x = nu' at *
              have hk0 : 0 ≤ (k : Int) := by omega
              have hk1 : (k : Int) < (n : Int) := by omega
              by_cases hp : px = 0
              · have p1 : (px != 0) = false := by rw [hp]; rfl
                have hnew : Hid (F (k + 1) = R) := Lib.hid (by rw [← hRk.out, hs1.out, if_neg (by omega)])
                clear hRk hs1 hp
                go_wp2_with (go_at_call 57; ((with_reducible refine cs.mono ?_); rintro e w4 ⟨rfl, hb4⟩))
                go_roundw
                case rel => exact ⟨_, k + 1, rfl, by omega, by go_num, bel_trans hB hb4, hnew⟩
                case measure => simp [intOf]; omega
              · have p1 : (px != 0) = true := bne_iff_ne.2 hp
                have hnew : Hid (px = R) := Lib.hid (by rw [← hRk.out, hs1.out, if_pos hp])
                clear hRk hs1 hp
                go_wp2_with (go_at_call 57; ((with_reducible refine cs.mono ?_); rintro e w4 ⟨rfl, hb4⟩))
                go_ret
                exact ⟨one hnew.out, bel_trans hB2 (bel_trans hB hb4)⟩
            · have hnew : Hid ((0 : Int) = R) := Lib.hid (by rw [← hRk.out, He.out k (by omega)])
              clear hRk
              go_wp2
              go_ret
              exact ⟨one hnew.out, bel_trans hB2 hB⟩
        · have g1 : decide (Q ≥ 0) = false := decide_eq_false hQ
          clear hAr hQ
          go_enter Try.func57, Try.ntmps57
          go_wp2_with (go_at_call 84; ((with_reducible refine (cA _).mono ?_); rintro e w3 ⟨rfl, rfl⟩))
          go_loopw [4] (fun i wr0 => ∃ (wr : World) (k : Nat), wr = wr0 ∧ k ≤ n ∧ i = .int .i64 k ∧ Below W2.heap.size W2 wr ∧ Hid (F k = R)) (fun i _ => n - (intOf i).toNat)
          case atStart => exact ⟨_, 0, rfl, by omega, rfl, Below.refl _ _, HR0⟩
          case round =>
            obtain ⟨wr, k, rfl, hk, rfl, hB, hRk⟩ := hrel
            obtain ⟨_, _, _, s3r⟩ := (TBox.b HS.out hB).four
            by_cases hlt : k < n
            · obtain ⟨bb, o, x, A, M, Cc, rfl, hb, y0, y1, y2, y3, hx, hok⟩ := (TsW.b H1.out hB).at hlt
              have hs1 := Lib.hid (Hst.out k x hx)
              have cs := HK.out k x hx A M Cc wr hok
              clear hx hok H1 Hst HK HS
              generalize partE x = px at *
              generalize opT x = op' at *
              generalize nameT x = nm' at *
              generalize numT x = nu' at *
              have hk0 : 0 ≤ (k : Int) := by omega
              have hk1 : (k : Int) < (n : Int) := by omega
              by_cases hp : px = 0
              · have p1 : (px != 0) = false := by rw [hp]; rfl
                have hnew : Hid (F (k + 1) = R) := Lib.hid (by rw [← hRk.out, hs1.out, if_neg (by omega)])
                clear hRk hs1 hp
                go_wp2_with (go_at_call 57; ((with_reducible refine cs.mono ?_); rintro e w4 ⟨rfl, hb4⟩))
                go_roundw
                case rel => exact ⟨_, k + 1, rfl, by omega, by go_num, bel_trans hB hb4, hnew⟩
                case measure => simp [intOf]; omega
              · have p1 : (px != 0) = true := bne_iff_ne.2 hp
                have hnew : Hid (px = R) := Lib.hid (by rw [← hRk.out, hs1.out, if_pos hp])
                clear hRk hs1 hp
                go_wp2_with (go_at_call 57; ((with_reducible refine cs.mono ?_); rintro e w4 ⟨rfl, hb4⟩))
                go_ret
                exact ⟨one hnew.out, bel_trans hB2 (bel_trans hB hb4)⟩
            · have hnew : Hid ((0 : Int) = R) := Lib.hid (by rw [← hRk.out, He.out k (by omega)])
              clear hRk
              go_wp2
              go_ret
              exact ⟨one hnew.out, bel_trans hB2 hB⟩
theorem part7_any (t : Tm) : Part7Ok t := Tm.ind part7_step t
set_option maxRecDepth 100000 in
set_option maxHeartbeats 4000000 in
theorem Right7_any (t : Tm) (a : Option Addr) (n c : Nat) (w : World) (hA : ArW w t a n c) :
    Calls Try.prog 30 #[.agg #[.int .i64 (opT t), .string (nameT t), .int .i64 (numT t), .slice a n c]] w fun e w' => e = .returned (.int .i64 (rightE t)) ∧ Below w.heap.size w w' := by
  obtain ⟨W2, hW2, hB2, hs2, S2⟩ := box1 w (opT t) (nameT t) (numT t) a n c
  have cT := Depth7_any t a n c W2 (ArW.b hA hB2)
  have cS := fun (w' : World) (h : Below W2.heap.size W2 w') => Size7_any t a n c w' (ArW.b (ArW.b hA hB2) h)
  have cP := fun (w' : World) (h : Below W2.heap.size W2 w') => part7_any t a n c w' (ArW.b (ArW.b hA hB2) h)
  have hR : Hid (rightE t = if 64 < depth t then 6 else if 4096 < size t then 2 else partE t) := Lib.hid rfl
  obtain ⟨s0, s1, s2, s3⟩ := S2.four
  have HS := Lib.hid S2
  clear S2 hA
  generalize rightE t = R at *
  generalize partE t = P at *
  generalize hsz : min (size t) 4097 = sz at *
  generalize size t = sz0 at *
  generalize hdp : min (depth t) 65 = dp at *
  generalize depth t = d0 at *
  generalize opT t = op at *
  generalize nameT t = nm at *
  generalize numT t = nu at *
  by_cases h1 : 64 < d0
  · have q1 : decide ((dp : Int) > 64) = true := decide_eq_true (by omega)
    have hr : Hid ((6 : Int) = R) := Lib.hid (by rw [hR.out, if_pos h1])
    clear hR h1 hsz hdp
    go_enter Try.func30, Try.ntmps30
    go_wp2_with (go_at_call 55; ((with_reducible refine cT.mono ?_); rintro e w3 ⟨rfl, hb3⟩; obtain ⟨u0, u1, u2, u3⟩ := (TBox.b HS.out hb3).four))
    go_ret
    exact ⟨one hr.out, bel_trans hB2 hb3⟩
  · have q1 : decide ((dp : Int) > 64) = false := decide_eq_false (by omega)
    by_cases h2 : 4096 < sz0
    · have q2 : decide ((sz : Int) > 4096) = true := decide_eq_true (by omega)
      have hr : Hid ((2 : Int) = R) := Lib.hid (by rw [hR.out, if_neg h1, if_pos h2])
      clear hR h1 h2 hsz hdp
      go_enter Try.func30, Try.ntmps30
      go_wp2_with (first
        | (go_at_call 55; ((with_reducible refine cT.mono ?_); rintro e w3 ⟨rfl, hb3⟩; obtain ⟨u0, u1, u2, u3⟩ := (TBox.b HS.out hb3).four))
        | (go_at_call 56; ((with_reducible refine (cS _ hb3).mono ?_); rintro e w4 ⟨rfl, hb4⟩; have B4 := bel_trans hb3 hb4; obtain ⟨v0, v1, v2, v3⟩ := (TBox.b HS.out B4).four)))
      go_ret
      exact ⟨one hr.out, bel_trans hB2 B4⟩
    · have q2 : decide ((sz : Int) > 4096) = false := decide_eq_false (by omega)
      have hr : Hid (P = R) := Lib.hid (by rw [hR.out, if_neg h1, if_neg h2])
      clear hR h1 h2 hsz hdp
      go_enter Try.func30, Try.ntmps30
      go_wp2_with (first
        | (go_at_call 55; ((with_reducible refine cT.mono ?_); rintro e w3 ⟨rfl, hb3⟩; obtain ⟨u0, u1, u2, u3⟩ := (TBox.b HS.out hb3).four))
        | (go_at_call 56; ((with_reducible refine (cS _ hb3).mono ?_); rintro e w4 ⟨rfl, hb4⟩; have B4 := bel_trans hb3 hb4; obtain ⟨v0, v1, v2, v3⟩ := (TBox.b HS.out B4).four))
        | (go_at_call 57; ((with_reducible refine (cP _ B4).mono ?_); rintro e w5 ⟨rfl, hb5⟩)))
      go_ret
      exact ⟨one hr.out, bel_trans hB2 (bel_trans B4 hb5)⟩
end Go.Proofs.Ytacncbkcnhlpcaa.C
