/-
  What is proved: the document's first error of a term's parts (package of layer 8).
-/
import Derived.Test.YtcigeclnbhcohaaGreatDoorR1
import Derived.Test.YtcigeclnbhcohaaGreatDoorRP
namespace Go.Proofs.YtcigeclnbhcohaaGreatDoor.C
open Go.RowKit L T
set_option linter.unusedVariables false
set_option linter.unusedSimpArgs false

def Part8Ok (t : Tm) : Prop := ∀ (a : Option Addr) (n c : Nat) (w : World), ArW w t a n c →
  Calls Tryz.prog 31 #[.agg #[.int .i64 (opT t), .string (nameT t), .int .i64 (numT t), .slice a n c]] w fun e w' => e = .returned (.int .i64 (partE t)) ∧ Below w.heap.size w w'
set_option maxRecDepth 100000 in
set_option maxHeartbeats 16000000 in
theorem part8_step (t : Tm) (hok : ∀ x ∈ argsT t, Part8Ok x) : Part8Ok t := by
  intro a n c w hA
  obtain ⟨W2, hW2, hB2, hs2, S2⟩ := box1 w (opT t) (nameT t) (numT t) a n c
  have hT := TsW.b (ArW.args hA) hB2
  have hR : Hid (partE t = if formB (opT t) (nameT t) (numT t) = true then 7 else if arityB (opT t) n = true then 12 else partsE (argsT t)) := Lib.hid (by rw [partE_mk, ← hT.1])
  generalize partE t = R at *
  have hk2 : ∀ k x, (argsT t)[k]? = some x → Part8Ok x := fun k x h => hok x (List.mem_of_getElem? h)
  have hst : ∀ k x, (argsT t)[k]? = some x → partsE ((argsT t).drop k) = if partE x ≠ 0 then partE x else partsE ((argsT t).drop (k + 1)) := fun k x h => by rw [drop_t h, partsE]
  have he : ∀ k, n ≤ k → partsE ((argsT t).drop k) = 0 := fun k h => by rw [List.drop_eq_nil_of_le (by rw [← hT.1]; exact h), partsE]
  have hn : n ≤ 9223372036854775807 := by have h1 := hT.2.1; have h2 := hT.2.2.1; unfold maxLen at h2; omega
  have h0 : partsE (argsT t) = partsE ((argsT t).drop 0) := rfl
  rw [h0] at hR
  generalize argsT t = l at *
  obtain ⟨F, hF⟩ : ∃ F : Nat → Int, ∀ k, partsE (l.drop k) = F k := ⟨_, fun _ => rfl⟩
  simp only [hF] at hst he hR
  obtain ⟨s0, s1, s2, s3⟩ := S2.four
  have H1 := Lib.hid hT
  have Hst := Lib.hid hst
  have He := Lib.hid he
  have HK := Lib.hid hk2
  have HS := Lib.hid S2
  clear hA hT hst he hk2 hok hF S2 h0
  generalize opT t = op at *
  generalize nameT t = nm at *
  generalize numT t = nu at *
  by_cases hform : formB op nm nu = true
  · have hR7 : Hid ((7 : Int) = R) := Lib.hid (by rw [hR.out, if_pos hform])
    clear hR H1 Hst He HK HS
    have hop : op < 1 ∨ 8 < op ∨ op = 1 ∨ op = 2 ∨ op = 3 ∨ op = 4 ∨ op = 5 ∨ op = 6 ∨ op = 7 ∨ op = 8 := by omega
    rcases hop with h | h | rfl | rfl | rfl | rfl | rfl | rfl | rfl | rfl
    · have q0 : decide (op < 1) = true := decide_eq_true h
      have q1 : (op == 1) = false := beq_no' (by omega)
      have q2 : (op == 2) = false := beq_no' (by omega)
      have q3 : (op == 3) = false := beq_no' (by omega)
      have q4 : (op == 4) = false := beq_no' (by omega)
      have q8 : (op == 8) = false := beq_no' (by omega)
      clear hform h
      go_enter Tryz.func31, Tryz.ntmps31
      go_wp2
      go_ret
      exact ⟨one hR7.out, hB2⟩
    · have q0 : decide (op < 1) = false := decide_eq_false (by omega)
      have q9 : decide (op > 8) = true := decide_eq_true h
      have q1 : (op == 1) = false := beq_no' (by omega)
      have q2 : (op == 2) = false := beq_no' (by omega)
      have q3 : (op == 3) = false := beq_no' (by omega)
      have q4 : (op == 4) = false := beq_no' (by omega)
      have q8 : (op == 8) = false := beq_no' (by omega)
      clear hform h
      go_enter Tryz.func31, Tryz.ntmps31
      go_wp2
      go_ret
      exact ⟨one hR7.out, hB2⟩
    all_goals
      rcases hE : nm.toList.isEmpty with _ | _
      all_goals
        rcases Int.lt_trichotomy nu 0 with hz | rfl | hz
        all_goals
          try (have z1 : (nu != 0) = true := bne_iff_ne.2 (by omega))
          try (first | (have z2 : decide (nu < 0) = true := decide_eq_true hz) | (have z2 : decide (nu < 0) = false := decide_eq_false (by omega)))
          try (clear hz)
          first
            | (exfalso; revert hform; simp only [formB]; simp_all; done)
            | (clear hform
               go_enter Tryz.func31, Tryz.ntmps31
               go_wp2
               go_ret
               exact ⟨one hR7.out, hB2⟩)
  · have hf := form_no (Bool.not_eq_true _ ▸ hform)
    rw [if_neg hform] at hR
    clear hform
    obtain ⟨hop1, hop8, hE, hz, h2⟩ := hf
    have hop : op = 1 ∨ op = 2 ∨ op = 3 ∨ op = 4 ∨ op = 5 ∨ op = 6 ∨ op = 7 ∨ op = 8 := by omega
    clear hop1 hop8
    rcases hop with rfl | rfl | rfl | rfl | rfl | rfl | rfl | rfl
    · -- op 1
      clear hE
      obtain rfl := hz (by omega) (by omega) (by omega)
      clear h2
      by_cases hw : n = 0
      · have har : arityB 1 n = false := by subst hw; rfl
        have w1 : ((n : Int) != 0) = false := by subst hw; rfl
        rw [har, if_neg (by simp)] at hR
        clear har hw
        have HR0 : Hid (F 0 = R) := Lib.hid hR.out.symm
        clear hR
        go_enter Tryz.func31, Tryz.ntmps31
        go_wp2
        go_loopw [6] (fun i wr0 => ∃ (wr : World) (k : Nat), wr = wr0 ∧ k ≤ n ∧ i = .int .i64 k ∧ Below W2.heap.size W2 wr ∧ Hid (F k = R)) (fun i _ => n - (intOf i).toNat)
        case atStart => exact ⟨_, 0, rfl, by omega, rfl, Below.refl _ _, HR0⟩
        case round =>
          obtain ⟨wr, k, rfl, hk, rfl, hB, hRk⟩ := hrel
          obtain ⟨_, _, _, s3r⟩ := (TBox.b HS.out hB).four
          by_cases hlt : k < n
          · obtain ⟨bb, o, x, A, M, Cc, rfl, hb, y0, y1, y2, y3, hx, hok⟩ := (TsW.b H1.out hB).at hlt
            have hs1 := Lib.hid (Hst.out k x hx)
            have cs := HK.out k x hx A M Cc wr hok
            clear hx hok H1 Hst HK HS
            generalize partE x = px at *
            generalize opT x = op' at *
            generalize nameT x = nm' at *
            generalize numT x = nu' at *
            have hk0 : 0 ≤ (k : Int) := by omega
            have hk1 : (k : Int) < (n : Int) := by omega
            by_cases hp : px = 0
            · have p1 : (px != 0) = false := by rw [hp]; rfl
              have hnew : Hid (F (k + 1) = R) := Lib.hid (by rw [← hRk.out, hs1.out, if_neg (by omega)])
              clear hRk hs1 hp
              go_wp2_with (go_at_call 31; ((with_reducible refine cs.mono ?_); rintro e w4 ⟨rfl, hb4⟩))
              go_roundw
              case rel => exact ⟨_, k + 1, rfl, by omega, by go_num, bel_trans hB hb4, hnew⟩
              case measure => simp [intOf]; omega
            · have p1 : (px != 0) = true := bne_iff_ne.2 hp
              have hnew : Hid (px = R) := Lib.hid (by rw [← hRk.out, hs1.out, if_pos hp])
              clear hRk hs1 hp
              go_wp2_with (go_at_call 31; ((with_reducible refine cs.mono ?_); rintro e w4 ⟨rfl, hb4⟩))
              go_ret
              exact ⟨one hnew.out, bel_trans hB2 (bel_trans hB hb4)⟩
          · have hnew : Hid ((0 : Int) = R) := Lib.hid (by rw [← hRk.out, He.out k (by omega)])
            clear hRk
            go_wp2
            go_ret
            exact ⟨one hnew.out, bel_trans hB2 hB⟩
      · have har : arityB 1 n = true := by simp [arityB, argsI]; omega
        have w1 : ((n : Int) != 0) = true := bne_iff_ne.2 (by omega)
        rw [har, if_pos rfl] at hR
        clear har hw
        have hR12 : Hid ((12 : Int) = R) := Lib.hid hR.out.symm
        clear hR H1 Hst He HK HS
        go_enter Tryz.func31, Tryz.ntmps31
        go_wp2
        go_ret
        exact ⟨one hR12.out, hB2⟩
    · -- op 2
      have hE := hE (by omega) (by omega)
      have z2 : decide (nu < 0) = false := decide_eq_false (by have := h2 rfl; omega)
      clear hz h2
      by_cases hw : n = 0
      · have har : arityB 2 n = false := by subst hw; rfl
        have w1 : ((n : Int) != 0) = false := by subst hw; rfl
        rw [har, if_neg (by simp)] at hR
        clear har hw
        have HR0 : Hid (F 0 = R) := Lib.hid hR.out.symm
        clear hR
        go_enter Tryz.func31, Tryz.ntmps31
        go_wp2
        go_loopw [6] (fun i wr0 => ∃ (wr : World) (k : Nat), wr = wr0 ∧ k ≤ n ∧ i = .int .i64 k ∧ Below W2.heap.size W2 wr ∧ Hid (F k = R)) (fun i _ => n - (intOf i).toNat)
        case atStart => exact ⟨_, 0, rfl, by omega, rfl, Below.refl _ _, HR0⟩
        case round =>
          obtain ⟨wr, k, rfl, hk, rfl, hB, hRk⟩ := hrel
          obtain ⟨_, _, _, s3r⟩ := (TBox.b HS.out hB).four
          by_cases hlt : k < n
          · obtain ⟨bb, o, x, A, M, Cc, rfl, hb, y0, y1, y2, y3, hx, hok⟩ := (TsW.b H1.out hB).at hlt
            have hs1 := Lib.hid (Hst.out k x hx)
            have cs := HK.out k x hx A M Cc wr hok
            clear hx hok H1 Hst HK HS
            generalize partE x = px at *
            generalize opT x = op' at *
            generalize nameT x = nm' at *
            generalize numT x = nu' at *
            have hk0 : 0 ≤ (k : Int) := by omega
            have hk1 : (k : Int) < (n : Int) := by omega
            by_cases hp : px = 0
            · have p1 : (px != 0) = false := by rw [hp]; rfl
              have hnew : Hid (F (k + 1) = R) := Lib.hid (by rw [← hRk.out, hs1.out, if_neg (by omega)])
              clear hRk hs1 hp
              go_wp2_with (go_at_call 31; ((with_reducible refine cs.mono ?_); rintro e w4 ⟨rfl, hb4⟩))
              go_roundw
              case rel => exact ⟨_, k + 1, rfl, by omega, by go_num, bel_trans hB hb4, hnew⟩
              case measure => simp [intOf]; omega
            · have p1 : (px != 0) = true := bne_iff_ne.2 hp
              have hnew : Hid (px = R) := Lib.hid (by rw [← hRk.out, hs1.out, if_pos hp])
              clear hRk hs1 hp
              go_wp2_with (go_at_call 31; ((with_reducible refine cs.mono ?_); rintro e w4 ⟨rfl, hb4⟩))
              go_ret
              exact ⟨one hnew.out, bel_trans hB2 (bel_trans hB hb4)⟩
          · have hnew : Hid ((0 : Int) = R) := Lib.hid (by rw [← hRk.out, He.out k (by omega)])
            clear hRk
            go_wp2
            go_ret
            exact ⟨one hnew.out, bel_trans hB2 hB⟩
      · have har : arityB 2 n = true := by simp [arityB, argsI]; omega
        have w1 : ((n : Int) != 0) = true := bne_iff_ne.2 (by omega)
        rw [har, if_pos rfl] at hR
        clear har hw
        have hR12 : Hid ((12 : Int) = R) := Lib.hid hR.out.symm
        clear hR H1 Hst He HK HS
        go_enter Tryz.func31, Tryz.ntmps31
        go_wp2
        go_ret
        exact ⟨one hR12.out, hB2⟩
    · -- op 3
      clear hE
      obtain rfl := hz (by omega) (by omega) (by omega)
      clear h2
      by_cases hw : n ≤ 8
      · have har : arityB 3 n = false := by simp [arityB, argsI]; omega
        have w1 : decide ((n : Int) > 8) = false := decide_eq_false (by omega)
        rw [har, if_neg (by simp)] at hR
        clear har hw
        have HR0 : Hid (F 0 = R) := Lib.hid hR.out.symm
        clear hR
        go_enter Tryz.func31, Tryz.ntmps31
        go_wp2
        go_loopw [6] (fun i wr0 => ∃ (wr : World) (k : Nat), wr = wr0 ∧ k ≤ n ∧ i = .int .i64 k ∧ Below W2.heap.size W2 wr ∧ Hid (F k = R)) (fun i _ => n - (intOf i).toNat)
        case atStart => exact ⟨_, 0, rfl, by omega, rfl, Below.refl _ _, HR0⟩
        case round =>
          obtain ⟨wr, k, rfl, hk, rfl, hB, hRk⟩ := hrel
          obtain ⟨_, _, _, s3r⟩ := (TBox.b HS.out hB).four
          by_cases hlt : k < n
          · obtain ⟨bb, o, x, A, M, Cc, rfl, hb, y0, y1, y2, y3, hx, hok⟩ := (TsW.b H1.out hB).at hlt
            have hs1 := Lib.hid (Hst.out k x hx)
            have cs := HK.out k x hx A M Cc wr hok
            clear hx hok H1 Hst HK HS
            generalize partE x = px at *
            generalize opT x = op' at *
            generalize nameT x = nm' at *
            generalize numT x = nu' at *
            have hk0 : 0 ≤ (k : Int) := by omega
            have hk1 : (k : Int) < (n : Int) := by omega
            by_cases hp : px = 0
            · have p1 : (px != 0) = false := by rw [hp]; rfl
              have hnew : Hid (F (k + 1) = R) := Lib.hid (by rw [← hRk.out, hs1.out, if_neg (by omega)])
              clear hRk hs1 hp
              go_wp2_with (go_at_call 31; ((with_reducible refine cs.mono ?_); rintro e w4 ⟨rfl, hb4⟩))
              go_roundw
              case rel => exact ⟨_, k + 1, rfl, by omega, by go_num, bel_trans hB hb4, hnew⟩
              case measure => simp [intOf]; omega
            · have p1 : (px != 0) = true := bne_iff_ne.2 hp
              have hnew : Hid (px = R) := Lib.hid (by rw [← hRk.out, hs1.out, if_pos hp])
              clear hRk hs1 hp
              go_wp2_with (go_at_call 31; ((with_reducible refine cs.mono ?_); rintro e w4 ⟨rfl, hb4⟩))
              go_ret
              exact ⟨one hnew.out, bel_trans hB2 (bel_trans hB hb4)⟩
          · have hnew : Hid ((0 : Int) = R) := Lib.hid (by rw [← hRk.out, He.out k (by omega)])
            clear hRk
            go_wp2
            go_ret
            exact ⟨one hnew.out, bel_trans hB2 hB⟩
      · have har : arityB 3 n = true := by simp [arityB, argsI]; omega
        have w1 : decide ((n : Int) > 8) = true := decide_eq_true (by omega)
        rw [har, if_pos rfl] at hR
        clear har hw
        have hR12 : Hid ((12 : Int) = R) := Lib.hid hR.out.symm
        clear hR H1 Hst He HK HS
        go_enter Tryz.func31, Tryz.ntmps31
        go_wp2
        go_ret
        exact ⟨one hR12.out, hB2⟩
    · -- op 4
      have hE := hE (by omega) (by omega)
      clear hz h2
      by_cases hw : n = 0
      · have har : arityB 4 n = false := by subst hw; rfl
        have w1 : ((n : Int) != 0) = false := by subst hw; rfl
        rw [har, if_neg (by simp)] at hR
        clear har hw
        have HR0 : Hid (F 0 = R) := Lib.hid hR.out.symm
        clear hR
        go_enter Tryz.func31, Tryz.ntmps31
        go_wp2
        go_loopw [6] (fun i wr0 => ∃ (wr : World) (k : Nat), wr = wr0 ∧ k ≤ n ∧ i = .int .i64 k ∧ Below W2.heap.size W2 wr ∧ Hid (F k = R)) (fun i _ => n - (intOf i).toNat)
        case atStart => exact ⟨_, 0, rfl, by omega, rfl, Below.refl _ _, HR0⟩
        case round =>
          obtain ⟨wr, k, rfl, hk, rfl, hB, hRk⟩ := hrel
          obtain ⟨_, _, _, s3r⟩ := (TBox.b HS.out hB).four
          by_cases hlt : k < n
          · obtain ⟨bb, o, x, A, M, Cc, rfl, hb, y0, y1, y2, y3, hx, hok⟩ := (TsW.b H1.out hB).at hlt
            have hs1 := Lib.hid (Hst.out k x hx)
            have cs := HK.out k x hx A M Cc wr hok
            clear hx hok H1 Hst HK HS
            generalize partE x = px at *
            generalize opT x = op' at *
            generalize nameT x = nm' at *
            generalize numT x = nu' at *
            have hk0 : 0 ≤ (k : Int) := by omega
            have hk1 : (k : Int) < (n : Int) := by omega
            by_cases hp : px = 0
            · have p1 : (px != 0) = false := by rw [hp]; rfl
              have hnew : Hid (F (k + 1) = R) := Lib.hid (by rw [← hRk.out, hs1.out, if_neg (by omega)])
              clear hRk hs1 hp
              go_wp2_with (go_at_call 31; ((with_reducible refine cs.mono ?_); rintro e w4 ⟨rfl, hb4⟩))
              go_roundw
              case rel => exact ⟨_, k + 1, rfl, by omega, by go_num, bel_trans hB hb4, hnew⟩
              case measure => simp [intOf]; omega
            · have p1 : (px != 0) = true := bne_iff_ne.2 hp
              have hnew : Hid (px = R) := Lib.hid (by rw [← hRk.out, hs1.out, if_pos hp])
              clear hRk hs1 hp
              go_wp2_with (go_at_call 31; ((with_reducible refine cs.mono ?_); rintro e w4 ⟨rfl, hb4⟩))
              go_ret
              exact ⟨one hnew.out, bel_trans hB2 (bel_trans hB hb4)⟩
          · have hnew : Hid ((0 : Int) = R) := Lib.hid (by rw [← hRk.out, He.out k (by omega)])
            clear hRk
            go_wp2
            go_ret
            exact ⟨one hnew.out, bel_trans hB2 hB⟩
      · have har : arityB 4 n = true := by simp [arityB, argsI]; omega
        have w1 : ((n : Int) != 0) = true := bne_iff_ne.2 (by omega)
        rw [har, if_pos rfl] at hR
        clear har hw
        have hR12 : Hid ((12 : Int) = R) := Lib.hid hR.out.symm
        clear hR H1 Hst He HK HS
        go_enter Tryz.func31, Tryz.ntmps31
        go_wp2
        go_ret
        exact ⟨one hR12.out, hB2⟩
    · -- op 5
      have hE := hE (by omega) (by omega)
      obtain rfl := hz (by omega) (by omega) (by omega)
      clear h2
      by_cases hw : n = 2
      · have har : arityB 5 n = false := by subst hw; rfl
        have w1 : ((n : Int) != 2) = false := by subst hw; rfl
        rw [har, if_neg (by simp)] at hR
        clear har hw
        have HR0 : Hid (F 0 = R) := Lib.hid hR.out.symm
        clear hR
        go_enter Tryz.func31, Tryz.ntmps31
        go_wp2
        go_loopw [6] (fun i wr0 => ∃ (wr : World) (k : Nat), wr = wr0 ∧ k ≤ n ∧ i = .int .i64 k ∧ Below W2.heap.size W2 wr ∧ Hid (F k = R)) (fun i _ => n - (intOf i).toNat)
        case atStart => exact ⟨_, 0, rfl, by omega, rfl, Below.refl _ _, HR0⟩
        case round =>
          obtain ⟨wr, k, rfl, hk, rfl, hB, hRk⟩ := hrel
          obtain ⟨_, _, _, s3r⟩ := (TBox.b HS.out hB).four
          by_cases hlt : k < n
          · obtain ⟨bb, o, x, A, M, Cc, rfl, hb, y0, y1, y2, y3, hx, hok⟩ := (TsW.b H1.out hB).at hlt
            have hs1 := Lib.hid (Hst.out k x hx)
            have cs := HK.out k x hx A M Cc wr hok
            clear hx hok H1 Hst HK HS
            generalize partE x = px at *
            generalize opT x = op' at *
            generalize nameT x = nm' at *
            generalize numT x = nu' at *
            have hk0 : 0 ≤ (k : Int) := by omega
            have hk1 : (k : Int) < (n : Int) := by omega
            by_cases hp : px = 0
            · have p1 : (px != 0) = false := by rw [hp]; rfl
              have hnew : Hid (F (k + 1) = R) := Lib.hid (by rw [← hRk.out, hs1.out, if_neg (by omega)])
              clear hRk hs1 hp
              go_wp2_with (go_at_call 31; ((with_reducible refine cs.mono ?_); rintro e w4 ⟨rfl, hb4⟩))
              go_roundw
              case rel => exact ⟨_, k + 1, rfl, by omega, by go_num, bel_trans hB hb4, hnew⟩
              case measure => simp [intOf]; omega
            · have p1 : (px != 0) = true := bne_iff_ne.2 hp
              have hnew : Hid (px = R) := Lib.hid (by rw [← hRk.out, hs1.out, if_pos hp])
              clear hRk hs1 hp
              go_wp2_with (go_at_call 31; ((with_reducible refine cs.mono ?_); rintro e w4 ⟨rfl, hb4⟩))
              go_ret
              exact ⟨one hnew.out, bel_trans hB2 (bel_trans hB hb4)⟩
          · have hnew : Hid ((0 : Int) = R) := Lib.hid (by rw [← hRk.out, He.out k (by omega)])
            clear hRk
            go_wp2
            go_ret
            exact ⟨one hnew.out, bel_trans hB2 hB⟩
      · have har : arityB 5 n = true := by simp [arityB, argsI]; omega
        have w1 : ((n : Int) != 2) = true := bne_iff_ne.2 (by omega)
        rw [har, if_pos rfl] at hR
        clear har hw
        have hR12 : Hid ((12 : Int) = R) := Lib.hid hR.out.symm
        clear hR H1 Hst He HK HS
        go_enter Tryz.func31, Tryz.ntmps31
        go_wp2
        go_ret
        exact ⟨one hR12.out, hB2⟩
    · -- op 6
      have hE := hE (by omega) (by omega)
      obtain rfl := hz (by omega) (by omega) (by omega)
      clear h2
      by_cases hw : n = 2
      · have har : arityB 6 n = false := by subst hw; rfl
        have w1 : ((n : Int) != 2) = false := by subst hw; rfl
        rw [har, if_neg (by simp)] at hR
        clear har hw
        have HR0 : Hid (F 0 = R) := Lib.hid hR.out.symm
        clear hR
        go_enter Tryz.func31, Tryz.ntmps31
        go_wp2
        go_loopw [6] (fun i wr0 => ∃ (wr : World) (k : Nat), wr = wr0 ∧ k ≤ n ∧ i = .int .i64 k ∧ Below W2.heap.size W2 wr ∧ Hid (F k = R)) (fun i _ => n - (intOf i).toNat)
        case atStart => exact ⟨_, 0, rfl, by omega, rfl, Below.refl _ _, HR0⟩
        case round =>
          obtain ⟨wr, k, rfl, hk, rfl, hB, hRk⟩ := hrel
          obtain ⟨_, _, _, s3r⟩ := (TBox.b HS.out hB).four
          by_cases hlt : k < n
          · obtain ⟨bb, o, x, A, M, Cc, rfl, hb, y0, y1, y2, y3, hx, hok⟩ := (TsW.b H1.out hB).at hlt
            have hs1 := Lib.hid (Hst.out k x hx)
            have cs := HK.out k x hx A M Cc wr hok
            clear hx hok H1 Hst HK HS
            generalize partE x = px at *
            generalize opT x = op' at *
            generalize nameT x = nm' at *
            generalize numT x = nu' at *
            have hk0 : 0 ≤ (k : Int) := by omega
            have hk1 : (k : Int) < (n : Int) := by omega
            by_cases hp : px = 0
            · have p1 : (px != 0) = false := by rw [hp]; rfl
              have hnew : Hid (F (k + 1) = R) := Lib.hid (by rw [← hRk.out, hs1.out, if_neg (by omega)])
              clear hRk hs1 hp
              go_wp2_with (go_at_call 31; ((with_reducible refine cs.mono ?_); rintro e w4 ⟨rfl, hb4⟩))
              go_roundw
              case rel => exact ⟨_, k + 1, rfl, by omega, by go_num, bel_trans hB hb4, hnew⟩
              case measure => simp [intOf]; omega
            · have p1 : (px != 0) = true := bne_iff_ne.2 hp
              have hnew : Hid (px = R) := Lib.hid (by rw [← hRk.out, hs1.out, if_pos hp])
              clear hRk hs1 hp
              go_wp2_with (go_at_call 31; ((with_reducible refine cs.mono ?_); rintro e w4 ⟨rfl, hb4⟩))
              go_ret
              exact ⟨one hnew.out, bel_trans hB2 (bel_trans hB hb4)⟩
          · have hnew : Hid ((0 : Int) = R) := Lib.hid (by rw [← hRk.out, He.out k (by omega)])
            clear hRk
            go_wp2
            go_ret
            exact ⟨one hnew.out, bel_trans hB2 hB⟩
      · have har : arityB 6 n = true := by simp [arityB, argsI]; omega
        have w1 : ((n : Int) != 2) = true := bne_iff_ne.2 (by omega)
        rw [har, if_pos rfl] at hR
        clear har hw
        have hR12 : Hid ((12 : Int) = R) := Lib.hid hR.out.symm
        clear hR H1 Hst He HK HS
        go_enter Tryz.func31, Tryz.ntmps31
        go_wp2
        go_ret
        exact ⟨one hR12.out, hB2⟩
    · -- op 7
      have hE := hE (by omega) (by omega)
      obtain rfl := hz (by omega) (by omega) (by omega)
      clear h2
      by_cases hw : n = 1
      · have har : arityB 7 n = false := by subst hw; rfl
        have w1 : ((n : Int) != 1) = false := by subst hw; rfl
        rw [har, if_neg (by simp)] at hR
        clear har hw
        have HR0 : Hid (F 0 = R) := Lib.hid hR.out.symm
        clear hR
        go_enter Tryz.func31, Tryz.ntmps31
        go_wp2
        go_loopw [6] (fun i wr0 => ∃ (wr : World) (k : Nat), wr = wr0 ∧ k ≤ n ∧ i = .int .i64 k ∧ Below W2.heap.size W2 wr ∧ Hid (F k = R)) (fun i _ => n - (intOf i).toNat)
        case atStart => exact ⟨_, 0, rfl, by omega, rfl, Below.refl _ _, HR0⟩
        case round =>
          obtain ⟨wr, k, rfl, hk, rfl, hB, hRk⟩ := hrel
          obtain ⟨_, _, _, s3r⟩ := (TBox.b HS.out hB).four
          by_cases hlt : k < n
          · obtain ⟨bb, o, x, A, M, Cc, rfl, hb, y0, y1, y2, y3, hx, hok⟩ := (TsW.b H1.out hB).at hlt
            have hs1 := Lib.hid (Hst.out k x hx)
            have cs := HK.out k x hx A M Cc wr hok
            clear hx hok H1 Hst HK HS
            generalize partE x = px at *
            generalize opT x = op' at *
            generalize nameT x = nm' at *
            generalize numT x = nu' at *
            have hk0 : 0 ≤ (k : Int) := by omega
            have hk1 : (k : Int) < (n : Int) := by omega
            by_cases hp : px = 0
            · have p1 : (px != 0) = false := by rw [hp]; rfl
              have hnew : Hid (F (k + 1) = R) := Lib.hid (by rw [← hRk.out, hs1.out, if_neg (by omega)])
              clear hRk hs1 hp
              go_wp2_with (go_at_call 31; ((with_reducible refine cs.mono ?_); rintro e w4 ⟨rfl, hb4⟩))
              go_roundw
              case rel => exact ⟨_, k + 1, rfl, by omega, by go_num, bel_trans hB hb4, hnew⟩
              case measure => simp [intOf]; omega
            · have p1 : (px != 0) = true := bne_iff_ne.2 hp
              have hnew : Hid (px = R) := Lib.hid (by rw [← hRk.out, hs1.out, if_pos hp])
              clear hRk hs1 hp
              go_wp2_with (go_at_call 31; ((with_reducible refine cs.mono ?_); rintro e w4 ⟨rfl, hb4⟩))
              go_ret
              exact ⟨one hnew.out, bel_trans hB2 (bel_trans hB hb4)⟩
          · have hnew : Hid ((0 : Int) = R) := Lib.hid (by rw [← hRk.out, He.out k (by omega)])
            clear hRk
            go_wp2
            go_ret
            exact ⟨one hnew.out, bel_trans hB2 hB⟩
      · have har : arityB 7 n = true := by simp [arityB, argsI]; omega
        have w1 : ((n : Int) != 1) = true := bne_iff_ne.2 (by omega)
        rw [har, if_pos rfl] at hR
        clear har hw
        have hR12 : Hid ((12 : Int) = R) := Lib.hid hR.out.symm
        clear hR H1 Hst He HK HS
        go_enter Tryz.func31, Tryz.ntmps31
        go_wp2
        go_ret
        exact ⟨one hR12.out, hB2⟩
    · -- op 8
      have hE := hE (by omega) (by omega)
      clear hz h2
      by_cases hw : n = 1
      · have har : arityB 8 n = false := by subst hw; rfl
        have w1 : ((n : Int) != 1) = false := by subst hw; rfl
        rw [har, if_neg (by simp)] at hR
        clear har hw
        have HR0 : Hid (F 0 = R) := Lib.hid hR.out.symm
        clear hR
        go_enter Tryz.func31, Tryz.ntmps31
        go_wp2
        go_loopw [6] (fun i wr0 => ∃ (wr : World) (k : Nat), wr = wr0 ∧ k ≤ n ∧ i = .int .i64 k ∧ Below W2.heap.size W2 wr ∧ Hid (F k = R)) (fun i _ => n - (intOf i).toNat)
        case atStart => exact ⟨_, 0, rfl, by omega, rfl, Below.refl _ _, HR0⟩
        case round =>
          obtain ⟨wr, k, rfl, hk, rfl, hB, hRk⟩ := hrel
          obtain ⟨_, _, _, s3r⟩ := (TBox.b HS.out hB).four
          by_cases hlt : k < n
          · obtain ⟨bb, o, x, A, M, Cc, rfl, hb, y0, y1, y2, y3, hx, hok⟩ := (TsW.b H1.out hB).at hlt
            have hs1 := Lib.hid (Hst.out k x hx)
            have cs := HK.out k x hx A M Cc wr hok
            clear hx hok H1 Hst HK HS
            generalize partE x = px at *
            generalize opT x = op' at *
            generalize nameT x = nm' at *
            generalize numT x = nu' at *
            have hk0 : 0 ≤ (k : Int) := by omega
            have hk1 : (k : Int) < (n : Int) := by omega
            by_cases hp : px = 0
            · have p1 : (px != 0) = false := by rw [hp]; rfl
              have hnew : Hid (F (k + 1) = R) := Lib.hid (by rw [← hRk.out, hs1.out, if_neg (by omega)])
              clear hRk hs1 hp
              go_wp2_with (go_at_call 31; ((with_reducible refine cs.mono ?_); rintro e w4 ⟨rfl, hb4⟩))
              go_roundw
              case rel => exact ⟨_, k + 1, rfl, by omega, by go_num, bel_trans hB hb4, hnew⟩
              case measure => simp [intOf]; omega
            · have p1 : (px != 0) = true := bne_iff_ne.2 hp
              have hnew : Hid (px = R) := Lib.hid (by rw [← hRk.out, hs1.out, if_pos hp])
              clear hRk hs1 hp
              go_wp2_with (go_at_call 31; ((with_reducible refine cs.mono ?_); rintro e w4 ⟨rfl, hb4⟩))
              go_ret
              exact ⟨one hnew.out, bel_trans hB2 (bel_trans hB hb4)⟩
          · have hnew : Hid ((0 : Int) = R) := Lib.hid (by rw [← hRk.out, He.out k (by omega)])
            clear hRk
            go_wp2
            go_ret
            exact ⟨one hnew.out, bel_trans hB2 hB⟩
      · have har : arityB 8 n = true := by simp [arityB, argsI]; omega
        have w1 : ((n : Int) != 1) = true := bne_iff_ne.2 (by omega)
        rw [har, if_pos rfl] at hR
        clear har hw
        have hR12 : Hid ((12 : Int) = R) := Lib.hid hR.out.symm
        clear hR H1 Hst He HK HS
        go_enter Tryz.func31, Tryz.ntmps31
        go_wp2
        go_ret
        exact ⟨one hR12.out, hB2⟩
theorem part8_any (t : Tm) : Part8Ok t := Tm.ind part8_step t
end Go.Proofs.YtcigeclnbhcohaaGreatDoor.C
