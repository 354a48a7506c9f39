/-
  What is proved: what the three functions that tell whether a text is a name return.
-/
import Derived.Test.YtanbcclconhheaaTokB
namespace Go.Proofs.Ytanbcclconhheaa.Tok
open Go.RowKit
set_option linter.unusedVariables false
set_option linter.unusedSimpArgs false

theorem isL_no {c : UInt8} (h : isL c = false) : c.toNat < 65 ∨ (90 < c.toNat ∧ c.toNat < 95) ∨ (95 < c.toNat ∧ c.toNat < 97) ∨ 122 < c.toNat := by
  have : ¬ isL c = true := by simp [h]
  rw [isL_iff] at this; omega

set_option maxHeartbeats 2000000 in
theorem baseName_any (s : ByteArray) (w : World) (hs : s.size ≤ 9223372036854775807) :
    Calls Try.prog 27 #[.string s] w fun e w' => e = .returned (.bool (nameB s.data.toList)) ∧ w = w' := by
  have hst : ∀ k (h : k < s.size), nmF (decide (k = 0)) (s.data.toList.drop k) = (okAt (decide (k = 0)) s[k] && nmF (decide (k + 1 = 0)) (s.data.toList.drop (k + 1))) := fun k h => by
    rw [drop_at s k h, nmF]; rfl
  have he : ∀ k, s.size ≤ k → nmF (decide (k = 0)) (s.data.toList.drop k) = true := fun k h => by rw [drop_end s k h, nmF]
  have hR : nameB s.data.toList = (nmF true s.data.toList && (decide (0 < s.size) && decide (s.size ≤ 32))) := by unfold nameB; rw [len_list]
  obtain ⟨F, hF⟩ : ∃ F : Nat → Bool, ∀ k, nmF (decide (k = 0)) (s.data.toList.drop k) = F k := ⟨_, fun _ => rfl⟩
  have h0 : nmF true s.data.toList = F 0 := hF 0
  rw [h0] at hR
  simp only [hF] at hst he
  generalize nameB s.data.toList = V at *
  have v0 : F 0 = false → V = false := fun h => by rw [hR, h]; rfl
  have v1 : F 0 = true → V = (decide (0 < s.size) && decide (s.size ≤ 32)) := fun h => by rw [hR, h]; rfl
  clear hF h0 hR
  have Hst := Lib.hid hst
  have He := Lib.hid he
  have V0 := Lib.hid v0
  have V1 := Lib.hid v1
  clear hst he v0 v1
  go_enter Try.func27, Try.ntmps27
  go_wp2
  go_loop [3] (fun n => ∃ k : Nat, k ≤ s.size ∧ n = .int .i64 k ∧ Hid (F k = F 0)) (fun n => s.size - (intOf n).toNat)
  case atStart => exact ⟨0, by omega, rfl, Lib.hid rfl⟩
  case round =>
    obtain ⟨k, hk, rfl, hR⟩ := hrel
    by_cases hlt : k < s.size
    · have hs1 := Lib.hid (Hst.out k hlt)
      cases hl : isL s[k] with
      | true =>
        have hok : okAt (decide (k = 0)) s[k] = true := by unfold okAt; split; exact hl; exact isN_iff.2 (.inl hl)
        have hnew : Hid (F (k + 1) = F 0) := by have := hs1.out; rw [hok, Bool.true_and] at this; show _ = _; rw [← this]; exact hR.out
        have hc := isL_iff.1 hl
        clear hs1 hok hl hR
        rcases hc with ⟨h1, h2⟩ | ⟨h1, h2⟩ | h1
        all_goals
          go_wp2
          go_round
          case rel => exact ⟨k + 1, by omega, by go_num, hnew⟩
          case measure => simp [intOf]; omega
      | false =>
        have hc := isL_no hl
        by_cases hk0 : k = 0
        · have hok : okAt (decide (k = 0)) s[k] = false := by unfold okAt; rw [if_pos (by simp [hk0])]; exact hl
          have hnew : Hid (false = V) := by
            have := hs1.out; rw [hok, Bool.false_and, hR.out] at this; exact (V0.out this).symm
          have n2 : ((s[k].toNat : Int) == 95) = false := beq_no' (by omega)
          have hk1 : ((k : Int) == 0) = true := beq_yes' (by omega)
          have hk2 : (k == 0) = true := by simp [hk0]
          clear hs1 hok hl hR
          subst hk0
          rcases hc with h1 | ⟨h1, h2⟩ | ⟨h1, h2⟩ | h1
          all_goals
            try have d1 : decide ((s[0].toNat : Int) ≤ 90) = false := decide_eq_false (by omega)
            try have d2 : decide ((s[0].toNat : Int) ≤ 122) = false := decide_eq_false (by omega)
            try have d3 : decide (65 ≤ (s[0].toNat : Int)) = false := decide_eq_false (by omega)
            try have d4 : decide (97 ≤ (s[0].toNat : Int)) = false := decide_eq_false (by omega)
            go_wp2
            go_ret
            exact ⟨oneB hnew.out, rfl⟩
        · have hk1 : ((k : Int) == 0) = false := beq_no' (by omega)
          have hk3 : (k == 0) = false := by simp [hk0]
          have hkd : decide (k = 0) = false := by simp [hk0]
          cases hn : isN s[k] with
          | true =>
            have hok : okAt (decide (k = 0)) s[k] = true := by unfold okAt; rw [if_neg (by simp [hk0])]; exact hn
            have hnew : Hid (F (k + 1) = F 0) := by have := hs1.out; rw [hok, Bool.true_and] at this; show _ = _; rw [← this]; exact hR.out
            have hd : s[k].toNat = 39 ∨ (48 ≤ s[k].toNat ∧ s[k].toNat ≤ 57) := by
              rcases isN_iff.1 hn with h | h | h
              · rw [hl] at h; cases h
              · exact .inr (isD_iff.1 h)
              · exact .inl h
            clear hs1 hok hl hR hn hc hkd hk0
            rcases hd with h1 | ⟨h1, h2⟩
            · have n1 : ((s[k].toNat : Int) != 39) = false := by simp; omega
              have n2 : ((s[k].toNat : Int) == 95) = false := beq_no' (by omega)
              have n3 : s[k].toNat < 65 := by omega
              clear h1
              go_wp2
              go_round
              case rel => exact ⟨k + 1, by omega, by go_num, hnew⟩
              case measure => simp [intOf]; omega
            · have n1 : ((s[k].toNat : Int) != 39) = true := by simp; omega
              have n2 : ((s[k].toNat : Int) == 95) = false := beq_no' (by omega)
              go_wp2
              go_round
              case rel => exact ⟨k + 1, by omega, by go_num, hnew⟩
              case measure => simp [intOf]; omega
          | false =>
            have hok : okAt (decide (k = 0)) s[k] = false := by unfold okAt; rw [if_neg (by simp [hk0])]; exact hn
            have hnew : Hid (false = V) := by
              have := hs1.out; rw [hok, Bool.false_and, hR.out] at this; exact (V0.out this).symm
            obtain ⟨_, hd, h39⟩ := isN_false hn
            have hd2 : s[k].toNat < 48 ∨ 57 < s[k].toNat := by
              have : ¬ isD s[k] = true := by simp [hd]
              rw [isD_iff] at this; omega
            have n1 : ((s[k].toNat : Int) != 39) = true := by simp; omega
            have n2 : ((s[k].toNat : Int) == 95) = false := beq_no' (by omega)
            clear hs1 hok hl hR hn hkd hk0 hd h39
            have hc2 : s[k].toNat < 48 ∨ (57 < s[k].toNat ∧ s[k].toNat < 65) ∨ (90 < s[k].toNat ∧ s[k].toNat < 95) ∨ (95 < s[k].toNat ∧ s[k].toNat < 97) ∨ 122 < s[k].toNat := by omega
            clear hc hd2
            rcases hc2 with h1 | ⟨h1, h2⟩ | ⟨h1, h2⟩ | ⟨h1, h2⟩ | h1
            all_goals
              try have d1 : decide ((s[k].toNat : Int) ≤ 90) = false := decide_eq_false (by omega)
              try have d2 : decide ((s[k].toNat : Int) ≤ 122) = false := decide_eq_false (by omega)
              try have d3 : decide (65 ≤ (s[k].toNat : Int)) = false := decide_eq_false (by omega)
              try have d4 : decide (97 ≤ (s[k].toNat : Int)) = false := decide_eq_false (by omega)
              go_wp2
              go_ret
              exact ⟨oneB hnew.out, rfl⟩
    · have hnew : F 0 = true := by rw [← hR.out]; exact He.out k (by omega)
      have hr := V1.out hnew
      clear hR hnew
      by_cases h1 : 0 < s.size
      · by_cases h2 : s.size ≤ 32
        · have hr2 : Hid (true = V) := by show _ = _; rw [hr]; simp [h1, h2]
          clear hr
          go_wp2
          go_ret
          exact ⟨oneB (by first | exact hr2.out | (rw [← hr2.out]; simp; omega)), rfl⟩
        · have hr2 : Hid (false = V) := by show _ = _; rw [hr]; simp [h2]
          clear hr
          go_wp2
          go_ret
          exact ⟨oneB (by first | exact hr2.out | (rw [← hr2.out]; simp; omega)), rfl⟩
      · have hr2 : Hid (false = V) := by show _ = _; rw [hr]; simp [h1]
        clear hr
        go_wp2
        go_ret
        exact ⟨oneB (by first | exact hr2.out | (rw [← hr2.out]; simp; omega)), rfl⟩

theorem refName_any (s : ByteArray) (w : World) (hs : s.size ≤ 9223372036854775807) :
    Calls Try.prog 14 #[.string s] w fun e w' => e = .returned (.bool (nameB s.data.toList)) ∧ w = w' := by
  have c1 := fun (w : World) => baseName_any s w hs
  generalize nameB s.data.toList = R at *
  go_enter Try.func14, Try.ntmps14
  go_wp2_with (go_at_call 27; ((with_reducible refine (c1 _).mono ?_); rintro e w' ⟨rfl, rfl⟩))
  go_ret
  exact ⟨rfl, rfl⟩

theorem Name_any (s : ByteArray) (w : World) (hs : s.size ≤ 9223372036854775807) :
    Calls Try.prog 13 #[.string s] w fun e w' => e = .returned (.bool (nameB s.data.toList)) ∧ w = w' := by
  have c1 := fun (w : World) => name_any s w hs
  have hR := nameB_of s.data.toList
  have hle := nameN_le s.data.toList
  rw [len_list] at hR hle
  generalize nameB s.data.toList = V at *
  generalize nameN s.data.toList = n at *
  by_cases h1 : n = s.size
  · have n1 : ((n : Int) == (s.size : Int)) = true := beq_yes' (by omega)
    have n2 : (n == s.size) = true := by simp [h1]
    by_cases h2 : 0 < n
    · by_cases h3 : n ≤ 32
      · have hr2 : Hid (true = V) := by show _ = _; rw [hR]; simp [h1]; omega
        clear hR h1
        go_enter Try.func13, Try.ntmps13
        go_wp2_with (go_at_call 26; ((with_reducible refine (c1 _).mono ?_); rintro e w' ⟨rfl, rfl⟩))
        go_ret
        exact ⟨oneB (by first | exact hr2.out | (rw [← hr2.out]; simp; omega)), rfl⟩
      · have hr2 : Hid (false = V) := by show _ = _; rw [hR]; simp; omega
        have h4 : ¬ (n : Int) ≤ 32 := by omega
        clear hR h1
        go_enter Try.func13, Try.ntmps13
        go_wp2_with (go_at_call 26; ((with_reducible refine (c1 _).mono ?_); rintro e w' ⟨rfl, rfl⟩))
        go_ret
        exact ⟨oneB (by first | exact hr2.out | (rw [← hr2.out]; simp; omega)), rfl⟩
    · have hr2 : Hid (false = V) := by show _ = _; rw [hR]; simp; omega
      have h4 : ¬ 0 < (n : Int) := by omega
      clear hR h1
      go_enter Try.func13, Try.ntmps13
      go_wp2_with (go_at_call 26; ((with_reducible refine (c1 _).mono ?_); rintro e w' ⟨rfl, rfl⟩))
      go_ret
      exact ⟨oneB (by first | exact hr2.out | (rw [← hr2.out]; simp; omega)), rfl⟩
  · have hr2 : Hid (false = V) := by show _ = _; rw [hR]; simp [h1]
    have n1 : ((n : Int) == (s.size : Int)) = false := beq_no' (by omega)
    have n2 : (n == s.size) = false := by simp [h1]
    clear hR h1
    go_enter Try.func13, Try.ntmps13
    go_wp2_with (go_at_call 26; ((with_reducible refine (c1 _).mono ?_); rintro e w' ⟨rfl, rfl⟩))
    go_ret
    exact ⟨oneB (by first | exact hr2.out | (rw [← hr2.out]; simp; omega)), rfl⟩
end Go.Proofs.Ytanbcclconhheaa.Tok
