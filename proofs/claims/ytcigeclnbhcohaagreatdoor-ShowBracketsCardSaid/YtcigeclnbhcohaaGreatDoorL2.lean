/-
  What is proved: what makes a name, in plain words over lists of bytes; what the calls that tell letters, digits and names return.
  What is proved: whether a text is in a list, as the document has it.
  What is proved: which texts are words: what the calls of package token that tell so return.
  What is proved: plain mathematics of decimal digits: which texts are the digits of a number, which number, that digits and numbers tell one another.
  What is proved: what the calls that write a number's digits, among the document's own answers, return.
-/
import Derived.Test.YtcigeclnbhcohaaGreatDoorBL
import Derived.WalkKit
import Derived.WalkSpells
import Derived.WalkLawsBesides
import Derived.Laws.ResultCell
import Derived.Deep.QuietTactic
import Derived.BigQuiet
import Derived.LoopTactic
import Derived.Outline
import Derived.Lib.Hide
import Derived.WalkMore
import Derived.Deep.LoopGhost
import Derived.Below
import Derived.Maps.Own
import Derived.Maps.Views
import Derived.Carry
import Derived.Lib.ItoaNum
import Derived.Lib.Strings
import GoSem.Op.String
import Derived.Deep.RegionWith
import Derived.Laws.BytesArg
import Derived.Laws.IdiomStrings
namespace Go.Proofs.YtcigeclnbhcohaaGreatDoor.L
open Go.RowKit
set_option linter.unusedVariables false
set_option linter.unusedSimpArgs false

def isL (c : UInt8) : Bool := decide ((65 ≤ c.toNat ∧ c.toNat ≤ 90) ∨ (97 ≤ c.toNat ∧ c.toNat ≤ 122) ∨ c.toNat = 95)
def isD (c : UInt8) : Bool := decide (48 ≤ c.toNat ∧ c.toNat ≤ 57)
def isN (c : UInt8) : Bool := isL c || (isD c || decide (c.toNat = 39))
theorem isL_iff {c : UInt8} : isL c = true ↔ (65 ≤ c.toNat ∧ c.toNat ≤ 90) ∨ (97 ≤ c.toNat ∧ c.toNat ≤ 122) ∨ c.toNat = 95 := by simp [isL]
theorem isD_iff {c : UInt8} : isD c = true ↔ 48 ≤ c.toNat ∧ c.toNat ≤ 57 := by simp [isD]
theorem isN_iff {c : UInt8} : isN c = true ↔ isL c = true ∨ isD c = true ∨ c.toNat = 39 := by simp [isN]

def nameN : List UInt8 → Nat
  | [] => 0
  | c :: l => if isL c = true then 1 + (l.takeWhile isN).length else 0
theorem tw_le (p : UInt8 → Bool) (l : List UInt8) : (l.takeWhile p).length ≤ l.length := (List.takeWhile_prefix p).length_le
theorem nameN_le (l : List UInt8) : nameN l ≤ l.length := by
  cases l with
  | nil => exact Nat.le_refl _
  | cons c l => rw [nameN]; have := tw_le isN l; split <;> simp <;> omega
theorem letter_any (c : UInt8) (w : World) :
    Calls Tryz.prog 147 #[.int .u8 c.toNat] w fun e w' => e = .returned (.bool (isL c)) ∧ w = w' := by
  have hi := @isL_iff c
  have hr : Hid (isL c = decide ((65 ≤ c.toNat ∧ c.toNat ≤ 90) ∨ (97 ≤ c.toNat ∧ c.toNat ≤ 122) ∨ c.toNat = 95)) := rfl
  clear hi
  go_enter Tryz.func147, Tryz.ntmps147
  go_wp2
  all_goals
    go_ret
    exact ⟨oneB (by rw [hr.out, Bool.eq_iff_iff]; simp; omega), rfl⟩
theorem digit_any (c : UInt8) (w : World) :
    Calls Tryz.prog 148 #[.int .u8 c.toNat] w fun e w' => e = .returned (.bool (isD c)) ∧ w = w' := by
  have hr : Hid (isD c = decide (48 ≤ c.toNat ∧ c.toNat ≤ 57)) := rfl
  go_enter Tryz.func148, Tryz.ntmps148
  go_wp2
  all_goals
    go_ret
    exact ⟨oneB (by rw [hr.out, Bool.eq_iff_iff]; simp; omega), rfl⟩
/-- a scan over what makes up a name -/
def twN (l : List UInt8) : Nat := (l.takeWhile isN).length
theorem twN_step {c : UInt8} {l : List UInt8} (h : isN c = true) : twN (c :: l) = 1 + twN l := by simp [twN, h]; omega
theorem twN_stop {c : UInt8} {l : List UInt8} (h : isN c = false) : twN (c :: l) = 0 := by simp [twN, h]
theorem nameN_yes {c : UInt8} {l : List UInt8} (h : isL c = true) : nameN (c :: l) = 1 + twN l := by rw [nameN, if_pos h]; rfl
theorem nameN_no {c : UInt8} {l : List UInt8} (h : isL c = false) : nameN (c :: l) = 0 := by rw [nameN, if_neg (by simp [h])]
theorem isN_false {c : UInt8} (h : isN c = false) : isL c = false ∧ isD c = false ∧ c.toNat ≠ 39 := by
  simp only [isN, Bool.or_eq_false_iff, decide_eq_false_iff_not] at h; exact h

set_option maxHeartbeats 1000000 in
theorem name_any (s : ByteArray) (w : World) (hs : s.size ≤ 9223372036854775807) :
    Calls Tryz.prog 131 #[.string s] w fun e w' => e = .returned (.int .i64 (nameN s.data.toList)) ∧ w = w' := by
  by_cases hz : s.size = 0
  · have h1 : s.data.toList = [] := List.eq_nil_of_length_eq_zero (by rw [len_list]; exact hz)
    have hr : Hid ((0 : Int) = nameN s.data.toList) := by show _ = _; rw [h1]; rfl
    have h2 : s.toList = [] := by rw [ByteArray.toList_eq]; exact h1
    have h3 : s.toList.isEmpty = true := by rw [h2]; rfl
    clear h1 hz
    go_enter Tryz.func131, Tryz.ntmps131
    go_wp2
    go_ret
    exact ⟨one hr.out, rfl⟩
  · have hp : 0 < s.size := by omega
    have h1 : s.data.toList ≠ [] := fun e => by rw [← len_list, e] at hp; exact absurd hp (by simp)
    have h2 : ¬ s.toList = [] := by rw [ByteArray.toList_eq]; exact h1
    have h3 : s.toList.isEmpty = false := by simp [h2]
    have c0 := fun (w : World) => letter_any s[0] w
    have hd0 := drop_at s 0 hp
    rw [List.drop_zero, Nat.zero_add] at hd0
    clear hz h1
    cases hl : isL s[0] with
    | false =>
      have hr : Hid ((0 : Int) = nameN s.data.toList) := by show _ = _; rw [hd0, nameN_no hl]; rfl
      rw [hl] at c0
      clear hd0 hl
      go_enter Tryz.func131, Tryz.ntmps131
      go_wp2_with (go_at_call 147; ((with_reducible refine (c0 _).mono ?_); rintro e w' ⟨rfl, rfl⟩))
      go_ret
      exact ⟨one hr.out, rfl⟩
    | true =>
      have h0 : 1 + twN (s.data.toList.drop 1) = nameN s.data.toList := by conv => rhs; rw [hd0, nameN_yes hl]
      rw [hl] at c0
      clear hd0 hl
      have hy : ∀ k (h : k < s.size), isN s[k] = true → twN (s.data.toList.drop k) = 1 + twN (s.data.toList.drop (k + 1)) := fun k h hd => by rw [drop_at s k h, twN_step hd]
      have hn : ∀ k (h : k < s.size), isN s[k] = false → twN (s.data.toList.drop k) = 0 := fun k h hd => by rw [drop_at s k h, twN_stop hd]
      have he : ∀ k, s.size ≤ k → twN (s.data.toList.drop k) = 0 := fun k h => by rw [drop_end s k h]; rfl
      generalize nameN s.data.toList = R at *
      obtain ⟨F, hF⟩ : ∃ F : Nat → Nat, ∀ k, twN (s.data.toList.drop k) = F k := ⟨_, fun _ => rfl⟩
      simp only [hF] at hy hn he h0
      clear hF
      have Hy := Lib.hid hy
      have Hn := Lib.hid hn
      have He := Lib.hid he
      have H0 := Lib.hid h0
      clear hy hn he h0
      go_enter Tryz.func131, Tryz.ntmps131
      go_wp2_with (go_at_call 147; ((with_reducible refine (c0 _).mono ?_); rintro e w' ⟨rfl, rfl⟩))
      clear c0
      go_loop [3] (fun n => ∃ k : Nat, k ≤ s.size ∧ n = .int .i64 k ∧ Hid (k + F k = R)) (fun n => s.size - (intOf n).toNat)
      case atStart => exact ⟨1, by omega, rfl, H0.out⟩
      case round =>
        obtain ⟨k, hk, rfl, hR⟩ := hrel
        by_cases hlt : k < s.size
        · have c1 := fun (w : World) => letter_any s[k] w
          have c2 := fun (w : World) => digit_any s[k] w
          cases hd : isN s[k] with
          | true =>
            have hnew : Hid (k + 1 + F (k + 1) = R) := by have := Hy.out k hlt hd; have := hR.out; show _ = _; omega
            clear hR
            rcases isN_iff.1 hd with h | h | h
            · rw [h] at c1
              clear h hd
              go_wp2_with (first | (go_at_call 147; ((with_reducible refine (c1 _).mono ?_); rintro e w' ⟨rfl, rfl⟩)) | (go_at_call 148; ((with_reducible refine (c2 _).mono ?_); rintro e w' ⟨rfl, rfl⟩)))
              go_round
              case rel => exact ⟨k + 1, by omega, by go_num, hnew⟩
              case measure => simp [intOf]; omega
            · rw [h] at c2
              clear h hd
              generalize isL s[k] = B at *
              cases B
              all_goals
                go_wp2_with (first | (go_at_call 147; ((with_reducible refine (c1 _).mono ?_); rintro e w' ⟨rfl, rfl⟩)) | (go_at_call 148; ((with_reducible refine (c2 _).mono ?_); rintro e w' ⟨rfl, rfl⟩)))
                go_round
                case rel => exact ⟨k + 1, by omega, by go_num, hnew⟩
                case measure => simp [intOf]; omega
            · have h39 : ((s[k].toNat : Int) == 39) = true := beq_yes' (by omega)
              clear h hd
              generalize isL s[k] = B at *
              generalize isD s[k] = B2 at *
              cases B <;> cases B2
              all_goals
                go_wp2_with (first | (go_at_call 147; ((with_reducible refine (c1 _).mono ?_); rintro e w' ⟨rfl, rfl⟩)) | (go_at_call 148; ((with_reducible refine (c2 _).mono ?_); rintro e w' ⟨rfl, rfl⟩)))
                go_round
                case rel => exact ⟨k + 1, by omega, by go_num, hnew⟩
                case measure => simp [intOf]; omega
          | false =>
            have hnew : Hid ((k : Int) = R) := by have := Hn.out k hlt hd; have := hR.out; show _ = _; omega
            obtain ⟨h1, h2, h39⟩ := isN_false hd
            rw [h1] at c1
            rw [h2] at c2
            have h40 : ((s[k].toNat : Int) == 39) = false := beq_no' (by omega)
            clear hR hd h1 h2 h39
            go_wp2_with (first | (go_at_call 147; ((with_reducible refine (c1 _).mono ?_); rintro e w' ⟨rfl, rfl⟩)) | (go_at_call 148; ((with_reducible refine (c2 _).mono ?_); rintro e w' ⟨rfl, rfl⟩)))
            go_ret
            exact ⟨one hnew.out, rfl⟩
        · have hnew : Hid ((k : Int) = R) := by have := He.out k (by omega); have := hR.out; show _ = _; omega
          clear hR
          go_wp2
          go_ret
          exact ⟨one hnew.out, rfl⟩
/-- may the byte stand at the place: the first of a name, or a later one? -/
def okAt (first : Bool) (c : UInt8) : Bool := if first then isL c else isN c
def nmF : Bool → List UInt8 → Bool
  | _, [] => true
  | f, c :: l => okAt f c && nmF false l
def nameB (l : List UInt8) : Bool := nmF true l && (decide (0 < l.length) && decide (l.length ≤ 32))
theorem nmF_false (l : List UInt8) : nmF false l = decide (twN l = l.length) := by
  induction l with
  | nil => rfl
  | cons c l ih =>
    rw [nmF, ih, okAt, if_neg (by simp)]
    have := tw_le isN l
    cases h : isN c with
    | true => rw [twN_step h, Bool.true_and, List.length_cons]; congr 1; simp; omega
    | false => rw [twN_stop h]; simp
theorem nameB_of (l : List UInt8) : nameB l = (decide (nameN l = l.length) && (decide (0 < nameN l) && decide (nameN l ≤ 32))) := by
  cases l with
  | nil => rfl
  | cons c l =>
    unfold nameB
    rw [nmF, nmF_false, okAt, if_pos rfl]
    have := tw_le isN l
    cases h : isL c with
    | true =>
      rw [nameN_yes h, Bool.true_and, List.length_cons, Bool.eq_iff_iff]
      simp only [Bool.and_eq_true, decide_eq_true_eq]; omega
    | false => rw [nameN_no h]; simp
theorem isL_no {c : UInt8} (h : isL c = false) : c.toNat < 65 ∨ (90 < c.toNat ∧ c.toNat < 95) ∨ (95 < c.toNat ∧ c.toNat < 97) ∨ 122 < c.toNat := by
  have : ¬ isL c = true := by simp [h]
  rw [isL_iff] at this; omega

set_option maxHeartbeats 2000000 in
theorem baseName_any (s : ByteArray) (w : World) (hs : s.size ≤ 9223372036854775807) :
    Calls Tryz.prog 107 #[.string s] w fun e w' => e = .returned (.bool (nameB s.data.toList)) ∧ w = w' := by
  have hst : ∀ k (h : k < s.size), nmF (decide (k = 0)) (s.data.toList.drop k) = (okAt (decide (k = 0)) s[k] && nmF (decide (k + 1 = 0)) (s.data.toList.drop (k + 1))) := fun k h => by
    rw [drop_at s k h, nmF]; rfl
  have he : ∀ k, s.size ≤ k → nmF (decide (k = 0)) (s.data.toList.drop k) = true := fun k h => by rw [drop_end s k h, nmF]
  have hR : nameB s.data.toList = (nmF true s.data.toList && (decide (0 < s.size) && decide (s.size ≤ 32))) := by unfold nameB; rw [len_list]
  obtain ⟨F, hF⟩ : ∃ F : Nat → Bool, ∀ k, nmF (decide (k = 0)) (s.data.toList.drop k) = F k := ⟨_, fun _ => rfl⟩
  have h0 : nmF true s.data.toList = F 0 := hF 0
  rw [h0] at hR
  simp only [hF] at hst he
  generalize nameB s.data.toList = V at *
  have v0 : F 0 = false → V = false := fun h => by rw [hR, h]; rfl
  have v1 : F 0 = true → V = (decide (0 < s.size) && decide (s.size ≤ 32)) := fun h => by rw [hR, h]; rfl
  clear hF h0 hR
  have Hst := Lib.hid hst
  have He := Lib.hid he
  have V0 := Lib.hid v0
  have V1 := Lib.hid v1
  clear hst he v0 v1
  go_enter Tryz.func107, Tryz.ntmps107
  go_wp2
  go_loop [3] (fun n => ∃ k : Nat, k ≤ s.size ∧ n = .int .i64 k ∧ Hid (F k = F 0)) (fun n => s.size - (intOf n).toNat)
  case atStart => exact ⟨0, by omega, rfl, Lib.hid rfl⟩
  case round =>
    obtain ⟨k, hk, rfl, hR⟩ := hrel
    by_cases hlt : k < s.size
    · have hs1 := Lib.hid (Hst.out k hlt)
      cases hl : isL s[k] with
      | true =>
        have hok : okAt (decide (k = 0)) s[k] = true := by unfold okAt; split; exact hl; exact isN_iff.2 (.inl hl)
        have hnew : Hid (F (k + 1) = F 0) := by have := hs1.out; rw [hok, Bool.true_and] at this; show _ = _; rw [← this]; exact hR.out
        have hc := isL_iff.1 hl
        clear hs1 hok hl hR
        rcases hc with ⟨h1, h2⟩ | ⟨h1, h2⟩ | h1
        all_goals
          go_wp2
          go_round
          case rel => exact ⟨k + 1, by omega, by go_num, hnew⟩
          case measure => simp [intOf]; omega
      | false =>
        have hc := isL_no hl
        by_cases hk0 : k = 0
        · have hok : okAt (decide (k = 0)) s[k] = false := by unfold okAt; rw [if_pos (by simp [hk0])]; exact hl
          have hnew : Hid (false = V) := by
            have := hs1.out; rw [hok, Bool.false_and, hR.out] at this; exact (V0.out this).symm
          have n2 : ((s[k].toNat : Int) == 95) = false := beq_no' (by omega)
          have hk1 : ((k : Int) == 0) = true := beq_yes' (by omega)
          have hk2 : (k == 0) = true := by simp [hk0]
          clear hs1 hok hl hR
          subst hk0
          rcases hc with h1 | ⟨h1, h2⟩ | ⟨h1, h2⟩ | h1
          all_goals
            try have d1 : decide ((s[0].toNat : Int) ≤ 90) = false := decide_eq_false (by omega)
            try have d2 : decide ((s[0].toNat : Int) ≤ 122) = false := decide_eq_false (by omega)
            try have d3 : decide (65 ≤ (s[0].toNat : Int)) = false := decide_eq_false (by omega)
            try have d4 : decide (97 ≤ (s[0].toNat : Int)) = false := decide_eq_false (by omega)
            go_wp2
            go_ret
            exact ⟨oneB hnew.out, rfl⟩
        · have hk1 : ((k : Int) == 0) = false := beq_no' (by omega)
          have hk3 : (k == 0) = false := by simp [hk0]
          have hkd : decide (k = 0) = false := by simp [hk0]
          cases hn : isN s[k] with
          | true =>
            have hok : okAt (decide (k = 0)) s[k] = true := by unfold okAt; rw [if_neg (by simp [hk0])]; exact hn
            have hnew : Hid (F (k + 1) = F 0) := by have := hs1.out; rw [hok, Bool.true_and] at this; show _ = _; rw [← this]; exact hR.out
            have hd : s[k].toNat = 39 ∨ (48 ≤ s[k].toNat ∧ s[k].toNat ≤ 57) := by
              rcases isN_iff.1 hn with h | h | h
              · rw [hl] at h; cases h
              · exact .inr (isD_iff.1 h)
              · exact .inl h
            clear hs1 hok hl hR hn hc hkd hk0
            rcases hd with h1 | ⟨h1, h2⟩
            · have n1 : ((s[k].toNat : Int) != 39) = false := by simp; omega
              have n2 : ((s[k].toNat : Int) == 95) = false := beq_no' (by omega)
              have n3 : s[k].toNat < 65 := by omega
              clear h1
              go_wp2
              go_round
              case rel => exact ⟨k + 1, by omega, by go_num, hnew⟩
              case measure => simp [intOf]; omega
            · have n1 : ((s[k].toNat : Int) != 39) = true := by simp; omega
              have n2 : ((s[k].toNat : Int) == 95) = false := beq_no' (by omega)
              go_wp2
              go_round
              case rel => exact ⟨k + 1, by omega, by go_num, hnew⟩
              case measure => simp [intOf]; omega
          | false =>
            have hok : okAt (decide (k = 0)) s[k] = false := by unfold okAt; rw [if_neg (by simp [hk0])]; exact hn
            have hnew : Hid (false = V) := by
              have := hs1.out; rw [hok, Bool.false_and, hR.out] at this; exact (V0.out this).symm
            obtain ⟨_, hd, h39⟩ := isN_false hn
            have hd2 : s[k].toNat < 48 ∨ 57 < s[k].toNat := by
              have : ¬ isD s[k] = true := by simp [hd]
              rw [isD_iff] at this; omega
            have n1 : ((s[k].toNat : Int) != 39) = true := by simp; omega
            have n2 : ((s[k].toNat : Int) == 95) = false := beq_no' (by omega)
            clear hs1 hok hl hR hn hkd hk0 hd h39
            have hc2 : s[k].toNat < 48 ∨ (57 < s[k].toNat ∧ s[k].toNat < 65) ∨ (90 < s[k].toNat ∧ s[k].toNat < 95) ∨ (95 < s[k].toNat ∧ s[k].toNat < 97) ∨ 122 < s[k].toNat := by omega
            clear hc hd2
            rcases hc2 with h1 | ⟨h1, h2⟩ | ⟨h1, h2⟩ | ⟨h1, h2⟩ | h1
            all_goals
              try have d1 : decide ((s[k].toNat : Int) ≤ 90) = false := decide_eq_false (by omega)
              try have d2 : decide ((s[k].toNat : Int) ≤ 122) = false := decide_eq_false (by omega)
              try have d3 : decide (65 ≤ (s[k].toNat : Int)) = false := decide_eq_false (by omega)
              try have d4 : decide (97 ≤ (s[k].toNat : Int)) = false := decide_eq_false (by omega)
              go_wp2
              go_ret
              exact ⟨oneB hnew.out, rfl⟩
    · have hnew : F 0 = true := by rw [← hR.out]; exact He.out k (by omega)
      have hr := V1.out hnew
      clear hR hnew
      by_cases h1 : 0 < s.size
      · by_cases h2 : s.size ≤ 32
        · have hr2 : Hid (true = V) := by show _ = _; rw [hr]; simp [h1, h2]
          clear hr
          go_wp2
          go_ret
          exact ⟨oneB (by first | exact hr2.out | (rw [← hr2.out]; simp; omega)), rfl⟩
        · have hr2 : Hid (false = V) := by show _ = _; rw [hr]; simp [h2]
          clear hr
          go_wp2
          go_ret
          exact ⟨oneB (by first | exact hr2.out | (rw [← hr2.out]; simp; omega)), rfl⟩
      · have hr2 : Hid (false = V) := by show _ = _; rw [hr]; simp [h1]
        clear hr
        go_wp2
        go_ret
        exact ⟨oneB (by first | exact hr2.out | (rw [← hr2.out]; simp; omega)), rfl⟩

theorem Name_any (s : ByteArray) (w : World) (hs : s.size ≤ 9223372036854775807) :
    Calls Tryz.prog 104 #[.string s] w fun e w' => e = .returned (.bool (nameB s.data.toList)) ∧ w = w' := by
  have c1 := fun (w : World) => name_any s w hs
  have hR := nameB_of s.data.toList
  have hle := nameN_le s.data.toList
  rw [len_list] at hR hle
  generalize nameB s.data.toList = V at *
  generalize nameN s.data.toList = n at *
  by_cases h1 : n = s.size
  · have n1 : ((n : Int) == (s.size : Int)) = true := beq_yes' (by omega)
    have n2 : (n == s.size) = true := by simp [h1]
    by_cases h2 : 0 < n
    · by_cases h3 : n ≤ 32
      · have hr2 : Hid (true = V) := by show _ = _; rw [hR]; simp [h1]; omega
        clear hR h1
        go_enter Tryz.func104, Tryz.ntmps104
        go_wp2_with (go_at_call 131; ((with_reducible refine (c1 _).mono ?_); rintro e w' ⟨rfl, rfl⟩))
        go_ret
        exact ⟨oneB (by first | exact hr2.out | (rw [← hr2.out]; simp; omega)), rfl⟩
      · have hr2 : Hid (false = V) := by show _ = _; rw [hR]; simp; omega
        have h4 : ¬ (n : Int) ≤ 32 := by omega
        clear hR h1
        go_enter Tryz.func104, Tryz.ntmps104
        go_wp2_with (go_at_call 131; ((with_reducible refine (c1 _).mono ?_); rintro e w' ⟨rfl, rfl⟩))
        go_ret
        exact ⟨oneB (by first | exact hr2.out | (rw [← hr2.out]; simp; omega)), rfl⟩
    · have hr2 : Hid (false = V) := by show _ = _; rw [hR]; simp; omega
      have h4 : ¬ 0 < (n : Int) := by omega
      clear hR h1
      go_enter Tryz.func104, Tryz.ntmps104
      go_wp2_with (go_at_call 131; ((with_reducible refine (c1 _).mono ?_); rintro e w' ⟨rfl, rfl⟩))
      go_ret
      exact ⟨oneB (by first | exact hr2.out | (rw [← hr2.out]; simp; omega)), rfl⟩
  · have hr2 : Hid (false = V) := by show _ = _; rw [hR]; simp [h1]
    have n1 : ((n : Int) == (s.size : Int)) = false := beq_no' (by omega)
    have n2 : (n == s.size) = false := by simp [h1]
    clear hR h1
    go_enter Tryz.func104, Tryz.ntmps104
    go_wp2_with (go_at_call 131; ((with_reducible refine (c1 _).mono ?_); rintro e w' ⟨rfl, rfl⟩))
    go_ret
    exact ⟨oneB (by first | exact hr2.out | (rw [← hr2.out]; simp; omega)), rfl⟩
end Go.Proofs.YtcigeclnbhcohaaGreatDoor.L
namespace Go.Proofs.YtcigeclnbhcohaaGreatDoor.L
open Go.RowKit
set_option linter.unusedVariables false
set_option linter.unusedSimpArgs false

set_option maxHeartbeats 2000000 in
theorem Has_any (a : Option Addr) (n c : Nat) (X : List ByteArray) (s : ByteArray) (w : World) (hX : IsS w a n X) (hn : n ≤ 9223372036854775807) :
    Calls Tryz.prog 26 #[.slice a n c, .string s] w fun e w' => e = .returned (.bool (hasS X s)) ∧ w = w' := by
  have hst : ∀ k x, X[k]? = some x → hasS (X.drop k) s = ((x.toList == s.toList) || hasS (X.drop (k + 1)) s) := fun k x h => by
    obtain ⟨hk, rfl⟩ := List.getElem?_eq_some_iff.1 h
    unfold hasS; rw [List.drop_eq_getElem_cons hk, List.any_cons]
  have he : ∀ k, n ≤ k → hasS (X.drop k) s = false := fun k h => by rw [List.drop_eq_nil_of_le (by rw [← hX.1]; exact h)]; rfl
  have h0 : hasS X s = hasS (X.drop 0) s := rfl
  rw [h0]
  obtain ⟨F, hF⟩ : ∃ F : Nat → Bool, ∀ k, hasS (X.drop k) s = F k := ⟨_, fun _ => rfl⟩
  simp only [hF] at hst he ⊢
  clear hF h0
  have H1 := Lib.hid hX
  have Hst := Lib.hid hst
  have He := Lib.hid he
  clear hX hst he
  go_enter Tryz.func26, Tryz.ntmps26
  go_wp2
  go_loop [5] (fun i => ∃ (k : Nat), k ≤ n ∧ i = .int .i64 k ∧ Hid (F k = F 0)) (fun i => n - (intOf i).toNat)
  case atStart => exact ⟨0, by omega, rfl, Lib.hid rfl⟩
  case round =>
    obtain ⟨k, hk, rfl, hR⟩ := hrel
    by_cases hlt : k < n
    · obtain ⟨b, o, x, rfl, _, y1, hx, _⟩ := H1.out.at hlt
      have hs1 := Lib.hid (Hst.out k x hx)
      clear hx H1
      cases hb : x.toList == s.toList with
      | true =>
        have hnew : Hid (true = F 0) := by show _ = _; rw [← hR.out, hs1.out, hb]; rfl
        clear hR hs1
        go_wp2
        go_ret
        exact ⟨oneB hnew.out, rfl⟩
      | false =>
        have hnew : Hid (F (k + 1) = F 0) := by show _ = _; rw [← hR.out, hs1.out, hb]; rfl
        clear hR hs1
        have hb2 : (x.toList = s.toList) = False := by simpa using hb
        go_wp2
        go_round
        case rel => exact ⟨k + 1, by omega, by go_num, hnew⟩
        case measure => simp [intOf]; omega
    · have hnew : Hid (false = F 0) := by show _ = _; rw [← hR.out, He.out k (by omega)]
      clear hR
      go_wp2
      go_ret
      exact ⟨oneB hnew.out, rfl⟩

end Go.Proofs.YtcigeclnbhcohaaGreatDoor.L
namespace Go.Proofs.YtcigeclnbhcohaaGreatDoor.L
open Go.RowKit Go.Maps Go.WideMaps
set_option linter.unusedVariables false
set_option linter.unusedSimpArgs false
set_option maxRecDepth 100000

def WD : List (List UInt8) := [[116, 114, 117, 101], [102, 97, 108, 115, 101], [115, 111, 114, 116], [102, 117, 110], [112, 114, 101, 100], [97, 120, 105, 111, 109], [116, 104, 101, 111, 114, 101, 109], [112, 114, 111, 111, 102], [113, 101, 100], [97, 115], [98, 97, 99, 107], [105, 110, 116, 114, 111], [115, 112, 108, 105, 116], [108, 101, 102, 116], [114, 105, 103, 104, 116], [101, 120, 97, 99, 116], [97, 115, 115, 117, 109, 101], [97, 112, 112, 108, 121], [119, 105, 116, 110, 101, 115, 115], [99, 97, 115, 101, 115], [104, 97, 118, 101], [99, 111, 110, 116, 114, 97], [114, 101, 102, 108], [115, 119, 97, 112], [112, 114, 111, 112], [97, 114, 105, 116, 104], [109, 105, 120, 101, 100], [97, 117, 116, 111], [99, 111, 110, 103, 114], [116, 114, 121], [108, 111, 111, 112], [101, 97, 99, 104], [115, 107, 105, 112], [102, 97, 105, 108]]
def WDb : List ByteArray := WD.map BA
def wordB (l : List UInt8) : Bool := decide (l ∈ WD)
theorem law : Keyed Tryz.prog 9 := string_keyed Tryz.underlying9
theorem zeroB (w : World) : (zeroValue 4).run Tryz.prog w = .ok (.bool false) w := by kernel_rfl
theorem grown_trans {a b c : World} {row : Option Nat} (h : a.grownBy b row) (k : b.grownBy c row) : a.grownBy c row :=
  ⟨k.os.trans h.os, k.tape.trans h.tape, k.output.trans h.output, Nat.le_trans h.size k.size, fun i hi hne => (k.block i (Nat.lt_of_lt_of_le hi h.size) hne).trans (h.block i hi hne)⟩
theorem plainElem_bool_inv {P : Program} {e : TypeId} (he : P.underlying e = some .bool) {v : Value} {z : DataW Unit × List MemPlace} (h : plainElem P e v = some z) : ∃ a, v = .bool a ∧ z = (.lit (.bool a), []) := by
  unfold plainElem at h
  rw [he] at h
  cases v <;> simp at h
  exact ⟨_, rfl, h.symm⟩
theorem fill (g : Nat) (X : List ByteArray) : ∀ (W : World) (n : Nat) (D : DataW Unit), (∀ x ∈ X, x.size ≤ 100) → n + X.length < 1000 → W.ownsMap Tryz.prog 9 (plainElem Tryz.prog 4) g n D → IsMap D →
    ∃ Ws : Nat → World, Ws 0 = W ∧ (∀ i (h : i < X.length), (Instr.mapUpdate 75 (.map (some g)) (.string X[i]) (.bool true)).run Tryz.prog (Ws i) = .ok () (Ws (i + 1))) ∧
      ∃ n' D', (Ws X.length).ownsMap Tryz.prog 9 (plainElem Tryz.prog 4) g n' D' ∧ IsMap D' ∧ (∀ l z, D'.atKey (.string l) z = if l ∈ X.map (·.data.toList) then .lit (.bool true) else D.atKey (.string l) z) ∧ W.grownBy (Ws X.length) (some g) := by
  induction X with
  | nil =>
    intro W n D _ _ ho hD
    exact ⟨fun _ => W, rfl, fun i h => absurd h (by simp), n, D, ho, hD, fun l z => by simp, World.grownBy.refl _ _⟩
  | cons x X ih =>
    intro W n D hx hn ho hD
    have hk : keyOf Tryz.prog 9 (.string x) = some (.string x.data.toList) := keyOf_string_mk Tryz.underlying9 (Nat.le_trans (hx x (List.mem_cons_self ..)) (by unfold maxLen; omega))
    obtain ⟨W1, hrun, ho1, hg1⟩ := ho.update law Tryz.underlying75 (by simp at hn; unfold maxLen; omega) hk (plainElem_bool Tryz.underlying4 true)
    have hD1 : IsMap (D.put (.string x.data.toList) (.lit (.bool true))) := by
      obtain ⟨es, rfl⟩ := hD
      exact ⟨_, rfl⟩
    obtain ⟨Ws, h0, hr, n', D', ho', hD', hat, hg'⟩ := ih W1 (n + 1) _ (fun y hy => hx y (List.mem_cons_of_mem _ hy)) (by simp at hn; omega) ho1 hD1
    refine ⟨fun i => match i with | 0 => W | i + 1 => Ws i, rfl, fun i h => ?_, n', D', ho', hD', fun l z => ?_, grown_trans hg1 hg'⟩
    · cases i with
      | zero => show _ = Result.ok () (Ws 0); rw [h0]; exact hrun
      | succ i => exact hr i (by simpa using h)
    · rw [hat]
      by_cases hl : l ∈ X.map (·.data.toList)
      · rw [if_pos hl, if_pos (by simp only [List.map_cons, List.mem_cons]; exact .inr hl)]
      · rw [if_neg hl]
        by_cases he : l = x.data.toList
        · rw [if_pos (by simp [he]), he, atKey_put_same hD (by trivial)]
        · rw [if_neg (by simp only [List.map_cons, List.mem_cons]; exact fun h => h.elim he hl), atKey_put_other (by simpa using he)]

def LooksUp (g : Nat) (w : World) : Prop := ∀ s : ByteArray, s.size ≤ maxLen → (Instr.lookup 75 (.map (some g)) (.string s) false).run Tryz.prog w = .ok (.bool (wordB s.data.toList)) w
set_option maxHeartbeats 2000000 in
theorem words_any (w : World) :
    Calls Tryz.prog 132 #[] w fun e w' => e = .returned (.map (some w.heap.size)) ∧ Below w.heap.size w w' ∧ LooksUp w.heap.size w' := by
  have hmm := @run_makeMap Tryz.prog
  obtain ⟨Ws, h0, hr, n', D', ho, hD, hat, hg⟩ := fill w.heap.size WDb (w.alloc (.map #[] 0)) 0 (.map []) (by decide) (by decide) (World.ownsMap_made _ _ _ _) ⟨[], rfl⟩
  have r0 : (Instr.mapUpdate 75 (.map (some w.heap.size)) (.string ⟨#[116, 114, 117, 101]⟩) (.bool true)).run Tryz.prog (w.alloc (.map #[] 0)) = .ok () (Ws 1) := by have := hr 0 (by decide); rw [h0] at this; exact this
  have r1 : (Instr.mapUpdate 75 (.map (some w.heap.size)) (.string ⟨#[102, 97, 108, 115, 101]⟩) (.bool true)).run Tryz.prog (Ws 1) = .ok () (Ws 2) := hr 1 (by decide)
  have r2 : (Instr.mapUpdate 75 (.map (some w.heap.size)) (.string ⟨#[115, 111, 114, 116]⟩) (.bool true)).run Tryz.prog (Ws 2) = .ok () (Ws 3) := hr 2 (by decide)
  have r3 : (Instr.mapUpdate 75 (.map (some w.heap.size)) (.string ⟨#[102, 117, 110]⟩) (.bool true)).run Tryz.prog (Ws 3) = .ok () (Ws 4) := hr 3 (by decide)
  have r4 : (Instr.mapUpdate 75 (.map (some w.heap.size)) (.string ⟨#[112, 114, 101, 100]⟩) (.bool true)).run Tryz.prog (Ws 4) = .ok () (Ws 5) := hr 4 (by decide)
  have r5 : (Instr.mapUpdate 75 (.map (some w.heap.size)) (.string ⟨#[97, 120, 105, 111, 109]⟩) (.bool true)).run Tryz.prog (Ws 5) = .ok () (Ws 6) := hr 5 (by decide)
  have r6 : (Instr.mapUpdate 75 (.map (some w.heap.size)) (.string ⟨#[116, 104, 101, 111, 114, 101, 109]⟩) (.bool true)).run Tryz.prog (Ws 6) = .ok () (Ws 7) := hr 6 (by decide)
  have r7 : (Instr.mapUpdate 75 (.map (some w.heap.size)) (.string ⟨#[112, 114, 111, 111, 102]⟩) (.bool true)).run Tryz.prog (Ws 7) = .ok () (Ws 8) := hr 7 (by decide)
  have r8 : (Instr.mapUpdate 75 (.map (some w.heap.size)) (.string ⟨#[113, 101, 100]⟩) (.bool true)).run Tryz.prog (Ws 8) = .ok () (Ws 9) := hr 8 (by decide)
  have r9 : (Instr.mapUpdate 75 (.map (some w.heap.size)) (.string ⟨#[97, 115]⟩) (.bool true)).run Tryz.prog (Ws 9) = .ok () (Ws 10) := hr 9 (by decide)
  have r10 : (Instr.mapUpdate 75 (.map (some w.heap.size)) (.string ⟨#[98, 97, 99, 107]⟩) (.bool true)).run Tryz.prog (Ws 10) = .ok () (Ws 11) := hr 10 (by decide)
  have r11 : (Instr.mapUpdate 75 (.map (some w.heap.size)) (.string ⟨#[105, 110, 116, 114, 111]⟩) (.bool true)).run Tryz.prog (Ws 11) = .ok () (Ws 12) := hr 11 (by decide)
  have r12 : (Instr.mapUpdate 75 (.map (some w.heap.size)) (.string ⟨#[115, 112, 108, 105, 116]⟩) (.bool true)).run Tryz.prog (Ws 12) = .ok () (Ws 13) := hr 12 (by decide)
  have r13 : (Instr.mapUpdate 75 (.map (some w.heap.size)) (.string ⟨#[108, 101, 102, 116]⟩) (.bool true)).run Tryz.prog (Ws 13) = .ok () (Ws 14) := hr 13 (by decide)
  have r14 : (Instr.mapUpdate 75 (.map (some w.heap.size)) (.string ⟨#[114, 105, 103, 104, 116]⟩) (.bool true)).run Tryz.prog (Ws 14) = .ok () (Ws 15) := hr 14 (by decide)
  have r15 : (Instr.mapUpdate 75 (.map (some w.heap.size)) (.string ⟨#[101, 120, 97, 99, 116]⟩) (.bool true)).run Tryz.prog (Ws 15) = .ok () (Ws 16) := hr 15 (by decide)
  have r16 : (Instr.mapUpdate 75 (.map (some w.heap.size)) (.string ⟨#[97, 115, 115, 117, 109, 101]⟩) (.bool true)).run Tryz.prog (Ws 16) = .ok () (Ws 17) := hr 16 (by decide)
  have r17 : (Instr.mapUpdate 75 (.map (some w.heap.size)) (.string ⟨#[97, 112, 112, 108, 121]⟩) (.bool true)).run Tryz.prog (Ws 17) = .ok () (Ws 18) := hr 17 (by decide)
  have r18 : (Instr.mapUpdate 75 (.map (some w.heap.size)) (.string ⟨#[119, 105, 116, 110, 101, 115, 115]⟩) (.bool true)).run Tryz.prog (Ws 18) = .ok () (Ws 19) := hr 18 (by decide)
  have r19 : (Instr.mapUpdate 75 (.map (some w.heap.size)) (.string ⟨#[99, 97, 115, 101, 115]⟩) (.bool true)).run Tryz.prog (Ws 19) = .ok () (Ws 20) := hr 19 (by decide)
  have r20 : (Instr.mapUpdate 75 (.map (some w.heap.size)) (.string ⟨#[104, 97, 118, 101]⟩) (.bool true)).run Tryz.prog (Ws 20) = .ok () (Ws 21) := hr 20 (by decide)
  have r21 : (Instr.mapUpdate 75 (.map (some w.heap.size)) (.string ⟨#[99, 111, 110, 116, 114, 97]⟩) (.bool true)).run Tryz.prog (Ws 21) = .ok () (Ws 22) := hr 21 (by decide)
  have r22 : (Instr.mapUpdate 75 (.map (some w.heap.size)) (.string ⟨#[114, 101, 102, 108]⟩) (.bool true)).run Tryz.prog (Ws 22) = .ok () (Ws 23) := hr 22 (by decide)
  have r23 : (Instr.mapUpdate 75 (.map (some w.heap.size)) (.string ⟨#[115, 119, 97, 112]⟩) (.bool true)).run Tryz.prog (Ws 23) = .ok () (Ws 24) := hr 23 (by decide)
  have r24 : (Instr.mapUpdate 75 (.map (some w.heap.size)) (.string ⟨#[112, 114, 111, 112]⟩) (.bool true)).run Tryz.prog (Ws 24) = .ok () (Ws 25) := hr 24 (by decide)
  have r25 : (Instr.mapUpdate 75 (.map (some w.heap.size)) (.string ⟨#[97, 114, 105, 116, 104]⟩) (.bool true)).run Tryz.prog (Ws 25) = .ok () (Ws 26) := hr 25 (by decide)
  have r26 : (Instr.mapUpdate 75 (.map (some w.heap.size)) (.string ⟨#[109, 105, 120, 101, 100]⟩) (.bool true)).run Tryz.prog (Ws 26) = .ok () (Ws 27) := hr 26 (by decide)
  have r27 : (Instr.mapUpdate 75 (.map (some w.heap.size)) (.string ⟨#[97, 117, 116, 111]⟩) (.bool true)).run Tryz.prog (Ws 27) = .ok () (Ws 28) := hr 27 (by decide)
  have r28 : (Instr.mapUpdate 75 (.map (some w.heap.size)) (.string ⟨#[99, 111, 110, 103, 114]⟩) (.bool true)).run Tryz.prog (Ws 28) = .ok () (Ws 29) := hr 28 (by decide)
  have r29 : (Instr.mapUpdate 75 (.map (some w.heap.size)) (.string ⟨#[116, 114, 121]⟩) (.bool true)).run Tryz.prog (Ws 29) = .ok () (Ws 30) := hr 29 (by decide)
  have r30 : (Instr.mapUpdate 75 (.map (some w.heap.size)) (.string ⟨#[108, 111, 111, 112]⟩) (.bool true)).run Tryz.prog (Ws 30) = .ok () (Ws 31) := hr 30 (by decide)
  have r31 : (Instr.mapUpdate 75 (.map (some w.heap.size)) (.string ⟨#[101, 97, 99, 104]⟩) (.bool true)).run Tryz.prog (Ws 31) = .ok () (Ws 32) := hr 31 (by decide)
  have r32 : (Instr.mapUpdate 75 (.map (some w.heap.size)) (.string ⟨#[115, 107, 105, 112]⟩) (.bool true)).run Tryz.prog (Ws 32) = .ok () (Ws 33) := hr 32 (by decide)
  have r33 : (Instr.mapUpdate 75 (.map (some w.heap.size)) (.string ⟨#[102, 97, 105, 108]⟩) (.bool true)).run Tryz.prog (Ws 33) = .ok () (Ws 34) := hr 33 (by decide)
  have hlook : Hid (LooksUp w.heap.size (Ws 34)) := by
    intro s hs
    obtain ⟨v, ps, hrun, hv⟩ := ho.lookup law Tryz.underlying75 (zeroB _) (plainElem_bool Tryz.underlying4 false) (keyOf_string_mk Tryz.underlying9 hs)
    obtain ⟨c, rfl, hc⟩ := plainElem_bool_inv Tryz.underlying4 hv
    have hlen : WDb.length = 34 := rfl
    rw [hlen] at hrun
    rw [hrun]
    have e := hat s.data.toList (.lit (.bool false))
    have hWD : WDb.map (·.data.toList) = WD := rfl
    rw [hWD] at e
    simp only [Prod.mk.injEq] at hc
    rw [hc.1] at e
    unfold wordB
    by_cases hm : s.data.toList ∈ WD
    · rw [if_pos hm] at e
      injection e with e; injection e with e
      rw [e]; simp [hm]
    · rw [if_neg hm] at e
      have e : (DataW.lit (Lit.bool c) : DataW Unit) = .lit (.bool false) := e
      injection e with e; injection e with e
      rw [e]; simp [hm]
  have hB : Hid (Below w.heap.size w (Ws 34)) := (bel_alloc (Below.refl _ _) (.map #[] 0)).grown hg (by simp) (fun k hk => by injection hk with hk; omega)
  clear h0 hr ho hD hat hg
  go_enter Tryz.func132, Tryz.ntmps132
  go_wp2
  go_ret
  exact ⟨rfl, hB.out, hlook.out⟩
theorem word_size {l : List UInt8} (h : wordB l = true) : 2 ≤ l.length ∧ l.length ≤ 7 := by
  have h := of_decide_eq_true (show decide _ = true from h)
  have : ∀ x ∈ WD, 2 ≤ x.length ∧ x.length ≤ 7 := by decide
  exact this l h
theorem word_name {l : List UInt8} (h : wordB l = true) : nameB l = true := by
  have h := of_decide_eq_true (show decide _ = true from h)
  have : ∀ x ∈ WD, nameB x = true := by decide +kernel
  exact this l h

theorem Word_all (s : ByteArray) (w : World) :
    Calls Tryz.prog 105 #[.string s] w fun e w' => e = .returned (.bool (wordB s.data.toList)) ∧ Below w.heap.size w w' := by
  have hw := @word_size s.data.toList
  rw [len_list] at hw
  by_cases h1 : 2 ≤ s.size
  · by_cases h2 : s.size ≤ 7
    · have c1 := fun (w : World) => words_any w
      have hml : s.size ≤ maxLen := by unfold maxLen; omega
      clear hw
      go_enter Tryz.func105, Tryz.ntmps105
      go_wp2_with (go_at_call 132; ((with_reducible refine (c1 _).mono ?_); rintro e w1 ⟨rfl, hb1, hl⟩; have hl2 := hl s hml))
      go_ret
      exact ⟨rfl, hb1⟩
    · have hf : Hid (false = wordB s.data.toList) := by
        show _ = _
        cases hc : wordB s.data.toList with
        | true => have := hw hc; omega
        | false => rfl
      have h3 : ¬ (s.size : Int) ≤ 7 := by omega
      clear hw
      go_enter Tryz.func105, Tryz.ntmps105
      go_wp2
      go_ret
      exact ⟨oneB hf.out, Below.refl _ _⟩
  · have hf : Hid (false = wordB s.data.toList) := by
      show _ = _
      cases hc : wordB s.data.toList with
      | true => have := hw hc; omega
      | false => rfl
    have h3 : ¬ 2 ≤ (s.size : Int) := by omega
    clear hw
    go_enter Tryz.func105, Tryz.ntmps105
    go_wp2
    go_ret
    exact ⟨oneB hf.out, Below.refl _ _⟩

theorem Word_any (s : ByteArray) (w : World) (hs : s.size ≤ 9223372036854775000) :
    Calls Tryz.prog 105 #[.string s] w fun e w' => e = .returned (.bool (wordB s.data.toList)) ∧ Below w.heap.size w w' := Word_all s w
noncomputable def WDc : Array Value := (WD.map fun l => Value.string (BA l)).toArray
theorem WDc_at {w : World} {g : Nat} {f : Nat × Nat} (h : w.heap[g]? = some (.cells WDc 9 f)) : RowS w g 0 WDb := fun k hk => by
  rw [cell_of_row w g _ _ _ _ h]
  have : k < WD.length := by simpa [WDb] using hk
  simp [WDc, WDb, this]
theorem any_word (s : ByteArray) : hasS WDb s = wordB s.data.toList := by
  unfold wordB WDb hasS
  rw [Bool.eq_iff_iff, List.any_eq_true, decide_eq_true_eq]
  simp only [List.mem_map, beq_iff_eq]
  constructor
  · rintro ⟨x, ⟨l, hl, rfl⟩, h⟩
    rw [BA_toList, ByteArray.toList_eq] at h
    rw [← h]; exact hl
  · intro h
    exact ⟨_, ⟨_, h, rfl⟩, by rw [BA_toList, ByteArray.toList_eq]⟩
/-- what a call to Has over the words' own block returns -/
theorem Has_words (s : ByteArray) (w : World) :
    Calls Tryz.prog 26 #[.slice (some ⟨w.heap.size, 0, none⟩) 34 34, .string s] (w.alloc (.cells WDc 9)) fun e w' => e = .returned (.bool (wordB s.data.toList)) ∧ w.alloc (.cells WDc 9) = w' := by
  have hr := WDc_at (heap_alloc_new w (.cells WDc 9))
  have ch := Has_any (some ⟨w.heap.size, 0, none⟩) 34 34 WDb s (w.alloc (.cells WDc 9)) ⟨rfl, fun _ => ⟨_, _, rfl, by simp, hr⟩⟩ (by decide)
  rw [any_word] at ch
  exact ch
end Go.Proofs.YtcigeclnbhcohaaGreatDoor.L
namespace Go.Proofs.YtcigeclnbhcohaaGreatDoor.Dig
open Go.Lib

def isD (c : UInt8) : Bool := decide (48 ≤ c.toNat) && decide (c.toNat ≤ 57)
def val (l : List UInt8) : Nat := l.foldl (fun n c => 10 * n + (c.toNat - 48)) 0
def plainB (l : List UInt8) : Bool := !l.isEmpty && l.all isD && (l.head? != some 48 || l.length == 1)

theorem isD_iff {c : UInt8} : isD c = true ↔ 48 ≤ c.toNat ∧ c.toNat ≤ 57 := by simp [isD]
theorem isD_of {k : Nat} (h : k < 10) : isD (UInt8.ofNat (48 + k)) = true := by
  rw [isD_iff, UInt8.toNat_ofNat']; omega
theorem toNat_of {k : Nat} (h : k < 10) : (UInt8.ofNat (48 + k)).toNat - 48 = k := by
  rw [UInt8.toNat_ofNat']; omega
theorem of_toNat {c : UInt8} (h : isD c = true) : UInt8.ofNat (48 + (c.toNat - 48)) = c := by
  have h := isD_iff.1 h
  rw [show 48 + (c.toNat - 48) = c.toNat by omega, UInt8.ofNat_toNat]

theorem val_nil : val [] = 0 := rfl
theorem val_one (c : UInt8) : val [c] = c.toNat - 48 := by simp [val]
theorem val_snoc (l : List UInt8) (c : UInt8) : val (l ++ [c]) = 10 * val l + (c.toNat - 48) := by simp [val]
theorem fold_add (l : List UInt8) : ∀ n, l.foldl (fun n c => 10 * n + (c.toNat - 48)) n = n * 10 ^ l.length + val l := by
  induction l with
  | nil => intro n; simp [val]
  | cons c l ih =>
    intro n
    rw [val, List.foldl_cons, List.foldl_cons, ih, ih (10 * 0 + (c.toNat - 48)), List.length_cons, Nat.pow_succ]
    rw [Nat.add_mul, Nat.mul_zero, Nat.zero_add]
    have : 10 * n * 10 ^ l.length = n * (10 ^ l.length * 10) := by
      rw [Nat.mul_comm 10 n, Nat.mul_assoc, Nat.mul_comm 10]
    omega
theorem val_cons (c : UInt8) (l : List UInt8) : val (c :: l) = (c.toNat - 48) * 10 ^ l.length + val l := by
  rw [val, List.foldl_cons, fold_add]; simp
theorem val_lt {l : List UInt8} (h : l.all isD = true) : val l < 10 ^ l.length := by
  induction l with
  | nil => simp [val]
  | cons c l ih =>
    simp only [List.all_cons, Bool.and_eq_true] at h
    have hc := isD_iff.1 h.1
    have hl := ih h.2
    rw [val_cons, List.length_cons, Nat.pow_succ]
    have : (c.toNat - 48) * 10 ^ l.length ≤ 9 * 10 ^ l.length := Nat.mul_le_mul_right _ (by omega)
    omega
theorem val_ge {l : List UInt8} (h : plainB l = true) (h1 : l.head? ≠ some 48) : 10 ^ (l.length - 1) ≤ val l := by
  cases l with
  | nil => simp [plainB] at h
  | cons c l =>
    simp only [plainB, List.all_cons, Bool.and_eq_true] at h
    have hc := isD_iff.1 h.1.2.1
    have : c.toNat ≠ 48 := fun e => h1 (by simp; exact UInt8.toNat_inj.1 e)
    rw [val_cons, List.length_cons, Nat.add_sub_cancel]
    have : 1 * 10 ^ l.length ≤ (c.toNat - 48) * 10 ^ l.length := Nat.mul_le_mul_right _ (by omega)
    omega
theorem plain_head {l : List UInt8} (h : plainB l = true) (h1 : 2 ≤ l.length) : l.head? ≠ some 48 := by
  simp only [plainB, Bool.and_eq_true, Bool.or_eq_true] at h
  rcases h.2 with h | h
  · simpa using h
  · simp at h; omega
theorem plain_all {l : List UInt8} (h : plainB l = true) : l.all isD = true := by
  simp only [plainB, Bool.and_eq_true] at h; exact h.1.2
theorem plain_pos {l : List UInt8} (h : plainB l = true) : 0 < l.length := by
  cases l with
  | nil => simp [plainB] at h
  | cons => simp

/-! ### less: of two numbers' digits -/
theorem bytesLess_val : ∀ (a b : List UInt8), a.length = b.length → a.all isD = true → b.all isD = true → Go.Op.bytesLess a b = decide (val a < val b)
  | [], [], _, _, _ => by simp [Go.Op.bytesLess]
  | [], _ :: _, h, _, _ => by simp at h
  | _ :: _, [], h, _, _ => by simp at h
  | x :: a, y :: b, h, ha, hb => by
    simp only [List.all_cons, Bool.and_eq_true] at ha hb
    have hl : a.length = b.length := by simpa using h
    have ih := bytesLess_val a b hl ha.2 hb.2
    have va := val_lt ha.2
    have vb := val_lt hb.2
    have hx := isD_iff.1 ha.1
    have hy := isD_iff.1 hb.1
    rw [Go.Op.bytesLess, ih, val_cons, val_cons, hl]
    rw [hl] at va
    by_cases e : x = y
    · subst e
      simp
    · have ne : x.toNat ≠ y.toNat := fun e' => e (UInt8.toNat_inj.1 e')
      have e2 : (x == y) = false := by simp [e]
      rw [e2, Bool.false_and, Bool.or_false]
      apply decide_eq_decide.2
      rw [UInt8.lt_iff_toNat_lt]
      generalize 10 ^ b.length = p at *
      constructor
      · intro hlt
        have : (x.toNat - 48 + 1) * p ≤ (y.toNat - 48) * p := Nat.mul_le_mul_right _ (by omega)
        rw [Nat.add_mul] at this
        omega
      · intro hlt
        apply Classical.byContradiction
        intro hge
        have : (y.toNat - 48 + 1) * p ≤ (x.toNat - 48) * p := Nat.mul_le_mul_right _ (by omega)
        rw [Nat.add_mul] at this
        omega

/-- what 'less' answers -/
def lessB (a b : List UInt8) : Bool := if a.length = b.length then Go.Op.bytesLess a b else decide (a.length < b.length)
theorem lessB_val {a b : List UInt8} (ha : plainB a = true) (hb : plainB b = true) : lessB a b = decide (val a < val b) := by
  unfold lessB
  by_cases h : a.length = b.length
  · rw [if_pos h, bytesLess_val a b h (plain_all ha) (plain_all hb)]
  · rw [if_neg h]
    apply decide_eq_decide.2
    have pa := plain_pos ha
    have pb := plain_pos hb
    have va := val_lt (plain_all ha)
    have vb := val_lt (plain_all hb)
    constructor
    · intro hlt
      have := val_ge hb (plain_head hb (by omega))
      have : 10 ^ a.length ≤ 10 ^ (b.length - 1) := Nat.pow_le_pow_right (by decide) (by omega)
      omega
    · intro hlt
      apply Classical.byContradiction
      intro hge
      have := val_ge ha (plain_head ha (by omega))
      have : 10 ^ b.length ≤ 10 ^ (a.length - 1) := Nat.pow_le_pow_right (by decide) (by omega)
      omega

theorem head_app {a b : List UInt8} (h : a ≠ []) : (a ++ b).head? = a.head? := by
  cases a with
  | nil => exact absurd rfl h
  | cons => rfl
/-! ### the digits of a number -/
theorem dec_all (u : Nat) : (decDigits u).all isD = true := by
  induction u using Nat.strongRecOn with
  | _ u ih =>
    rw [decDigits]
    by_cases h : u < 10
    · rw [dif_pos h, List.all_cons, isD_of h]; rfl
    · rw [dif_neg h, List.all_append, ih _ (by omega), List.all_cons, isD_of (Nat.mod_lt u (by decide : 0 < 10))]; rfl
theorem dec_val (u : Nat) : val (decDigits u) = u := by
  induction u using Nat.strongRecOn with
  | _ u ih =>
    rw [decDigits]
    by_cases h : u < 10
    · rw [dif_pos h, val_one, toNat_of h]
    · rw [dif_neg h, val_snoc, ih _ (by omega), toNat_of (Nat.mod_lt u (by decide : 0 < 10))]; omega
theorem dec_ne (u : Nat) : decDigits u ≠ [] := by
  rw [decDigits]
  by_cases h : u < 10
  · rw [dif_pos h]; simp
  · rw [dif_neg h]; simp
theorem dec_head (u : Nat) (hu : 0 < u) : (decDigits u).head? ≠ some 48 := by
  induction u using Nat.strongRecOn with
  | _ u ih =>
    rw [decDigits]
    by_cases h : u < 10
    · rw [dif_pos h]
      simp only [List.head?_cons, ne_eq, Option.some.injEq]
      intro e
      have := congrArg UInt8.toNat e
      rw [UInt8.toNat_ofNat'] at this
      simp at this
      omega
    · rw [dif_neg h, head_app (dec_ne _)]
      exact ih _ (by omega) (by omega)
theorem dec_plain (u : Nat) : plainB (decDigits u) = true := by
  unfold plainB
  rw [dec_all u]
  have h1 : (decDigits u).isEmpty = false := by
    cases h : decDigits u with
    | nil => exact absurd h (dec_ne u)
    | cons => rfl
  rw [h1]
  by_cases hu : 0 < u
  · have := dec_head u hu
    simp [this]
  · have : u = 0 := by omega
    subst this
    rw [decDigits]; simp
theorem dec_of_val : ∀ (n : Nat) (l : List UInt8), l.length = n → plainB l = true → decDigits (val l) = l
  | 0, l, h, hp => by have := plain_pos hp; omega
  | 1, l, h, hp => by
    obtain ⟨c, rfl⟩ : ∃ c, l = [c] := by
      match l, h with
      | [c], _ => exact ⟨c, rfl⟩
    have hc : isD c = true := by simpa using plain_all hp
    have := isD_iff.1 hc
    rw [val_one, decDigits, dif_pos (by omega), of_toNat hc]
  | n + 2, l, h, hp => by
    obtain ⟨l', c, rfl⟩ : ∃ l' c, l = l' ++ [c] := ⟨l.dropLast, l.getLast (by intro e; simp [e] at h), (List.dropLast_concat_getLast _).symm⟩
    have hl : l'.length = n + 1 := by simpa using h
    have hne : l' ≠ [] := by intro e; simp [e] at hl
    have hh := plain_head hp (by omega)
    rw [head_app hne] at hh
    have ha := plain_all hp
    rw [List.all_append, Bool.and_eq_true] at ha
    have hc : isD c = true := by simpa using ha.2
    have hp' : plainB l' = true := by
      unfold plainB
      rw [ha.1]
      cases l' with
      | nil => exact absurd rfl hne
      | cons => simp at hh; simp [hh]
    have ih := dec_of_val (n + 1) l' hl hp'
    have hv := val_ge hp' hh
    have : 1 ≤ 10 ^ (l'.length - 1) := Nat.one_le_pow _ _ (by decide)
    have hcd := isD_iff.1 hc
    rw [val_snoc, decDigits, dif_neg (by omega)]
    rw [show (10 * val l' + (c.toNat - 48)) / 10 = val l' by omega, show (10 * val l' + (c.toNat - 48)) % 10 = c.toNat - 48 by omega, ih, of_toNat hc]

/-! ### the number whose digits a text is -/
def fitB (n : Int) : Bool := decide (-9223372036854775808 ≤ n ∧ n ≤ 9223372036854775807)
def fitV (n : Int) : Int := if -9223372036854775808 ≤ n ∧ n ≤ 9223372036854775807 then n else 0
theorem fit_yes {n : Int} (h : -9223372036854775808 ≤ n ∧ n ≤ 9223372036854775807) : fitV n = n ∧ fitB n = true := by
  unfold fitB fitV; simp [h]
theorem fit_no {n : Int} (h : ¬(-9223372036854775808 ≤ n ∧ n ≤ 9223372036854775807)) : fitV n = 0 ∧ fitB n = false := by
  unfold fitB fitV; simp [h]
theorem fit_bd (n : Int) : -9223372036854775808 ≤ fitV n ∧ fitV n ≤ 9223372036854775807 := by unfold fitV; split <;> omega
def isNeg (l : List UInt8) : Bool := l.head? == some 45
def body (l : List UInt8) : List UInt8 := if isNeg l then l.tail else l
def isNum (l : List UInt8) : Bool := plainB (body l) && !(isNeg l && body l == [48])
def num (l : List UInt8) : Int := if isNeg l then -(val (body l) : Int) else (val (body l) : Int)
def rdV (l : List UInt8) : Int := if isNum l then fitV (num l) else 0
def rdE (l : List UInt8) : Int := if isNum l then (if fitB (num l) then 0 else 5) else 7

theorem rdV_bd (l : List UInt8) : -9223372036854775808 ≤ rdV l ∧ rdV l ≤ 9223372036854775807 := by
  unfold rdV; split
  · exact fit_bd _
  · omega
theorem rd_ok {l : List UInt8} (h : rdE l = 0) : isNum l = true ∧ fitB (num l) = true ∧ rdV l = num l := by
  unfold rdE at h
  by_cases h1 : isNum l = true
  · rw [if_pos h1] at h
    by_cases h2 : fitB (num l) = true
    · refine ⟨h1, h2, ?_⟩
      unfold rdV; rw [if_pos h1]
      exact (fit_yes (of_decide_eq_true (show decide _ = true from h2))).1
    · rw [if_neg h2] at h; omega
  · rw [if_neg h1] at h; omega
theorem rdE_cases (l : List UInt8) : rdE l = 0 ∨ rdE l = 5 ∨ rdE l = 7 := by
  unfold rdE; split
  · split <;> simp
  · simp
theorem rdV_zero {l : List UInt8} (h : rdE l ≠ 0) : rdV l = 0 := by
  unfold rdE at h
  unfold rdV
  by_cases h1 : isNum l = true
  · rw [if_pos h1] at h ⊢
    by_cases h2 : fitB (num l) = true
    · rw [if_pos h2] at h; omega
    · exact (fit_no (fun h3 => h2 (show decide _ = true from decide_eq_true h3))).1
  · rw [if_neg h1]

theorem dec_noneg (u : Nat) : isNeg (decDigits u) = false := by
  unfold isNeg
  cases h : decDigits u with
  | nil => rfl
  | cons c r =>
    have ha := dec_all u
    rw [h] at ha
    simp only [List.all_cons, Bool.and_eq_true] at ha
    have := isD_iff.1 ha.1
    simp only [List.head?_cons]
    have : c ≠ 45 := by rintro rfl; simp at this
    simp [this]
theorem itoa_pos {n : Int} (h : 0 ≤ n) : itoa n = decDigits n.toNat := by unfold itoa; rw [if_neg (by omega)]
theorem itoa_neg {n : Int} (h : n < 0) : itoa n = 45 :: decDigits n.natAbs := by unfold itoa; rw [if_pos h]
/-- what is written is read as it was -/
theorem num_itoa (n : Int) : isNum (itoa n) = true ∧ num (itoa n) = n := by
  by_cases h : n < 0
  · rw [itoa_neg h]
    have e1 : isNeg (45 :: decDigits n.natAbs) = true := rfl
    have e2 : body (45 :: decDigits n.natAbs) = decDigits n.natAbs := by unfold body; rw [e1]; rfl
    constructor
    · unfold isNum
      rw [e1, e2, dec_plain]
      have : decDigits n.natAbs ≠ [48] := by
        intro e
        have := dec_val n.natAbs
        rw [e] at this
        simp [val] at this
        omega
      simp [this]
    · unfold num
      rw [e1, e2, dec_val]; simp; omega
  · rw [itoa_pos (by omega)]
    have e1 := dec_noneg n.toNat
    have e2 : body (decDigits n.toNat) = decDigits n.toNat := by unfold body; rw [e1]; rfl
    constructor
    · unfold isNum; rw [e1, e2, dec_plain]; rfl
    · unfold num; rw [e1, e2, dec_val]; simp; omega
theorem rd_itoa {n : Int} (h0 : -9223372036854775808 ≤ n) (h1 : n ≤ 9223372036854775807) : rdV (itoa n) = n ∧ rdE (itoa n) = 0 := by
  obtain ⟨e1, e2⟩ := num_itoa n
  obtain ⟨f1, f2⟩ := fit_yes ⟨h0, h1⟩
  unfold rdV rdE
  rw [if_pos e1, if_pos e1, e2, f1, if_pos f2]
  exact ⟨rfl, rfl⟩
/-- what is read is written just so -/
theorem itoa_num {l : List UInt8} (h : isNum l = true) : itoa (num l) = l := by
  unfold isNum at h
  rw [Bool.and_eq_true] at h
  obtain ⟨hp, hz⟩ := h
  have hd := dec_of_val _ (body l) rfl hp
  unfold num
  by_cases hn : isNeg l = true
  · rw [hn] at hz
    rw [if_pos hn]
    have hl : l = 45 :: body l := by
      unfold body; rw [hn]
      cases l with
      | nil => simp [isNeg] at hn
      | cons c r => simp [isNeg] at hn; simp [hn]
    have hv : 0 < val (body l) := by
      apply Classical.byContradiction
      intro h0
      have h0 : val (body l) = 0 := by omega
      rw [h0] at hd
      have : decDigits 0 = [48] := by rw [decDigits]; simp
      rw [this] at hd
      simp [← hd] at hz
    rw [itoa_neg (by omega)]
    rw [show (-(val (body l) : Int)).natAbs = val (body l) by omega, hd]
    exact hl.symm
  · rw [if_neg hn, itoa_pos (by omega), Int.toNat_natCast, hd]
    unfold body; simp [hn]
theorem itoa_rd {l : List UInt8} (h : rdE l = 0) : itoa (rdV l) = l := by
  obtain ⟨h1, _, h3⟩ := rd_ok h
  rw [h3, itoa_num h1]
theorem itoa_inj {a b : Int} (h : itoa a = itoa b) : a = b := by
  have := (num_itoa a).2
  rw [h, (num_itoa b).2] at this
  exact this.symm

/-! ### Nat -/
def ntE (l : List UInt8) (m : Int) : Int := if rdE l = 0 then (if rdV l < 0 ∨ m < rdV l then 5 else 0) else rdE l
def ntV (l : List UInt8) (m : Int) : Int := if ntE l m = 0 then rdV l else 0

/-! ### Index -/
def ixL (l : List UInt8) (n : Int) : List UInt8 := if n ≤ 0 then l else l ++ itoa n

/-! ### Part -/
/-- a number from 1 to 2^31 - 1 -/
def gd (l : List UInt8) : Bool := decide (rdE l = 0 ∧ 1 ≤ rdV l ∧ rdV l ≤ 2147483647)
def cutAt (l : List UInt8) : Option Nat := (List.range l.length).find? fun i => gd (l.drop i)
def ptK (l : List UInt8) : Bool := match cutAt l with | some (_ + 1) => true | _ => false
def ptL (l : List UInt8) : List UInt8 := match cutAt l with | some (i + 1) => l.take (i + 1) | _ => l
def ptN (l : List UInt8) : Int := match cutAt l with | some (i + 1) => rdV (l.drop (i + 1)) | _ => 0

theorem gd_len {l : List UInt8} (h : gd l = true) : l.length ≤ 10 ∧ 0 < l.length ∧ isNeg l = false := by
  obtain ⟨h1, h2, h3⟩ := of_decide_eq_true (show decide _ = true from h)
  obtain ⟨e1, e2, e3⟩ := rd_ok h1
  have hn : isNeg l = false := by
    apply Bool.eq_false_iff.2
    intro hn
    rw [e3] at h2
    unfold num at h2
    rw [if_pos hn] at h2
    omega
  have hb : body l = l := by unfold body; rw [hn]; rfl
  unfold isNum at e1
  rw [Bool.and_eq_true, hb] at e1
  have hp := plain_pos e1.1
  refine ⟨?_, hp, hn⟩
  apply Classical.byContradiction
  intro hgt
  have := val_ge e1.1 (plain_head e1.1 (by omega))
  have : 10 ^ 10 ≤ 10 ^ (l.length - 1) := Nat.pow_le_pow_right (by decide) (by omega)
  rw [e3] at h3
  unfold num at h3
  rw [hn, hb] at h3
  simp at h3
  omega
theorem cut_some {l : List UInt8} {i : Nat} (hi : i < l.length) (hg : gd (l.drop i) = true) (hj : ∀ j, j < i → gd (l.drop j) = false) : cutAt l = some i := by
  unfold cutAt
  rw [List.find?_range_eq_some]
  exact ⟨hg, by simpa using hi, fun j h => by rw [hj j h]; rfl⟩
theorem cut_none {l : List UInt8} (hj : ∀ j, j < l.length → gd (l.drop j) = false) : cutAt l = none := by
  unfold cutAt
  rw [List.find?_eq_none]
  intro j h
  rw [hj j (List.mem_range.1 h)]
  simp
theorem cut_is {l : List UInt8} {i : Nat} (h : cutAt l = some i) : i < l.length ∧ gd (l.drop i) = true := by
  unfold cutAt at h
  rw [List.find?_range_eq_some] at h
  exact ⟨by simpa using h.2.1, h.1⟩
theorem pt_zero {l : List UInt8} (h : cutAt l = some 0 ∨ cutAt l = none) : ptL l = l ∧ ptN l = 0 ∧ ptK l = false := by
  unfold ptL ptN ptK
  rcases h with h | h <;> rw [h] <;> exact ⟨rfl, rfl, rfl⟩
theorem pt_some {l : List UInt8} {i : Nat} (h : cutAt l = some i) (hi : i ≠ 0) : ptL l = l.take i ∧ ptN l = rdV (l.drop i) ∧ ptK l = true := by
  obtain ⟨j, rfl⟩ : ∃ j, i = j + 1 := ⟨i - 1, by omega⟩
  unfold ptL ptN ptK
  rw [h]; exact ⟨rfl, rfl, rfl⟩
/-- either nothing is split, or what is split is put together again -/
theorem pt_cases (l : List UInt8) : (ptK l = false ∧ ptL l = l ∧ ptN l = 0) ∨ (ptK l = true ∧ ptL l ≠ [] ∧ 1 ≤ ptN l ∧ ptN l ≤ 2147483647 ∧ ixL (ptL l) (ptN l) = l) := by
  cases h : cutAt l with
  | none => obtain ⟨a, b, c⟩ := pt_zero (Or.inr h); exact Or.inl ⟨c, a, b⟩
  | some i =>
    by_cases hi : i = 0
    · subst hi; obtain ⟨a, b, c⟩ := pt_zero (Or.inl h); exact Or.inl ⟨c, a, b⟩
    · obtain ⟨a, b, c⟩ := pt_some h hi
      obtain ⟨h1, h2⟩ := cut_is h
      obtain ⟨g1, g2, g3⟩ := of_decide_eq_true (show decide _ = true from h2)
      refine Or.inr ⟨c, ?_, by rw [b]; exact g2, by rw [b]; exact g3, ?_⟩
      · rw [a]; intro e; have := congrArg List.length e; rw [List.length_take, List.length_nil] at this; omega
      · unfold ixL
        rw [a, b, if_neg (by omega), itoa_rd g1, List.take_append_drop]
/-- what is put together is taken apart -/
theorem pt_ix {l : List UInt8} {n : Int} (h0 : 1 ≤ n) (h1 : n ≤ 2147483647) (hl : l ≠ []) (hd : isD (l.getLast hl) = false) :
    ptL (ixL l n) = l ∧ ptN (ixL l n) = n ∧ ptK (ixL l n) = true := by
  have e : ixL l n = l ++ itoa n := by unfold ixL; rw [if_neg (by omega)]
  rw [e]
  obtain ⟨r1, r2⟩ := rd_itoa (n := n) (by omega) (by omega)
  have hlen : 0 < l.length := by cases l with | nil => exact absurd rfl hl | cons => simp
  have hne : itoa n ≠ [] := by rw [itoa_pos (by omega)]; exact dec_ne _
  have hc : cutAt (l ++ itoa n) = some l.length := by
    apply cut_some
    · have : 0 < (itoa n).length := by cases h : itoa n with | nil => exact absurd h hne | cons => simp
      simp; omega
    · rw [List.drop_left]
      exact decide_eq_true ⟨r2, by omega, by omega⟩
    · intro j hj
      apply Bool.eq_false_iff.2
      intro hg
      obtain ⟨_, _, hn⟩ := gd_len hg
      obtain ⟨g1, _, _⟩ := of_decide_eq_true (show decide _ = true from hg)
      obtain ⟨i1, _, _⟩ := rd_ok g1
      unfold isNum at i1
      rw [Bool.and_eq_true] at i1
      have hb : body (List.drop j (l ++ itoa n)) = List.drop j (l ++ itoa n) := by unfold body; rw [hn]; rfl
      rw [hb] at i1
      have ha := plain_all i1.1
      rw [List.drop_append_of_le_length (by omega), List.all_append, Bool.and_eq_true] at ha
      have hm : l.getLast hl ∈ l.drop j := by
        have h2 : l.drop j ≠ [] := by intro e; have := congrArg List.length e; simp at this; omega
        have := List.getLast_mem h2
        rwa [List.getLast_drop h2] at this
      have := List.all_eq_true.1 ha.1 _ hm
      rw [hd] at this
      exact absurd this (by decide)
  obtain ⟨a, b, c⟩ := pt_some hc (by omega)
  rw [a, b, c, List.take_left, List.drop_left, r1]
  exact ⟨rfl, rfl, rfl⟩
end Go.Proofs.YtcigeclnbhcohaaGreatDoor.Dig
namespace Go.Proofs.YtcigeclnbhcohaaGreatDoor.L
open Go.RowKit
set_option linter.unusedVariables false
set_option linter.unusedSimpArgs false

theorem dec_small {u : Nat} (h : u < 10) : Lib.decDigits u = [UInt8.ofNat (48 + u)] := by rw [Lib.decDigits, dif_pos h]
theorem dec_big {u : Nat} (h : ¬ u < 10) : Lib.decDigits u = Lib.decDigits (u / 10) ++ [UInt8.ofNat (48 + u % 10)] := by conv => lhs; rw [Lib.decDigits, dif_neg h]
theorem dec_len : ∀ (k u : Nat), u < 10 ^ (k + 1) → (Lib.decDigits u).length ≤ k + 1
  | 0, u, h => by rw [dec_small (by simpa using h)]; simp
  | k + 1, u, h => by
    by_cases hu : u < 10
    · rw [dec_small hu]; simp
    · have := dec_len k (u / 10) (by rw [Nat.pow_succ] at h; omega)
      rw [dec_big hu, List.length_append]; simp; omega
theorem nDig_le (u : Nat) (h : u < 10 ^ 19) : (Lib.decDigits u).length ≤ 19 := dec_len 18 u h
theorem BA_app (s : ByteArray) (b : List UInt8) : s ++ BA b = BA (s.data.toList ++ b) := by
  apply ByteArray.ext; simp [BA]

theorem conv_at (w : World) (n : Nat) (v : Int) (h : w.cell? ⟨n, 0, none⟩ = some (.int .u8 v)) :
    (convert 66 9 (.slice (some ⟨n, 0, none⟩) 1 1)).run Tryz.prog w = .ok (.string ⟨#[UInt8.ofNat v.toNat]⟩) w := by
  rw [run_convert_bytes_arg w 66 5 Tryz.underlying66 Tryz.underlying5 n 0 1 1 [v] rfl (fun i hi => by
    have : i = 0 := by omega
    subst this
    exact h) 9 Tryz.underlying9]
  rfl
theorem conv_new (w : World) (v : Int) :
    (convert 66 9 (.slice (some ⟨w.heap.size, 0, none⟩) 1 1)).run Tryz.prog (w.alloc (.cells #[.int .u8 v] 5)) = .ok (.string ⟨#[UInt8.ofNat v.toNat]⟩) (w.alloc (.cells #[.int .u8 v] 5)) :=
  conv_at _ _ _ (by rw [World.cell?_alloc_mark]; rfl)
theorem retS {a b : ByteArray} (h : a = b) : Ending.returned (.string a) = .returned (.string b) := by rw [h]

theorem digits_small (u : Nat) (hu : u < 10) (w : World) :
    Calls Tryz.prog 83 #[.int .u64 u] w fun e w' => e = .returned (.string (BA (Lib.decDigits u))) ∧ Below w.heap.size w w' := by
  have h1 : (u : Int) < 10 := by omega
  have hcv := conv_new
  have hr : Hid ((⟨#[UInt8.ofNat (48 + (u : Int)).toNat]⟩ : ByteArray) = BA (Lib.decDigits u)) := by
    show _ = _
    rw [Lib.decDigits, dif_pos hu, show (48 + (u : Int)).toNat = 48 + u by omega]; rfl
  clear hu
  go_enter Tryz.func83, Tryz.ntmps83
  go_wp2
  go_ret
  exact ⟨retS hr.out, bel_alloc (Below.refl _ _) _⟩

set_option maxHeartbeats 1000000 in
theorem digits_big (u : Nat) (hu : ¬ u < 10) (h2 : u < 18446744073709551616) (w : World) (ih : ∀ w, Calls Tryz.prog 83 #[.int .u64 ((u / 10 : Nat) : Int)] w fun e w' => e = .returned (.string (BA (Lib.decDigits (u / 10)))) ∧ Below w.heap.size w w') :
    Calls Tryz.prog 83 #[.int .u64 u] w fun e w' => e = .returned (.string (BA (Lib.decDigits u))) ∧ Below w.heap.size w w' := by
  have h1 : 10 ≤ (u : Int) := by omega
  have hl : (BA (Lib.decDigits (u / 10))).size ≤ 19 := by rw [BA_size]; exact nDig_le _ (by omega)
  have hr : Hid (BA (Lib.decDigits (u / 10)) ++ (⟨#[UInt8.ofNat (48 + (u : Int) % 10).toNat]⟩ : ByteArray) = BA (Lib.decDigits u)) := by
    show _ = _
    have e : (⟨#[UInt8.ofNat (48 + (u : Int) % 10).toNat]⟩ : ByteArray) = BA [UInt8.ofNat (48 + u % 10)] := by
      rw [show (48 + (u : Int) % 10).toNat = 48 + u % 10 by omega]; rfl
    rw [e, BA_app, BA_list]
    conv => rhs; rw [Lib.decDigits, dif_neg hu]
  obtain ⟨q, hq⟩ : ∃ q : Int, ((u / 10 : Nat) : Int) = q := ⟨_, rfl⟩
  have hq2 : (u : Int) / 10 = q := by omega
  rw [hq] at ih
  obtain ⟨r, hR⟩ : ∃ r : Int, (u : Int) % 10 = r := ⟨_, rfl⟩
  have r0 : 0 ≤ r := by omega
  have r1 : r ≤ 9 := by omega
  rw [hR] at hr
  have hw : IntKind.u64.wrap (48 + r) = 48 + r := by rw [IntKind.wrap_u64]; omega
  have hw8 : IntKind.u8.wrap (48 + r) = 48 + r := by rw [IntKind.wrap_u8]; omega
  have hcv := fun w n => conv_at w n (48 + r)
  generalize BA (Lib.decDigits (u / 10)) = t at *
  generalize BA (Lib.decDigits u) = x at *
  obtain ⟨U, hU⟩ : ∃ U : Int, (u : Int) = U := ⟨_, rfl⟩
  have hU2 : U ≤ 18446744073709551615 := by omega
  have hU0 : 0 ≤ U := by omega
  rw [hU] at h1 hq2 hR ⊢
  clear hq hu h2 hU
  have HH := Lib.hid hq2
  have hq3 : U.tdiv 10 = q := by rw [Int.tdiv_eq_ediv_of_nonneg (by omega)]; exact hq2
  have hR3 : U.tmod 10 = r := by rw [Int.tmod_eq_emod_of_nonneg (by omega)]; exact hR
  have hwq : IntKind.u64.wrap q = q := by rw [IntKind.wrap_u64]; omega
  go_enter Tryz.func83, Tryz.ntmps83
  go_wp2_with fail
  go_region_with (go_at_call 83; ((with_reducible refine (ih _).mono ?_); rintro e w2 ⟨rfl, hb⟩; obtain ⟨hc, hf⟩ := bcell hb))
  all_goals go_wp2
  all_goals go_simp
  all_goals go_ret
  all_goals
    refine ⟨retS hr.out, ?_⟩
    first
      | exact bel_alloc (bel_trans (Below.refl _ _).drew hb) _
      | exact (bel_alloc (bel_trans (Below.refl _ _).drew hb) _).drew
      | exact bel_trans (bel_alloc (Below.refl _ _) _).drew hb
      | exact bel_trans (bel_alloc (Below.refl _ _).drew _) hb
      | skip
theorem digits_any (u : Nat) (hu : u < 18446744073709551616) : ∀ (w : World),
    Calls Tryz.prog 83 #[.int .u64 u] w fun e w' => e = .returned (.string (BA (Lib.decDigits u))) ∧ Below w.heap.size w w' := by
  induction u using Nat.strongRecOn with
  | _ u ih =>
    intro w
    by_cases h : u < 10
    · exact digits_small u h w
    · exact digits_big u h hu w (ih (u / 10) (by omega) (by omega))
theorem digits_at (m : Int) (u : Nat) (h : m = (u : Int)) (hu : u < 18446744073709551616) (w : World) :
    Calls Tryz.prog 83 #[.int .u64 m] w fun e w' => e = .returned (.string (BA (Lib.decDigits u))) ∧ Below w.heap.size w w' := by
  subst h; exact digits_any u hu w

theorem bdigits_nat (u : Nat) (hu : u ≤ 9223372036854775807) (w : World) :
    Calls Tryz.prog 46 #[.int .i64 u] w fun e w' => e = .returned (.string (BA (Lib.decDigits u))) ∧ Below w.heap.size w w' := by
  have c1 := digits_at (u : Int) u rfl (by omega)
  have h0 : 0 ≤ (u : Int) := by omega
  generalize BA (Lib.decDigits u) = t at *
  go_enter Tryz.func46, Tryz.ntmps46
  go_wp2_with (go_at_call 83; ((with_reducible refine (c1 _).mono ?_); rintro e w2 ⟨rfl, hb⟩))
  go_ret
  exact ⟨rfl, hb⟩
end Go.Proofs.YtcigeclnbhcohaaGreatDoor.L
