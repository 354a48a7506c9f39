/-
  What is proved: what makes a name, in plain words over lists of bytes; what the calls that tell letters, digits and names return.
-/
import Derived.Test.YtakcbpmdjdadnaaProg
import Derived.WalkKit
import Derived.WalkSpells
import Derived.WalkLawsBesides
import Derived.Laws.ResultCell
import Derived.Deep.QuietTactic
import Derived.BigQuiet
import Derived.LoopTactic
import Derived.Outline
import Derived.Lib.Hide
import Derived.WalkMore
import Derived.Deep.LoopGhost
import Derived.Below
namespace Go.Proofs.Ytakcbpmdjdadnaa.L
open Go.RowKit
set_option linter.unusedVariables false
set_option linter.unusedSimpArgs false

def isL (c : UInt8) : Bool := decide ((65 ≤ c.toNat ∧ c.toNat ≤ 90) ∨ (97 ≤ c.toNat ∧ c.toNat ≤ 122) ∨ c.toNat = 95)
def isD (c : UInt8) : Bool := decide (48 ≤ c.toNat ∧ c.toNat ≤ 57)
def isN (c : UInt8) : Bool := isL c || (isD c || decide (c.toNat = 39))
theorem isL_iff {c : UInt8} : isL c = true ↔ (65 ≤ c.toNat ∧ c.toNat ≤ 90) ∨ (97 ≤ c.toNat ∧ c.toNat ≤ 122) ∨ c.toNat = 95 := by simp [isL]
theorem isD_iff {c : UInt8} : isD c = true ↔ 48 ≤ c.toNat ∧ c.toNat ≤ 57 := by simp [isD]
theorem isN_iff {c : UInt8} : isN c = true ↔ isL c = true ∨ isD c = true ∨ c.toNat = 39 := by simp [isN]

def nameN : List UInt8 → Nat
  | [] => 0
  | c :: l => if isL c = true then 1 + (l.takeWhile isN).length else 0
theorem tw_le (p : UInt8 → Bool) (l : List UInt8) : (l.takeWhile p).length ≤ l.length := (List.takeWhile_prefix p).length_le
theorem nameN_le (l : List UInt8) : nameN l ≤ l.length := by
  cases l with
  | nil => exact Nat.le_refl _
  | cons c l => rw [nameN]; have := tw_le isN l; split <;> simp <;> omega
theorem one {k : IntKind} {a b : Int} (h : a = b) : Ending.returned (.int k a) = .returned (.int k b) := by rw [h]
theorem oneB {a b : Bool} (h : a = b) : Ending.returned (.bool a) = .returned (.bool b) := by rw [h]
theorem bel_trans {a b c : World} (h : Below a.heap.size a b) (k : Below b.heap.size b c) : Below a.heap.size a c := h.trans (k.mono h.size)
theorem bel_alloc {a b : World} (h : Below a.heap.size a b) (o : Obj) : Below a.heap.size a (b.alloc o) := h.alloc h.size o
theorem bcell {W w1 : World} (hb : Below W.heap.size W w1) : (∀ b o, b < W.heap.size → w1.cell? ⟨b, o, none⟩ = W.cell? ⟨b, o, none⟩) ∧ (∀ b o, b < W.heap.size → w1.frozen? ⟨b, o, none⟩ = W.frozen? ⟨b, o, none⟩) :=
  ⟨fun b o h => hb.cell (p := ⟨b, o, none⟩) h, fun b o h => hb.frozen (p := ⟨b, o, none⟩) h⟩
theorem at_list (s : ByteArray) (k : Nat) (h : k < s.size) : s.data.toList[k]'(by simpa using h) = s[k] := rfl
theorem len_list (s : ByteArray) : s.data.toList.length = s.size := Array.length_toList
theorem beq_no' {a b : Int} (h : a ≠ b) : (a == b) = false := by simp [h]
theorem beq_yes' {a b : Int} (h : a = b) : (a == b) = true := by simp [h]
def BA (l : List UInt8) : ByteArray := ⟨l.toArray⟩
theorem BA_list (l : List UInt8) : (BA l).data.toList = l := rfl
theorem BA_size (l : List UInt8) : (BA l).size = l.length := by simp [BA, ByteArray.size]
theorem BA_toList (l : List UInt8) : (BA l).toList = l := by rw [ByteArray.toList_eq]; rfl
theorem BA_of (s : ByteArray) : BA s.data.toList = s := rfl
theorem drop_at (s : ByteArray) (k : Nat) (h : k < s.size) : s.data.toList.drop k = s[k] :: s.data.toList.drop (k + 1) := by
  rw [List.drop_eq_getElem_cons (by simpa using h)]; rfl
theorem drop_end (s : ByteArray) (k : Nat) (h : s.size ≤ k) : s.data.toList.drop k = [] := List.drop_eq_nil_of_le (by rw [len_list]; exact h)

theorem letter_any (c : UInt8) (w : World) :
    Calls Try.prog 62 #[.int .u8 c.toNat] w fun e w' => e = .returned (.bool (isL c)) ∧ w = w' := by
  have hi := @isL_iff c
  have hr : Hid (isL c = decide ((65 ≤ c.toNat ∧ c.toNat ≤ 90) ∨ (97 ≤ c.toNat ∧ c.toNat ≤ 122) ∨ c.toNat = 95)) := rfl
  clear hi
  go_enter Try.func62, Try.ntmps62
  go_wp2
  all_goals
    go_ret
    exact ⟨oneB (by rw [hr.out, Bool.eq_iff_iff]; simp; omega), rfl⟩
theorem digit_any (c : UInt8) (w : World) :
    Calls Try.prog 63 #[.int .u8 c.toNat] w fun e w' => e = .returned (.bool (isD c)) ∧ w = w' := by
  have hr : Hid (isD c = decide (48 ≤ c.toNat ∧ c.toNat ≤ 57)) := rfl
  go_enter Try.func63, Try.ntmps63
  go_wp2
  all_goals
    go_ret
    exact ⟨oneB (by rw [hr.out, Bool.eq_iff_iff]; simp; omega), rfl⟩
/-- a scan over what makes up a name -/
def twN (l : List UInt8) : Nat := (l.takeWhile isN).length
theorem twN_step {c : UInt8} {l : List UInt8} (h : isN c = true) : twN (c :: l) = 1 + twN l := by simp [twN, h]; omega
theorem twN_stop {c : UInt8} {l : List UInt8} (h : isN c = false) : twN (c :: l) = 0 := by simp [twN, h]
theorem nameN_yes {c : UInt8} {l : List UInt8} (h : isL c = true) : nameN (c :: l) = 1 + twN l := by rw [nameN, if_pos h]; rfl
theorem nameN_no {c : UInt8} {l : List UInt8} (h : isL c = false) : nameN (c :: l) = 0 := by rw [nameN, if_neg (by simp [h])]
theorem isN_false {c : UInt8} (h : isN c = false) : isL c = false ∧ isD c = false ∧ c.toNat ≠ 39 := by
  simp only [isN, Bool.or_eq_false_iff, decide_eq_false_iff_not] at h; exact h

set_option maxHeartbeats 1000000 in
theorem name_any (s : ByteArray) (w : World) (hs : s.size ≤ 9223372036854775807) :
    Calls Try.prog 56 #[.string s] w fun e w' => e = .returned (.int .i64 (nameN s.data.toList)) ∧ w = w' := by
  by_cases hz : s.size = 0
  · have h1 : s.data.toList = [] := List.eq_nil_of_length_eq_zero (by rw [len_list]; exact hz)
    have hr : Hid ((0 : Int) = nameN s.data.toList) := by show _ = _; rw [h1]; rfl
    have h2 : s.toList = [] := by rw [ByteArray.toList_eq]; exact h1
    have h3 : s.toList.isEmpty = true := by rw [h2]; rfl
    clear h1 hz
    go_enter Try.func56, Try.ntmps56
    go_wp2
    go_ret
    exact ⟨one hr.out, rfl⟩
  · have hp : 0 < s.size := by omega
    have h1 : s.data.toList ≠ [] := fun e => by rw [← len_list, e] at hp; exact absurd hp (by simp)
    have h2 : ¬ s.toList = [] := by rw [ByteArray.toList_eq]; exact h1
    have h3 : s.toList.isEmpty = false := by simp [h2]
    have c0 := fun (w : World) => letter_any s[0] w
    have hd0 := drop_at s 0 hp
    rw [List.drop_zero, Nat.zero_add] at hd0
    clear hz h1
    cases hl : isL s[0] with
    | false =>
      have hr : Hid ((0 : Int) = nameN s.data.toList) := by show _ = _; rw [hd0, nameN_no hl]; rfl
      rw [hl] at c0
      clear hd0 hl
      go_enter Try.func56, Try.ntmps56
      go_wp2_with (go_at_call 62; ((with_reducible refine (c0 _).mono ?_); rintro e w' ⟨rfl, rfl⟩))
      go_ret
      exact ⟨one hr.out, rfl⟩
    | true =>
      have h0 : 1 + twN (s.data.toList.drop 1) = nameN s.data.toList := by conv => rhs; rw [hd0, nameN_yes hl]
      rw [hl] at c0
      clear hd0 hl
      have hy : ∀ k (h : k < s.size), isN s[k] = true → twN (s.data.toList.drop k) = 1 + twN (s.data.toList.drop (k + 1)) := fun k h hd => by rw [drop_at s k h, twN_step hd]
      have hn : ∀ k (h : k < s.size), isN s[k] = false → twN (s.data.toList.drop k) = 0 := fun k h hd => by rw [drop_at s k h, twN_stop hd]
      have he : ∀ k, s.size ≤ k → twN (s.data.toList.drop k) = 0 := fun k h => by rw [drop_end s k h]; rfl
      generalize nameN s.data.toList = R at *
      obtain ⟨F, hF⟩ : ∃ F : Nat → Nat, ∀ k, twN (s.data.toList.drop k) = F k := ⟨_, fun _ => rfl⟩
      simp only [hF] at hy hn he h0
      clear hF
      have Hy := Lib.hid hy
      have Hn := Lib.hid hn
      have He := Lib.hid he
      have H0 := Lib.hid h0
      clear hy hn he h0
      go_enter Try.func56, Try.ntmps56
      go_wp2_with (go_at_call 62; ((with_reducible refine (c0 _).mono ?_); rintro e w' ⟨rfl, rfl⟩))
      clear c0
      go_loop [3] (fun n => ∃ k : Nat, k ≤ s.size ∧ n = .int .i64 k ∧ Hid (k + F k = R)) (fun n => s.size - (intOf n).toNat)
      case atStart => exact ⟨1, by omega, rfl, H0.out⟩
      case round =>
        obtain ⟨k, hk, rfl, hR⟩ := hrel
        by_cases hlt : k < s.size
        · have c1 := fun (w : World) => letter_any s[k] w
          have c2 := fun (w : World) => digit_any s[k] w
          cases hd : isN s[k] with
          | true =>
            have hnew : Hid (k + 1 + F (k + 1) = R) := by have := Hy.out k hlt hd; have := hR.out; show _ = _; omega
            clear hR
            rcases isN_iff.1 hd with h | h | h
            · rw [h] at c1
              clear h hd
              go_wp2_with (first | (go_at_call 62; ((with_reducible refine (c1 _).mono ?_); rintro e w' ⟨rfl, rfl⟩)) | (go_at_call 63; ((with_reducible refine (c2 _).mono ?_); rintro e w' ⟨rfl, rfl⟩)))
              go_round
              case rel => exact ⟨k + 1, by omega, by go_num, hnew⟩
              case measure => simp [intOf]; omega
            · rw [h] at c2
              clear h hd
              generalize isL s[k] = B at *
              cases B
              all_goals
                go_wp2_with (first | (go_at_call 62; ((with_reducible refine (c1 _).mono ?_); rintro e w' ⟨rfl, rfl⟩)) | (go_at_call 63; ((with_reducible refine (c2 _).mono ?_); rintro e w' ⟨rfl, rfl⟩)))
                go_round
                case rel => exact ⟨k + 1, by omega, by go_num, hnew⟩
                case measure => simp [intOf]; omega
            · have h39 : ((s[k].toNat : Int) == 39) = true := beq_yes' (by omega)
              clear h hd
              generalize isL s[k] = B at *
              generalize isD s[k] = B2 at *
              cases B <;> cases B2
              all_goals
                go_wp2_with (first | (go_at_call 62; ((with_reducible refine (c1 _).mono ?_); rintro e w' ⟨rfl, rfl⟩)) | (go_at_call 63; ((with_reducible refine (c2 _).mono ?_); rintro e w' ⟨rfl, rfl⟩)))
                go_round
                case rel => exact ⟨k + 1, by omega, by go_num, hnew⟩
                case measure => simp [intOf]; omega
          | false =>
            have hnew : Hid ((k : Int) = R) := by have := Hn.out k hlt hd; have := hR.out; show _ = _; omega
            obtain ⟨h1, h2, h39⟩ := isN_false hd
            rw [h1] at c1
            rw [h2] at c2
            have h40 : ((s[k].toNat : Int) == 39) = false := beq_no' (by omega)
            clear hR hd h1 h2 h39
            go_wp2_with (first | (go_at_call 62; ((with_reducible refine (c1 _).mono ?_); rintro e w' ⟨rfl, rfl⟩)) | (go_at_call 63; ((with_reducible refine (c2 _).mono ?_); rintro e w' ⟨rfl, rfl⟩)))
            go_ret
            exact ⟨one hnew.out, rfl⟩
        · have hnew : Hid ((k : Int) = R) := by have := He.out k (by omega); have := hR.out; show _ = _; omega
          clear hR
          go_wp2
          go_ret
          exact ⟨one hnew.out, rfl⟩
/-- may the byte stand at the place: the first of a name, or a later one? -/
def okAt (first : Bool) (c : UInt8) : Bool := if first then isL c else isN c
def nmF : Bool → List UInt8 → Bool
  | _, [] => true
  | f, c :: l => okAt f c && nmF false l
def nameB (l : List UInt8) : Bool := nmF true l && (decide (0 < l.length) && decide (l.length ≤ 32))
theorem nmF_false (l : List UInt8) : nmF false l = decide (twN l = l.length) := by
  induction l with
  | nil => rfl
  | cons c l ih =>
    rw [nmF, ih, okAt, if_neg (by simp)]
    have := tw_le isN l
    cases h : isN c with
    | true => rw [twN_step h, Bool.true_and, List.length_cons]; congr 1; simp; omega
    | false => rw [twN_stop h]; simp
theorem nameB_of (l : List UInt8) : nameB l = (decide (nameN l = l.length) && (decide (0 < nameN l) && decide (nameN l ≤ 32))) := by
  cases l with
  | nil => rfl
  | cons c l =>
    unfold nameB
    rw [nmF, nmF_false, okAt, if_pos rfl]
    have := tw_le isN l
    cases h : isL c with
    | true =>
      rw [nameN_yes h, Bool.true_and, List.length_cons, Bool.eq_iff_iff]
      simp only [Bool.and_eq_true, decide_eq_true_eq]; omega
    | false => rw [nameN_no h]; simp
theorem isL_no {c : UInt8} (h : isL c = false) : c.toNat < 65 ∨ (90 < c.toNat ∧ c.toNat < 95) ∨ (95 < c.toNat ∧ c.toNat < 97) ∨ 122 < c.toNat := by
  have : ¬ isL c = true := by simp [h]
  rw [isL_iff] at this; omega

set_option maxHeartbeats 2000000 in
theorem baseName_any (s : ByteArray) (w : World) (hs : s.size ≤ 9223372036854775807) :
    Calls Try.prog 38 #[.string s] w fun e w' => e = .returned (.bool (nameB s.data.toList)) ∧ w = w' := by
  have hst : ∀ k (h : k < s.size), nmF (decide (k = 0)) (s.data.toList.drop k) = (okAt (decide (k = 0)) s[k] && nmF (decide (k + 1 = 0)) (s.data.toList.drop (k + 1))) := fun k h => by
    rw [drop_at s k h, nmF]; rfl
  have he : ∀ k, s.size ≤ k → nmF (decide (k = 0)) (s.data.toList.drop k) = true := fun k h => by rw [drop_end s k h, nmF]
  have hR : nameB s.data.toList = (nmF true s.data.toList && (decide (0 < s.size) && decide (s.size ≤ 32))) := by unfold nameB; rw [len_list]
  obtain ⟨F, hF⟩ : ∃ F : Nat → Bool, ∀ k, nmF (decide (k = 0)) (s.data.toList.drop k) = F k := ⟨_, fun _ => rfl⟩
  have h0 : nmF true s.data.toList = F 0 := hF 0
  rw [h0] at hR
  simp only [hF] at hst he
  generalize nameB s.data.toList = V at *
  have v0 : F 0 = false → V = false := fun h => by rw [hR, h]; rfl
  have v1 : F 0 = true → V = (decide (0 < s.size) && decide (s.size ≤ 32)) := fun h => by rw [hR, h]; rfl
  clear hF h0 hR
  have Hst := Lib.hid hst
  have He := Lib.hid he
  have V0 := Lib.hid v0
  have V1 := Lib.hid v1
  clear hst he v0 v1
  go_enter Try.func38, Try.ntmps38
  go_wp2
  go_loop [3] (fun n => ∃ k : Nat, k ≤ s.size ∧ n = .int .i64 k ∧ Hid (F k = F 0)) (fun n => s.size - (intOf n).toNat)
  case atStart => exact ⟨0, by omega, rfl, Lib.hid rfl⟩
  case round =>
    obtain ⟨k, hk, rfl, hR⟩ := hrel
    by_cases hlt : k < s.size
    · have hs1 := Lib.hid (Hst.out k hlt)
      cases hl : isL s[k] with
      | true =>
        have hok : okAt (decide (k = 0)) s[k] = true := by unfold okAt; split; exact hl; exact isN_iff.2 (.inl hl)
        have hnew : Hid (F (k + 1) = F 0) := by have := hs1.out; rw [hok, Bool.true_and] at this; show _ = _; rw [← this]; exact hR.out
        have hc := isL_iff.1 hl
        clear hs1 hok hl hR
        rcases hc with ⟨h1, h2⟩ | ⟨h1, h2⟩ | h1
        all_goals
          go_wp2
          go_round
          case rel => exact ⟨k + 1, by omega, by go_num, hnew⟩
          case measure => simp [intOf]; omega
      | false =>
        have hc := isL_no hl
        by_cases hk0 : k = 0
        · have hok : okAt (decide (k = 0)) s[k] = false := by unfold okAt; rw [if_pos (by simp [hk0])]; exact hl
          have hnew : Hid (false = V) := by
            have := hs1.out; rw [hok, Bool.false_and, hR.out] at this; exact (V0.out this).symm
          have n2 : ((s[k].toNat : Int) == 95) = false := beq_no' (by omega)
          have hk1 : ((k : Int) == 0) = true := beq_yes' (by omega)
          have hk2 : (k == 0) = true := by simp [hk0]
          clear hs1 hok hl hR
          subst hk0
          rcases hc with h1 | ⟨h1, h2⟩ | ⟨h1, h2⟩ | h1
          all_goals
            try have d1 : decide ((s[0].toNat : Int) ≤ 90) = false := decide_eq_false (by omega)
            try have d2 : decide ((s[0].toNat : Int) ≤ 122) = false := decide_eq_false (by omega)
            try have d3 : decide (65 ≤ (s[0].toNat : Int)) = false := decide_eq_false (by omega)
            try have d4 : decide (97 ≤ (s[0].toNat : Int)) = false := decide_eq_false (by omega)
            go_wp2
            go_ret
            exact ⟨oneB hnew.out, rfl⟩
        · have hk1 : ((k : Int) == 0) = false := beq_no' (by omega)
          have hk3 : (k == 0) = false := by simp [hk0]
          have hkd : decide (k = 0) = false := by simp [hk0]
          cases hn : isN s[k] with
          | true =>
            have hok : okAt (decide (k = 0)) s[k] = true := by unfold okAt; rw [if_neg (by simp [hk0])]; exact hn
            have hnew : Hid (F (k + 1) = F 0) := by have := hs1.out; rw [hok, Bool.true_and] at this; show _ = _; rw [← this]; exact hR.out
            have hd : s[k].toNat = 39 ∨ (48 ≤ s[k].toNat ∧ s[k].toNat ≤ 57) := by
              rcases isN_iff.1 hn with h | h | h
              · rw [hl] at h; cases h
              · exact .inr (isD_iff.1 h)
              · exact .inl h
            clear hs1 hok hl hR hn hc hkd hk0
            rcases hd with h1 | ⟨h1, h2⟩
            · have n1 : ((s[k].toNat : Int) != 39) = false := by simp; omega
              have n2 : ((s[k].toNat : Int) == 95) = false := beq_no' (by omega)
              have n3 : s[k].toNat < 65 := by omega
              clear h1
              go_wp2
              go_round
              case rel => exact ⟨k + 1, by omega, by go_num, hnew⟩
              case measure => simp [intOf]; omega
            · have n1 : ((s[k].toNat : Int) != 39) = true := by simp; omega
              have n2 : ((s[k].toNat : Int) == 95) = false := beq_no' (by omega)
              go_wp2
              go_round
              case rel => exact ⟨k + 1, by omega, by go_num, hnew⟩
              case measure => simp [intOf]; omega
          | false =>
            have hok : okAt (decide (k = 0)) s[k] = false := by unfold okAt; rw [if_neg (by simp [hk0])]; exact hn
            have hnew : Hid (false = V) := by
              have := hs1.out; rw [hok, Bool.false_and, hR.out] at this; exact (V0.out this).symm
            obtain ⟨_, hd, h39⟩ := isN_false hn
            have hd2 : s[k].toNat < 48 ∨ 57 < s[k].toNat := by
              have : ¬ isD s[k] = true := by simp [hd]
              rw [isD_iff] at this; omega
            have n1 : ((s[k].toNat : Int) != 39) = true := by simp; omega
            have n2 : ((s[k].toNat : Int) == 95) = false := beq_no' (by omega)
            clear hs1 hok hl hR hn hkd hk0 hd h39
            have hc2 : s[k].toNat < 48 ∨ (57 < s[k].toNat ∧ s[k].toNat < 65) ∨ (90 < s[k].toNat ∧ s[k].toNat < 95) ∨ (95 < s[k].toNat ∧ s[k].toNat < 97) ∨ 122 < s[k].toNat := by omega
            clear hc hd2
            rcases hc2 with h1 | ⟨h1, h2⟩ | ⟨h1, h2⟩ | ⟨h1, h2⟩ | h1
            all_goals
              try have d1 : decide ((s[k].toNat : Int) ≤ 90) = false := decide_eq_false (by omega)
              try have d2 : decide ((s[k].toNat : Int) ≤ 122) = false := decide_eq_false (by omega)
              try have d3 : decide (65 ≤ (s[k].toNat : Int)) = false := decide_eq_false (by omega)
              try have d4 : decide (97 ≤ (s[k].toNat : Int)) = false := decide_eq_false (by omega)
              go_wp2
              go_ret
              exact ⟨oneB hnew.out, rfl⟩
    · have hnew : F 0 = true := by rw [← hR.out]; exact He.out k (by omega)
      have hr := V1.out hnew
      clear hR hnew
      by_cases h1 : 0 < s.size
      · by_cases h2 : s.size ≤ 32
        · have hr2 : Hid (true = V) := by show _ = _; rw [hr]; simp [h1, h2]
          clear hr
          go_wp2
          go_ret
          exact ⟨oneB (by first | exact hr2.out | (rw [← hr2.out]; simp; omega)), rfl⟩
        · have hr2 : Hid (false = V) := by show _ = _; rw [hr]; simp [h2]
          clear hr
          go_wp2
          go_ret
          exact ⟨oneB (by first | exact hr2.out | (rw [← hr2.out]; simp; omega)), rfl⟩
      · have hr2 : Hid (false = V) := by show _ = _; rw [hr]; simp [h1]
        clear hr
        go_wp2
        go_ret
        exact ⟨oneB (by first | exact hr2.out | (rw [← hr2.out]; simp; omega)), rfl⟩

theorem Name_any (s : ByteArray) (w : World) (hs : s.size ≤ 9223372036854775807) :
    Calls Try.prog 35 #[.string s] w fun e w' => e = .returned (.bool (nameB s.data.toList)) ∧ w = w' := by
  have c1 := fun (w : World) => name_any s w hs
  have hR := nameB_of s.data.toList
  have hle := nameN_le s.data.toList
  rw [len_list] at hR hle
  generalize nameB s.data.toList = V at *
  generalize nameN s.data.toList = n at *
  by_cases h1 : n = s.size
  · have n1 : ((n : Int) == (s.size : Int)) = true := beq_yes' (by omega)
    have n2 : (n == s.size) = true := by simp [h1]
    by_cases h2 : 0 < n
    · by_cases h3 : n ≤ 32
      · have hr2 : Hid (true = V) := by show _ = _; rw [hR]; simp [h1]; omega
        clear hR h1
        go_enter Try.func35, Try.ntmps35
        go_wp2_with (go_at_call 56; ((with_reducible refine (c1 _).mono ?_); rintro e w' ⟨rfl, rfl⟩))
        go_ret
        exact ⟨oneB (by first | exact hr2.out | (rw [← hr2.out]; simp; omega)), rfl⟩
      · have hr2 : Hid (false = V) := by show _ = _; rw [hR]; simp; omega
        have h4 : ¬ (n : Int) ≤ 32 := by omega
        clear hR h1
        go_enter Try.func35, Try.ntmps35
        go_wp2_with (go_at_call 56; ((with_reducible refine (c1 _).mono ?_); rintro e w' ⟨rfl, rfl⟩))
        go_ret
        exact ⟨oneB (by first | exact hr2.out | (rw [← hr2.out]; simp; omega)), rfl⟩
    · have hr2 : Hid (false = V) := by show _ = _; rw [hR]; simp; omega
      have h4 : ¬ 0 < (n : Int) := by omega
      clear hR h1
      go_enter Try.func35, Try.ntmps35
      go_wp2_with (go_at_call 56; ((with_reducible refine (c1 _).mono ?_); rintro e w' ⟨rfl, rfl⟩))
      go_ret
      exact ⟨oneB (by first | exact hr2.out | (rw [← hr2.out]; simp; omega)), rfl⟩
  · have hr2 : Hid (false = V) := by show _ = _; rw [hR]; simp [h1]
    have n1 : ((n : Int) == (s.size : Int)) = false := beq_no' (by omega)
    have n2 : (n == s.size) = false := by simp [h1]
    clear hR h1
    go_enter Try.func35, Try.ntmps35
    go_wp2_with (go_at_call 56; ((with_reducible refine (c1 _).mono ?_); rintro e w' ⟨rfl, rfl⟩))
    go_ret
    exact ⟨oneB (by first | exact hr2.out | (rw [← hr2.out]; simp; omega)), rfl⟩
end Go.Proofs.Ytakcbpmdjdadnaa.L
