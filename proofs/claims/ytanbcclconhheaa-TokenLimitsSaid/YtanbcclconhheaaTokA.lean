/-
  What is proved: what the calls of package token, and of the document's answers, that only read a text return: letters, digits, blanks, names, numbers.
-/
import Derived.Test.YtanbcclconhheaaProg
import Derived.Test.YtanbcclconhheaaTokM
import Derived.Test.YtanbcclconhheaaShelf
import Derived.WalkKit
import Derived.WalkSpells
import Derived.WalkLawsBesides
import Derived.Laws.ResultCell
import Derived.Deep.QuietTactic
import Derived.BigQuiet
import Derived.LoopTactic
import Derived.Outline
import Derived.Lib.Hide
import Derived.WalkMore
import Derived.Deep.LoopGhost
import Derived.Below
namespace Go.Proofs.Ytanbcclconhheaa.Tok
open Go.RowKit
set_option linter.unusedVariables false
set_option linter.unusedSimpArgs false

theorem one {k : IntKind} {a b : Int} (h : a = b) : Ending.returned (.int k a) = .returned (.int k b) := by rw [h]
theorem oneB {a b : Bool} (h : a = b) : Ending.returned (.bool a) = .returned (.bool b) := by rw [h]
theorem bel_trans {a b c : World} (h : Below a.heap.size a b) (k : Below b.heap.size b c) : Below a.heap.size a c := h.trans (k.mono h.size)
theorem bel_alloc {a b : World} (h : Below a.heap.size a b) (o : Obj) : Below a.heap.size a (b.alloc o) := h.alloc h.size o
theorem bcell {W w1 : World} (hb : Below W.heap.size W w1) : (∀ b o, b < W.heap.size → w1.cell? ⟨b, o, none⟩ = W.cell? ⟨b, o, none⟩) ∧ (∀ b o, b < W.heap.size → w1.frozen? ⟨b, o, none⟩ = W.frozen? ⟨b, o, none⟩) :=
  ⟨fun b o h => hb.cell (p := ⟨b, o, none⟩) h, fun b o h => hb.frozen (p := ⟨b, o, none⟩) h⟩
theorem at_list (s : ByteArray) (k : Nat) (h : k < s.size) : s.data.toList[k]'(by simpa using h) = s[k] := rfl
theorem len_list (s : ByteArray) : s.data.toList.length = s.size := Array.length_toList
theorem beq_no' {a b : Int} (h : a ≠ b) : (a == b) = false := by simp [h]
theorem beq_yes' {a b : Int} (h : a = b) : (a == b) = true := by simp [h]
def BA (l : List UInt8) : ByteArray := ⟨l.toArray⟩
theorem BA_list (l : List UInt8) : (BA l).data.toList = l := rfl
theorem BA_size (l : List UInt8) : (BA l).size = l.length := by simp [BA, ByteArray.size]
theorem BA_toList (l : List UInt8) : (BA l).toList = l := by rw [ByteArray.toList_eq]; rfl
theorem BA_of (s : ByteArray) : BA s.data.toList = s := rfl
theorem drop_at (s : ByteArray) (k : Nat) (h : k < s.size) : s.data.toList.drop k = s[k] :: s.data.toList.drop (k + 1) := by
  rw [List.drop_eq_getElem_cons (by simpa using h)]; rfl
theorem drop_end (s : ByteArray) (k : Nat) (h : s.size ≤ k) : s.data.toList.drop k = [] := List.drop_eq_nil_of_le (by rw [len_list]; exact h)

theorem letter_any (c : UInt8) (w : World) :
    Calls Try.prog 37 #[.int .u8 c.toNat] w fun e w' => e = .returned (.bool (isL c)) ∧ w = w' := by
  have hi := @isL_iff c
  have hr : Hid (isL c = decide ((65 ≤ c.toNat ∧ c.toNat ≤ 90) ∨ (97 ≤ c.toNat ∧ c.toNat ≤ 122) ∨ c.toNat = 95)) := rfl
  clear hi
  go_enter Try.func37, Try.ntmps37
  go_wp2
  all_goals
    go_ret
    exact ⟨oneB (by rw [hr.out, Bool.eq_iff_iff]; simp; omega), rfl⟩
theorem digit_any (c : UInt8) (w : World) :
    Calls Try.prog 38 #[.int .u8 c.toNat] w fun e w' => e = .returned (.bool (isD c)) ∧ w = w' := by
  have hr : Hid (isD c = decide (48 ≤ c.toNat ∧ c.toNat ≤ 57)) := rfl
  go_enter Try.func38, Try.ntmps38
  go_wp2
  all_goals
    go_ret
    exact ⟨oneB (by rw [hr.out, Bool.eq_iff_iff]; simp; omega), rfl⟩
theorem Letter_any (c : UInt8) (w : World) :
    Calls Try.prog 35 #[.int .u8 c.toNat] w fun e w' => e = .returned (.bool (isL c)) ∧ w = w' := by
  have hr : Hid (isL c = decide ((65 ≤ c.toNat ∧ c.toNat ≤ 90) ∨ (97 ≤ c.toNat ∧ c.toNat ≤ 122) ∨ c.toNat = 95)) := rfl
  go_enter Try.func35, Try.ntmps35
  go_wp2
  all_goals
    go_ret
    exact ⟨oneB (by rw [hr.out, Bool.eq_iff_iff]; simp; omega), rfl⟩
theorem Digit_any (c : UInt8) (w : World) :
    Calls Try.prog 34 #[.int .u8 c.toNat] w fun e w' => e = .returned (.bool (isD c)) ∧ w = w' := by
  have hr : Hid (isD c = decide (48 ≤ c.toNat ∧ c.toNat ≤ 57)) := rfl
  go_enter Try.func34, Try.ntmps34
  go_wp2
  all_goals
    go_ret
    exact ⟨oneB (by rw [hr.out, Bool.eq_iff_iff]; simp; omega), rfl⟩

theorem numN_step {c : UInt8} {l : List UInt8} (h : isD c = true) : numN (c :: l) = 1 + numN l := by simp [numN, h]; omega
theorem numN_stop {c : UInt8} {l : List UInt8} (h : isD c = false) : numN (c :: l) = 0 := by simp [numN, h]
theorem number_any (s : ByteArray) (w : World) (hs : s.size ≤ 9223372036854775807) :
    Calls Try.prog 32 #[.string s] w fun e w' => e = .returned (.int .i64 (numN s.data.toList)) ∧ w = w' := by
  have hy : ∀ k (h : k < s.size), isD s[k] = true → numN (s.data.toList.drop k) = 1 + numN (s.data.toList.drop (k + 1)) := fun k h hd => by rw [drop_at s k h, numN_step hd]
  have hn : ∀ k (h : k < s.size), isD s[k] = false → numN (s.data.toList.drop k) = 0 := fun k h hd => by rw [drop_at s k h, numN_stop hd]
  have he : ∀ k, s.size ≤ k → numN (s.data.toList.drop k) = 0 := fun k h => by rw [drop_end s k h]; rfl
  have h0 : numN (s.data.toList.drop 0) = numN s.data.toList := rfl
  generalize numN s.data.toList = R at *
  obtain ⟨F, hF⟩ : ∃ F : Nat → Nat, ∀ k, numN (s.data.toList.drop k) = F k := ⟨_, fun _ => rfl⟩
  simp only [hF] at hy hn he h0
  clear hF
  have Hy := Lib.hid hy
  have Hn := Lib.hid hn
  have He := Lib.hid he
  have H0 := Lib.hid h0
  clear hy hn he h0
  go_enter Try.func32, Try.ntmps32
  go_wp2
  go_loop [3] (fun n => ∃ k : Nat, k ≤ s.size ∧ n = .int .i64 k ∧ Hid (k + F k = R)) (fun n => s.size - (intOf n).toNat)
  case atStart => exact ⟨0, by omega, rfl, by show _ = _; rw [H0.out]; omega⟩
  case round =>
    obtain ⟨k, hk, rfl, hR⟩ := hrel
    by_cases hlt : k < s.size
    · have c1 := fun (w : World) => digit_any s[k] w
      cases hd : isD s[k] with
      | true =>
        have hnew : Hid (k + 1 + F (k + 1) = R) := by have := Hy.out k hlt hd; have := hR.out; show _ = _; omega
        rw [hd] at c1
        clear hd hR
        go_wp2_with (go_at_call 38; ((with_reducible refine (c1 _).mono ?_); rintro e w' ⟨rfl, rfl⟩))
        go_round
        case rel => exact ⟨k + 1, by omega, by go_num, hnew⟩
        case measure => simp [intOf]; omega
      | false =>
        have hnew : Hid ((k : Int) = R) := by have := Hn.out k hlt hd; have := hR.out; show _ = _; omega
        rw [hd] at c1
        clear hd hR
        go_wp2_with (go_at_call 38; ((with_reducible refine (c1 _).mono ?_); rintro e w' ⟨rfl, rfl⟩))
        go_ret
        exact ⟨one hnew.out, rfl⟩
    · have hnew : Hid ((k : Int) = R) := by have := He.out k (by omega); have := hR.out; show _ = _; omega
      clear hR
      go_wp2
      go_ret
      exact ⟨one hnew.out, rfl⟩

/-- a scan over what makes up a name -/
def twN (l : List UInt8) : Nat := (l.takeWhile isN).length
theorem twN_step {c : UInt8} {l : List UInt8} (h : isN c = true) : twN (c :: l) = 1 + twN l := by simp [twN, h]; omega
theorem twN_stop {c : UInt8} {l : List UInt8} (h : isN c = false) : twN (c :: l) = 0 := by simp [twN, h]
theorem nameN_yes {c : UInt8} {l : List UInt8} (h : isL c = true) : nameN (c :: l) = 1 + twN l := by rw [nameN, if_pos h]; rfl
theorem nameN_no {c : UInt8} {l : List UInt8} (h : isL c = false) : nameN (c :: l) = 0 := by rw [nameN, if_neg (by simp [h])]
theorem isN_false {c : UInt8} (h : isN c = false) : isL c = false ∧ isD c = false ∧ c.toNat ≠ 39 := by
  simp only [isN, Bool.or_eq_false_iff, decide_eq_false_iff_not] at h; exact h

set_option maxHeartbeats 1000000 in
theorem name_any (s : ByteArray) (w : World) (hs : s.size ≤ 9223372036854775807) :
    Calls Try.prog 26 #[.string s] w fun e w' => e = .returned (.int .i64 (nameN s.data.toList)) ∧ w = w' := by
  by_cases hz : s.size = 0
  · have h1 : s.data.toList = [] := List.eq_nil_of_length_eq_zero (by rw [len_list]; exact hz)
    have hr : Hid ((0 : Int) = nameN s.data.toList) := by show _ = _; rw [h1]; rfl
    have h2 : s.toList = [] := by rw [ByteArray.toList_eq]; exact h1
    have h3 : s.toList.isEmpty = true := by rw [h2]; rfl
    clear h1 hz
    go_enter Try.func26, Try.ntmps26
    go_wp2
    go_ret
    exact ⟨one hr.out, rfl⟩
  · have hp : 0 < s.size := by omega
    have h1 : s.data.toList ≠ [] := fun e => by rw [← len_list, e] at hp; exact absurd hp (by simp)
    have h2 : ¬ s.toList = [] := by rw [ByteArray.toList_eq]; exact h1
    have h3 : s.toList.isEmpty = false := by simp [h2]
    have c0 := fun (w : World) => letter_any s[0] w
    have hd0 := drop_at s 0 hp
    rw [List.drop_zero, Nat.zero_add] at hd0
    clear hz h1
    cases hl : isL s[0] with
    | false =>
      have hr : Hid ((0 : Int) = nameN s.data.toList) := by show _ = _; rw [hd0, nameN_no hl]; rfl
      rw [hl] at c0
      clear hd0 hl
      go_enter Try.func26, Try.ntmps26
      go_wp2_with (go_at_call 37; ((with_reducible refine (c0 _).mono ?_); rintro e w' ⟨rfl, rfl⟩))
      go_ret
      exact ⟨one hr.out, rfl⟩
    | true =>
      have h0 : 1 + twN (s.data.toList.drop 1) = nameN s.data.toList := by conv => rhs; rw [hd0, nameN_yes hl]
      rw [hl] at c0
      clear hd0 hl
      have hy : ∀ k (h : k < s.size), isN s[k] = true → twN (s.data.toList.drop k) = 1 + twN (s.data.toList.drop (k + 1)) := fun k h hd => by rw [drop_at s k h, twN_step hd]
      have hn : ∀ k (h : k < s.size), isN s[k] = false → twN (s.data.toList.drop k) = 0 := fun k h hd => by rw [drop_at s k h, twN_stop hd]
      have he : ∀ k, s.size ≤ k → twN (s.data.toList.drop k) = 0 := fun k h => by rw [drop_end s k h]; rfl
      generalize nameN s.data.toList = R at *
      obtain ⟨F, hF⟩ : ∃ F : Nat → Nat, ∀ k, twN (s.data.toList.drop k) = F k := ⟨_, fun _ => rfl⟩
      simp only [hF] at hy hn he h0
      clear hF
      have Hy := Lib.hid hy
      have Hn := Lib.hid hn
      have He := Lib.hid he
      have H0 := Lib.hid h0
      clear hy hn he h0
      go_enter Try.func26, Try.ntmps26
      go_wp2_with (go_at_call 37; ((with_reducible refine (c0 _).mono ?_); rintro e w' ⟨rfl, rfl⟩))
      clear c0
      go_loop [3] (fun n => ∃ k : Nat, k ≤ s.size ∧ n = .int .i64 k ∧ Hid (k + F k = R)) (fun n => s.size - (intOf n).toNat)
      case atStart => exact ⟨1, by omega, rfl, H0.out⟩
      case round =>
        obtain ⟨k, hk, rfl, hR⟩ := hrel
        by_cases hlt : k < s.size
        · have c1 := fun (w : World) => letter_any s[k] w
          have c2 := fun (w : World) => digit_any s[k] w
          cases hd : isN s[k] with
          | true =>
            have hnew : Hid (k + 1 + F (k + 1) = R) := by have := Hy.out k hlt hd; have := hR.out; show _ = _; omega
            clear hR
            rcases isN_iff.1 hd with h | h | h
            · rw [h] at c1
              clear h hd
              go_wp2_with (first | (go_at_call 37; ((with_reducible refine (c1 _).mono ?_); rintro e w' ⟨rfl, rfl⟩)) | (go_at_call 38; ((with_reducible refine (c2 _).mono ?_); rintro e w' ⟨rfl, rfl⟩)))
              go_round
              case rel => exact ⟨k + 1, by omega, by go_num, hnew⟩
              case measure => simp [intOf]; omega
            · rw [h] at c2
              clear h hd
              generalize isL s[k] = B at *
              cases B
              all_goals
                go_wp2_with (first | (go_at_call 37; ((with_reducible refine (c1 _).mono ?_); rintro e w' ⟨rfl, rfl⟩)) | (go_at_call 38; ((with_reducible refine (c2 _).mono ?_); rintro e w' ⟨rfl, rfl⟩)))
                go_round
                case rel => exact ⟨k + 1, by omega, by go_num, hnew⟩
                case measure => simp [intOf]; omega
            · have h39 : ((s[k].toNat : Int) == 39) = true := beq_yes' (by omega)
              clear h hd
              generalize isL s[k] = B at *
              generalize isD s[k] = B2 at *
              cases B <;> cases B2
              all_goals
                go_wp2_with (first | (go_at_call 37; ((with_reducible refine (c1 _).mono ?_); rintro e w' ⟨rfl, rfl⟩)) | (go_at_call 38; ((with_reducible refine (c2 _).mono ?_); rintro e w' ⟨rfl, rfl⟩)))
                go_round
                case rel => exact ⟨k + 1, by omega, by go_num, hnew⟩
                case measure => simp [intOf]; omega
          | false =>
            have hnew : Hid ((k : Int) = R) := by have := Hn.out k hlt hd; have := hR.out; show _ = _; omega
            obtain ⟨h1, h2, h39⟩ := isN_false hd
            rw [h1] at c1
            rw [h2] at c2
            have h40 : ((s[k].toNat : Int) == 39) = false := beq_no' (by omega)
            clear hR hd h1 h2 h39
            go_wp2_with (first | (go_at_call 37; ((with_reducible refine (c1 _).mono ?_); rintro e w' ⟨rfl, rfl⟩)) | (go_at_call 38; ((with_reducible refine (c2 _).mono ?_); rintro e w' ⟨rfl, rfl⟩)))
            go_ret
            exact ⟨one hnew.out, rfl⟩
        · have hnew : Hid ((k : Int) = R) := by have := He.out k (by omega); have := hR.out; show _ = _; omega
          clear hR
          go_wp2
          go_ret
          exact ⟨one hnew.out, rfl⟩
end Go.Proofs.Ytanbcclconhheaa.Tok
