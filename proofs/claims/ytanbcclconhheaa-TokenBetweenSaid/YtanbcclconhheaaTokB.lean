/-
  What is proved: what the blanks of a text are, and which texts are names, by package token and by the document's answers.
-/
import Derived.Test.YtanbcclconhheaaTokA
namespace Go.Proofs.Ytanbcclconhheaa.Tok
open Go.RowKit
set_option linter.unusedVariables false
set_option linter.unusedSimpArgs false

theorem index_line (l : List UInt8) : (lineN l < l.length → Lib.indexByte l 10 = lineN l) ∧ (lineN l = l.length → Lib.indexByte l 10 = -1) := by
  induction l with
  | nil => exact ⟨fun h => absurd h (by simp), fun _ => rfl⟩
  | cons c l ih =>
    have hle := lineN_le l
    by_cases h : c.toNat = 10
    · have hc : c = 10 := UInt8.toNat_inj.1 h
      refine ⟨fun _ => ?_, fun hh => ?_⟩
      · rw [lineN, if_pos h, hc]; simp [Lib.indexByte]
      · rw [lineN, if_pos h] at hh; simp at hh
    · have hc : ¬ (c == 10) = true := by simp; intro e; rw [e] at h; exact h rfl
      rw [lineN, if_neg h, Lib.indexByte, if_neg hc]
      refine ⟨fun hh => ?_, fun hh => ?_⟩
      · have h1 := ih.1 (by simp at hh; omega)
        rw [h1, if_neg (by simp)]; omega
      · have h1 := ih.2 (by simp at hh; omega)
        rw [h1]; rfl
theorem line_any (s : ByteArray) (w : World) (hs : s.size ≤ 9223372036854775807) :
    Calls Try.prog 31 #[.string s] w fun e w' => e = .returned (.int .i64 (lineN s.data.toList)) ∧ w = w' := by
  have c1 : ∀ w : World, Calls Try.prog 42 #[.string s, .int .u8 10] w fun e w' => e = .returned (.int .i64 (Lib.indexByte s.data.toList 10)) ∧ w = w' :=
    fun w => (Try.strings_IndexByte s 10 w).mono fun e w' ⟨h, hw⟩ => ⟨h, hw.symm⟩
  obtain ⟨h1, h2⟩ := index_line s.data.toList
  have hle := lineN_le s.data.toList
  rw [len_list] at h1 h2 hle
  generalize lineN s.data.toList = R at *
  by_cases hlt : R < s.size
  · rw [h1 hlt] at c1
    clear h1 h2 hlt
    go_enter Try.func31, Try.ntmps31
    go_wp2_with (go_at_call 42; ((with_reducible refine (c1 _).mono ?_); rintro e w' ⟨rfl, rfl⟩))
    go_ret
    exact ⟨rfl, rfl⟩
  · have he : R = s.size := by omega
    rw [h2 he] at c1
    subst he
    clear h1 h2 hlt hle
    go_enter Try.func31, Try.ntmps31
    go_wp2_with (go_at_call 42; ((with_reducible refine (c1 _).mono ?_); rintro e w' ⟨rfl, rfl⟩))
    go_ret
    exact ⟨rfl, rfl⟩

theorem extract_list (s : ByteArray) (k : Nat) (hk : k ≤ s.size) : (s.extract k s.size).data.toList = s.data.toList.drop k := by
  rw [ByteArray.data_extract, Array.toList_extract]
  show (s.data.toList.drop k).take _ = _
  exact List.take_of_length_le (by rw [List.length_drop, len_list]; exact Nat.le_refl _)
theorem extract_size (s : ByteArray) (k : Nat) (hk : k ≤ s.size) : (s.extract k s.size).size = s.size - k := by
  rw [ByteArray.size_extract, Nat.min_self]

set_option maxHeartbeats 1000000 in
theorem blanks_any (s : ByteArray) (w : World) (hs : s.size ≤ 9223372036854775807) :
    Calls Try.prog 23 #[.string s] w fun e w' => e = .returned (.int .i64 (bl false s.data.toList)) ∧ w = w' := by
  have hy : ∀ k (h : k < s.size), s[k].toNat = 9 ∨ s[k].toNat = 10 ∨ s[k].toNat = 13 ∨ s[k].toNat = 32 → bl false (s.data.toList.drop k) = 1 + bl false (s.data.toList.drop (k + 1)) := fun k h hd => by
    rw [drop_at s k h]
    by_cases h10 : s[k].toNat = 10
    · exact bl_10 h10
    · exact bl_yes (by omega)
  have hh : ∀ k (h : k < s.size), s[k].toNat = 35 → bl false (s.data.toList.drop k) = lineN (s.data.toList.drop k) + bl false (s.data.toList.drop (k + lineN (s.data.toList.drop k))) ∧ 0 < lineN (s.data.toList.drop k) ∧ lineN (s.data.toList.drop k) ≤ s.size - k := fun k h hd => by
    have h3 := lineN_le (s.data.toList.drop k)
    rw [List.length_drop, len_list] at h3
    have h4 := List.drop_drop (i := lineN (s.data.toList.drop k)) (j := k) (l := s.data.toList)
    have h2 := @bl_hash s[k] (s.data.toList.drop (k + 1)) hd
    rw [← drop_at s k h] at h2
    rw [h4] at h2
    exact ⟨h2.1, h2.2, h3⟩
  have hn : ∀ k (h : k < s.size), s[k].toNat ≠ 9 → s[k].toNat ≠ 10 → s[k].toNat ≠ 13 → s[k].toNat ≠ 32 → s[k].toNat ≠ 35 → bl false (s.data.toList.drop k) = 0 := fun k h h1 h2 h3 h4 h5 => by
    rw [drop_at s k h]; exact bl_no h2 h5 h1 h3 h4
  have he : ∀ k, s.size ≤ k → bl false (s.data.toList.drop k) = 0 := fun k h => by rw [drop_end s k h]; rfl
  have hc : ∀ k, k ≤ s.size → ∀ w : World, Calls Try.prog 31 #[.string (s.extract k s.size)] w fun e w' => e = .returned (.int .i64 (lineN (s.data.toList.drop k))) ∧ w = w' := fun k hk w => by
    have := line_any (s.extract k s.size) w (by rw [extract_size s k hk]; omega)
    rw [extract_list s k hk] at this
    exact this
  have h0 : bl false (s.data.toList.drop 0) = bl false s.data.toList := rfl
  have hc0 : ∀ w : World, Calls Try.prog 31 #[.string s] w fun e w' => e = .returned (.int .i64 (lineN (s.data.toList.drop 0))) ∧ w = w' := fun w => by
    have := hc 0 (by omega) w
    rw [ByteArray.extract_zero_size] at this
    exact this
  generalize bl false s.data.toList = R at *
  obtain ⟨F, hF⟩ : ∃ F : Nat → Nat, ∀ k, bl false (s.data.toList.drop k) = F k := ⟨_, fun _ => rfl⟩
  obtain ⟨L, hL⟩ : ∃ L : Nat → Nat, ∀ k, lineN (s.data.toList.drop k) = L k := ⟨_, fun _ => rfl⟩
  simp only [hF, hL] at hy hh hn he h0 hc hc0
  clear hF hL
  have Hy := Lib.hid hy
  have Hh := Lib.hid hh
  have Hn := Lib.hid hn
  have He := Lib.hid he
  have H0 := Lib.hid h0
  clear hy hh hn he h0
  go_enter Try.func23, Try.ntmps23
  go_wp2
  go_loop [3] (fun n => ∃ k : Nat, k ≤ s.size ∧ n = .int .i64 k ∧ Hid (k + F k = R)) (fun n => s.size - (intOf n).toNat)
  case atStart => exact ⟨0, by omega, rfl, by show _ = _; rw [H0.out]; omega⟩
  case round =>
    obtain ⟨k, hk, rfl, hR⟩ := hrel
    by_cases hlt : k < s.size
    · have c1 := hc k hk
      by_cases hb : s[k].toNat = 9 ∨ s[k].toNat = 10 ∨ s[k].toNat = 13 ∨ s[k].toNat = 32
      · have hnew : Hid (k + 1 + F (k + 1) = R) := by have := Hy.out k hlt hb; have := hR.out; show _ = _; omega
        clear hR hc hc0 c1
        rcases hb with hb | hb | hb | hb
        all_goals
          go_wp2
          go_round
          case rel => exact ⟨k + 1, by omega, by go_num, hnew⟩
          case measure => simp [intOf]; omega
      · by_cases h35 : s[k].toNat = 35
        · obtain ⟨e1, e2, e3⟩ := Hh.out k hlt h35
          have hnew : Hid (k + L k + F (k + L k) = R) := by have := hR.out; show _ = _; omega
          clear hR hc e1 hb
          have e4 : (L k : Int) ≤ (s.size : Int) - k := by omega
          cases k with
          | zero =>
            go_wp2_with (go_at_call 31; ((with_reducible refine (hc0 _).mono ?_); rintro e w' ⟨rfl, rfl⟩))
            go_round
            case rel => exact ⟨0 + L 0, by omega, by go_num, hnew⟩
            case measure => simp [intOf]; omega
          | succ j =>
            go_wp2_with (go_at_call 31; ((with_reducible refine (c1 _).mono ?_); rintro e w' ⟨rfl, rfl⟩))
            go_round
            case rel => exact ⟨(j + 1) + L (j + 1), by omega, by go_num, hnew⟩
            case measure => simp [intOf]; omega
        · have hnew : Hid ((k : Int) = R) := by have := Hn.out k hlt (by omega) (by omega) (by omega) (by omega) h35; have := hR.out; show _ = _; omega
          have n1 : ((s[k].toNat : Int) == 9) = false := beq_no' (by omega)
          have n2 : ((s[k].toNat : Int) == 10) = false := beq_no' (by omega)
          have n3 : ((s[k].toNat : Int) == 13) = false := beq_no' (by omega)
          have n4 : ((s[k].toNat : Int) == 32) = false := beq_no' (by omega)
          have n5 : ((s[k].toNat : Int) == 35) = false := beq_no' (by omega)
          clear hR hc c1 hb h35 hc0
          go_wp2
          go_ret
          exact ⟨one hnew.out, rfl⟩
    · have hnew : Hid ((k : Int) = R) := by have := He.out k (by omega); have := hR.out; show _ = _; omega
      clear hR hc hc0
      go_wp2
      go_ret
      exact ⟨one hnew.out, rfl⟩

set_option maxHeartbeats 1000000 in
theorem Blank_any (s : ByteArray) (a : Nat) (w : World) (hs : s.size ≤ 9223372036854775807) (ha : a ≤ s.size) :
    Calls Try.prog 22 #[.string s, .int .i64 a] w fun e w' => e = .returned (.int .i64 (a + bl false (s.data.toList.drop a) : Nat)) ∧ w = w' := by
  have h10 : ∀ b k (h : k < s.size), s[k].toNat = 10 → bl b (s.data.toList.drop k) = 1 + bl false (s.data.toList.drop (k + 1)) := fun b k h hd => by
    rw [drop_at s k h]; exact bl_10 hd
  have h35 : ∀ b k (h : k < s.size), s[k].toNat = 35 → bl b (s.data.toList.drop k) = 1 + bl true (s.data.toList.drop (k + 1)) := fun b k h hd => by
    rw [drop_at s k h]; exact bl_35 hd
  have ht : ∀ k (h : k < s.size), s[k].toNat ≠ 10 → bl true (s.data.toList.drop k) = 1 + bl true (s.data.toList.drop (k + 1)) := fun k h hd => by
    rw [drop_at s k h]; exact bl_true hd
  have hy : ∀ k (h : k < s.size), s[k].toNat = 9 ∨ s[k].toNat = 13 ∨ s[k].toNat = 32 → bl false (s.data.toList.drop k) = 1 + bl false (s.data.toList.drop (k + 1)) := fun k h hd => by
    rw [drop_at s k h]; exact bl_yes hd
  have hn : ∀ k (h : k < s.size), s[k].toNat ≠ 9 → s[k].toNat ≠ 10 → s[k].toNat ≠ 13 → s[k].toNat ≠ 32 → s[k].toNat ≠ 35 → bl false (s.data.toList.drop k) = 0 := fun k h h1 h2 h3 h4 h5 => by
    rw [drop_at s k h]; exact bl_no h2 h5 h1 h3 h4
  have he : ∀ b k, s.size ≤ k → bl b (s.data.toList.drop k) = 0 := fun b k h => by rw [drop_end s k h, bl_nil]
  obtain ⟨F, hF⟩ : ∃ F : Bool → Nat → Nat, ∀ b k, bl b (s.data.toList.drop k) = F b k := ⟨_, fun _ _ => rfl⟩
  simp only [hF] at h10 h35 ht hy hn he ⊢
  clear hF
  obtain ⟨R, hR⟩ : ∃ R : Nat, a + F false a = R := ⟨_, rfl⟩
  rw [hR]
  have H10 := Lib.hid h10
  have H35 := Lib.hid h35
  have Ht := Lib.hid ht
  have Hy := Lib.hid hy
  have Hn := Lib.hid hn
  have He := Lib.hid he
  have HR := Lib.hid hR
  clear h10 h35 ht hy hn he hR
  go_enter Try.func22, Try.ntmps22
  go_wp2
  go_loop [1, 5] (fun n m => ∃ (k : Nat) (b : Bool), k ≤ s.size ∧ n = .int .i64 k ∧ m = .bool b ∧ Hid (k + F b k = R)) (fun n _ => s.size - (intOf n).toNat)
  case atStart => exact ⟨a, false, ha, rfl, rfl, HR⟩
  case round =>
    obtain ⟨k, b, hk, rfl, rfl, hR⟩ := hrel
    by_cases hlt : k < s.size
    · by_cases c10 : s[k].toNat = 10
      · have hnew : Hid (k + 1 + F false (k + 1) = R) := by have := H10.out b k hlt c10; have := hR.out; show _ = _; omega
        have n1 : ((s[k].toNat : Int) == 10) = true := beq_yes' (by omega)
        have n2 : ((s[k].toNat : Int) == 35) = false := beq_no' (by omega)
        have n3 : ((s[k].toNat : Int) != 9) = true := by simp; omega
        have n4 : ((s[k].toNat : Int) != 10) = false := by simp; omega
        clear hR c10
        go_wp2
        go_round
        case rel => exact ⟨k + 1, false, by omega, by go_num, rfl, hnew⟩
        case measure => simp [intOf]; omega
      · by_cases c35 : s[k].toNat = 35
        · have hnew : Hid (k + 1 + F true (k + 1) = R) := by have := H35.out b k hlt c35; have := hR.out; show _ = _; omega
          have n1 : ((s[k].toNat : Int) == 10) = false := beq_no' (by omega)
          have n2 : ((s[k].toNat : Int) == 35) = true := beq_yes' (by omega)
          clear hR c10 c35
          go_wp2
          go_round
          case rel => exact ⟨k + 1, true, by omega, by go_num, rfl, hnew⟩
          case measure => simp [intOf]; omega
        · have n1 : ((s[k].toNat : Int) == 10) = false := beq_no' (by omega)
          have n2 : ((s[k].toNat : Int) == 35) = false := beq_no' (by omega)
          have n5 : ((s[k].toNat : Int) != 10) = true := by simp; omega
          cases b with
          | true =>
            have hnew : Hid (k + 1 + F true (k + 1) = R) := by have := Ht.out k hlt c10; have := hR.out; show _ = _; omega
            clear hR c10 c35
            go_wp2
            go_round
            case rel => exact ⟨k + 1, true, by omega, by go_num, rfl, hnew⟩
            case measure => simp [intOf]; omega
          | false =>
            by_cases hb : s[k].toNat = 9 ∨ s[k].toNat = 13 ∨ s[k].toNat = 32
            · have hnew : Hid (k + 1 + F false (k + 1) = R) := by have := Hy.out k hlt hb; have := hR.out; show _ = _; omega
              clear hR c10 c35
              rcases hb with hb | hb | hb
              · have n3 : ((s[k].toNat : Int) != 9) = false := by simp; omega
                clear hb
                go_wp2
                go_round
                case rel => exact ⟨k + 1, false, by omega, by go_num, rfl, hnew⟩
                case measure => simp [intOf]; omega
              · have n3 : ((s[k].toNat : Int) != 9) = true := by simp; omega
                have n4 : ((s[k].toNat : Int) != 13) = false := by simp; omega
                clear hb
                go_wp2
                go_round
                case rel => exact ⟨k + 1, false, by omega, by go_num, rfl, hnew⟩
                case measure => simp [intOf]; omega
              · have n3 : ((s[k].toNat : Int) != 9) = true := by simp; omega
                have n4 : ((s[k].toNat : Int) != 13) = true := by simp; omega
                have n6 : ((s[k].toNat : Int) != 32) = false := by simp; omega
                clear hb
                go_wp2
                go_round
                case rel => exact ⟨k + 1, false, by omega, by go_num, rfl, hnew⟩
                case measure => simp [intOf]; omega
            · have hnew : Hid (k = R) := by have := Hn.out k hlt (by omega) (by omega) (by omega) (by omega) c35; have := hR.out; show _ = _; omega
              have n3 : ((s[k].toNat : Int) != 9) = true := by simp; omega
              have n4 : ((s[k].toNat : Int) != 13) = true := by simp; omega
              have n6 : ((s[k].toNat : Int) != 32) = true := by simp; omega
              clear hR c10 c35 hb
              go_wp2
              go_ret
              exact ⟨one (by rw [hnew.out]), rfl⟩
    · have hnew : Hid (k = R) := by have := He.out b k (by omega); have := hR.out; show _ = _; omega
      clear hR
      go_wp2
      go_ret
      exact ⟨one (by rw [hnew.out]), rfl⟩

/-- may the byte stand at the place: the first of a name, or a later one? -/
def okAt (first : Bool) (c : UInt8) : Bool := if first then isL c else isN c
def nmF : Bool → List UInt8 → Bool
  | _, [] => true
  | f, c :: l => okAt f c && nmF false l
def nameB (l : List UInt8) : Bool := nmF true l && (decide (0 < l.length) && decide (l.length ≤ 32))
theorem nmF_false (l : List UInt8) : nmF false l = decide (twN l = l.length) := by
  induction l with
  | nil => rfl
  | cons c l ih =>
    rw [nmF, ih, okAt, if_neg (by simp)]
    have := tw_le isN l
    cases h : isN c with
    | true => rw [twN_step h, Bool.true_and, List.length_cons]; congr 1; simp; omega
    | false => rw [twN_stop h]; simp
theorem nameB_of (l : List UInt8) : nameB l = (decide (nameN l = l.length) && (decide (0 < nameN l) && decide (nameN l ≤ 32))) := by
  cases l with
  | nil => rfl
  | cons c l =>
    unfold nameB
    rw [nmF, nmF_false, okAt, if_pos rfl]
    have := tw_le isN l
    cases h : isL c with
    | true =>
      rw [nameN_yes h, Bool.true_and, List.length_cons, Bool.eq_iff_iff]
      simp only [Bool.and_eq_true, decide_eq_true_eq]; omega
    | false => rw [nameN_no h]; simp
end Go.Proofs.Ytanbcclconhheaa.Tok
