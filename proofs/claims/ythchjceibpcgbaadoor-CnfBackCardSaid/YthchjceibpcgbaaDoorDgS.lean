/-
  What is proved: what the document's own answers for package digit return (2).
-/
import Derived.Test.YthchjceibpcgbaaDoorDgR
import Derived.Deep.Cut
import Derived.Deep.CutRange
namespace Go.Proofs.YthchjceibpcgbaaDoor.Dig
open Go.RowKit
set_option linter.unusedVariables false
set_option linter.unusedSimpArgs false

theorem digits_any (u : Nat) (hu : u < 18446744073709551616) : ∀ (w : World),
    Calls Tryd.prog 45 #[.int .u64 u] w fun e w' => e = .returned (.string (BA (Lib.decDigits u))) ∧ Below w.heap.size w w' := by
  induction u using Nat.strongRecOn with
  | _ u ih =>
    intro w
    by_cases h : u < 10
    · exact digits_small u h w
    · exact digits_big u h hu w (ih (u / 10) (by omega) (by omega))
theorem digits_at (m : Int) (u : Nat) (h : m = (u : Int)) (hu : u < 18446744073709551616) (w : World) :
    Calls Tryd.prog 45 #[.int .u64 m] w fun e w' => e = .returned (.string (BA (Lib.decDigits u))) ∧ Below w.heap.size w w' := by
  subst h; exact digits_any u hu w
theorem bdigits_any (n : Int) (n0 : -9223372036854775808 ≤ n) (n1 : n ≤ 9223372036854775807) (w : World) :
    Calls Tryd.prog 34 #[.int .i64 n] w fun e w' => e = .returned (.string (BA (Lib.itoa n))) ∧ Below w.heap.size w w' := by
  by_cases h : n < 0
  · have c1 := digits_at (-(n + 1) + 1) n.natAbs (by omega) (by omega)
    have hl : (BA (Lib.decDigits n.natAbs)).size ≤ 19 := by rw [BA_size]; exact nDig_le _ (by omega)
    have hr : Hid ((⟨#[45]⟩ : ByteArray) ++ BA (Lib.decDigits n.natAbs) = BA (Lib.itoa n)) := by
      show _ = _
      rw [BA_app, itoa_neg h]; rfl
    generalize BA (Lib.decDigits n.natAbs) = t at *
    generalize BA (Lib.itoa n) = x at *
    go_enter Tryd.func34, Tryd.ntmps34
    go_wp2_with (go_at_call 45; ((with_reducible refine (c1 _).mono ?_); rintro e w2 ⟨rfl, hb⟩))
    go_ret
    exact ⟨retS hr.out, hb⟩
  · have c1 := digits_at n n.toNat (by omega) (by omega)
    rw [itoa_pos (by omega)]
    have h0 : 0 ≤ n := by omega
    clear h
    generalize BA (Lib.decDigits n.toNat) = t at *
    go_enter Tryd.func34, Tryd.ntmps34
    go_wp2_with (go_at_call 45; ((with_reducible refine (c1 _).mono ?_); rintro e w2 ⟨rfl, hb⟩))
    go_ret
    exact ⟨rfl, hb⟩
theorem rtext_any (n : Int) (n0 : -9223372036854775808 ≤ n) (n1 : n ≤ 9223372036854775807) (w : World) :
    Calls Tryd.prog 20 #[.int .i64 n] w fun e w' => e = .returned (.string (BA (Lib.itoa n))) ∧ Below w.heap.size w w' := by
  have c1 := bdigits_any n n0 n1
  go_enter Tryd.func20, Tryd.ntmps20
  go_wp2_with (go_at_call 34; ((with_reducible refine (c1 _).mono ?_); rintro e w2 ⟨rfl, hb⟩))
  go_ret
  exact ⟨rfl, hb⟩
theorem less_any (a b : ByteArray) (w : World) (ha : a.size ≤ 9223372036854775807) (hb : b.size ≤ 9223372036854775807) :
    Calls Tryd.prog 60 #[.string a, .string b] w fun e w' => e = .returned (.bool (lessB a.data.toList b.data.toList)) ∧ w = w' := by
  unfold lessB
  rw [len_list, len_list]
  by_cases h : a.size = b.size
  · rw [if_pos h, ← ByteArray.toList_eq, ← ByteArray.toList_eq]
    have h1 : ((a.size : Int) != (b.size : Int)) = false := by simp [h]
    have h2 : (a.size != b.size) = false := by simp [h]
    clear h
    go_enter Tryd.func60, Tryd.ntmps60
    go_wp2
    go_ret
    exact ⟨rfl, rfl⟩
  · rw [if_neg h]
    have h1 : ((a.size : Int) != (b.size : Int)) = true := by simp; omega
    have h2 : (a.size != b.size) = true := by simp [h]
    have h4 : decide ((a.size : Int) < (b.size : Int)) = decide (a.size < b.size) := by apply decide_eq_decide.2; omega
    clear h
    go_enter Tryd.func60, Tryd.ntmps60
    go_wp2
    go_ret
    exact ⟨rfl, rfl⟩
theorem plain_not (s : ByteArray) (k : Nat) (h : k < s.size) (hD : isD s[k] = false) : plainB s.data.toList = false := by
  apply plain_no1
  rw [List.all_eq_false]
  exact ⟨s[k], by rw [← at_list s k h]; exact List.getElem_mem _, by simp [hD]⟩
theorem rdigits_any (s : ByteArray) (w : World) (hs : s.size ≤ 9223372036854775807) :
    Calls Tryd.prog 59 #[.string s] w fun e w' => e = .returned (.bool (plainB s.data.toList)) ∧ w = w' := by
  have H1 := Lib.hid (fun k h => plain_not s k h)
  have hfin : s.data.toList.all isD = true → (s.size = 0 ∧ plainB s.data.toList = false) ∨ (∃ h : 0 < s.size, s[0].toNat ≠ 48 ∧ plainB s.data.toList = true) ∨ (∃ h : 0 < s.size, s[0].toNat = 48 ∧ s.toList = [48] ∧ plainB s.data.toList = true) ∨ (∃ h : 0 < s.size, s[0].toNat = 48 ∧ s.toList ≠ [48] ∧ plainB s.data.toList = false) := by
    intro ha
    by_cases h0 : s.size = 0
    · refine Or.inl ⟨h0, ?_⟩
      have : s.data.toList = [] := List.length_eq_zero_iff.1 (by rw [len_list]; exact h0)
      rw [this]; rfl
    · have hp : 0 < s.size := by omega
      have hh := head_at s hp
      have hne : s.data.toList ≠ [] := by intro e; rw [e] at hh; simp at hh
      by_cases h48 : s[0].toNat = 48
      · have hc : s[0] = 48 := UInt8.toNat_inj.1 h48
        by_cases h3 : s.toList = [48]
        · refine Or.inr (Or.inr (Or.inl ⟨hp, h48, h3, ?_⟩))
          rw [ByteArray.toList_eq] at h3
          rw [h3]; rfl
        · refine Or.inr (Or.inr (Or.inr ⟨hp, h48, h3, ?_⟩))
          rw [ByteArray.toList_eq] at h3
          apply plain_no2 (by rw [hh, hc])
          intro e
          obtain ⟨c, hc2⟩ := List.length_eq_one_iff.1 e
          rw [hc2] at hh h3
          simp at hh
          exact h3 (by rw [hh, hc])
      · exact Or.inr (Or.inl ⟨hp, h48, plain_of hne ha (Or.inl (by rw [hh]; intro e; simp at e; exact h48 (by rw [e]; rfl)))⟩)
  have HF := Lib.hid hfin
  have hts := fun k h => take_snoc s k h
  have HT := Lib.hid hts
  have hend : s.data.toList.take s.size = s.data.toList := by rw [← len_list]; exact List.take_length
  have HE := Lib.hid hend
  clear hfin hts hend
  generalize plainB s.data.toList = x at *
  generalize s.data.toList = L at *
  go_enter Tryd.func59, Tryd.ntmps59
  go_wp2
  go_loop [3] (fun i => ∃ k : Nat, k ≤ s.size ∧ i = .int .i64 k ∧ Hid ((L.take k).all isD = true)) (fun n => s.size - (intOf n).toNat)
  case atStart => exact ⟨0, by omega, rfl, rfl⟩
  case round =>
    obtain ⟨k, hk, rfl, hd⟩ := hrel
    by_cases hlt : k < s.size
    · cases hD : isD s[k] with
      | true =>
        have hall : Hid ((L.take (k + 1)).all isD = true) := by
          show _ = _
          rw [HT.out k hlt, List.all_append, hd.out, List.all_cons, hD]; rfl
        obtain ⟨d0, d1⟩ := isD_iff.1 hD
        have d2 : (48 : Int) ≤ (s[k].toNat : Int) := by omega
        have d3 : (s[k].toNat : Int) ≤ 57 := by omega
        clear hD hd
        go_wp2
        go_round
        case rel => exact ⟨k + 1, by omega, by go_num, hall⟩
        case measure => simp [intOf]; omega
      | false =>
        obtain rfl := H1.out k hlt hD
        have hn : s[k].toNat < 48 ∨ 57 < s[k].toNat := by
          rcases Nat.lt_or_ge s[k].toNat 48 with h | h
          · exact Or.inl h
          · rcases Nat.lt_or_ge 57 s[k].toNat with h2 | h2
            · exact Or.inr h2
            · have := isD_iff.2 (And.intro h h2)
              rw [hD] at this
              cases this
        clear hD hd
        rcases hn with hn | hn
        · have d2 : (s[k].toNat : Int) < 48 := by omega
          go_wp2
          go_ret
          exact ⟨rfl, rfl⟩
        · have d2 : 57 < (s[k].toNat : Int) := by omega
          go_wp2
          go_ret
          exact ⟨rfl, rfl⟩
    · have hkk : k = s.size := by omega
      subst hkk
      rcases HF.out (by have := hd.out; rwa [HE.out] at this) with ⟨h0, rfl⟩ | ⟨h0, h1, rfl⟩ | ⟨h0, h1, h2, rfl⟩ | ⟨h0, h1, h2, rfl⟩
      · have h3 : ¬ (0 < s.size) := by omega
        have h4 : decide ((s.size : Int) > 0) = false := decide_eq_false (by omega)
        clear hd hlt h0
        go_wp2
        go_ret
        exact ⟨rfl, rfl⟩
      · have h3 : ((s[0].toNat : Int) != 48) = true := by simp; omega
        clear hd hlt h1
        go_wp2
        go_ret
        exact ⟨rfl, rfl⟩
      · have h3 : ((s[0].toNat : Int) != 48) = false := by simp; omega
        clear hd hlt h1
        go_wp2
        go_ret
        exact ⟨rfl, rfl⟩
      · have h3 : ((s[0].toNat : Int) != 48) = false := by simp; omega
        have h4 : (s.toList == [48]) = false := by simp [h2]
        have h5 : (s.toList = [48]) = False := by simp [h2]
        clear hd hlt h1 h2
        go_wp2
        go_ret
        exact ⟨rfl, rfl⟩
end Go.Proofs.YthchjceibpcgbaaDoor.Dig
