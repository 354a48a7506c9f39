/-
  What is proved: the line and the column of a place, in the program and in the document's answer; the document's mark.
-/
import Derived.Test.YthhdhhebelmimaaFltG
namespace Go.Proofs.Ythhdhhebelmimaa.Flt
open Go.RowKit
set_option linter.unusedVariables false
set_option linter.unusedSimpArgs false

theorem count_ln (s : ByteArray) (k : Nat) : Lib.countByte (s.extract 0 k).data.toList 10 = ln (s.data.toList.take k) := by
  rw [ext_list]; rfl
theorem two {a b c d : Int} (h : a = c) (k : b = d) : Ending.returned (.tuple #[Value.int .i64 a, .int .i64 b]) = .returned (.tuple #[.int .i64 c, .int .i64 d]) := by rw [h, k]
theorem where_any (s : ByteArray) (a : Int) (w : World) (hs : s.size ≤ 100000) :
    Calls Try.prog 6 #[.string s, .int .i64 a] w fun e w' => e = .returned (.tuple #[.int .i64 (ln (s.data.toList.take (clampN s.size a)) + 1 : Nat), .int .i64 (tl (s.data.toList.take (clampN s.size a)) + 1 : Nat)]) ∧ w' = w := by
  have c1 := fun (w : World) => clamp_any s a w (by omega)
  have hk := clampN_le s.size a
  generalize clampN s.size a = k at *
  have c2 := fun (w : World) => lineStart_any s k w (by omega) hk
  have c3 := fun (w : World) => Try.strings_Count_one (s.extract 0 k) 10 w
  simp only [count_ln] at c3
  have ht := tl_le (s.data.toList.take k)
  have hl := ln_le (s.data.toList.take k)
  have htk : (s.data.toList.take k).length = k := by rw [List.length_take, len_list]; omega
  rw [htk] at ht hl
  generalize tl (s.data.toList.take k) = t at *
  generalize ln (s.data.toList.take k) = n at *
  clear htk
  go_enter Try.func6, Try.ntmps6
  go_wp2_with (first
    | (go_at_call 13; ((with_reducible refine (c1 _).mono ?_); rintro e w1 ⟨rfl, rfl⟩))
    | (go_at_call 15; ((with_reducible refine (c2 _).mono ?_); rintro e w1 ⟨rfl, rfl⟩))
    | (go_at_call 14; ((with_reducible refine (c3 _).mono ?_); rintro e w1 ⟨rfl, rfl⟩)))
  go_ret2
  exact ⟨two (by omega) (by omega), rfl⟩

theorem refWhere_any (s : ByteArray) (a : Int) (w : World) (hs : s.size ≤ 100000) :
    Calls Try.prog 7 #[.string s, .int .i64 a] w fun e w' => e = .returned (.tuple #[.int .i64 (ln (s.data.toList.take (clampN s.size a)) + 1 : Nat), .int .i64 (tl (s.data.toList.take (clampN s.size a)) + 1 : Nat)]) ∧ w' = w := by
  have hsn : ∀ k (h : k < s.size), ln (s.data.toList.take (k + 1)) = (if s[k] = 10 then ln (s.data.toList.take k) + 1 else ln (s.data.toList.take k)) ∧ tl (s.data.toList.take (k + 1)) = (if s[k] = 10 then 0 else tl (s.data.toList.take k) + 1) := fun k h => by
    have e : s.data.toList.take (k + 1) = s.data.toList.take k ++ [s[k]] := by
      rw [List.take_succ_eq_append_getElem (by rw [len_list]; exact h)]; rfl
    rw [e]; exact ⟨ln_snoc _ _, tl_snoc _ _⟩
  have hln : ∀ k, ln (s.data.toList.take k) ≤ s.size := fun k => Nat.le_trans (ln_le _) (by rw [List.length_take, len_list]; omega)
  have htl : ∀ k, tl (s.data.toList.take k) ≤ s.size := fun k => Nat.le_trans (tl_le _) (by rw [List.length_take, len_list]; omega)
  have h0 : ln (s.data.toList.take 0) = 0 ∧ tl (s.data.toList.take 0) = 0 := ⟨rfl, rfl⟩
  obtain ⟨LN, hLN⟩ : ∃ F : Nat → Nat, ∀ k, ln (s.data.toList.take k) = F k := ⟨_, fun _ => rfl⟩
  obtain ⟨TL, hTL⟩ : ∃ F : Nat → Nat, ∀ k, tl (s.data.toList.take k) = F k := ⟨_, fun _ => rfl⟩
  simp only [hLN, hTL] at hsn hln htl h0 ⊢
  have HS := Lib.hid hsn
  have HL := Lib.hid hln
  have HT := Lib.hid htl
  have hC : ∀ k : Nat, k ≤ s.size → (k : Int) ≤ a ∨ k = 0 → ¬ (k < s.size ∧ (k : Int) < a) → clampN s.size a = k := fun k h1 h2 h3 => by
    unfold clampN
    split
    · omega
    · split <;> omega
  have HC : Hid (∀ k : Nat, k ≤ s.size → (k : Int) ≤ a ∨ k = 0 → ¬ (k < s.size ∧ (k : Int) < a) → clampN s.size a = k) := hC
  have H0 := Lib.hid h0
  obtain ⟨K0, hK0⟩ : ∃ K0, clampN s.size a = K0 := ⟨_, rfl⟩
  have HC : Hid (∀ k : Nat, k ≤ s.size → (k : Int) ≤ a ∨ k = 0 → ¬ (k < s.size ∧ (k : Int) < a) → K0 = k) := by rw [← hK0]; exact hC
  rw [hK0]
  clear hLN hTL hsn hln htl hC h0 hK0
  go_enter Try.func7, Try.ntmps7
  go_wp2
  go_loop [6, 7, 8] (fun x y i => ∃ k : Nat, k ≤ s.size ∧ Hid ((k : Int) ≤ a ∨ k = 0) ∧ x = .int .i64 (LN k + 1 : Nat) ∧ y = .int .i64 (TL k + 1 : Nat) ∧ i = .int .i64 k) (fun _ _ i => s.size - (intOf i).toNat)
  case atStart => exact ⟨0, by omega, Or.inr rfl, by rw [H0.out.1]; rfl, by rw [H0.out.2]; rfl, rfl⟩
  case round =>
    obtain ⟨k, hk, hka, rfl, rfl, rfl⟩ := hrel
    have l1 := HL.out k
    have t1 := HT.out k
    by_cases hlt : k < s.size ∧ (k : Int) < a
    · obtain ⟨hlt, hlt2⟩ := hlt
      obtain ⟨hl2, ht2⟩ := HS.out k hlt
      by_cases h10 : s[k] = 10
      · rw [if_pos h10] at hl2 ht2
        have h10n : s[k].toNat = 10 := by rw [h10]; rfl
        have HL2 := Lib.hid hl2
        have HT2 := Lib.hid ht2
        clear h10 hl2 ht2 hka
        go_wp2
        go_round
        case rel => exact ⟨k + 1, by omega, Or.inl (by omega), by rw [HL2.out]; go_num, by rw [HT2.out]; go_num, by go_num⟩
        case measure => simp [intOf]; omega
      · rw [if_neg h10] at hl2 ht2
        have h10n : ((s[k].toNat : Int) == 10) = false := by
          have : s[k].toNat ≠ 10 := fun e => h10 (UInt8.toNat_inj.1 e)
          simp; omega
        have HL2 := Lib.hid hl2
        have HT2 := Lib.hid ht2
        clear h10 hl2 ht2 hka
        go_wp2
        go_round
        case rel => exact ⟨k + 1, by omega, Or.inl (by omega), by rw [HL2.out], by rw [HT2.out]; go_num, by go_num⟩
        case measure => simp [intOf]; omega
    · have hc := HC.out k hk hka.out hlt
      have hc2 := Lib.hid hc
      clear hka HC hc
      by_cases h1 : k < s.size
      · have h2 : ¬ (k : Int) < a := fun h => hlt ⟨h1, h⟩
        clear hlt
        go_wp2
        go_ret2
        exact ⟨by rw [hc2.out]; rfl, rfl⟩
      · clear hlt
        go_wp2
        go_ret2
        exact ⟨by rw [hc2.out]; rfl, rfl⟩

theorem BA_app (a b : List UInt8) : BA a ++ BA b = BA (a ++ b) := BA_eq (by simp [BA])
theorem ext_one (s : ByteArray) (k : Nat) (h : k < s.size) : s.extract k (k + 1) = BA [s[k]] := by
  apply BA_eq
  rw [Lib.extract_data, show k + 1 - k = 1 by omega, List.drop_eq_getElem_cons (by rw [len_list]; exact h)]
  rfl
theorem refMark_end (s : List UInt8) (k : Nat) (hk : k ≤ s.length) :
    BA (lineB (ln (s.take k) + 1) 1 s) ++ ⟨#[10]⟩ ++ BA (List.replicate (tl (s.take k)) 32) ++ ⟨#[94]⟩ = BA (markL s k) := by
  rw [line_at s k hk]
  apply BA_eq
  simp [markL, BA]
def szV : Value → Nat
  | .string x => x.size
  | _ => 0
set_option maxHeartbeats 4000000 in
theorem refMark_any (s : ByteArray) (a : Int) (w : World) (hs : s.size ≤ 100000) :
    Calls Try.prog 9 #[.string s, .int .i64 a] w fun e w' => e = .returned (.string (BA (markL s.data.toList (clampN s.size a)))) ∧ w' = w := by
  have c1 := fun (w : World) => refWhere_any s a w hs
  have hk0 := clampN_le s.size a
  generalize clampN s.size a = K0 at *
  have hfin := refMark_end s.data.toList K0 (by rw [len_list]; exact hk0)
  rw [← hfin]
  have hL := ln_le (s.data.toList.take K0)
  have hT := tl_le (s.data.toList.take K0)
  have htk : (s.data.toList.take K0).length = K0 := by rw [List.length_take, len_list]; omega
  rw [htk] at hL hT
  generalize ln (s.data.toList.take K0) = L at *
  generalize tl (s.data.toList.take K0) = T at *
  clear hfin htk
  have hsn : ∀ k (h : k < s.size), lineB (L + 1) 1 (s.data.toList.take (k + 1)) = (if s[k] = 10 then lineB (L + 1) 1 (s.data.toList.take k) else if 1 + ln (s.data.toList.take k) = L + 1 then lineB (L + 1) 1 (s.data.toList.take k) ++ [s[k]] else lineB (L + 1) 1 (s.data.toList.take k)) ∧ ln (s.data.toList.take (k + 1)) = (if s[k] = 10 then ln (s.data.toList.take k) + 1 else ln (s.data.toList.take k)) := fun k h => by
    have e : s.data.toList.take (k + 1) = s.data.toList.take k ++ [s[k]] := by
      rw [List.take_succ_eq_append_getElem (by rw [len_list]; exact h)]; rfl
    rw [e]; exact ⟨lineB_snoc _ _ _ _, ln_snoc _ _⟩
  have hln : ∀ k, ln (s.data.toList.take k) ≤ s.size := fun k => Nat.le_trans (ln_le _) (by rw [List.length_take, len_list]; omega)
  have h0 : ln (s.data.toList.take 0) = 0 ∧ lineB (L + 1) 1 (s.data.toList.take 0) = [] := ⟨rfl, rfl⟩
  have hend : lineB (L + 1) 1 s.data.toList = lineB (L + 1) 1 (s.data.toList.take s.size) := by rw [← len_list, List.take_length]
  rw [hend]
  obtain ⟨LN, hLN⟩ : ∃ F : Nat → Nat, ∀ k, ln (s.data.toList.take k) = F k := ⟨_, fun _ => rfl⟩
  obtain ⟨LB, hLB⟩ : ∃ F : Nat → List UInt8, ∀ k, lineB (L + 1) 1 (s.data.toList.take k) = F k := ⟨_, fun _ => rfl⟩
  simp only [hLN, hLB] at hsn hln h0 ⊢
  have HS := Lib.hid hsn
  have HL := Lib.hid hln
  have H0 := Lib.hid h0
  have hone := fun k h => ext_one s k h
  have H1 := Lib.hid hone
  have hrep : ∀ n, BA (List.replicate n 32) ++ ⟨#[32]⟩ = BA (List.replicate (n + 1) 32) := fun n => by
    rw [List.replicate_succ']; exact BA_app _ [32]
  have HR := Lib.hid hrep
  clear hLN hLB hsn hln h0 hend hone hrep
  obtain ⟨Z, hZ⟩ : ∃ Z, BA (LB s.size) ++ (⟨#[10]⟩ : ByteArray) ++ BA (List.replicate T 32) ++ (⟨#[94]⟩ : ByteArray) = Z := ⟨_, rfl⟩
  have HZ := Lib.hid hZ
  rw [hZ]
  clear hZ
  go_enter Try.func9, Try.ntmps9
  go_wp2_with (go_at_call 7; ((with_reducible refine (c1 _).mono ?_); rintro e w1 ⟨rfl, rfl⟩))
  go_loop [7, 9, 10] (fun o n i => ∃ (x : ByteArray) (k : Nat), k ≤ s.size ∧ x.size ≤ k ∧ o = .string x ∧ n = .int .i64 (LN k + 1 : Nat) ∧ i = .int .i64 k ∧ Hid (x = BA (LB k))) (fun _ _ i => s.size - (intOf i).toNat)
  case atStart => exact ⟨⟨#[]⟩, 0, by omega, Nat.le_refl _, rfl, by rw [H0.out.1]; rfl, rfl, by rw [H0.out.2]; rfl⟩
  case round =>
    obtain ⟨x, k, hk, hx, rfl, rfl, rfl, hX⟩ := hrel
    have l1 := HL.out k
    by_cases hlt : k < s.size
    · obtain ⟨hb2, hl2⟩ := HS.out k hlt
      have he1 := H1.out k hlt
      by_cases h10 : s[k] = 10
      · rw [if_pos h10] at hb2 hl2
        have h10n : s[k].toNat = 10 := by rw [h10]; rfl
        have HB2 := Lib.hid hb2
        have HL2 := Lib.hid hl2
        clear h10 hb2 hl2 he1
        go_wp2
        go_round
        case rel => exact ⟨x, k + 1, by omega, by omega, rfl, by rw [HL2.out]; go_num, by go_num, by rw [HB2.out]; exact hX⟩
        case measure => simp [intOf]; omega
      · rw [if_neg h10] at hb2 hl2
        have h10n : ((s[k].toNat : Int) == 10) = false := by
          have : s[k].toNat ≠ 10 := fun e => h10 (UInt8.toNat_inj.1 e)
          simp; omega
        by_cases hL1 : LN k = L
        · rw [if_pos (by omega)] at hb2
          have hnew : Hid (x ++ s.extract k (k + 1) = BA (LB (k + 1))) := by
            show _ = _
            rw [hb2, he1, hX.out, BA_app]
          have hsz : (x ++ s.extract k (k + 1)).size = x.size + 1 := by rw [ByteArray.size_append, he1]; rfl
          have hLi : ((LN k + 1 : Nat) : Int) = ((L + 1 : Nat) : Int) := by omega
          have hLb : (((LN k + 1 : Nat) : Int) == ((L + 1 : Nat) : Int)) = true := by simp; omega
          have HL2 := Lib.hid hl2
          clear h10 hb2 hl2 he1 hX
          go_wp2
          go_round
          case rel => exact ⟨_, k + 1, by omega, by omega, rfl, by rw [HL2.out], by go_num, hnew⟩
          case measure => simp [intOf]; omega
        · rw [if_neg (by omega)] at hb2
          have hLi : ¬ ((LN k + 1 : Nat) : Int) = ((L + 1 : Nat) : Int) := by omega
          have hLb : (((LN k + 1 : Nat) : Int) == ((L + 1 : Nat) : Int)) = false := by simp; omega
          have HB2 := Lib.hid hb2
          have HL2 := Lib.hid hl2
          clear h10 hb2 hl2 he1
          go_wp2
          go_round
          case rel => exact ⟨x, k + 1, by omega, by omega, rfl, by rw [HL2.out], by go_num, by rw [HB2.out]; exact hX⟩
          case measure => simp [intOf]; omega
    · obtain rfl : k = s.size := by omega
      clear H0 HS H1 HL
      go_wp2
      go_loop [8, 11] (fun o i => ∃ (y : ByteArray) (k : Nat), k ≤ T ∧ y.size = k ∧ o = .string y ∧ i = .int .i64 (k + 1 : Nat) ∧ Hid (y = BA (List.replicate k 32))) (fun _ i => T + 1 - (intOf i).toNat)
      case atStart => exact ⟨⟨#[]⟩, 0, by omega, rfl, rfl, rfl, Lib.hid rfl⟩
      case round =>
        obtain ⟨y, k, hk, hy, rfl, rfl, hY⟩ := hrel
        by_cases hlt : k < T
        · have hnew : Hid (y ++ ⟨#[32]⟩ = BA (List.replicate (k + 1) 32)) := by
            show _ = _
            rw [← HR.out k, hY.out]
          have hsz : (y ++ (⟨#[32]⟩ : ByteArray)).size = k + 1 := by rw [ByteArray.size_append, hy]; rfl
          clear hY
          go_wp2
          go_round
          case rel => exact ⟨_, k + 1, by omega, hsz, rfl, by go_num, hnew⟩
          case measure => simp [intOf]; omega
        · obtain rfl : k = T := by omega
          have q1 : (x ++ (⟨#[10]⟩ : ByteArray)).size = x.size + 1 := by rw [ByteArray.size_append]; rfl
          have q2 : (x ++ (⟨#[10]⟩ : ByteArray) ++ y).size = x.size + 1 + y.size := by rw [ByteArray.size_append, q1]
          have HE : Hid (x ++ (⟨#[10]⟩ : ByteArray) ++ y ++ (⟨#[94]⟩ : ByteArray) = Z) := by
            show _ = _
            rw [← HZ.out, hX.out, hY.out]
          clear HZ hX hY HR
          go_wp2
          go_ret
          exact ⟨by rw [HE.out]; rfl, rfl⟩
end Go.Proofs.Ythhdhhebelmimaa.Flt
