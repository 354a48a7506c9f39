/-
  What is proved: the law on a list filled one by one, walked.
-/
import Derived.Test.YtfamlimnanehnaaSrtF
namespace Go.Proofs.Ytfamlimnanehnaa.Srt
open Go.RowKit L
set_option linter.unusedVariables false
set_option linter.unusedSimpArgs false

theorem put_new (k : Nat) (hk : k < 64) (A : Option Addr) (d : Nat) (w : World) (h : SlS w A k d (NM k)) :
    Calls Try.prog 12 #[.slice A k d, .string (BA (nmC k))] w fun e w' => ∃ A' d', e = .returned (.tuple #[.slice A' (k + 1) d', .int .i64 0]) ∧ OwnS w' w.heap.size (.slice A' (k + 1) d') (NM (k + 1)) ∧ Below w.heap.size w w' := by
  have hE : putE (NM k) (BA (nmC k)) = 0 := by rw [nm_put (Nat.le_refl _) (by omega), if_neg (by omega)]
  have hs := nm_size k (by omega)
  refine (Put_any A k d (NM k) (BA (nmC k)) w h (by omega) (by rw [BA_size]; omega)).mono fun e w' ⟨v, he, ho, hb⟩ => ?_
  have hX : putX (NM k) (BA (nmC k)) = NM (k + 1) := by unfold putX; rw [if_pos hE, NM_succ]
  rw [hX] at ho
  obtain ⟨A', d', rfl, _⟩ := ho.slS
  rw [NM_len] at ho he
  exact ⟨A', d', by rw [he, hE], ho, hb⟩
theorem put_full (k : Nat) (h64 : 64 ≤ k) (hk : k < 80) (A : Option Addr) (d : Nat) (w : World) (h : SlS w A 64 d (NM 64)) :
    Calls Try.prog 12 #[.slice A 64 d, .string (BA (nmC k))] w fun e w' => ∃ v, e = .returned (.tuple #[v, .int .i64 2]) ∧ Below w.heap.size w w' := by
  have hE : putE (NM 64) (BA (nmC k)) = 2 := by rw [nm_put h64 hk, if_pos (Nat.le_refl _)]
  have hs := nm_size k (by omega)
  refine (Put_any A 64 d (NM 64) (BA (nmC k)) w h (by omega) (by rw [BA_size]; omega)).mono fun e w' ⟨v, he, ho, hb⟩ => ?_
  exact ⟨v, by rw [he, hE], hb⟩
theorem slS_of {w : World} {base : Nat} {A : Option Addr} {m d : Nat} (h : OwnS w base (.slice A m d) (NM m)) : SlS w A m d (NM m) := by
  obtain ⟨A', d', hv, hS⟩ := h.slS
  rw [NM_len] at hv hS
  injection hv with h1 h2 h3
  subst h1 h3
  exact hS

set_option maxRecDepth 100000 in
set_option maxHeartbeats 4000000 in
theorem full_walk (p : Int) (w : World) (p0 : 0 ≤ p) (p1 : p ≤ 255) :
    Calls Try.prog 7 #[.int .u8 p] w fun e w' => e = .returned (.bool true) ∧ Below w.heap.size w w' := by
  have ca := fun (w : World) => alive_any w
  obtain ⟨n, hn⟩ : ∃ n : Nat, p % 80 = (n : Int) := ⟨(p % 80).toNat, by omega⟩
  have hn1 : n < 80 := by omega
  have cd : ∀ k : Nat, k < 80 → ∀ w : World, Calls Try.prog 20 #[.int .i64 k] w fun e w' => e = .returned (.string (BA (Lib.decDigits k))) ∧ Below w.heap.size w w' := fun k h w => bdigits_nat k (by omega) w
  have hadd : ∀ k : Nat, k < 80 → (⟨#[115]⟩ : ByteArray) ++ BA (Lib.decDigits k) = BA (nmC k) ∧ (BA (Lib.decDigits k)).size ≤ 3 := fun k h => ⟨nm_add (by omega), by rw [BA_size]; have := dec_len 1 k (by omega); omega⟩
  have cp := put_new
  have cf := put_full
  have cR : ∀ (m : Nat) (A : Option Addr) (d : Nat) (w' : World), m ≤ 64 → SlS w' A m d (NM m) → Calls Try.prog 10 #[.slice A m d] w' fun e w1 => e = .returned (.int .i64 0) ∧ Below w'.heap.size w' w1 := fun m A d w' hm h => by
    have := Right_any A m d (NM m) w' h.1 (nm_okZ m hm) (by omega)
    rw [nm_right m hm] at this; exact this
  have hNM : ∀ m, (NM m).length = m := NM_len
  have cL := Right_long
  have HD := Lib.hid cd
  have HA := Lib.hid hadd
  have HP := Lib.hid cp
  have HF := Lib.hid cf
  have HR := Lib.hid cR
  have HL := Lib.hid hNM
  clear cd hadd cp cf cR hNM
  go_enter Try.func7, Try.ntmps7
  go_wp2
  have HN := Lib.hid hn
  clear hn
  go_loopw [3, 11] (fun l i wr0 => ∃ (A : Option Addr) (d k m : Nat) (wr : World), l = .slice A m d ∧ wr = wr0 ∧ k ≤ n ∧ i = .int .i64 k ∧ Hid (m = min k 64) ∧ OwnS wr w.heap.size (.slice A m d) (NM m) ∧ Below w.heap.size w wr) (fun _ i _ => n - (intOf i).toNat)
  case atStart => exact ⟨none, 0, 0, 0, w, rfl, rfl, by omega, rfl, Lib.hid rfl, OwnS.nil _ _, Below.refl _ _⟩
  case round =>
    obtain ⟨A, d, k, m, wr, rfl, rfl, hk, rfl, hm, ho, hB⟩ := hrel
    by_cases hlt : k < n
    · have c1 := HD.out k (by omega)
      obtain ⟨e1, e2⟩ := HA.out k (by omega)
      generalize BA (Lib.decDigits k) = t at *
      clear HD HA HR
      by_cases h64 : k < 64
      · obtain rfl : m = k := by have := hm.out; omega
        have h65 : (m : Int) < 64 := by omega
        have c2 := fun A d w h => HP.out m h64 A d w h
        clear HP HF
        go_wp2_with (first
          | (go_at_call 20; ((with_reducible refine (c1 _).mono ?_); rintro e w1 ⟨rfl, hb1⟩; have hS1 := slS_of (ho.below hb1)))
          | (go_at_call 12; ((with_reducible refine (c2 _ _ _ hS1).mono ?_); rintro e w2 ⟨A2, d2, rfl, ho2, hb2⟩)))
        have hs1 := Nat.le_trans hB.size hb1.size
        go_roundw
        case rel => exact ⟨A2, d2, m + 1, m + 1, w2, rfl, rfl, by omega, by go_num, (show _ = _ by omega), ho2.base hs1, bel_trans (bel_trans hB hb1) hb2⟩
        case measure => simp [intOf]; omega
      · obtain rfl : m = 64 := by have := hm.out; omega
        have h65 : ¬ (k : Int) < 64 := by omega
        have c2 := fun A d w h => HF.out k (by omega) (by omega) A d w h
        clear HP HF
        go_wp2_with (first
          | (go_at_call 20; ((with_reducible refine (c1 _).mono ?_); rintro e w1 ⟨rfl, hb1⟩; have ho1 := ho.below hb1; have hS1 := slS_of ho1))
          | (go_at_call 12; ((with_reducible refine (c2 _ _ _ hS1).mono ?_); rintro e w2 ⟨v2, rfl, hb2⟩)))
        go_roundw
        case rel => exact ⟨A, d, k + 1, 64, w2, rfl, rfl, by omega, by go_num, (show _ = _ by omega), ho1.below hb2, bel_trans (bel_trans hB hb1) hb2⟩
        case measure => simp [intOf]; omega
    · obtain rfl : k = n := by omega
      have hm64 : m ≤ 64 := by have := hm.out; omega
      have c3 := HR.out m A d wr hm64 (slS_of ho)
      have hl0 := HL.out m
      have hK : (65 : Int) - (m : Int) = ((65 - m : Nat) : Int) := by omega
      have hm65 : m ≤ 1000000 := by omega
      have h0 : 0 < 65 - m := by omega
      have h1 : 65 - m ≤ 1000000 := by omega
      have hY : (NM m).length ≤ 1000000 := by omega
      have h2 : 64 < (NM m).length + (65 - m) := by omega
      have hs0 : ∀ w1, Below wr.heap.size wr w1 → w.heap.size ≤ w1.heap.size := fun w1 h => Nat.le_trans hB.size h.size
      have hn := HN.out
      clear HD HA HP HF HR
      have HK := Lib.hid hK
      clear hK hl0
      by_cases h64 : k ≤ 64
      · obtain rfl : m = k := by have := hm.out; omega
        have h65 : (m : Int) ≤ 64 := by omega
        have hq : ((m : Int) == (m : Int)) = true := by simp
        go_wp2_with (first
          | (go_at_call 10; ((with_reducible refine c3.mono ?_); rintro e w1 ⟨rfl, hb1⟩; have ho1 := ho.below hb1))
          | (at_builtin; ((refine app_zeros_g rfl (.tmp 53) (.tmp 56) rfl w.heap.size _ (NM m) rfl ho1 (65 - m) h0 h1 hY _ HK.out rfl ?_); intro A2 d2 w2 hg2))
          | (go_at_call 10; ((with_reducible refine (cL A2 _ d2 w2 h2).mono ?_); rintro e w3 ⟨rfl, hb3⟩))
          | (go_at_call 9; ((with_reducible refine (ca _).mono ?_); rintro e w4 ⟨rfl, hb4⟩)))
        have hb2 := (bel_trans hB hb1).grown hg2 (hs0 _ hb1) (fun k hk => (World.ownsRow.lt ho1 k hk).1)
        go_ret
        exact ⟨rfl, bel_trans (bel_trans hb2 hb3) hb4⟩
      · obtain rfl : m = 64 := by have := hm.out; omega
        have h65 : ¬ (k : Int) ≤ 64 := by omega
        go_wp2_with (first
          | (go_at_call 10; ((with_reducible refine c3.mono ?_); rintro e w1 ⟨rfl, hb1⟩; have ho1 := ho.below hb1))
          | (at_builtin; ((refine app_zeros_g rfl (.tmp 53) (.tmp 56) rfl w.heap.size _ (NM 64) rfl ho1 (65 - 64) h0 h1 hY _ HK.out rfl ?_); intro A2 d2 w2 hg2))
          | (go_at_call 10; ((with_reducible refine (cL A2 _ d2 w2 h2).mono ?_); rintro e w3 ⟨rfl, hb3⟩))
          | (go_at_call 9; ((with_reducible refine (ca _).mono ?_); rintro e w4 ⟨rfl, hb4⟩)))
        have hb2 := (bel_trans hB hb1).grown hg2 (hs0 _ hb1) (fun k hk => (World.ownsRow.lt ho1 k hk).1)
        go_ret
        exact ⟨rfl, bel_trans (bel_trans hb2 hb3) hb4⟩
end Go.Proofs.Ytfamlimnanehnaa.Srt
