/-
  What is proved: the law on a signature filled one by one, walked.
-/
import Derived.Test.YtakcbpmdjdadnaaSgnNm
namespace Go.Proofs.Ytakcbpmdjdadnaa.Sgn
open Go.RowKit L Srt
set_option linter.unusedVariables false
set_option linter.unusedSimpArgs false

set_option maxRecDepth 100000 in
set_option maxHeartbeats 8000000 in
theorem many_walk (p : Int) (w : World) (p0 : 0 ≤ p) (p1 : p ≤ 65535) :
    Calls Try.prog 7 #[.int .u16 p] w fun e w' => e = .returned (.bool true) ∧ Below w.heap.size w w' := by
  have ca := fun (w : World) => alive_any w
  obtain ⟨n, hn⟩ : ∃ n : Nat, p % 300 = (n : Int) := ⟨(p % 300).toNat, by omega⟩
  have hn1 : n < 300 := by omega
  have hq : p.tmod 300 = (n : Int) := by rw [Int.tmod_eq_emod_of_nonneg p0]; exact hn
  have cd : ∀ k : Nat, k < 300 → ∀ w : World, Calls Try.prog 28 #[.int .i64 k] w fun e w' => e = .returned (.string (BA (Lib.decDigits k))) ∧ Below w.heap.size w w' := fun k h w => bdigits_nat k (by omega) w
  have hadd : ∀ k : Nat, k < 300 → (⟨#[110]⟩ : ByteArray) ++ BA (Lib.decDigits k) = BA (nmC k) ∧ (BA (Lib.decDigits k)).size ≤ 4 := fun k h => ⟨nm_add (by omega), by rw [BA_size]; have := dec_len 2 k (by omega); omega⟩
  have cp := fun_new
  have cf := fun_full
  have HD := Lib.hid cd
  have HA := Lib.hid hadd
  have HP := Lib.hid cp
  have HF := Lib.hid cf
  clear cd hadd cp cf
  go_enter Try.func7, Try.ntmps7
  go_wp2_with (go_at_call 8; ((with_reducible refine (ca _).mono ?_); rintro e w3 ⟨rfl, hb3⟩; have c3 : Below w3.heap.size w3 (w3.alloc (.cells #[.slice none 0 0, .slice none 0 0] 25)) := bel_alloc (Below.refl _ _) _; have X3 := SBox.new w3 none 0 0 none 0 0; have b3 := bel_trans hb3 c3))
  have HN := Lib.hid hn
  clear hn hq ca
  go_loopw [5] (fun i wr0 => ∃ (wr : World) (k j : Nat) (A : Option Addr) (D : Nat) (B : Option Addr) (L : Nat) (H : List Fm), wr = wr0 ∧ k ≤ n ∧ i = .int .i64 k ∧ Hid (j = min k 256) ∧ Below w.heap.size w wr ∧ SBox wr w3.heap.size A 0 D B j L ∧ SlS wr A 0 D [] ∧ SlG wr B j L H ∧ Hid (cores H = KM j)) (fun i _ => n - (intOf i).toNat)
  case atStart => exact ⟨_, 0, 0, none, 0, none, 0, [], rfl, by omega, rfl, Lib.hid rfl, b3, X3, SlS.nul _, SlG.nul _, Lib.hid rfl⟩
  case round =>
    obtain ⟨wr, k, j, A, D, B, L, H, rfl, hk, rfl, hj, hB, hX, hS, hG, hc⟩ := hrel
    obtain ⟨x0, x1⟩ := hX.two
    have lg3 : w.heap.size ≤ w3.heap.size := hb3.size
    clear X3 b3 c3
    by_cases hlt : k < n
    · have c1 := HD.out k (by omega)
      obtain ⟨e1, e2⟩ := HA.out k (by omega)
      have hlt2 : (k : Int) < (n : Int) := by omega
      generalize BA (Lib.decDigits k) = t at *
      by_cases h256 : k < 256
      · obtain rfl : j = k := by have := hj.out; omega
        have h257 : (j : Int) < 256 := by omega
        have c2 := fun (w' : World) (h1 : SlS w' A 0 D []) (h2 : SlG w' B j L H) => HP.out j h256 A D B L H w' h1 h2 hc.out
        clear HP HF HD HA
        generalize BA (nmC j) = nm at *
        generalize hKJ : KM (j + 1) = KJ at *
        go_wp2_with (first
          | (go_at_call 28; ((with_reducible refine (c1 _).mono ?_); rintro e w4 ⟨rfl, hb4⟩; have X4 := hX.b hb4; obtain ⟨x40, x41⟩ := X4.two; have hS4 := hS.below hb4; have hG4 := hG.below hb4))
          | (go_at_call 17; ((with_reducible refine (c2 _ hS4 hG4).mono ?_); rintro e w5 ⟨A5, D5, B5, L5, H5, rfl, hS5, hG5, hc5, hb5⟩; have c5 : Below w5.heap.size w5 (w5.alloc (.cells #[.slice A5 0 D5, .slice B5 (j + 1) L5] 25)) := bel_alloc (Below.refl _ _) _; have Y5 := SBox.new w5 A5 0 D5 B5 (j + 1) L5; have X5 := (X4.b hb5).b c5; have hS6 := hS5.below c5; have hG6 := hG5.below c5; obtain ⟨y0, y1⟩ := Y5.two; obtain ⟨z0, z1⟩ := X5.two; obtain ⟨u0, u1⟩ := X5.free)))
        have hoff : Off w3.heap.size B5 (j + 1) := offBox X5 hG6.1
        have hofs := off_none (g := w3.heap.size) (hc5.trans hKJ.symm) hG6.1.2.2
        have hBf := below_set2 (bel_trans (bel_trans (bel_trans hB hb4) hb5) c5) lg3 (.slice A5 0 D5) (.slice B5 (j + 1) L5)
        go_roundw
        case rel => exact ⟨_, j + 1, j + 1, A5, D5, B5, L5, H5, rfl, by omega, by go_num, (show _ = _ by omega), hBf, X5.put A5 0 D5 B5 (j + 1) L5, SlS.far2 hS6 (fun h => absurd h (by omega)) _ _, SlG.far2 hG6 ⟨hoff, hofs⟩ _ _, (show _ = _ from hc5.trans hKJ.symm)⟩
        case measure => simp [intOf]; omega
      · obtain rfl : j = 256 := by have := hj.out; omega
        have h257 : ¬ (k : Int) < 256 := by omega
        have c2 := fun (w' : World) (h1 : SlS w' A 0 D []) (h2 : SlG w' B 256 L H) => HF.out k (by omega) (by omega) A D B L H w' h1 h2 hc.out
        clear HP HF HD HA
        generalize BA (nmC k) = nm at *
        go_wp2_with (first
          | (go_at_call 28; ((with_reducible refine (c1 _).mono ?_); rintro e w4 ⟨rfl, hb4⟩; have X4 := hX.b hb4; obtain ⟨x40, x41⟩ := X4.two; have hS4 := hS.below hb4; have hG4 := hG.below hb4))
          | (go_at_call 17; ((with_reducible refine (c2 _ hS4 hG4).mono ?_); rintro e w5 ⟨A5, D5, B5, L5, H5, rfl, hS5, hG5, hc5, hb5⟩; have c5 : Below w5.heap.size w5 (w5.alloc (.cells #[.slice A5 0 D5, .slice B5 0 L5] 25)) := bel_alloc (Below.refl _ _) _; have X5 := (X4.b hb5).b c5; have b45 := bel_trans (bel_trans hb4 hb5) c5)))
        go_roundw
        case rel => exact ⟨_, k + 1, 256, A, D, B, L, H, rfl, by omega, by go_num, (show _ = _ by omega), bel_trans hB b45, X5, hS.below b45, hG.below b45, hc⟩
        case measure => simp [intOf]; omega
    · obtain rfl : k = n := by omega
      have hj256 : j ≤ 256 := by have := hj.out; omega
      have cC : Calls Try.prog 24 #[.agg #[.slice A 0 D, .slice B j L], .string ⟨#[73, 110, 116]⟩] wr fun e w1 => ∃ A' c', e = .returned (.slice A' (constS (KM j) INT).length c') ∧ SlS w1 A' (constS (KM j) INT).length c' (constS (KM j) INT) ∧ Below wr.heap.size wr w1 := (Consts_any A 0 D B j L H INT wr hG (by omega)).mono fun _ _ h => by
        rw [hc.out] at h
        exact consts_sl h
      have hl : (constS (KM j) INT).length ≤ 1000 := by rw [km_const]; simp; omega
      have cH : ∀ (w' : World) (A' : Option Addr) (c' : Nat), 2 ≤ j → SlS w' A' (constS (KM j) INT).length c' (constS (KM j) INT) → Calls Try.prog 27 #[.slice A' (constS (KM j) INT).length c', .string ⟨#[110, 49]⟩] w' fun e w1 => e = .returned (.bool true) ∧ w' = w1 := fun w' A' c' h2 h => by
        have := Has_any A' _ c' (constS (KM j) INT) (BA [110, 49]) w' h.1 (by omega)
        rw [km_one h2] at this
        exact this
      generalize constS (KM j) INT = CX at *
      generalize CX.length = CN at *
      clear HP HF HD HA hc
      by_cases h256 : k ≤ 256
      · obtain rfl : j = k := by have := hj.out; omega
        have h257 : (j : Int) ≤ 256 := by omega
        have hq : ((j : Int) == (j : Int)) = true := by simp
        by_cases h2 : 2 ≤ j
        · have h3 : ¬ (j : Int) < 2 := by omega
          have cH2 := fun w' A' c' h => cH w' A' c' h2 h
          go_wp2_with (first
            | (go_at_call 24; ((with_reducible refine cC.mono ?_); rintro e w4 ⟨A4, c4, rfl, hS4, hb4⟩))
            | (go_at_call 27; ((with_reducible refine (cH2 _ _ _ hS4).mono ?_); rintro e w' ⟨rfl, rfl⟩)))
          go_ret
          exact ⟨rfl, bel_trans hB hb4⟩
        · have h3 : (j : Int) < 2 := by omega
          go_wp2
          go_ret
          exact ⟨rfl, hB⟩
      · obtain rfl : j = 256 := by have := hj.out; omega
        have h257 : ¬ (k : Int) ≤ 256 := by omega
        have h3 : ¬ (k : Int) < 2 := by omega
        have cH2 := fun w' A' c' h => cH w' A' c' (by omega) h
        go_wp2_with (first
          | (go_at_call 24; ((with_reducible refine cC.mono ?_); rintro e w4 ⟨A4, c4, rfl, hS4, hb4⟩))
          | (go_at_call 27; ((with_reducible refine (cH2 _ _ _ hS4).mono ?_); rintro e w' ⟨rfl, rfl⟩)))
        go_ret
        exact ⟨rfl, bel_trans hB hb4⟩
end Go.Proofs.Ytakcbpmdjdadnaa.Sgn
