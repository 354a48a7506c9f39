/-
  What is proved: what Read and Text of package digit return.
-/
import Derived.Test.YthchjceibpcgbaaDoorDgO
import Derived.Test.YthchjceibpcgbaaDoorShelf
import Derived.Shelf.Bits.Mul64
import Derived.BigQuiet
import Derived.Laws.Bits64b
import Derived.Lib.LaidTab
namespace Go.Proofs.YthchjceibpcgbaaDoor.Dig
open Go.RowKit
set_option linter.unusedVariables false
set_option linter.unusedSimpArgs false

/-- how far from 0 -/
def ab (a : Int) : Int := if a < 0 then -a else a
/-- the number of the size n that is negative if s -/
def sg (s : Bool) (n : Int) : Int := if s then -n else n
theorem ab_neg {a : Int} (h : a < 0) : ab a = -a := by unfold ab; simp [h]
theorem ab_pos {a : Int} (h : 0 ≤ a) : ab a = a := by unfold ab; rw [if_neg (by omega)]
theorem ab_bd {a : Int} (a0 : -9223372036854775808 ≤ a) (a1 : a ≤ 9223372036854775807) : 0 ≤ ab a ∧ ab a ≤ 9223372036854775808 := by unfold ab; split <;> omega
theorem fit_eq {n v : Int} {b : Bool} (h : (-9223372036854775808 ≤ n ∧ n ≤ 9223372036854775807) ∧ v = n ∧ b = true ∨ ¬(-9223372036854775808 ≤ n ∧ n ≤ 9223372036854775807) ∧ v = 0 ∧ b = false) : fitV n = v ∧ fitB n = b := by
  rcases h with ⟨h, rfl, rfl⟩ | ⟨h, rfl, rfl⟩
  · exact fit_yes h
  · exact fit_no h
theorem sub_any (a b : Int) (a0 : -9223372036854775808 ≤ a) (a1 : a ≤ 9223372036854775807) (b0 : -9223372036854775808 ≤ b) (b1 : b ≤ 9223372036854775807) (w : World) :
    Calls Tryd.prog 77 #[.int .i64 a, .int .i64 b] w fun e w' => e = .returned (.tuple #[.int .i64 (fitV (a - b)), .bool (fitB (a - b))]) ∧ w = w' := by
  go_enter Tryd.func77, Tryd.ntmps77
  go_wp2
  · rename_i h
    have h := bne_yes h
    unfold wrap64 at h
    go_ret2
    exact ⟨pair (fit_no (by omega)), rfl⟩
  · rename_i h
    have h := bne_no h
    unfold wrap64 at h
    go_ret2
    exact ⟨pair (fit_eq (Or.inl ⟨by omega, by unfold wrap64; omega, rfl⟩)), rfl⟩
theorem neg_any (a : Int) (a0 : -9223372036854775808 ≤ a) (a1 : a ≤ 9223372036854775807) (w : World) :
    Calls Tryd.prog 69 #[.int .i64 a] w fun e w' => e = .returned (.tuple #[.int .i64 (fitV (-a)), .bool (fitB (-a))]) ∧ w = w' := by
  have hs := sub_any 0 a (by omega) (by omega) a0 a1
  rw [show (0 : Int) - a = -a by omega] at hs
  go_enter Tryd.func69, Tryd.ntmps69
  go_wp2_with (go_at_call 77; refine (hs _).mono ?_; rintro e w' ⟨rfl, rfl⟩)
  go_ret2
  exact ⟨rfl, rfl⟩
theorem size_any (a : Int) (a0 : -9223372036854775808 ≤ a) (a1 : a ≤ 9223372036854775807) (w : World) :
    Calls Tryd.prog 81 #[.int .i64 a] w fun e w' => e = .returned (.int .u64 (ab a)) ∧ w = w' := by
  go_enter Tryd.func81, Tryd.ntmps81
  go_wp2
  · go_ret
    exact ⟨one (by rw [ab_neg (by assumption), IntKind.wrap_u64, IntKind.wrap_u64]; omega), rfl⟩
  · go_ret
    exact ⟨one (by rw [ab_pos (by assumption)]), rfl⟩
theorem signed_any (n : Int) (s : Bool) (n0 : 0 ≤ n) (n1 : n ≤ 18446744073709551615) (w : World) :
    Calls Tryd.prog 83 #[.int .u64 n, .bool s] w fun e w' => e = .returned (.tuple #[.int .i64 (fitV (sg s n)), .bool (fitB (sg s n))]) ∧ w = w' := by
  cases s
  · by_cases h : n ≤ 9223372036854775807
    · have h1 : decide (n > 9223372036854775808) = false := by simp; omega
      have h2 : (n == 9223372036854775808) = false := by simp; omega
      go_enter Tryd.func83, Tryd.ntmps83
      go_wp2
      go_ret2
      exact ⟨pair (fit_eq (Or.inl ⟨by unfold sg; simp; omega, by unfold sg; simp, rfl⟩)), rfl⟩
    · by_cases h1 : n = 9223372036854775808
      · subst h1
        go_enter Tryd.func83, Tryd.ntmps83
        go_wp2
        go_ret2
        exact ⟨pair (by decide), rfl⟩
      · have h2 : 9223372036854775808 < n := by omega
        go_enter Tryd.func83, Tryd.ntmps83
        go_wp2
        go_ret2
        exact ⟨pair (fit_no (by unfold sg; simp; omega)), rfl⟩
  · by_cases h : n ≤ 9223372036854775808
    · go_enter Tryd.func83, Tryd.ntmps83
      go_wp2
      all_goals
        go_ret2
        exact ⟨pair (fit_eq (Or.inl ⟨by unfold sg; simp; omega, by rw [IntKind.wrap_u64]; unfold wrap64 sg; simp; try omega, rfl⟩)), rfl⟩
    · have h2 : 9223372036854775808 < n := by omega
      go_enter Tryd.func83, Tryd.ntmps83
      go_wp2
      go_ret2
      exact ⟨pair (fit_no (by unfold sg; simp; omega)), rfl⟩
/-- the library's contract for Mul64, laid at this program (the shelf's command prints these numbers) -/
def mulRen : Go.Shelf.Ren := ⟨fun | 264 => 82 | n => n, fun | 53 => 77 | 46 => 86 | n => n, fun | n => n⟩
theorem mulLays : Go.Proofs.Lays.n264 Tryd.prog mulRen := {
  mixed := by kernel_rfl
  f264 := Tryd.func82.trans (congrArg some (by kernel_rfl))
  t46 := Tryd.underlying86
  a46 := Tryd.isAgg86
  z46 := Tryd.sizeOf86
  v46 := Tryd.zeroValue86
  t53 := Tryd.underlying77
  a53 := Tryd.isAgg77
  z53 := Tryd.sizeOf77
  v53 := Tryd.zeroValue77 }
theorem mul64_nat (x y : Nat) (hx : x < 18446744073709551616) (hy : y < 18446744073709551616) (w : World) :
    Calls Tryd.prog 82 #[.int .u64 x, .int .u64 y] w fun e w' => e = .returned (.tuple #[.int .u64 ((x * y / 18446744073709551616 : Nat) : Int), .int .u64 ((x * y % 18446744073709551616 : Nat) : Int)]) ∧ w' = w :=
  Any.bits_Mul64 mulLays x y hx hy w
theorem mul64_any (x y : Int) (x0 : 0 ≤ x) (x1 : x ≤ 18446744073709551615) (y0 : 0 ≤ y) (y1 : y ≤ 18446744073709551615) (w : World) :
    Calls Tryd.prog 82 #[.int .u64 x, .int .u64 y] w fun e w' => e = .returned (.tuple #[.int .u64 (x * y / 18446744073709551616), .int .u64 (x * y % 18446744073709551616)]) ∧ w = w' := by
  obtain ⟨m, rfl⟩ := Int.eq_ofNat_of_zero_le x0
  obtain ⟨n, rfl⟩ := Int.eq_ofNat_of_zero_le y0
  refine (mul64_nat m n (by omega) (by omega) w).mono fun e w' ⟨h, hw⟩ => ⟨?_, hw.symm⟩
  rw [h, ← Int.natCast_mul]
  congr 5 <;> omega
theorem product_any (m n : Int) (s : Bool) (m0 : 0 ≤ m) (m1 : m ≤ 18446744073709551615) (n0 : 0 ≤ n) (n1 : n ≤ 18446744073709551615) (w : World) :
    Calls Tryd.prog 80 #[.int .u64 m, .int .u64 n, .bool s] w fun e w' => e = .returned (.tuple #[.int .i64 (fitV (sg s (m * n))), .bool (fitB (sg s (m * n)))]) ∧ w = w' := by
  have p0 : 0 ≤ m * n := Int.mul_nonneg m0 n0
  have hm := fun (w : World) => mul64_any m n m0 m1 n0 n1 w
  have hs := fun (k : Int) (k0 : 0 ≤ k) (k1 : k ≤ 18446744073709551615) (w : World) => signed_any k s k0 k1 w
  generalize m * n = p at *
  go_enter Tryd.func80, Tryd.ntmps80
  go_wp2_with (first | (go_at_call 82; refine (hm _).mono ?_; rintro e w' ⟨rfl, rfl⟩) | (go_at_call 83; refine (hs _ (by omega) (by omega) _).mono ?_; rintro e w' ⟨rfl, rfl⟩))
  · rename_i h
    simp only [bne_iff_ne, ne_eq] at h
    go_ret2
    exact ⟨pair (fit_no (by unfold sg; split <;> omega)), rfl⟩
  · rename_i h
    simp only [bne_eq_false_iff_eq] at h
    have e : p % 18446744073709551616 = p := by omega
    go_ret2
    exact ⟨pair (by rw [e]; exact ⟨rfl, rfl⟩), rfl⟩
theorem mul_any (a b : Int) (a0 : -9223372036854775808 ≤ a) (a1 : a ≤ 9223372036854775807) (b0 : -9223372036854775808 ≤ b) (b1 : b ≤ 9223372036854775807) (w : World) :
    Calls Tryd.prog 76 #[.int .i64 a, .int .i64 b] w fun e w' => e = .returned (.tuple #[.int .i64 (fitV (a * b)), .bool (fitB (a * b))]) ∧ w = w' := by
  have e : sg (!decide (a < 0) == decide (b < 0)) (ab a * ab b) = a * b := by
    unfold sg
    by_cases h1 : a < 0
    · by_cases h2 : b < 0
      · simp [h1, h2, ab_neg h1, ab_neg h2, Int.neg_mul_neg]
      · simp [h1, h2, ab_neg h1, ab_pos (by omega : 0 ≤ b), Int.neg_mul]
    · by_cases h2 : b < 0
      · simp [h1, h2, ab_pos (by omega : 0 ≤ a), ab_neg h2, Int.mul_neg]
      · simp [h1, h2, ab_pos (by omega : 0 ≤ a), ab_pos (by omega : 0 ≤ b)]
  have ba := ab_bd a0 a1
  have bb := ab_bd b0 b1
  have hp := fun (w : World) => product_any (ab a) (ab b) (!decide (a < 0) == decide (b < 0)) ba.1 (by omega) bb.1 (by omega) w
  rw [e] at hp
  clear e
  go_enter Tryd.func76, Tryd.ntmps76
  go_wp2_with (first | (go_at_call 80; refine (hp _).mono ?_; rintro e w' ⟨rfl, rfl⟩) | (go_at_call 81; refine (size_any _ (by assumption) (by assumption) _).mono ?_; rintro e w' ⟨rfl, rfl⟩))
  go_ret2
  exact ⟨rfl, rfl⟩
theorem leading_any (s : ByteArray) (w : World) (hs : s.size ≤ 9223372036854775807) :
    Calls Tryd.prog 75 #[.string s] w fun e w' => e = .returned (.int .i64 (lead s.data.toList)) ∧ w = w' := by
  have H : ∀ k, (s.data.toList.take k).all isD = true → k ≤ s.size → (∀ h : k < s.size, isD s[k] = false) → lead s.data.toList = k := fun k h1 h2 h3 => lead_of h1 (by rw [len_list]; exact h2) (fun h => h3 (by rw [len_list] at h; exact h))
  go_enter Tryd.func75, Tryd.ntmps75
  go_wp2
  go_step3
  go_wp2
  go_step3
  go_wp2
  go_loop [3] (fun n => ∃ k : Nat, k ≤ s.size ∧ n = .int .i64 k ∧ Hid ((s.data.toList.take k).all isD = true)) (fun n => s.size - (intOf n).toNat)
  case atStart => exact ⟨0, by omega, rfl, by simp [Hid]⟩
  case round =>
    obtain ⟨k, hk, rfl, hd⟩ := hrel
    by_cases hlt : k < s.size
    · have hc : Hid (s.data.toList.take (k + 1) = s.data.toList.take k ++ [s[k]]) := take_snoc s k hlt
      by_cases hD : isD s[k] = true
      · have hdd := isD_iff.1 hD
        have hcc : s[k].toNat = 48 ∨ s[k].toNat = 49 ∨ s[k].toNat = 50 ∨ s[k].toNat = 51 ∨ s[k].toNat = 52 ∨ s[k].toNat = 53 ∨ s[k].toNat = 54 ∨ s[k].toNat = 55 ∨ s[k].toNat = 56 ∨ s[k].toNat = 57 := by omega
        have hall : Hid ((s.data.toList.take (k + 1)).all isD = true) := by
          show _ = _
          rw [hc.out, List.all_append, hd.out, List.all_cons, hD]; rfl
        clear hdd hc hd hD H
        rcases hcc with hcc | hcc | hcc | hcc | hcc | hcc | hcc | hcc | hcc | hcc
        all_goals
          go_wp2
          go_round
          case rel => exact ⟨k + 1, by omega, by go_num, hall⟩
          case measure => simp [intOf]; omega
      · have hn : ∀ j : Nat, 48 ≤ j → j ≤ 57 → ((s[k].toNat : Int) == j) = false := by
          intro j h1 h2
          apply beq_no'
          intro e
          exact hD (isD_iff.2 (by omega))
        have n0 := hn 48 (by omega) (by omega)
        have n1 := hn 49 (by omega) (by omega)
        have n2 := hn 50 (by omega) (by omega)
        have n3 := hn 51 (by omega) (by omega)
        have n4 := hn 52 (by omega) (by omega)
        have n5 := hn 53 (by omega) (by omega)
        have n6 := hn 54 (by omega) (by omega)
        have n7 := hn 55 (by omega) (by omega)
        have n8 := hn 56 (by omega) (by omega)
        have n9 := hn 57 (by omega) (by omega)
        have hr := Lib.hid (H k hd.out hk (fun _ => by simpa using hD))
        clear hn hD hc hd H
        go_wp2
        try rw [Exit.noGoto_ret]
        go_ret
        exact ⟨one (by rw [hr.out]), rfl⟩
    · have hr := Lib.hid (H k hd.out hk (fun h => absurd h hlt))
      clear H hd
      go_wp2
      try rw [Exit.noGoto_ret]
      go_ret
      exact ⟨one (by rw [hr.out]), rfl⟩
theorem plain_any (s : ByteArray) (w : World) (hs : s.size ≤ 9223372036854775807) :
    Calls Tryd.prog 67 #[.string s] w fun e w' => e = .returned (.bool (plainB s.data.toList)) ∧ w = w' := by
  have c1 := fun (w : World) => leading_any s w hs
  by_cases h0 : s.data.toList = []
  · have he : plainB s.data.toList = false := by rw [h0]; rfl
    rw [he]
    have h1 : s.toList = [] := by rw [ByteArray.toList_eq]; exact h0
    have h2 : s.toList.isEmpty = true := by rw [h1]; rfl
    clear c1 h0 he
    go_enter Tryd.func67, Tryd.ntmps67
    go_wp2
    go_ret
    exact ⟨rfl, rfl⟩
  · have hp : 0 < s.size := by rw [← len_list]; exact List.length_pos_iff.2 h0
    have h1 : ¬ s.toList = [] := by rw [ByteArray.toList_eq]; exact h0
    have h2 : s.toList.isEmpty = false := by simp [h1]
    by_cases ha : s.data.toList.all isD = true
    · have hl : lead s.data.toList = s.size := by rw [← len_list]; exact (lead_all _).2 ha
      rw [hl] at c1
      have hh := head_at s hp
      by_cases h48 : s[0].toNat = 48
      · have hh2 : s.data.toList.head? = some 48 := by rw [hh]; congr 1; exact UInt8.toNat_inj.1 h48
        by_cases h3 : s.size = 1
        · have he : plainB s.data.toList = true := plain_of h0 ha (Or.inr (by rw [len_list]; exact h3))
          rw [he]
          have h4 : ((s.size : Int) == 1) = true := beq_yes' (by omega)
          have h5 : ((s[0].toNat : Int) == 48) = true := beq_yes' (by omega)
          have h6 : ((s[0].toNat : Int) != 48) = false := by simp [h48]
          have hsz := Lib.hid h3
          clear h0 hl ha hh hh2 he h3 h48
          go_enter Tryd.func67, Tryd.ntmps67
          go_wp2_with (go_at_call 75; ((with_reducible refine (c1 _).mono ?_); rintro e w' ⟨rfl, rfl⟩))
          go_ret
          exact ⟨rfl, rfl⟩
        · have he : plainB s.data.toList = false := plain_no2 hh2 (by rw [len_list]; exact h3)
          rw [he]
          have h4 : ((s.size : Int) == 1) = false := beq_no' (by omega)
          have h5 : ((s[0].toNat : Int) == 48) = true := beq_yes' (by omega)
          have h6 : ((s[0].toNat : Int) != 48) = false := by simp [h48]
          clear h0 hl ha hh hh2 he h3 h48
          go_enter Tryd.func67, Tryd.ntmps67
          go_wp2_with (go_at_call 75; ((with_reducible refine (c1 _).mono ?_); rintro e w' ⟨rfl, rfl⟩))
          go_ret
          exact ⟨rfl, rfl⟩
      · have he : plainB s.data.toList = true := plain_of h0 ha (Or.inl (by rw [hh]; intro e; simp at e; rw [e] at h48; exact h48 rfl))
        rw [he]
        have h5 : ((s[0].toNat : Int) == 48) = false := beq_no' (by omega)
        have h6 : ((s[0].toNat : Int) != 48) = true := by simp; omega
        clear h0 hl ha hh he h48
        go_enter Tryd.func67, Tryd.ntmps67
        go_wp2_with (go_at_call 75; ((with_reducible refine (c1 _).mono ?_); rintro e w' ⟨rfl, rfl⟩))
        go_ret
        exact ⟨rfl, rfl⟩
    · have he : plainB s.data.toList = false := plain_no1 (by simpa using ha)
      rw [he]
      have hl : lead s.data.toList ≠ s.size := by rw [← len_list]; intro e; exact ha ((lead_all _).1 e)
      generalize lead s.data.toList = m at *
      have h4 : ((m : Int) == (s.size : Int)) = false := beq_no' (by omega)
      have h5 : ((m : Int) != (s.size : Int)) = true := by simp; omega
      have h7 : (m == s.size) = false := by simp [hl]
      have h8 : (m != s.size) = true := by simp [hl]
      clear h0 hl ha he
      go_enter Tryd.func67, Tryd.ntmps67
      go_wp2_with (go_at_call 75; ((with_reducible refine (c1 _).mono ?_); rintro e w' ⟨rfl, rfl⟩))
      go_ret
      exact ⟨rfl, rfl⟩
set_option maxHeartbeats 1000000 in
theorem negative_any (s : ByteArray) (w : World) (hs : s.size ≤ 9223372036854775807) (hD : s.data.toList.all isD = true) :
    Calls Tryd.prog 68 #[.string s] w fun e w' => e = .returned (.tuple #[.int .i64 (fitV (-(val s.data.toList : Int))), .bool (fitB (-(val s.data.toList : Int)))]) ∧ w = w' := by
  have hdig : ∀ k (h : k < s.size), 48 ≤ s[k].toNat ∧ s[k].toNat ≤ 57 := fun k h => isD_iff.1 (List.all_eq_true.1 hD _ (by rw [← at_list s k h]; exact List.getElem_mem _))
  have hend : s.data.toList.take s.size = s.data.toList := by rw [← len_list]; exact List.take_length
  have hlow : ∀ k, val (s.data.toList.take k) ≤ val s.data.toList := fun k => val_take_le
  have hst : ∀ k (h : k < s.size), val (s.data.toList.take (k + 1)) = 10 * val (s.data.toList.take k) + (s[k].toNat - 48) := fun k h => by rw [take_snoc s k h, val_snoc]
  obtain ⟨V, hV⟩ : ∃ V : Nat → Nat, ∀ k, val (s.data.toList.take k) = V k := ⟨fun k => val (s.data.toList.take k), fun k => rfl⟩
  have hV0 : V 0 = 0 := by rw [← hV]; rfl
  obtain ⟨T, hT⟩ : ∃ T, val s.data.toList = T := ⟨_, rfl⟩
  have hVT : V s.size = T := by rw [← hV, hend, hT]
  simp only [hV, hT] at hlow hst
  rw [hT]
  clear hV hT hend hD
  have Hst := Lib.hid hst
  have HVT := Lib.hid hVT
  have HV0 := Lib.hid hV0
  clear hst hVT hV0
  go_enter Tryd.func68, Tryd.ntmps68
  go_wp2
  go_loop [4, 5, 6] (fun n o i => ∃ k : Nat, k ≤ s.size ∧ i = .int .i64 k ∧ n = .int .i64 (fitV (-(V k : Int))) ∧ o = .bool (fitB (-(V k : Int)))) (fun _ _ i => s.size - (intOf i).toNat)
  case atStart => exact ⟨0, by omega, rfl, by rw [HV0.out]; rfl, by rw [HV0.out]; rfl⟩
  case round =>
    obtain ⟨k, hk, rfl, rfl, rfl⟩ := hrel
    cases hf : fitB (-(V k : Int)) with
    | false =>
      obtain ⟨f1, f2⟩ := fit_low (hlow k) hf
      rw [(fit_low (Nat.le_refl (V k)) hf).1]
      have g1 := Lib.hid f1
      have g2 := Lib.hid f2
      clear hf hlow hdig f1 f2
      go_wp2
      go_ret2
      exact ⟨pair2 ⟨g1.out, g2.out⟩, rfl⟩
    | true =>
      have hb := of_decide_eq_true (show decide _ = true from hf)
      rw [(fit_yes hb).1]
      by_cases hlt : k < s.size
      · have hc := hdig k hlt
        have hs1 := Hst.out k hlt
        obtain ⟨c1, c2⟩ := hc
        have hm := fun (w : World) => mul_any (-(V k : Int)) 10 hb.1 hb.2 (by omega) (by omega) w
        obtain ⟨b1, b2⟩ := hb
        by_cases hf2 : fitB (-(V k : Int) * 10) = true
        · have hb2 := of_decide_eq_true (show decide _ = true from hf2)
          rw [(fit_yes hb2).1, hf2] at hm
          have hsb := fun (w : World) => sub_any (-(V k : Int) * 10) ((s[k].toNat : Int) - 48) hb2.1 hb2.2 (by omega) (by omega) w
          rw [show -(V k : Int) * 10 - ((s[k].toNat : Int) - 48) = -(V (k + 1) : Int) by omega] at hsb
          obtain ⟨b3, b4⟩ := hb2
          clear hf hf2 hlow hdig hs1
          generalize -(V k : Int) * 10 = p at *
          generalize -(V k : Int) = q at *
          go_wp2_with (first | (go_at_call 76; ((with_reducible refine (hm _).mono ?_); rintro e w' ⟨rfl, rfl⟩)) | (go_at_call 77; ((with_reducible refine (hsb _).mono ?_); rintro e w' ⟨rfl, rfl⟩)))
          go_round
          case rel => exact ⟨k + 1, by omega, by go_num, rfl, rfl⟩
          case measure => simp [intOf]; omega
        · have hf3 : fitB (-(V k : Int) * 10) = false := by simpa using hf2
          have hno := of_decide_eq_false (show decide _ = false from hf3)
          have hz := fit_no hno
          rw [hz.1, hf3] at hm
          have hz2 : fitV (-(V (k + 1) : Int)) = 0 ∧ fitB (-(V (k + 1) : Int)) = false := fit_no (by omega)
          have f1 := Lib.hid hz2.1
          have f2 := Lib.hid hz2.2
          clear hf hf2 hlow hdig hs1 hz hz2 hno hf3
          generalize -(V k : Int) = q at *
          go_wp2_with (first | (go_at_call 76; ((with_reducible refine (hm _).mono ?_); rintro e w' ⟨rfl, rfl⟩)))
          go_round
          case rel => exact ⟨k + 1, by omega, by go_num, by rw [f1.out], by rw [f2.out]⟩
          case measure => simp [intOf]; omega
      · have hkk : k = s.size := by omega
        have f1 : Hid (fitV (-(T : Int)) = -(V k : Int)) := by
          show _ = _
          rw [← HVT.out, ← hkk, (fit_yes hb).1]
        have f2 : Hid (fitB (-(T : Int)) = true) := by
          show _ = _
          rw [← HVT.out, ← hkk, hf]
        clear hf hlow hdig hb hkk
        generalize -(V k : Int) = q at *
        go_wp2
        go_ret2
        exact ⟨pair2 ⟨f1.out, f2.out⟩, rfl⟩
theorem cut_any (s : ByteArray) (w : World) :
    Calls Tryd.prog 48 #[.string s, .string ⟨#[45]⟩] w fun e w' => e = .returned (.tuple #[.string (BA (body s.data.toList)), .bool (isNeg s.data.toList)]) ∧ w = w' := by
  refine (Tryd.strings_CutPrefix s ⟨#[45]⟩ w).mono fun e w' ⟨h, hw⟩ => ⟨?_, hw.symm⟩
  have h1 : Lib.hasPrefix s.data.toList [45] = isNeg s.data.toList := by
    unfold Lib.hasPrefix isNeg
    cases s.data.toList with
    | nil => rfl
    | cons c r => simp [List.isPrefixOf, Bool.beq_comm (a := c)]
  have h2 : Lib.trimPrefix s.data.toList [45] = body s.data.toList := by
    unfold Lib.trimPrefix body
    rw [h1]
    simp
  rw [h]
  show Ending.returned (.tuple #[.string ⟨(Lib.trimPrefix s.data.toList [45]).toArray⟩, .bool (Lib.hasPrefix s.data.toList [45])]) = _
  rw [h1, h2]; rfl
set_option maxHeartbeats 1000000 in
theorem read_any (s : ByteArray) (w : World) (hs : s.size ≤ 9223372036854775807) :
    Calls Tryd.prog 58 #[.string s] w fun e w' => e = .returned (.tuple #[.int .i64 (rdV s.data.toList), .int .i64 (rdE s.data.toList)]) ∧ w = w' := by
  have hsz : (BA (body s.data.toList)).size ≤ 9223372036854775807 := by
    rw [BA_size]; have := body_len s.data.toList; rw [len_list] at this; omega
  have c0 := fun (w : World) => cut_any s w
  have c1 := fun (w : World) => plain_any (BA (body s.data.toList)) w hsz
  have c2 := fun (w : World) (h : (body s.data.toList).all isD = true) => negative_any (BA (body s.data.toList)) w hsz h
  simp only [BA_list] at c1 c2
  have e1 := @rd_form1 s.data.toList
  have e2 := @rd_form2 s.data.toList
  have e3 := @rd_neg s.data.toList
  have e4 := @rd_pos s.data.toList
  generalize rdV s.data.toList = v at *
  generalize rdE s.data.toList = e at *
  generalize isNeg s.data.toList = g at *
  have hall := @plain_all (body s.data.toList)
  have ht := BA_toList (body s.data.toList)
  generalize body s.data.toList = b at *
  generalize hB : BA b = t at *
  clear hB
  cases hp : plainB b with
  | false =>
    obtain ⟨rfl, rfl⟩ := e1 hp
    rw [hp] at c1
    clear e1 e2 e3 e4 hp hall ht c2
    go_enter Tryd.func58, Tryd.ntmps58
    go_wp2_with (first | (go_at_call 48; ((with_reducible refine (c0 _).mono ?_); rintro e w' ⟨rfl, rfl⟩)) | (go_at_call 67; ((with_reducible refine (c1 _).mono ?_); rintro e w' ⟨rfl, rfl⟩)))
    go_ret2
    exact ⟨rfl, rfl⟩
  | true =>
    rw [hp] at c1
    have c2 := fun (w : World) => c2 w (hall hp)
    cases g with
    | true =>
      by_cases hb : b = [48]
      · obtain ⟨rfl, rfl⟩ := e2 rfl hb
        have ht1 : t.toList = [48] := by rw [ht]; exact hb
        clear e1 e2 e3 e4 hp hall ht c2 hb
        go_enter Tryd.func58, Tryd.ntmps58
        go_wp2_with (first | (go_at_call 48; ((with_reducible refine (c0 _).mono ?_); rintro e w' ⟨rfl, rfl⟩)) | (go_at_call 67; ((with_reducible refine (c1 _).mono ?_); rintro e w' ⟨rfl, rfl⟩)))
        go_ret2
        exact ⟨rfl, rfl⟩
      · obtain ⟨rfl, rfl⟩ := e3 hp rfl hb
        have ht1 : (t.toList = [48]) = False := by rw [ht]; simp [hb]
        have ht2 : (t.toList == [48]) = false := by rw [ht]; simp [hb]
        clear e1 e2 e3 e4 hp hall ht hb
        have hx := fit_zero (-(val b : Int))
        generalize fitV (-(val b : Int)) = x at *
        generalize fitB (-(val b : Int)) = y at *
        cases y
        all_goals
          try (obtain rfl := hx rfl)
          clear hx
          go_enter Tryd.func58, Tryd.ntmps58
          go_wp2_with (first | (go_at_call 48; ((with_reducible refine (c0 _).mono ?_); rintro e w' ⟨rfl, rfl⟩)) | (go_at_call 67; ((with_reducible refine (c1 _).mono ?_); rintro e w' ⟨rfl, rfl⟩)) | (go_at_call 68; ((with_reducible refine (c2 _).mono ?_); rintro e w' ⟨rfl, rfl⟩)))
          go_ret2
          exact ⟨rfl, rfl⟩
    | false =>
      obtain ⟨rfl, rfl⟩ := e4 hp rfl
      have hv : 0 ≤ (val b : Int) := by omega
      clear e1 e2 e3 e4 hp hall ht
      generalize (val b : Int) = z at *
      cases hf : fitB (-z) with
      | true =>
        have hb := of_decide_eq_true (show decide _ = true from hf)
        rw [(fit_yes hb).1, hf] at c2
        have c3 := fun (w : World) => neg_any (-z) hb.1 hb.2 w
        rw [Int.neg_neg] at c3
        clear hf hb
        have hx := fit_zero z
        generalize -z = z' at *
        generalize fitV z = x at *
        generalize fitB z = y at *
        cases y
        all_goals
          try (obtain rfl := hx rfl)
          clear hx
          go_enter Tryd.func58, Tryd.ntmps58
          go_wp2_with (first | (go_at_call 48; ((with_reducible refine (c0 _).mono ?_); rintro e w' ⟨rfl, rfl⟩)) | (go_at_call 67; ((with_reducible refine (c1 _).mono ?_); rintro e w' ⟨rfl, rfl⟩)) | (go_at_call 68; ((with_reducible refine (c2 _).mono ?_); rintro e w' ⟨rfl, rfl⟩)) | (go_at_call 69; ((with_reducible refine (c3 _).mono ?_); rintro e w' ⟨rfl, rfl⟩)))
          go_ret2
          exact ⟨rfl, rfl⟩
      | false =>
        have hn := of_decide_eq_false (show decide _ = false from hf)
        obtain ⟨z1, z2⟩ := fit_no hn
        have hn2 : ¬(-9223372036854775808 ≤ z ∧ z ≤ 9223372036854775807) := by omega
        obtain ⟨z3, z4⟩ := fit_no hn2
        rw [z1, z2] at c2
        rw [z3, z4]
        clear hf hn z1 z2 hn2 z3 z4 hv
        go_enter Tryd.func58, Tryd.ntmps58
        go_wp2_with (first | (go_at_call 48; ((with_reducible refine (c0 _).mono ?_); rintro e w' ⟨rfl, rfl⟩)) | (go_at_call 67; ((with_reducible refine (c1 _).mono ?_); rintro e w' ⟨rfl, rfl⟩)) | (go_at_call 68; ((with_reducible refine (c2 _).mono ?_); rintro e w' ⟨rfl, rfl⟩)))
        go_ret2
        exact ⟨rfl, rfl⟩
/-- the library's table reads as it was laid, in every world that has grown since W -/
def Tab (W : World) : Prop := Lib.TabBelow Tryd.prog W.heap.size W "internal/strconv.uint64pow10" .u64 Lib.pow10Tab
theorem text_any {W : World} (HT : Tab W) (n : Int) (n0 : -9223372036854775808 ≤ n) (n1 : n ≤ 9223372036854775807) (w : World) (hw : Below W.heap.size W w) :
    Calls Tryd.prog 33 #[.int .i64 n] w fun e w' => e = .returned (.string (BA (Lib.itoa n))) ∧ Below W.heap.size W w' := by
  have c1 : Calls Tryd.prog 44 #[.int .i64 n, .int .i64 10] w fun e w' => e = .returned (.string (BA (Lib.itoa n))) ∧ Below W.heap.size W w' := by
    refine (Tryd.strconv_FormatInt_10 n n0 n1 w (HT w hw)).mono fun e w' ⟨h, k, os, hk⟩ => ⟨h, ?_⟩
    rw [hk]
    exact hw.trans (Lib.below_grow _ w hw.size k os)
  clear HT
  go_enter Tryd.func33, Tryd.ntmps33
  go_wp2_with (go_at_call 44; ((with_reducible refine c1.mono ?_); rintro e w' ⟨rfl, hw'⟩))
  go_ret
  exact ⟨rfl, hw'⟩
end Go.Proofs.YthchjceibpcgbaaDoor.Dig
