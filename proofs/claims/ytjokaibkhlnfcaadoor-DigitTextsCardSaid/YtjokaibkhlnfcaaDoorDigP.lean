/-
  What is proved: what Nat, Text, Index and Part of package digit return.
-/
import Derived.Test.YtjokaibkhlnfcaaDoorDigB
import Derived.Lib.IndexBytes
namespace Go.Proofs.YtjokaibkhlnfcaaDoor.Dig
open Go.RowKit
set_option linter.unusedVariables false
set_option linter.unusedSimpArgs false

theorem nt_out {l : List UInt8} {m : Int} (h : rdE l = 0) (h1 : rdV l < 0 ∨ m < rdV l) : ntV l m = 0 ∧ ntE l m = 5 := by
  unfold ntV ntE; rw [if_pos h, if_pos h1]; exact ⟨rfl, rfl⟩
theorem nt_in {l : List UInt8} {m : Int} (h : rdE l = 0) (h1 : ¬(rdV l < 0 ∨ m < rdV l)) : ntV l m = rdV l ∧ ntE l m = 0 := by
  unfold ntV ntE; rw [if_pos h, if_neg h1]; exact ⟨rfl, rfl⟩
theorem nt_err {l : List UInt8} {m : Int} (h : rdE l ≠ 0) : ntV l m = 0 ∧ ntE l m = rdE l := by
  unfold ntV ntE; rw [if_neg h, if_neg h]; exact ⟨rfl, rfl⟩
theorem nat_any (s : ByteArray) (m : Int) (w : World) (hs : s.size ≤ 9223372036854775807) (m0 : -9223372036854775808 ≤ m) (m1 : m ≤ 9223372036854775807) :
    Calls Tryd.prog 13 #[.string s, .int .i64 m] w fun e w' => e = .returned (.tuple #[.int .i64 (ntV s.data.toList m), .int .i64 (ntE s.data.toList m)]) ∧ w = w' := by
  have c1 := fun (w : World) => read_any s w hs
  have hb := rdV_bd s.data.toList
  rcases rdE_cases s.data.toList with h | h | h
  · have e1 := fun x => @nt_out s.data.toList m h x
    have e2 := fun x => @nt_in s.data.toList m h x
    rw [h] at c1
    clear h
    generalize ntV s.data.toList m = v' at *
    generalize ntE s.data.toList m = e' at *
    generalize rdV s.data.toList = v at *
    obtain ⟨v0, v1⟩ := hb
    by_cases h1 : v < 0
    · obtain ⟨rfl, rfl⟩ := e1 (Or.inl h1)
      clear e1 e2
      go_enter Tryd.func13, Tryd.ntmps13
      go_wp2_with (go_at_call 11; ((with_reducible refine (c1 _).mono ?_); rintro e w' ⟨rfl, rfl⟩))
      go_ret2
      exact ⟨rfl, rfl⟩
    · by_cases h2 : m < v
      · obtain ⟨rfl, rfl⟩ := e1 (Or.inr h2)
        clear e1 e2
        go_enter Tryd.func13, Tryd.ntmps13
        go_wp2_with (go_at_call 11; ((with_reducible refine (c1 _).mono ?_); rintro e w' ⟨rfl, rfl⟩))
        go_ret2
        exact ⟨rfl, rfl⟩
      · obtain ⟨e3, rfl⟩ := e2 (by omega)
        rw [e3]
        clear e3
        have h3 : 0 ≤ v := by omega
        have h4 : v ≤ m := by omega
        clear h1 h2 e1 e2
        go_enter Tryd.func13, Tryd.ntmps13
        go_wp2_with (go_at_call 11; ((with_reducible refine (c1 _).mono ?_); rintro e w' ⟨rfl, rfl⟩))
        go_ret2
        exact ⟨rfl, rfl⟩
  all_goals
    obtain ⟨e1, e2⟩ := @nt_err s.data.toList m (by omega)
    rw [e1, e2, h]
    rw [h] at c1
    clear h e1 e2
    generalize rdV s.data.toList = v at *
    obtain ⟨v0, v1⟩ := hb
    go_enter Tryd.func13, Tryd.ntmps13
    go_wp2_with (go_at_call 11; ((with_reducible refine (c1 _).mono ?_); rintro e w' ⟨rfl, rfl⟩))
    go_ret2
    exact ⟨rfl, rfl⟩

/-- the library's table reads as it was laid, in every world that has grown since W -/
def Tab (W : World) : Prop := Lib.TabBelow Tryd.prog W.heap.size W "internal/strconv.uint64pow10" .u64 Lib.pow10Tab

theorem text_any {W : World} (HT : Tab W) (n : Int) (n0 : -9223372036854775808 ≤ n) (n1 : n ≤ 9223372036854775807) (w : World) (hw : Below W.heap.size W w) :
    Calls Tryd.prog 8 #[.int .i64 n] w fun e w' => e = .returned (.string (BA (Lib.itoa n))) ∧ Below W.heap.size W w' := by
  have c1 : Calls Tryd.prog 19 #[.int .i64 n, .int .i64 10] w fun e w' => e = .returned (.string (BA (Lib.itoa n))) ∧ Below W.heap.size W w' := by
    refine (Tryd.strconv_FormatInt_10 n n0 n1 w (HT w hw)).mono fun e w' ⟨h, k, os, hk⟩ => ⟨h, ?_⟩
    rw [hk]
    exact hw.trans (Lib.below_grow _ w hw.size k os)
  clear HT
  go_enter Tryd.func8, Tryd.ntmps8
  go_wp2_with (go_at_call 19; ((with_reducible refine c1.mono ?_); rintro e w' ⟨rfl, hw'⟩))
  go_ret
  exact ⟨rfl, hw'⟩

theorem nDig_le (u : Nat) (h : u < 10 ^ 19) : (Lib.decDigits u).length ≤ 19 := by
  apply Classical.byContradiction
  intro hgt
  have hp := dec_plain u
  have := val_ge hp (plain_head hp (by omega))
  rw [dec_val] at this
  have h2 : 10 ^ 19 ≤ 10 ^ ((Lib.decDigits u).length - 1) := Nat.pow_le_pow_right (by decide) (by omega)
  omega
theorem itoa_len {n : Int} (n0 : -9223372036854775808 ≤ n) (n1 : n ≤ 9223372036854775807) : (Lib.itoa n).length ≤ 20 := by
  by_cases h : n < 0
  · rw [itoa_neg h]
    have := nDig_le n.natAbs (by omega)
    simp; omega
  · rw [itoa_pos (by omega)]
    have := nDig_le n.toNat (by omega)
    omega
theorem BA_app (s : ByteArray) (b : List UInt8) : s ++ BA b = BA (s.data.toList ++ b) := by
  apply ByteArray.ext; simp [BA]

theorem index_any {W : World} (HT : Tab W) (s : ByteArray) (n : Int) (hs : s.size ≤ 300) (n0 : -9223372036854775808 ≤ n) (n1 : n ≤ 9223372036854775807) (w : World) (hw : Below W.heap.size W w) :
    Calls Tryd.prog 17 #[.string s, .int .i64 n] w fun e w' => e = .returned (.string (BA (ixL s.data.toList n))) ∧ Below W.heap.size W w' := by
  have c1 := text_any HT n n0 n1
  unfold ixL
  clear HT
  by_cases h : n ≤ 0
  · rw [if_pos h]
    go_enter Tryd.func17, Tryd.ntmps17
    go_wp2
    go_ret
    exact ⟨rfl, hw⟩
  · rw [if_neg h, ← BA_app]
    have h3 : 0 < n := by omega
    have hl : (BA (Lib.itoa n)).size ≤ 20 := by rw [BA_size]; exact itoa_len n0 n1
    clear h
    generalize BA (Lib.itoa n) = t at *
    go_enter Tryd.func17, Tryd.ntmps17
    go_wp2_with (go_at_call 8; ((with_reducible refine (c1 _ (by assumption)).mono ?_); rintro e w' ⟨rfl, hw'⟩))
    go_ret
    exact ⟨rfl, hw'⟩

theorem gd_iff (l : List UInt8) : gd l = true ↔ (ntE l 2147483647 = 0 ∧ ntV l 2147483647 ≠ 0) := by
  unfold gd
  rw [decide_eq_true_iff]
  by_cases h : rdE l = 0
  · by_cases h1 : rdV l < 0 ∨ 2147483647 < rdV l
    · obtain ⟨a, b⟩ := nt_out h h1
      rw [a, b]; omega
    · obtain ⟨a, b⟩ := nt_in h h1
      rw [a, b]; omega
  · obtain ⟨a, b⟩ := nt_err (m := 2147483647) h
    rw [a, b]; omega
theorem gd_val {l : List UInt8} (h : gd l = true) : ntV l 2147483647 = rdV l := by
  obtain ⟨h1, h2, h3⟩ := of_decide_eq_true (show decide _ = true from h)
  exact (nt_in h1 (by omega)).1
theorem nt_cases (l : List UInt8) (m : Int) : ntE l m = 0 ∨ ntE l m = 5 ∨ ntE l m = 7 := by
  by_cases h : rdE l = 0
  · by_cases h1 : rdV l < 0 ∨ m < rdV l
    · exact Or.inr (Or.inl (nt_out h h1).2)
    · exact Or.inl (nt_in h h1).2
  · rw [(nt_err h).2]; exact rdE_cases l
theorem triple {a b : ByteArray} {m n : Int} {p q : Bool} (h : b = a ∧ n = m ∧ q = p) : Ending.returned (.tuple #[.string a, .int .i64 m, .bool p]) = .returned (.tuple #[.string b, .int .i64 n, .bool q]) := by
  obtain ⟨rfl, rfl, rfl⟩ := h; rfl
theorem BA_take (s : ByteArray) (k : Nat) : BA (s.data.toList.take k) = s.extract 0 k := by
  apply ByteArray.ext; apply Array.ext'
  show s.data.toList.take k = (s.extract 0 k).data.toList
  rw [Lib.extract_data]; simp

set_option maxHeartbeats 1000000 in
theorem part_any (s : ByteArray) (w : World) (hs : s.size ≤ 9223372036854775807) :
    Calls Tryd.prog 15 #[.string s] w fun e w' => e = .returned (.tuple #[.string (BA (ptL s.data.toList)), .int .i64 (ptN s.data.toList), .bool (ptK s.data.toList)]) ∧ w = w' := by
  have hsmall : ∀ k, k + 10 < s.size → gd (s.data.toList.drop k) = false := by
    intro k hk
    apply Bool.eq_false_iff.2
    intro hg
    have := (gd_len hg).1
    rw [List.length_drop, len_list] at this
    omega
  have Hsome : ∀ k, k < s.size → gd (s.data.toList.drop k) = true → (∀ j, j < k → gd (s.data.toList.drop j) = false) → cutAt s.data.toList = some k :=
    fun k hk h1 h2 => cut_some (by rw [len_list]; exact hk) h1 h2
  have Hnone : (∀ j, j < s.size → gd (s.data.toList.drop j) = false) → cutAt s.data.toList = none := fun h => cut_none (by rw [len_list]; exact h)
  have hc : ∀ k, k < s.size → ∀ w, Calls Tryd.prog 13 #[.string (s.extract k s.size), .int .i64 2147483647] w fun e w' => e = .returned (.tuple #[.int .i64 (ntV (s.data.toList.drop k) 2147483647), .int .i64 (ntE (s.data.toList.drop k) 2147483647)]) ∧ w = w' := by
    intro k hk w
    have := nat_any (s.extract k s.size) 2147483647 w (by rw [ByteArray.size_extract]; omega) (by omega) (by omega)
    rw [Lib.extract_to_end] at this
    exact this
  have hself := BA_of s
  have hz := fun h => @pt_zero s.data.toList h
  have hp := fun i h1 h2 => @pt_some s.data.toList i h1 h2
  have htk := fun k => BA_take s k
  have hne := fun l m => @nt_cases l m
  generalize hL : s.data.toList = L at *
  clear hL
  generalize ptL L = x at *
  generalize ptN L = y at *
  generalize ptK L = z at *
  have HP := Lib.hid hp
  have HT := Lib.hid htk
  have HZ := Lib.hid hz
  have HS := Lib.hid hself
  have HC := Lib.hid hc
  have H1 := Lib.hid hsmall
  have H2 := Lib.hid Hsome
  have H3 := Lib.hid Hnone
  have HN := Lib.hid hne
  clear hp htk hz hself hc hsmall Hsome Hnone hne
  go_enter Tryd.func15, Tryd.ntmps15
  go_wp2
  go_loop [5] (fun i => ∃ k : Nat, k ≤ s.size ∧ i = .int .i64 k ∧ Hid (∀ j, j < k → gd (L.drop j) = false)) (fun i => s.size - (intOf i).toNat)
  case atStart => exact ⟨s.size - 10, by omega, by congr 1; omega, fun j hj => H1.out j (by omega)⟩
  case round =>
    obtain ⟨k, hk, rfl, hno⟩ := hrel
    by_cases hlt : k < s.size
    · have hc := HC.out k hlt
      cases hg : gd (L.drop k) with
      | false =>
        have hno2 : Hid (∀ j, j < k + 1 → gd (L.drop j) = false) := fun j hj => by
          by_cases e : j = k
          · rw [e]; exact hg
          · exact hno.out j (by omega)
        have hv : ntE (L.drop k) 2147483647 = 0 → ntV (L.drop k) 2147483647 = 0 := by
          intro h
          apply Classical.byContradiction
          intro h2
          rw [(gd_iff _).2 ⟨h, h2⟩] at hg
          cases hg
        have hcs := HN.out (L.drop k) 2147483647
        clear hno hg
        generalize ntV (L.drop k) 2147483647 = v at *
        generalize ntE (L.drop k) 2147483647 = e at *
        rcases hcs with rfl | rfl | rfl
        · obtain rfl := hv rfl
          go_wp2_with (go_at_call 13; ((with_reducible refine (hc _).mono ?_); rintro e w' ⟨rfl, rfl⟩))
          go_round
          case rel => exact ⟨k + 1, by omega, by go_num, hno2⟩
          case measure => simp [intOf]; omega
        all_goals
          clear hv
          go_wp2_with (go_at_call 13; ((with_reducible refine (hc _).mono ?_); rintro e w' ⟨rfl, rfl⟩))
          go_round
          case rel => exact ⟨k + 1, by omega, by go_num, hno2⟩
          case measure => simp [intOf]; omega
      | true =>
        obtain ⟨g1, g2⟩ := (gd_iff _).1 hg
        have g3 := gd_val hg
        have hcut := H2.out k hlt hg hno.out
        rw [g1, g3] at hc
        rw [g3] at g2
        clear g1 g3 hg hno
        by_cases h0 : k = 0
        · subst h0
          obtain ⟨e1, e2, e3⟩ := HZ.out (Or.inl hcut)
          have E1 := Lib.hid e1
          have E2 := Lib.hid e2
          have E3 := Lib.hid e3
          clear hcut e1 e2 e3
          have g4 : (rdV (L.drop 0) == 0) = false := beq_no' g2
          have hc1 := fun w => hc w
          rw [ByteArray.extract_zero_size] at hc1
          generalize rdV (L.drop 0) = v at *
          clear hc
          have hc := fun w => hc1 w
          go_wp2_with (go_at_call 13; ((with_reducible refine (hc _).mono ?_); rintro e w' ⟨rfl, rfl⟩))
          go_ret3
          exact ⟨triple ⟨by rw [E1.out]; exact HS.out, E2.out, E3.out⟩, rfl⟩
        · obtain ⟨e1, e2, e3⟩ := HP.out k hcut h0
          have E1 := Lib.hid e1
          have E2 := Lib.hid e2
          have E3 := Lib.hid e3
          clear e1 e3
          have g4 : (rdV (L.drop k) == 0) = false := beq_no' g2
          have h1 : ((k : Int) == 0) = false := beq_no' (by omega)
          have h2 : 0 < k := by omega
          clear hcut e2
          generalize rdV (L.drop k) = v at *
          go_wp2_with (go_at_call 13; ((with_reducible refine (hc _).mono ?_); rintro e w' ⟨rfl, rfl⟩))
          go_ret3
          exact ⟨triple ⟨by rw [E1.out]; exact HT.out k, by rw [E2.out], E3.out⟩, rfl⟩
    · have hkk : k = s.size := by omega
      subst hkk
      obtain ⟨e1, e2, e3⟩ := HZ.out (Or.inr (H3.out hno.out))
      have E1 := Lib.hid e1
      have E2 := Lib.hid e2
      have E3 := Lib.hid e3
      clear hno e1 e2 e3
      go_wp2
      go_ret3
      exact ⟨triple ⟨by rw [E1.out]; exact HS.out, E2.out, E3.out⟩, rfl⟩
end Go.Proofs.YtjokaibkhlnfcaaDoor.Dig
