/-
  What is proved: what the document's own answers for Nat and Part return; and that the statements' examples hold.
-/
import Derived.Test.YtjokaibkhlnfcaaDoorDigT
namespace Go.Proofs.YtjokaibkhlnfcaaDoor.Dig
open Go.RowKit
set_option linter.unusedVariables false
set_option linter.unusedSimpArgs false

theorem rnat_any (s : ByteArray) (m : Int) (w : World) (hs : s.size ≤ 9223372036854775807) (m0 : -9223372036854775808 ≤ m) (m1 : m ≤ 9223372036854775807) :
    Calls Tryd.prog 14 #[.string s, .int .i64 m] w fun e w' => e = .returned (.tuple #[.int .i64 (ntV s.data.toList m), .int .i64 (ntE s.data.toList m)]) ∧ w = w' := by
  have c1 := fun (w : World) => rread_any s w hs
  have hb := rdV_bd s.data.toList
  rcases rdE_cases s.data.toList with h | h | h
  · have e1 := fun x => @nt_out s.data.toList m h x
    have e2 := fun x => @nt_in s.data.toList m h x
    rw [h] at c1
    clear h
    generalize ntV s.data.toList m = v' at *
    generalize ntE s.data.toList m = e' at *
    generalize rdV s.data.toList = v at *
    obtain ⟨v0, v1⟩ := hb
    by_cases h1 : v < 0
    · obtain ⟨rfl, rfl⟩ := e1 (Or.inl h1)
      clear e1 e2
      go_enter Tryd.func14, Tryd.ntmps14
      go_wp2_with (go_at_call 12; ((with_reducible refine (c1 _).mono ?_); rintro e w' ⟨rfl, rfl⟩))
      go_ret2
      exact ⟨rfl, rfl⟩
    · by_cases h2 : m < v
      · obtain ⟨rfl, rfl⟩ := e1 (Or.inr h2)
        clear e1 e2
        go_enter Tryd.func14, Tryd.ntmps14
        go_wp2_with (go_at_call 12; ((with_reducible refine (c1 _).mono ?_); rintro e w' ⟨rfl, rfl⟩))
        go_ret2
        exact ⟨rfl, rfl⟩
      · obtain ⟨e3, rfl⟩ := e2 (by omega)
        rw [e3]
        clear e3
        have h3 : 0 ≤ v := by omega
        have h4 : v ≤ m := by omega
        clear h1 h2 e1 e2
        go_enter Tryd.func14, Tryd.ntmps14
        go_wp2_with (go_at_call 12; ((with_reducible refine (c1 _).mono ?_); rintro e w' ⟨rfl, rfl⟩))
        go_ret2
        exact ⟨rfl, rfl⟩
  all_goals
    obtain ⟨e1, e2⟩ := @nt_err s.data.toList m (by omega)
    rw [e1, e2, h]
    rw [h] at c1
    clear h e1 e2
    generalize rdV s.data.toList = v at *
    obtain ⟨v0, v1⟩ := hb
    go_enter Tryd.func14, Tryd.ntmps14
    go_wp2_with (go_at_call 12; ((with_reducible refine (c1 _).mono ?_); rintro e w' ⟨rfl, rfl⟩))
    go_ret2
    exact ⟨rfl, rfl⟩

set_option maxHeartbeats 1000000 in
theorem rpart_any (s : ByteArray) (w : World) (hs : s.size ≤ 9223372036854775807) :
    Calls Tryd.prog 16 #[.string s] w fun e w' => e = .returned (.tuple #[.string (BA (ptL s.data.toList)), .int .i64 (ptN s.data.toList), .bool (ptK s.data.toList)]) ∧ w = w' := by
  have hsmall : ∀ k, k + 10 < s.size → gd (s.data.toList.drop k) = false := by
    intro k hk
    apply Bool.eq_false_iff.2
    intro hg
    have := (gd_len hg).1
    rw [List.length_drop, len_list] at this
    omega
  have Hsome : ∀ k, k < s.size → gd (s.data.toList.drop k) = true → (∀ j, j < k → gd (s.data.toList.drop j) = false) → cutAt s.data.toList = some k :=
    fun k hk h1 h2 => cut_some (by rw [len_list]; exact hk) h1 h2
  have Hnone : (∀ j, j < s.size → gd (s.data.toList.drop j) = false) → cutAt s.data.toList = none := fun h => cut_none (by rw [len_list]; exact h)
  have hc : ∀ k, k < s.size → ∀ w, Calls Tryd.prog 12 #[.string (s.extract k s.size)] w fun e w' => e = .returned (.tuple #[.int .i64 (rdV (s.data.toList.drop k)), .int .i64 (rdE (s.data.toList.drop k))]) ∧ w = w' := by
    intro k hk w
    have := rread_any (s.extract k s.size) w (by rw [ByteArray.size_extract]; omega)
    rw [Lib.extract_to_end] at this
    exact this
  have hself := BA_of s
  have hz := fun h => @pt_zero s.data.toList h
  have hp := fun i h1 h2 => @pt_some s.data.toList i h1 h2
  have htk := fun k => BA_take s k
  generalize hL : s.data.toList = L at *
  clear hL
  generalize ptL L = x at *
  generalize ptN L = y at *
  generalize ptK L = z at *
  have HP := Lib.hid hp
  have HT := Lib.hid htk
  have HZ := Lib.hid hz
  have HS := Lib.hid hself
  have HC := Lib.hid hc
  have H1 := Lib.hid hsmall
  have H2 := Lib.hid Hsome
  have H3 := Lib.hid Hnone
  clear hp htk hz hself hc hsmall Hsome Hnone
  go_enter Tryd.func16, Tryd.ntmps16
  go_wp2
  go_loop [5] (fun i => ∃ k : Nat, k ≤ s.size ∧ i = .int .i64 k ∧ Hid (∀ j, j < k → gd (L.drop j) = false)) (fun i => s.size - (intOf i).toNat)
  case atStart => exact ⟨0, by omega, rfl, fun j hj => absurd hj (by omega)⟩
  case round =>
    obtain ⟨k, hk, rfl, hno⟩ := hrel
    by_cases hlt : k < s.size
    · have hc := HC.out k hlt
      cases hg : gd (L.drop k) with
      | false =>
        have hno2 : Hid (∀ j, j < k + 1 → gd (L.drop j) = false) := fun j hj => by
          by_cases e : j = k
          · rw [e]; exact hg
          · exact hno.out j (by omega)
        have hv : ¬(rdE (L.drop k) = 0 ∧ 1 ≤ rdV (L.drop k) ∧ rdV (L.drop k) ≤ 2147483647) := of_decide_eq_false (show decide _ = false from hg)
        have hcs := rdE_cases (L.drop k)
        clear hno hg
        generalize rdV (L.drop k) = v at *
        generalize rdE (L.drop k) = e at *
        rcases hcs with rfl | rfl | rfl
        · have hv2 : v < 1 ∨ 2147483647 < v := by omega
          clear hv
          rcases hv2 with hv2 | hv2
          all_goals
            go_wp2_with (go_at_call 12; ((with_reducible refine (hc _).mono ?_); rintro e w' ⟨rfl, rfl⟩))
            go_round
            case rel => exact ⟨k + 1, by omega, by go_num, hno2⟩
            case measure => simp [intOf]; omega
        all_goals
          clear hv
          go_wp2_with (go_at_call 12; ((with_reducible refine (hc _).mono ?_); rintro e w' ⟨rfl, rfl⟩))
          go_round
          case rel => exact ⟨k + 1, by omega, by go_num, hno2⟩
          case measure => simp [intOf]; omega
      | true =>
        obtain ⟨g1, g2, g3⟩ := of_decide_eq_true (show decide _ = true from hg)
        have hcut := H2.out k hlt hg hno.out
        rw [g1] at hc
        clear g1 hg hno
        by_cases h0 : k = 0
        · subst h0
          obtain ⟨e1, e2, e3⟩ := HZ.out (Or.inl hcut)
          have E1 := Lib.hid e1
          have E2 := Lib.hid e2
          have E3 := Lib.hid e3
          clear hcut e1 e2 e3
          have hc1 := fun w => hc w
          rw [ByteArray.extract_zero_size] at hc1
          generalize rdV (L.drop 0) = v at *
          clear hc
          have hc := fun w => hc1 w
          go_wp2_with (go_at_call 12; ((with_reducible refine (hc _).mono ?_); rintro e w' ⟨rfl, rfl⟩))
          go_ret3
          exact ⟨triple ⟨by rw [E1.out]; exact HS.out, E2.out, E3.out⟩, rfl⟩
        · obtain ⟨e1, e2, e3⟩ := HP.out k hcut h0
          have E1 := Lib.hid e1
          have E2 := Lib.hid e2
          have E3 := Lib.hid e3
          clear e1 e3
          have h1 : ((k : Int) == 0) = false := beq_no' (by omega)
          have h2 : 0 < k := by omega
          clear hcut e2
          generalize rdV (L.drop k) = v at *
          go_wp2_with (go_at_call 12; ((with_reducible refine (hc _).mono ?_); rintro e w' ⟨rfl, rfl⟩))
          go_ret3
          exact ⟨triple ⟨by rw [E1.out]; exact HT.out k, by rw [E2.out], E3.out⟩, rfl⟩
    · have hkk : k = s.size := by omega
      subst hkk
      obtain ⟨e1, e2, e3⟩ := HZ.out (Or.inr (H3.out hno.out))
      have E1 := Lib.hid e1
      have E2 := Lib.hid e2
      have E3 := Lib.hid e3
      clear hno e1 e2 e3
      go_wp2
      go_ret3
      exact ⟨triple ⟨by rw [E1.out]; exact HS.out, E2.out, E3.out⟩, rfl⟩

theorem alive_any {W : World} (HT : Tab W) (w : World) (hw : Below W.heap.size W w) :
    Calls Tryd.prog 10 #[] w fun e w' => e = .returned (.bool true) ∧ Below W.heap.size W w' := by
  have c1 := fun w => read_any ⟨#[48, 48, 55]⟩ w (by decide)
  rw [show rdV (ByteArray.mk #[48, 48, 55]).data.toList = 0 by decide, show rdE (ByteArray.mk #[48, 48, 55]).data.toList = 7 by decide] at c1
  have c2 := fun w => read_any ⟨#[57, 50, 50, 51, 51, 55, 50, 48, 51, 54, 56, 53, 52, 55, 55, 53, 56, 48, 56]⟩ w (by decide)
  rw [show rdV (ByteArray.mk #[57, 50, 50, 51, 51, 55, 50, 48, 51, 54, 56, 53, 52, 55, 55, 53, 56, 48, 56]).data.toList = 0 by decide, show rdE (ByteArray.mk #[57, 50, 50, 51, 51, 55, 50, 48, 51, 54, 56, 53, 52, 55, 55, 53, 56, 48, 56]).data.toList = 5 by decide] at c2
  have c3 := fun w => part_any ⟨#[104, 49, 50]⟩ w (by decide)
  rw [show ptL (ByteArray.mk #[104, 49, 50]).data.toList = [104] by decide, show ptN (ByteArray.mk #[104, 49, 50]).data.toList = 12 by decide, show ptK (ByteArray.mk #[104, 49, 50]).data.toList = true by decide] at c3
  have c4 := text_any HT (-70) (by omega) (by omega)
  rw [show Lib.itoa (-70) = [45, 55, 48] by rw [itoa_neg (by omega)]; show 45 :: Lib.decDigits 70 = _; rw [Lib.decDigits_two (by decide) (by decide)]; decide] at c4
  rw [show BA [104] = ⟨#[104]⟩ from rfl] at c3
  rw [show BA [45, 55, 48] = ⟨#[45, 55, 48]⟩ from rfl] at c4
  clear HT
  go_enter Tryd.func10, Tryd.ntmps10
  go_wp2_with (first | (go_at_call 11; (first | (with_reducible refine (c1 _).mono ?_) | (with_reducible refine (c2 _).mono ?_)); rintro e w' ⟨rfl, rfl⟩) | (go_at_call 15; ((with_reducible refine (c3 _).mono ?_); rintro e w' ⟨rfl, rfl⟩)) | (go_at_call 8; ((with_reducible refine (c4 _ (by assumption)).mono ?_); rintro e w' ⟨rfl, hw'⟩)))
  go_ret
  exact ⟨rfl, hw'⟩
end Go.Proofs.YtjokaibkhlnfcaaDoor.Dig
