/-
  What is proved: the five statements of layer 2, as Go functions, return true at any input of their types, if the library's table reads as it was laid; and nothing that was there is written.
-/
import Derived.Test.YtjokaibkhlnfcaaDoorDigU
namespace Go.Proofs.YtjokaibkhlnfcaaDoor.Dig
open Go.RowKit
set_option linter.unusedVariables false
set_option linter.unusedSimpArgs false

theorem rtext_at (n : Int) (n0 : -9223372036854775808 ≤ n) (n1 : n ≤ 9223372036854775807) {W : World} (w : World) (hw : Below W.heap.size W w) :
    Calls Tryd.prog 9 #[.int .i64 n] w fun e w' => e = .returned (.string (BA (Lib.itoa n))) ∧ Below W.heap.size W w' :=
  (rtext_any n n0 n1 w).mono fun e w' h => ⟨h.1, bel_trans hw h.2⟩
theorem rindex_at (s : ByteArray) (n : Int) (hs : s.size ≤ 300) (n0 : -9223372036854775808 ≤ n) (n1 : n ≤ 9223372036854775807) {W : World} (w : World) (hw : Below W.heap.size W w) :
    Calls Tryd.prog 18 #[.string s, .int .i64 n] w fun e w' => e = .returned (.string (BA (ixL s.data.toList n))) ∧ Below W.heap.size W w' :=
  (rindex_any s n hs n0 n1 w).mono fun e w' h => ⟨h.1, bel_trans hw h.2⟩

theorem texts_walk (n : Int) (W : World) (n0 : -9223372036854775808 ≤ n) (n1 : n ≤ 9223372036854775807) (HT : Tab W) :
    Calls Tryd.prog 3 #[.int .i64 n] W fun e w' => e = .returned (.bool true) ∧ Below W.heap.size W w' := by
  have c1 := text_any HT n n0 n1
  have c2 := fun w hw => rtext_at n n0 n1 (W := W) w hw
  have c3 := alive_any HT
  have h0 := Below.refl W.heap.size W
  generalize BA (Lib.itoa n) = t at *
  clear HT
  go_enter Tryd.func3, Tryd.ntmps3
  go_wp2_with (first | (go_at_call 8; ((with_reducible refine (c1 _ (by assumption)).mono ?_); rintro e w1 ⟨rfl, hw1⟩)) | (go_at_call 9; ((with_reducible refine (c2 _ (by assumption)).mono ?_); rintro e w2 ⟨rfl, hw2⟩)) | (go_at_call 10; ((with_reducible refine (c3 _ (by assumption)).mono ?_); rintro e w3 ⟨rfl, hw3⟩)))
  go_ret
  exact ⟨rfl, hw3⟩

theorem reads_walk (s : ByteArray) (m : Int) (W : World) (hs : s.size ≤ 9223372036854775807) (m0 : -9223372036854775808 ≤ m) (m1 : m ≤ 9223372036854775807) (HT : Tab W) :
    Calls Tryd.prog 4 #[.string s, .int .i64 m] W fun e w' => e = .returned (.bool true) ∧ Below W.heap.size W w' := by
  have c1 := fun w => read_any s w hs
  have c2 := fun w => rread_any s w hs
  have c3 := fun w => nat_any s m w hs m0 m1
  have c4 := fun w => rnat_any s m w hs m0 m1
  have c5 := alive_any HT
  have h0 := Below.refl W.heap.size W
  generalize rdV s.data.toList = x1 at *
  generalize rdE s.data.toList = x2 at *
  generalize ntV s.data.toList m = x3 at *
  generalize ntE s.data.toList m = x4 at *
  clear HT
  by_cases h300 : (s.size : Int) ≤ 300
  all_goals
    have h301 := h300
    try (have h302 : 300 < (s.size : Int) := by omega)
    try clear h300
    go_enter Tryd.func4, Tryd.ntmps4
    go_wp2_with (first | (go_at_call 11; ((with_reducible refine (c1 _).mono ?_); rintro e w1 ⟨rfl, rfl⟩)) | (go_at_call 12; ((with_reducible refine (c2 _).mono ?_); rintro e w1 ⟨rfl, rfl⟩)) | (go_at_call 13; ((with_reducible refine (c3 _).mono ?_); rintro e w1 ⟨rfl, rfl⟩)) | (go_at_call 14; ((with_reducible refine (c4 _).mono ?_); rintro e w1 ⟨rfl, rfl⟩)) | (go_at_call 10; ((with_reducible refine (c5 _ (by assumption)).mono ?_); rintro e w3 ⟨rfl, hw3⟩)))
    go_ret
    exact ⟨rfl, hw3⟩

theorem parts_walk (s : ByteArray) (n : Int) (W : World) (hs : s.size ≤ 9223372036854775807) (n0 : -9223372036854775808 ≤ n) (n1 : n ≤ 9223372036854775807) (HT : Tab W) :
    Calls Tryd.prog 5 #[.string s, .int .i64 n] W fun e w' => e = .returned (.bool true) ∧ Below W.heap.size W w' := by
  have c5 := alive_any HT
  have h0 := Below.refl W.heap.size W
  by_cases h300 : s.size ≤ 300
  · have c1 := fun w => part_any s w hs
    have c2 := fun w => rpart_any s w hs
    have c3 := index_any HT s n h300 n0 n1
    have c4 := fun w hw => rindex_at s n h300 n0 n1 (W := W) w hw
    have h1 : (s.size : Int) ≤ 300 := by omega
    clear h300
    generalize BA (ptL s.data.toList) = x1 at *
    generalize ptN s.data.toList = x2 at *
    generalize ptK s.data.toList = x3 at *
    generalize BA (ixL s.data.toList n) = x4 at *
    clear HT
    go_enter Tryd.func5, Tryd.ntmps5
    go_wp2_with (first | (go_at_call 15; ((with_reducible refine (c1 _).mono ?_); rintro e w1 ⟨rfl, rfl⟩)) | (go_at_call 16; ((with_reducible refine (c2 _).mono ?_); rintro e w1 ⟨rfl, rfl⟩)) | (go_at_call 17; ((with_reducible refine (c3 _ (by assumption)).mono ?_); rintro e w1 ⟨rfl, hw1⟩)) | (go_at_call 18; ((with_reducible refine (c4 _ (by assumption)).mono ?_); rintro e w2 ⟨rfl, hw2⟩)) | (go_at_call 10; ((with_reducible refine (c5 _ (by assumption)).mono ?_); rintro e w3 ⟨rfl, hw3⟩)))
    go_ret
    exact ⟨rfl, hw3⟩
  · have h1 : 300 < (s.size : Int) := by omega
    clear HT h300
    go_enter Tryd.func5, Tryd.ntmps5
    go_wp2_with (go_at_call 10; ((with_reducible refine (c5 _ (by assumption)).mono ?_); rintro e w3 ⟨rfl, hw3⟩))
    go_ret
    exact ⟨rfl, hw3⟩

theorem BA_ne {a b : List UInt8} (h : a ≠ b) : ((BA a).toList == (BA b).toList) = false ∧ ((BA a).toList = (BA b).toList) = False := by
  rw [BA_toList, BA_toList]; simp [h]

set_option maxHeartbeats 1000000 in
theorem back_walk (a b : Int) (s : ByteArray) (W : World) (a0 : -9223372036854775808 ≤ a) (a1 : a ≤ 9223372036854775807) (b0 : -9223372036854775808 ≤ b) (b1 : b ≤ 9223372036854775807) (hs : s.size ≤ 9223372036854775807) (HT : Tab W) :
    Calls Tryd.prog 6 #[.int .i64 a, .int .i64 b, .string s] W fun e w' => e = .returned (.bool true) ∧ Below W.heap.size W w' := by
  have c5 := alive_any HT
  have h0 := Below.refl W.heap.size W
  by_cases h300 : s.size ≤ 300
  · have h1 : (s.size : Int) ≤ 300 := by omega
    have c1 := text_any HT a a0 a1
    have c2 := text_any HT b b0 b1
    have c3 := fun w => read_any (BA (Lib.itoa a)) w (by rw [BA_size]; have := itoa_len a0 a1; omega)
    rw [BA_list, (rd_itoa a0 a1).1, (rd_itoa a0 a1).2] at c3
    have c4 := fun w => read_any s w hs
    have hbd := rdV_bd s.data.toList
    have hrt : rdE s.data.toList = 0 → BA (Lib.itoa (rdV s.data.toList)) = s := fun h => by rw [itoa_rd h]; exact BA_of s
    have c6 := text_any HT (rdV s.data.toList) hbd.1 hbd.2
    have hcs := rdE_cases s.data.toList
    have hne : a ≠ b → ((BA (Lib.itoa a)).toList == (BA (Lib.itoa b)).toList) = false ∧ ((BA (Lib.itoa a)).toList = (BA (Lib.itoa b)).toList) = False := fun h => BA_ne (fun e => h (itoa_inj e))
    clear h300 hbd
    generalize rdE s.data.toList = e at *
    generalize BA (Lib.itoa (rdV s.data.toList)) = u at *
    generalize rdV s.data.toList = v at *
    generalize BA (Lib.itoa a) = ta at *
    clear HT
    by_cases hab : a = b
    · subst hab
      clear hne c2
      rcases hcs with rfl | rfl | rfl
      · obtain rfl := hrt rfl
        clear hrt
        go_enter Tryd.func6, Tryd.ntmps6
        go_wp2_with (first | (go_at_call 11; (first | (with_reducible refine (c3 _).mono ?_) | (with_reducible refine (c4 _).mono ?_)); rintro e w1 ⟨rfl, rfl⟩) | (go_at_call 8; (first | (with_reducible refine (c1 _ (by assumption)).mono ?_) | (with_reducible refine (c6 _ (by assumption)).mono ?_)); rintro e w1 ⟨rfl, hw1⟩) | (go_at_call 10; ((with_reducible refine (c5 _ (by assumption)).mono ?_); rintro e w3 ⟨rfl, hw3⟩)))
        go_ret
        exact ⟨rfl, hw3⟩
      all_goals
        clear hrt
        go_enter Tryd.func6, Tryd.ntmps6
        go_wp2_with (first | (go_at_call 11; (first | (with_reducible refine (c3 _).mono ?_) | (with_reducible refine (c4 _).mono ?_)); rintro e w1 ⟨rfl, rfl⟩) | (go_at_call 8; (first | (with_reducible refine (c1 _ (by assumption)).mono ?_)); rintro e w1 ⟨rfl, hw1⟩) | (go_at_call 10; ((with_reducible refine (c5 _ (by assumption)).mono ?_); rintro e w3 ⟨rfl, hw3⟩)))
        go_ret
        exact ⟨rfl, hw3⟩
    · obtain ⟨n1, n2⟩ := hne hab
      generalize BA (Lib.itoa b) = tb at *
      have n3 : (a == b) = false := by simp [hab]
      have n4 : (a = b) = False := by simp [hab]
      clear hne hab
      rcases hcs with rfl | rfl | rfl
      · obtain rfl := hrt rfl
        clear hrt
        go_enter Tryd.func6, Tryd.ntmps6
        go_wp2_with (first | (go_at_call 11; (first | (with_reducible refine (c3 _).mono ?_) | (with_reducible refine (c4 _).mono ?_)); rintro e w1 ⟨rfl, rfl⟩) | (go_at_call 8; (first | (with_reducible refine (c1 _ (by assumption)).mono ?_) | (with_reducible refine (c2 _ (by assumption)).mono ?_) | (with_reducible refine (c6 _ (by assumption)).mono ?_)); rintro e w1 ⟨rfl, hw1⟩) | (go_at_call 10; ((with_reducible refine (c5 _ (by assumption)).mono ?_); rintro e w3 ⟨rfl, hw3⟩)))
        go_ret
        exact ⟨rfl, hw3⟩
      all_goals
        clear hrt
        go_enter Tryd.func6, Tryd.ntmps6
        go_wp2_with (first | (go_at_call 11; (first | (with_reducible refine (c3 _).mono ?_) | (with_reducible refine (c4 _).mono ?_)); rintro e w1 ⟨rfl, rfl⟩) | (go_at_call 8; (first | (with_reducible refine (c1 _ (by assumption)).mono ?_) | (with_reducible refine (c2 _ (by assumption)).mono ?_)); rintro e w1 ⟨rfl, hw1⟩) | (go_at_call 10; ((with_reducible refine (c5 _ (by assumption)).mono ?_); rintro e w3 ⟨rfl, hw3⟩)))
        go_ret
        exact ⟨rfl, hw3⟩
  · have h1 : 300 < (s.size : Int) := by omega
    clear HT h300
    go_enter Tryd.func6, Tryd.ntmps6
    go_wp2_with (go_at_call 10; ((with_reducible refine (c5 _ (by assumption)).mono ?_); rintro e w3 ⟨rfl, hw3⟩))
    go_ret
    exact ⟨rfl, hw3⟩
end Go.Proofs.YtjokaibkhlnfcaaDoor.Dig
