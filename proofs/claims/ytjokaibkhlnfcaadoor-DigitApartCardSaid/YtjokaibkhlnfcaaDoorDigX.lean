/-
  What is proved: DigitApart, as a Go function, returns true at any input of its types, if the library's table reads as it was laid.
-/
import Derived.Test.YtjokaibkhlnfcaaDoorDigW
namespace Go.Proofs.YtjokaibkhlnfcaaDoor.Dig
open Go.RowKit
set_option linter.unusedVariables false
set_option linter.unusedSimpArgs false

theorem last_cases (s : ByteArray) : (s.size = 0 ∧ s.toList = []) ∨
    (∃ h : 0 < s.size, s.toList ≠ [] ∧ 48 ≤ s[s.size - 1].toNat ∧ s[s.size - 1].toNat ≤ 57) ∨
    (∃ h : 0 < s.size, s.toList ≠ [] ∧ (s[s.size - 1].toNat < 48 ∨ 57 < s[s.size - 1].toNat) ∧ ∀ n : Int, 1 ≤ n → n ≤ 2147483647 → ptL (ixL s.data.toList n) = s.data.toList ∧ ptN (ixL s.data.toList n) = n ∧ ptK (ixL s.data.toList n) = true) := by
  by_cases h0 : s.size = 0
  · refine Or.inl ⟨h0, ?_⟩
    rw [ByteArray.toList_eq]
    exact List.length_eq_zero_iff.1 (by rw [len_list]; exact h0)
  · have hp : 0 < s.size := by omega
    have hne : s.data.toList ≠ [] := by intro e; have := len_list s; rw [e] at this; simp at this; omega
    have hne2 : s.toList ≠ [] := by rw [ByteArray.toList_eq]; exact hne
    have hl : s.data.toList.getLast hne = s[s.size - 1] := by
      rw [List.getLast_eq_getElem]
      have := at_list s (s.size - 1) (by omega)
      rw [← this]
      congr 1
    cases hd : isD s[s.size - 1] with
    | true => obtain ⟨a, b⟩ := isD_iff.1 hd; exact Or.inr (Or.inl ⟨hp, hne2, a, b⟩)
    | false =>
      refine Or.inr (Or.inr ⟨hp, hne2, ?_, fun n h1 h2 => pt_ix h1 h2 hne (by rw [hl]; exact hd)⟩)
      rcases Nat.lt_or_ge s[s.size - 1].toNat 48 with h | h
      · exact Or.inl h
      · rcases Nat.lt_or_ge 57 s[s.size - 1].toNat with h2 | h2
        · exact Or.inr h2
        · have := isD_iff.2 (And.intro h h2)
          rw [hd] at this
          cases this

theorem ix_len (l : List UInt8) {n : Int} (n0 : -9223372036854775808 ≤ n) (n1 : n ≤ 9223372036854775807) : (ixL l n).length ≤ l.length + 20 ∧ l.length ≤ (ixL l n).length := by
  unfold ixL
  split
  · omega
  · have := itoa_len n0 n1
    rw [List.length_append]; omega

set_option maxHeartbeats 4000000 in
theorem apart_walk (s : ByteArray) (n : Int) (W : World) (hs : s.size ≤ 9223372036854775807) (n0 : -9223372036854775808 ≤ n) (n1 : n ≤ 9223372036854775807) (HT : Tab W) :
    Calls Tryd.prog 7 #[.string s, .int .i64 n] W fun e w' => e = .returned (.bool true) ∧ Below W.heap.size W w' := by
  have c5 := alive_any HT
  have h0 := Below.refl W.heap.size W
  by_cases h300 : s.size ≤ 300
  · have h1 : (s.size : Int) ≤ 300 := by omega
    have c1 := fun w => part_any s w hs
    have c3 := index_any HT s n h300 n0 n1
    have c4 := fun w => part_any (BA (ixL s.data.toList n)) w (by rw [BA_size]; have := (ix_len s.data.toList n0 n1).1; rw [len_list] at this; omega)
    rw [BA_list] at c4
    have hlast := last_cases s
    have hself := BA_of s
    have hpt : (ptK s.data.toList = false ∧ BA (ptL s.data.toList) = s ∧ ptN s.data.toList = 0) ∨ (ptK s.data.toList = true ∧ (BA (ptL s.data.toList)).toList ≠ [] ∧ 1 ≤ ptN s.data.toList ∧ ptN s.data.toList ≤ 2147483647 ∧
        ∀ w, Below W.heap.size W w → Calls Tryd.prog 17 #[.string (BA (ptL s.data.toList)), .int .i64 (ptN s.data.toList)] w fun e w' => e = .returned (.string s) ∧ Below W.heap.size W w') := by
      rcases pt_cases s.data.toList with ⟨a, b, c⟩ | ⟨a, b, c, d, e⟩
      · exact Or.inl ⟨a, by rw [b]; exact hself, c⟩
      · refine Or.inr ⟨a, by rw [BA_toList]; exact b, c, d, fun w hw => ?_⟩
        have hl := (ix_len (ptL s.data.toList) (n := ptN s.data.toList) (by omega) (by omega)).2
        rw [e, len_list] at hl
        have := index_any HT (BA (ptL s.data.toList)) (ptN s.data.toList) (by rw [BA_size]; omega) (by omega) (by omega) w hw
        rw [BA_list, e] at this
        exact this
    have hown : 1 ≤ n → n ≤ 2147483647 → (∀ n : Int, 1 ≤ n → n ≤ 2147483647 → ptL (ixL s.data.toList n) = s.data.toList ∧ ptN (ixL s.data.toList n) = n ∧ ptK (ixL s.data.toList n) = true) → BA (ptL (ixL s.data.toList n)) = s ∧ ptN (ixL s.data.toList n) = n ∧ ptK (ixL s.data.toList n) = true := by
      intro h1 h2 h3
      obtain ⟨a, b, c⟩ := h3 n h1 h2
      exact ⟨by rw [a]; exact hself, b, c⟩
    have HO := Lib.hid hown
    have HL := Lib.hid hlast
    clear h300 hown hlast
    generalize BA (ptL (ixL s.data.toList n)) = y1 at *
    generalize hy2 : ptN (ixL s.data.toList n) = y2 at *
    generalize hy3 : ptK (ixL s.data.toList n) = y3 at *
    clear hself
    generalize BA (ixL s.data.toList n) = ix at *
    generalize BA (ptL s.data.toList) = x1 at *
    generalize ptN s.data.toList = x2 at *
    generalize ptK s.data.toList = x3 at *
    clear HT hy2 hy3
    rcases hpt with ⟨rfl, hx, rfl⟩ | ⟨rfl, p1, p2, p3, c2⟩
    · rw [hx] at c1
      clear hx
      rcases HL.out with ⟨z0, z1⟩ | ⟨z0, z1, z2, z3⟩ | ⟨z0, z1, z2, z3⟩
      · have z2 : s.toList.isEmpty = true := by rw [z1]; rfl
        clear z0
        go_enter Tryd.func7, Tryd.ntmps7
        go_wp2_with (first | (go_at_call 15; (first | (with_reducible refine (c1 _).mono ?_) | (with_reducible refine (c4 _).mono ?_)); rintro e w1 ⟨rfl, rfl⟩) | (go_at_call 17; (with_reducible refine (c3 _ (by assumption)).mono ?_); rintro e w1 ⟨rfl, hw1⟩) | (go_at_call 10; ((with_reducible refine (c5 _ (by assumption)).mono ?_); rintro e w3 ⟨rfl, hw3⟩)))
        go_ret
        exact ⟨rfl, hw3⟩
      · have z4 : s.toList.isEmpty = false := by simp [z1]
        have z5 : (48 : Int) ≤ (s[s.size - 1].toNat : Int) := by omega
        have z6 : (s[s.size - 1].toNat : Int) ≤ 57 := by omega
        clear z2 z3
        go_enter Tryd.func7, Tryd.ntmps7
        go_wp2_with (first | (go_at_call 15; (first | (with_reducible refine (c1 _).mono ?_) | (with_reducible refine (c4 _).mono ?_)); rintro e w1 ⟨rfl, rfl⟩) | (go_at_call 17; (with_reducible refine (c3 _ (by assumption)).mono ?_); rintro e w1 ⟨rfl, hw1⟩) | (go_at_call 10; ((with_reducible refine (c5 _ (by assumption)).mono ?_); rintro e w3 ⟨rfl, hw3⟩)))
        go_ret
        exact ⟨rfl, hw3⟩
      · have z4 : s.toList.isEmpty = false := by simp [z1]
        have z6 : (s[s.size - 1].toNat : Int) < 48 ∨ 57 < (s[s.size - 1].toNat : Int) := by omega
        by_cases k1 : n < 1
        · clear z2 z3 HO
          rcases z6 with z6 | z6
          all_goals
            go_enter Tryd.func7, Tryd.ntmps7
            go_wp2_with (first | (go_at_call 15; (first | (with_reducible refine (c1 _).mono ?_) | (with_reducible refine (c4 _).mono ?_)); rintro e w1 ⟨rfl, rfl⟩) | (go_at_call 17; (with_reducible refine (c3 _ (by assumption)).mono ?_); rintro e w1 ⟨rfl, hw1⟩) | (go_at_call 10; ((with_reducible refine (c5 _ (by assumption)).mono ?_); rintro e w3 ⟨rfl, hw3⟩)))
            go_ret
            exact ⟨rfl, hw3⟩
        · by_cases k2 : 2147483647 < n
          · have k3 : 1 ≤ n := by omega
            clear z2 z3 HO k1
            rcases z6 with z6 | z6
            all_goals
              go_enter Tryd.func7, Tryd.ntmps7
              go_wp2_with (first | (go_at_call 15; (first | (with_reducible refine (c1 _).mono ?_) | (with_reducible refine (c4 _).mono ?_)); rintro e w1 ⟨rfl, rfl⟩) | (go_at_call 17; (with_reducible refine (c3 _ (by assumption)).mono ?_); rintro e w1 ⟨rfl, hw1⟩) | (go_at_call 10; ((with_reducible refine (c5 _ (by assumption)).mono ?_); rintro e w3 ⟨rfl, hw3⟩)))
              go_ret
              exact ⟨rfl, hw3⟩
          · have k3 : 1 ≤ n := by omega
            have k4 : n ≤ 2147483647 := by omega
            obtain ⟨q1, q2, q3⟩ := HO.out k3 k4 z3
            rw [q1, q2, q3] at c4
            clear z2 z3 HO k1 k2 q1 q2 q3
            rcases z6 with z6 | z6
            all_goals
              go_enter Tryd.func7, Tryd.ntmps7
              go_wp2_with (first | (go_at_call 15; (first | (with_reducible refine (c1 _).mono ?_) | (with_reducible refine (c4 _).mono ?_)); rintro e w1 ⟨rfl, rfl⟩) | (go_at_call 17; (with_reducible refine (c3 _ (by assumption)).mono ?_); rintro e w1 ⟨rfl, hw1⟩) | (go_at_call 10; ((with_reducible refine (c5 _ (by assumption)).mono ?_); rintro e w3 ⟨rfl, hw3⟩)))
              go_ret
              exact ⟨rfl, hw3⟩
    · have p4 : x1.toList.isEmpty = false := by simp [p1]
      rcases HL.out with ⟨z0, z1⟩ | ⟨z0, z1, z2, z3⟩ | ⟨z0, z1, z2, z3⟩
      · have z2 : s.toList.isEmpty = true := by rw [z1]; rfl
        clear z0
        go_enter Tryd.func7, Tryd.ntmps7
        go_wp2_with (first | (go_at_call 15; (first | (with_reducible refine (c1 _).mono ?_) | (with_reducible refine (c4 _).mono ?_)); rintro e w1 ⟨rfl, rfl⟩) | (go_at_call 17; (first | (with_reducible refine (c2 _ (by assumption)).mono ?_) | (with_reducible refine (c3 _ (by assumption)).mono ?_)); rintro e w1 ⟨rfl, hw1⟩) | (go_at_call 10; ((with_reducible refine (c5 _ (by assumption)).mono ?_); rintro e w3 ⟨rfl, hw3⟩)))
        go_ret
        exact ⟨rfl, hw3⟩
      · have z4 : s.toList.isEmpty = false := by simp [z1]
        have z5 : (48 : Int) ≤ (s[s.size - 1].toNat : Int) := by omega
        have z6 : (s[s.size - 1].toNat : Int) ≤ 57 := by omega
        clear z2 z3
        go_enter Tryd.func7, Tryd.ntmps7
        go_wp2_with (first | (go_at_call 15; (first | (with_reducible refine (c1 _).mono ?_) | (with_reducible refine (c4 _).mono ?_)); rintro e w1 ⟨rfl, rfl⟩) | (go_at_call 17; (first | (with_reducible refine (c2 _ (by assumption)).mono ?_) | (with_reducible refine (c3 _ (by assumption)).mono ?_)); rintro e w1 ⟨rfl, hw1⟩) | (go_at_call 10; ((with_reducible refine (c5 _ (by assumption)).mono ?_); rintro e w3 ⟨rfl, hw3⟩)))
        go_ret
        exact ⟨rfl, hw3⟩
      · have z4 : s.toList.isEmpty = false := by simp [z1]
        have z6 : (s[s.size - 1].toNat : Int) < 48 ∨ 57 < (s[s.size - 1].toNat : Int) := by omega
        by_cases k1 : n < 1
        · clear z2 z3 HO
          rcases z6 with z6 | z6
          all_goals
            go_enter Tryd.func7, Tryd.ntmps7
            go_wp2_with (first | (go_at_call 15; (first | (with_reducible refine (c1 _).mono ?_) | (with_reducible refine (c4 _).mono ?_)); rintro e w1 ⟨rfl, rfl⟩) | (go_at_call 17; (first | (with_reducible refine (c2 _ (by assumption)).mono ?_) | (with_reducible refine (c3 _ (by assumption)).mono ?_)); rintro e w1 ⟨rfl, hw1⟩) | (go_at_call 10; ((with_reducible refine (c5 _ (by assumption)).mono ?_); rintro e w3 ⟨rfl, hw3⟩)))
            go_ret
            exact ⟨rfl, hw3⟩
        · by_cases k2 : 2147483647 < n
          · have k3 : 1 ≤ n := by omega
            clear z2 z3 HO k1
            rcases z6 with z6 | z6
            all_goals
              go_enter Tryd.func7, Tryd.ntmps7
              go_wp2_with (first | (go_at_call 15; (first | (with_reducible refine (c1 _).mono ?_) | (with_reducible refine (c4 _).mono ?_)); rintro e w1 ⟨rfl, rfl⟩) | (go_at_call 17; (first | (with_reducible refine (c2 _ (by assumption)).mono ?_) | (with_reducible refine (c3 _ (by assumption)).mono ?_)); rintro e w1 ⟨rfl, hw1⟩) | (go_at_call 10; ((with_reducible refine (c5 _ (by assumption)).mono ?_); rintro e w3 ⟨rfl, hw3⟩)))
              go_ret
              exact ⟨rfl, hw3⟩
          · have k3 : 1 ≤ n := by omega
            have k4 : n ≤ 2147483647 := by omega
            obtain ⟨q1, q2, q3⟩ := HO.out k3 k4 z3
            rw [q1, q2, q3] at c4
            clear z2 z3 HO k1 k2 q1 q2 q3
            rcases z6 with z6 | z6
            all_goals
              go_enter Tryd.func7, Tryd.ntmps7
              go_wp2_with (first | (go_at_call 15; (first | (with_reducible refine (c1 _).mono ?_) | (with_reducible refine (c4 _).mono ?_)); rintro e w1 ⟨rfl, rfl⟩) | (go_at_call 17; (first | (with_reducible refine (c2 _ (by assumption)).mono ?_) | (with_reducible refine (c3 _ (by assumption)).mono ?_)); rintro e w1 ⟨rfl, hw1⟩) | (go_at_call 10; ((with_reducible refine (c5 _ (by assumption)).mono ?_); rintro e w3 ⟨rfl, hw3⟩)))
              go_ret
              exact ⟨rfl, hw3⟩
  · have h1 : 300 < (s.size : Int) := by omega
    clear HT h300
    go_enter Tryd.func7, Tryd.ntmps7
    go_wp2_with (go_at_call 10; ((with_reducible refine (c5 _ (by assumption)).mono ?_); rintro e w3 ⟨rfl, hw3⟩))
    go_ret
    exact ⟨rfl, hw3⟩
end Go.Proofs.YtjokaibkhlnfcaaDoor.Dig
