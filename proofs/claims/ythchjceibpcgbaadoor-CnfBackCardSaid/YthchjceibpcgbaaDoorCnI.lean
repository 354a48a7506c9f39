/-
  What is proved: the line p, as the document reads it.
-/
import Derived.Test.YthchjceibpcgbaaDoorCnH
namespace Go.Proofs.YthchjceibpcgbaaDoor.Cn
open Go.RowKit L Lt
set_option linter.unusedVariables false
set_option linter.unusedSimpArgs false

def hdV : Except Int (Int × Int) → Int × Int × Int
  | .ok (n, m) => (n, m, 0)
  | .error e => (0, 0, e)
theorem tri {a b c a' b' c' : Int} (h : a = a' ∧ b = b' ∧ c = c') : Ending.returned (.tuple #[.int .i64 a, .int .i64 b, .int .i64 c]) = .returned (.tuple #[.int .i64 a', .int .i64 b', .int .i64 c']) := by rw [h.1, h.2.1, h.2.2]
theorem RWordsW_any (s : ByteArray) (w : World) (hs : s.size ≤ 100000) :
    Calls Tryd.prog 39 #[.string s] w fun e w' => ∃ A c, e = .returned (.slice A (spl 32 s.data.toList).length c) ∧ SlS w' A (spl 32 s.data.toList).length c ((spl 32 s.data.toList).map Dig.BA) ∧ Below w.heap.size w w' := by
  refine (RWords_any s w (by omega)).mono fun e w' => ?_
  rintro ⟨v, D, rfl, ho, hD, _, hb⟩
  obtain ⟨A, c, rfl, hS⟩ := ho.slS
  have e1 : (spl 32 s.data.toList).map Dig.BA = D := by
    rw [← hD]; unfold lsS; rw [List.map_map]
    exact (List.map_congr_left (fun d _ => Dig.BA_of d)).trans (List.map_id _)
  have e2 : (spl 32 s.data.toList).length = D.length := by rw [← hD]; simp [lsS]
  rw [e1, e2]
  exact ⟨A, c, rfl, hS, hb⟩
/-- four words in memory -/
theorem four {w : World} {A : Option Addr} {c : Nat} {s0 s1 s2 s3 : ByteArray} (h : SlS w A 4 c [s0, s1, s2, s3]) :
    ∃ b o, A = some ⟨b, o, none⟩ ∧ 4 ≤ c ∧ w.cell? ⟨b, o, none⟩ = some (.string s0) ∧ w.cell? ⟨b, o + 1, none⟩ = some (.string s1) ∧ SlS w (some ⟨b, o + 2, none⟩) 2 (c - 2) [s2, s3] := by
  obtain ⟨b, o, rfl, hb, hr⟩ := h.1.2 (by omega)
  refine ⟨b, o, rfl, h.2.1, hr 0 (by simp), hr 1 (by simp), ⟨rfl, fun _ => ⟨b, o + 2, rfl, hb, fun k hk => ?_⟩⟩, by have := h.2.1; omega, fun e => by cases e⟩
  rcases k with _ | _ | k
  · exact hr 2 (by simp)
  · exact hr 3 (by simp)
  · simp at hk; omega
set_option maxRecDepth 100000 in
set_option maxHeartbeats 4000000 in
theorem RHead_any (s : ByteArray) (w : World) (hs : s.size ≤ 100000) :
    Calls Tryd.prog 23 #[.string s] w fun e w' => e = .returned (.tuple #[.int .i64 (hdV (hdR s.data.toList)).1, .int .i64 (hdV (hdR s.data.toList)).2.1, .int .i64 (hdV (hdR s.data.toList)).2.2]) ∧ Below w.heap.size w w' := by
  have C1 := RWordsW_any s w hs
  have hsm := spl_small 32 s.data.toList
  obtain ⟨R, hR⟩ : ∃ R, hdR s.data.toList = R := ⟨_, rfl⟩
  rw [hR]
  unfold hdR at hR
  simp only at hR
  obtain ⟨W, hW⟩ : ∃ W, spl 32 s.data.toList = W := ⟨_, rfl⟩
  rw [hW] at C1 hR hsm
  clear hW
  by_cases h4 : W.length = 4
  · obtain ⟨a, b, c, d, rfl⟩ : ∃ a b c d, W = [a, b, c, d] := by
      match W, h4 with
      | [a, b, c, d], _ => exact ⟨a, b, c, d, rfl⟩
    simp only [List.length_cons, List.length_nil, List.getElem?_cons_zero, List.getElem?_cons_succ, Option.some.injEq, List.drop, true_and] at hR
    have hcd : (Dig.BA c).size ≤ 9223372036854775807 ∧ (Dig.BA d).size ≤ 9223372036854775807 := by
      rw [Dig.BA_size, Dig.BA_size]
      have h1 := hsm c (by simp)
      have h2 := hsm d (by simp)
      rw [Dig.len_list] at h1 h2
      omega
    have C1b : Calls Tryd.prog 39 #[.string s] w fun e w' => ∃ bk o k, e = .returned (.slice (some ⟨bk, o, none⟩) 4 k) ∧ 4 ≤ k ∧ w'.cell? ⟨bk, o, none⟩ = some (.string (Dig.BA a)) ∧ w'.cell? ⟨bk, o + 1, none⟩ = some (.string (Dig.BA b)) ∧ SlS w' (some ⟨bk, o + 2, none⟩) 2 (k - 2) [Dig.BA c, Dig.BA d] ∧ Below w.heap.size w w' := by
      refine C1.mono fun e w' => ?_
      rintro ⟨A, k, rfl, hS, hb⟩
      obtain ⟨bk, o, rfl, h1, h2, h3, h5⟩ := four hS
      exact ⟨bk, o, k, rfl, h1, h2, h3, h5, hb⟩
    clear C1
    have C2 : Hid (∀ bk o k W, SlS W (some ⟨bk, o, none⟩) 2 k [Dig.BA c, Dig.BA d] → Calls Tryd.prog 40 #[.slice (some ⟨bk, o, none⟩) 2 k] W fun e w' => ∃ v, e = .returned (.tuple #[v, .bool (nums [c, d]).isSome]) ∧ OwnI w' W.heap.size v ((nums [c, d]).getD []) ∧ Below W.heap.size W w') := Lib.hid (fun bk o k W h =>
      RNumbers_any _ 2 k [Dig.BA c, Dig.BA d] W h (by intro x hx; rcases List.mem_cons.1 hx with rfl | hx; exact hcd.1; obtain rfl : x = Dig.BA d := by simpa using hx
                                                      exact hcd.2) (by omega))
    have ta : (Dig.BA a).toList = a := Dig.BA_toList a
    have tb : (Dig.BA b).toList = b := Dig.BA_toList b
    obtain ⟨sa, hsa⟩ : ∃ x, Dig.BA a = x := ⟨_, rfl⟩
    obtain ⟨sb, hsb⟩ : ∃ x, Dig.BA b = x := ⟨_, rfl⟩
    rw [hsa] at C1b ta
    rw [hsb] at C1b tb
    clear hsa hsb hsm hcd h4 hs
    by_cases ha : a = [112]
    · by_cases hb : b = [99, 110, 102]
      · rw [if_pos ⟨ha, hb⟩] at hR
        have qa : (sa.toList == [112]) = true := by rw [ta, ha]; rfl
        have qb : (sb.toList == [99, 110, 102]) = true := by rw [tb, hb]; rfl
        clear ta tb ha hb
        cases hm : nums [c, d] with
        | none =>
          rw [hm] at C2 hR
          have HR := Lib.hid hR.symm
          clear hR hm
          go_enter Tryd.func23, Tryd.ntmps23
          go_wp2_with (first | (go_at_call 39; ((with_reducible refine C1b.mono ?_); rintro e w3 ⟨bk, o, k, rfl, hk4, z0, z1, hS, b3⟩; have k0 : (4 : Int) ≤ (k : Int) := (by omega); have k1 : (2 : Int) ≤ (k : Int) := (by omega))) | (go_at_call 40; ((with_reducible refine (C2.out _ _ _ _ hS).mono ?_); rintro e w4 ⟨v4, rfl, ho4, b4⟩)))
          go_ret3
          exact ⟨by rw [HR.out]; rfl, bel_trans b3 b4⟩
        | some l =>
          obtain ⟨x, y, rfl⟩ : ∃ x y, l = [x, y] := by
            have : (nums [c, d]).map List.length = some l.length := by rw [hm]; rfl
            unfold nums at this
            split at this
            · simp at this
              match l, this with
              | [x, y], _ => exact ⟨x, y, rfl⟩
            · cases this
          rw [hm] at C2 hR
          have C3 : Hid (∀ bk o k W, SlS W (some ⟨bk, o, none⟩) 2 k [Dig.BA c, Dig.BA d] → Calls Tryd.prog 40 #[.slice (some ⟨bk, o, none⟩) 2 k] W fun e w' => ∃ g k2, e = .returned (.tuple #[.slice (some ⟨g, 0, none⟩) 2 k2, .bool true]) ∧ w'.cell? ⟨g, 0, none⟩ = some (.int .i64 x) ∧ w'.cell? ⟨g, 1, none⟩ = some (.int .i64 y) ∧ Below W.heap.size W w') := Lib.hid (fun bk o k W h => (C2.out bk o k W h).mono (fun e w' => by
            rintro ⟨v, rfl, hO, hb⟩
            have hO : OwnI w' W.heap.size v [x, y] := hO
            obtain ⟨A, k2, rfl, h1, h2, h3, h4⟩ := hO.slice
            obtain ⟨g, rfl, hg⟩ := h4 (by simp)
            exact ⟨g, k2, rfl, hO.at (k := 0) (by simp), hO.at (k := 1) (by simp), hb⟩))
          clear C2 hm
          simp only at hR
          by_cases hy : y < 0
          · rw [if_pos hy] at hR
            have HR := Lib.hid hR.symm
            have q1 : decide (y < 0) = true := decide_eq_true hy
            clear hR hy
            go_enter Tryd.func23, Tryd.ntmps23
            go_wp2_with (first | (go_at_call 39; ((with_reducible refine C1b.mono ?_); rintro e w3 ⟨bk, o, k, rfl, hk4, z0, z1, hS, b3⟩; have k0 : (4 : Int) ≤ (k : Int) := (by omega); have k1 : (2 : Int) ≤ (k : Int) := (by omega))) | (go_at_call 40; ((with_reducible refine (C3.out _ _ _ _ hS).mono ?_); rintro e w4 ⟨g, k5, rfl, x0, x1, b4⟩)))
            go_ret3
            exact ⟨by rw [HR.out]; rfl, bel_trans b3 b4⟩
          · rw [if_neg hy] at hR
            have q1 : decide (y < 0) = false := decide_eq_false hy
            by_cases hx : x < 0
            · rw [if_pos (Or.inl hx)] at hR
              have HR := Lib.hid hR.symm
              have q2 : decide (x < 0) = true := decide_eq_true hx
              clear hR hy hx
              go_enter Tryd.func23, Tryd.ntmps23
              go_wp2_with (first | (go_at_call 39; ((with_reducible refine C1b.mono ?_); rintro e w3 ⟨bk, o, k, rfl, hk4, z0, z1, hS, b3⟩; have k0 : (4 : Int) ≤ (k : Int) := (by omega); have k1 : (2 : Int) ≤ (k : Int) := (by omega))) | (go_at_call 40; ((with_reducible refine (C3.out _ _ _ _ hS).mono ?_); rintro e w4 ⟨g, k5, rfl, x0, x1, b4⟩)))
              go_ret3
              exact ⟨by rw [HR.out]; rfl, bel_trans b3 b4⟩
            · have q2 : decide (x < 0) = false := decide_eq_false hx
              by_cases hx2 : 1024 < x
              · rw [if_pos (Or.inr hx2)] at hR
                have HR := Lib.hid hR.symm
                have q3 : decide (x > 1024) = true := decide_eq_true hx2
                clear hR hy hx hx2
                go_enter Tryd.func23, Tryd.ntmps23
                go_wp2_with (first | (go_at_call 39; ((with_reducible refine C1b.mono ?_); rintro e w3 ⟨bk, o, k, rfl, hk4, z0, z1, hS, b3⟩; have k0 : (4 : Int) ≤ (k : Int) := (by omega); have k1 : (2 : Int) ≤ (k : Int) := (by omega))) | (go_at_call 40; ((with_reducible refine (C3.out _ _ _ _ hS).mono ?_); rintro e w4 ⟨g, k5, rfl, x0, x1, b4⟩)))
                go_ret3
                exact ⟨by rw [HR.out]; rfl, bel_trans b3 b4⟩
              · have q3 : decide (x > 1024) = false := decide_eq_false hx2
                rw [if_neg (by omega)] at hR
                by_cases hy2 : 4096 < y
                · rw [if_pos hy2] at hR
                  have HR := Lib.hid hR.symm
                  have q4 : decide (y > 4096) = true := decide_eq_true hy2
                  clear hR hy hx hx2 hy2
                  go_enter Tryd.func23, Tryd.ntmps23
                  go_wp2_with (first | (go_at_call 39; ((with_reducible refine C1b.mono ?_); rintro e w3 ⟨bk, o, k, rfl, hk4, z0, z1, hS, b3⟩; have k0 : (4 : Int) ≤ (k : Int) := (by omega); have k1 : (2 : Int) ≤ (k : Int) := (by omega))) | (go_at_call 40; ((with_reducible refine (C3.out _ _ _ _ hS).mono ?_); rintro e w4 ⟨g, k5, rfl, x0, x1, b4⟩)))
                  go_ret3
                  exact ⟨by rw [HR.out]; rfl, bel_trans b3 b4⟩
                · rw [if_neg hy2] at hR
                  have HR := Lib.hid hR.symm
                  have q4 : decide (y > 4096) = false := decide_eq_false hy2
                  clear hR hy hx hx2 hy2
                  go_enter Tryd.func23, Tryd.ntmps23
                  go_wp2_with (first | (go_at_call 39; ((with_reducible refine C1b.mono ?_); rintro e w3 ⟨bk, o, k, rfl, hk4, z0, z1, hS, b3⟩; have k0 : (4 : Int) ≤ (k : Int) := (by omega); have k1 : (2 : Int) ≤ (k : Int) := (by omega))) | (go_at_call 40; ((with_reducible refine (C3.out _ _ _ _ hS).mono ?_); rintro e w4 ⟨g, k5, rfl, x0, x1, b4⟩)))
                  go_quiet (fail)
                  go_wp2
                  go_ret3
                  exact ⟨by rw [HR.out]; rfl, bel_trans b3 (below_drewN b4 _)⟩
      · rw [if_neg (by rintro ⟨_, h⟩; exact hb h)] at hR
        have HR := Lib.hid hR.symm
        have qa : (sa.toList == [112]) = true := by rw [ta, ha]; rfl
        have qb : (sb.toList == [99, 110, 102]) = false := by rw [tb]; simpa using hb
        clear ta tb ha hb hR C2
        go_enter Tryd.func23, Tryd.ntmps23
        go_wp2_with (go_at_call 39; ((with_reducible refine C1b.mono ?_); rintro e w3 ⟨bk, o, k, rfl, hk4, z0, z1, hS, b3⟩; have k0 : (4 : Int) ≤ (k : Int) := (by omega); have k1 : (2 : Int) ≤ (k : Int) := (by omega)))
        go_ret3
        exact ⟨by rw [HR.out]; rfl, b3⟩
    · rw [if_neg (by rintro ⟨h, _⟩; exact ha h)] at hR
      have HR := Lib.hid hR.symm
      have qa : (sa.toList == [112]) = false := by rw [ta]; simpa using ha
      clear ta tb ha hR C2
      go_enter Tryd.func23, Tryd.ntmps23
      go_wp2_with (go_at_call 39; ((with_reducible refine C1b.mono ?_); rintro e w3 ⟨bk, o, k, rfl, hk4, z0, z1, hS, b3⟩; have k0 : (4 : Int) ≤ (k : Int) := (by omega); have k1 : (2 : Int) ≤ (k : Int) := (by omega)))
      go_ret3
      exact ⟨by rw [HR.out]; rfl, b3⟩
  · rw [if_neg (by rintro ⟨h, _⟩; exact h4 h)] at hR
    have HR := Lib.hid hR.symm
    have q0 : ((W.length : Int) != 4) = true := by simp; omega
    obtain ⟨k, hk⟩ : ∃ k, W.length = k := ⟨_, rfl⟩
    rw [hk] at C1 q0
    clear hR hsm hk h4
    go_enter Tryd.func23, Tryd.ntmps23
    go_wp2_with (go_at_call 39; ((with_reducible refine C1.mono ?_); rintro e w3 ⟨A, k2, rfl, hS, b3⟩))
    go_ret3
    exact ⟨by rw [HR.out]; rfl, b3⟩
end Go.Proofs.YthchjceibpcgbaaDoor.Cn
