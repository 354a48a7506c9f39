/-
  What is proved: two sets of clauses held one by one (base.Lits, base.Cnf), and as sets of clauses (the document's Same).
-/
import Derived.Test.YthchjceibpcgbaaGreatDoorZCnD
namespace Go.Proofs.YthchjceibpcgbaaGreatDoor.Cn
open Go.RowKit L Lt
set_option linter.unusedVariables false
set_option linter.unusedSimpArgs false

set_option maxRecDepth 100000 in
set_option maxHeartbeats 4000000 in
theorem Lits_any (A : Option Addr) (n c : Nat) (G : List (List Int)) (A' : Option Addr) (n' c' : Nat) (K : List (List Int)) (w : World) (h1 : SlG w A n c G) (h2 : SlG w A' n' c' K) (hn : n ≤ 9223372036854775807) (hs : ∀ X ∈ G, X.length ≤ 9223372036854775807) :
    Calls Tryz.prog 23 #[.slice A n c, .slice A' n' c'] w fun e w' => e = .returned (.bool (decide (G = K))) ∧ Below w.heap.size w w' := by
  have hn1 := h1.1
  have hn2 := h2.1
  obtain ⟨r, hr⟩ : ∃ r, decide (G = K) = r := ⟨_, rfl⟩
  rw [hr]
  have Hr := Lib.hid hr
  clear hr
  by_cases hl : n = n'
  · subst hl
    have H1 := Lib.hid h1
    have H2 := Lib.hid h2
    have Hn1 := Lib.hid hn1
    have Hn2 := Lib.hid hn2
    have HS := Lib.hid hs
    have q0 : ((n : Int) != (n : Int)) = false := by simp
    have HE : Hid (G.take 0 = K.take 0) := Lib.hid rfl
    have HB0 : Hid (Below w.heap.size w w) := Lib.hid (Below.refl _ _)
    clear h1 h2 hn1 hn2 hs
    go_enter Tryz.func23, Tryz.ntmps23
    go_wp2
    go_loopw [5] (fun i wr0 => ∃ (wr : World) (k : Nat), wr = wr0 ∧ k ≤ n ∧ i = .int .i64 k ∧ Hid (G.take k = K.take k) ∧ Hid (Below w.heap.size w wr)) (fun i _ => n - (intOf i).toNat)
    case atStart => exact ⟨_, 0, rfl, by omega, rfl, HE, HB0⟩
    case round =>
      obtain ⟨wr, k, rfl, hk, rfl, hE, hBr⟩ := hrel
      by_cases hlt : k < n
      · obtain ⟨g, o, B, p, q, X, rfl, hg, z0, hx, hX⟩ := SlG.at H1.out hlt
        obtain ⟨g', o', B', p', q', Y, rfl, hg', z0', hy, hY⟩ := SlG.at H2.out hlt
        have y0 := (hBr.out.cell (p := ⟨g, _, none⟩) hg).trans z0
        have y0' := (hBr.out.cell (p := ⟨g', _, none⟩) hg').trans z0'
        have hpm : p ≤ 9223372036854775807 := by rw [hX.1]; exact HS.out X (List.mem_of_getElem? hx)
        have cr := Lib.hid (fun (W : World) (hb : Below wr.heap.size wr W) => Ints_any B p q X B' p' q' Y W (hX.below (bel_trans hBr.out hb)) (hY.below (bel_trans hBr.out hb)) hpm)
        have Hx := Lib.hid hx
        have Hy := Lib.hid hy
        clear z0 z0' hx hy hX hY
        have hk0 : 0 ≤ (k : Int) := by omega
        have hk1 : (k : Int) < (n : Int) := by omega
        by_cases hxy : X = Y
        · have e1 : decide (X = Y) = true := decide_eq_true hxy
          rw [e1] at cr
          have HE1 : Hid (G.take (k + 1) = K.take (k + 1)) := Lib.hid (by rw [List.take_add_one, List.take_add_one, hE.out, Hx.out, Hy.out, hxy])
          clear hE Hx Hy H1 H2 e1 hxy
          go_wp2_with fail
          go_region_with (go_at_call 13; ((with_reducible refine (cr.out _ (Below.refl _ _).drew).mono ?_); rintro e w2 ⟨rfl, hb2⟩; have hB2 := Lib.hid (bel_trans hBr.out (bel_trans (Below.refl _ _).drew hb2))))
          all_goals go_wp2
          all_goals go_roundw
          all_goals first
            | exact ⟨_, k + 1, rfl, by omega, by go_num, HE1, Lib.hid (by first | exact hB2.out | exact hB2.out.drew)⟩
            | (simp [intOf]; omega)
        · have e1 : decide (X = Y) = false := decide_eq_false hxy
          rw [e1] at cr
          have q2 := Lib.hid (Hr.out.symm.trans (decide_eq_false (p := G = K) (fun e => by
            have h1 := Hx.out
            have h2 := Hy.out
            rw [e, h2] at h1
            injection h1 with h1
            exact hxy h1.symm)))
          clear hE Hx Hy H1 H2 hxy e1
          go_wp2_with fail
          go_region_with (go_at_call 13; ((with_reducible refine (cr.out _ (Below.refl _ _).drew).mono ?_); rintro e w2 ⟨rfl, hb2⟩; have hB2 := Lib.hid (bel_trans hBr.out (bel_trans (Below.refl _ _).drew hb2))))
          all_goals go_wp2
          all_goals go_ret
          all_goals exact ⟨by rw [q2.out] <;> rfl, by first | exact hB2.out | exact hB2.out.drew⟩
      · obtain rfl : k = n := by omega
        have q2 := Lib.hid (Hr.out.symm.trans (decide_eq_true (p := G = K) (by have := hE.out; rwa [List.take_of_length_le (by have := Hn1.out; omega), List.take_of_length_le (by have := Hn2.out; omega)] at this)))
        clear hE
        go_wp2
        go_ret
        exact ⟨by rw [q2.out] <;> rfl, hBr.out⟩
  · have q0 : ((n : Int) != (n' : Int)) = true := by simp; omega
    have q2 := Lib.hid (Hr.out.symm.trans (decide_eq_false (p := G = K) (fun e => hl (by rw [hn1, hn2, e]))))
    clear h1 h2 hn1 hn2
    go_enter Tryz.func23, Tryz.ntmps23
    go_wp2
    go_ret
    exact ⟨by rw [q2.out] <;> rfl, Below.refl _ _⟩
set_option maxRecDepth 100000 in
set_option maxHeartbeats 4000000 in
theorem CnfB_any (N : Int) (A : Option Addr) (n c : Nat) (G : List (List Int)) (M : Int) (A' : Option Addr) (n' c' : Nat) (K : List (List Int)) (w : World) (h1 : SlG w A n c G) (h2 : SlG w A' n' c' K) (hn : n ≤ 9223372036854775807) (hs : ∀ X ∈ G, X.length ≤ 9223372036854775807) :
    Calls Tryz.prog 9 #[.agg #[.int .i64 N, .slice A n c], .agg #[.int .i64 M, .slice A' n' c']] w fun e w' => e = .returned (.bool (decide (N = M) && decide (G = K))) ∧ Below w.heap.size w w' := by
  obtain ⟨W2, hW2, hB2, S2, T2⟩ := boxC2 w N A n c M A' n' c'
  obtain ⟨s0, s1⟩ := S2.two
  obtain ⟨t0, t1⟩ := T2.two
  have cr := Lits_any A n c G A' n' c' K W2 (h1.below hB2) (h2.below hB2) hn hs
  have HB2 := Lib.hid hB2
  generalize decide (G = K) = v at *
  clear h1 h2 hB2 S2 T2 hs
  by_cases hNM : N = M
  · have q0 : (N == M) = true := by simp [hNM]
    have q1 : decide (N = M) = true := decide_eq_true hNM
    rw [q1]
    clear hNM q1
    go_enter Tryz.func9, Tryz.ntmps9
    go_wp2_with (go_at_call 23; ((with_reducible refine cr.mono ?_); rintro e w3 ⟨rfl, b3⟩))
    go_ret
    exact ⟨rfl, bel_trans HB2.out b3⟩
  · have q0 : (N == M) = false := by simp [hNM]
    have q1 : decide (N = M) = false := decide_eq_false hNM
    rw [q1]
    clear hNM q1 cr
    go_enter Tryz.func9, Tryz.ntmps9
    go_wp2
    go_ret
    exact ⟨rfl, HB2.out⟩
end Go.Proofs.YthchjceibpcgbaaGreatDoor.Cn
