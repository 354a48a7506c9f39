/-
  What is proved: what package cnf's Right returns.
-/
import Derived.Test.YthchjceibpcgbaaGreatDoorZCnD
import Derived.Test.YthchjceibpcgbaaGreatDoorLB
namespace Go.Proofs.YthchjceibpcgbaaGreatDoor.Cn
open Go.RowKit L Lt
set_option linter.unusedVariables false
set_option linter.unusedSimpArgs false

set_option maxRecDepth 100000 in
set_option maxHeartbeats 4000000 in
theorem CRight_any (z : CfZ) (w : World) (h : z.ok w) :
    Calls Tryz.prog 39 #[z.val] w fun e w' => e = .returned (.tuple #[.int .i64 (rgC z.N z.G).1, .int .i64 (rgC z.N z.G).2]) ∧ Below w.heap.size w w' := by
  obtain ⟨N, a, n, c, G⟩ := z
  obtain ⟨hN, hn, hG, hs⟩ := h
  simp only at hN hn hG hs
  show Calls Tryz.prog 39 #[.agg #[.int .i64 N, .slice a n c]] w _
  obtain ⟨W2, hW2, hB2, S2⟩ := boxC w N a n c
  obtain ⟨s0, s1⟩ := S2.two
  have H := Lib.hid (hG.below hB2)
  have HB2 := Lib.hid hB2
  have HX := Lib.hid hG.1
  have HS := Lib.hid hs
  have CR := Lib.hid (fun A m q X (W : World) (h : SlI W A m q X) (hr : R64s X) (hn : m ≤ 9223372036854775807) => Right_any A m q X N W h hr hn)
  have hR : Hid (rgC N G = if N < 0 ∨ 1024 < N then (-1, 1) else if 4096 < n then (-1, 2) else bad N 0 G) := by show _ = _; unfold rgC; rw [← hG.1]
  show Calls _ _ _ _ fun e w' => e = .returned (.tuple #[.int .i64 (rgC N G).1, .int .i64 (rgC N G).2]) ∧ Below w.heap.size w w'
  generalize rgC N G = R at *
  obtain ⟨R1, R2⟩ := R
  show Calls _ _ _ _ fun e w' => e = .returned (.tuple #[.int .i64 R1, .int .i64 R2]) ∧ Below w.heap.size w w'
  have LS := Lib.hid (Blk.lt S2)
  clear hG hs hB2 S2
  by_cases h1 : N < 0
  · have q1 : decide (N < 0) = true := decide_eq_true h1
    have hq : Hid (R1 = -1 ∧ R2 = 1) := Lib.hid (by have := hR.out; rw [if_pos (Or.inl h1)] at this; injection this with e1 e2; exact ⟨e1, e2⟩)
    clear hR
    go_enter Tryz.func39, Tryz.ntmps39
    go_wp2
    go_ret2
    exact ⟨by rw [hq.out.1, hq.out.2]; rfl, HB2.out⟩
  · have q1 : decide (N < 0) = false := decide_eq_false h1
    by_cases h2 : 1024 < N
    · have q2 : decide (N > 1024) = true := decide_eq_true h2
      have hq : Hid (R1 = -1 ∧ R2 = 1) := Lib.hid (by have := hR.out; rw [if_pos (Or.inr h2)] at this; injection this with e1 e2; exact ⟨e1, e2⟩)
      clear hR
      go_enter Tryz.func39, Tryz.ntmps39
      go_wp2
      go_ret2
      exact ⟨by rw [hq.out.1, hq.out.2]; rfl, HB2.out⟩
    · have q2 : decide (N > 1024) = false := decide_eq_false h2
      by_cases h3 : 4096 < n
      · have q3 : decide ((n : Int) > 4096) = true := decide_eq_true (by omega)
        have hq : Hid (R1 = -1 ∧ R2 = 2) := Lib.hid (by have := hR.out; rw [if_neg (by omega), if_pos h3] at this; injection this with e1 e2; exact ⟨e1, e2⟩)
        clear hR
        go_enter Tryz.func39, Tryz.ntmps39
        go_wp2
        go_ret2
        exact ⟨by rw [hq.out.1, hq.out.2]; rfl, HB2.out⟩
      · have q3 : decide ((n : Int) > 4096) = false := decide_eq_false (by omega)
        have hB : Hid ((R1, R2) = bad N 0 G) := Lib.hid (by have := hR.out; rw [if_neg (by omega), if_neg h3] at this; exact this)
        have HE : Hid (∀ c ∈ G.take 0, rg1 c N = 0) := Lib.hid (by simp)
        clear hR
        go_enter Tryz.func39, Tryz.ntmps39
        go_wp2
        go_loopw [24] (fun i wr0 => ∃ (wr : World) (k : Nat), wr = wr0 ∧ k ≤ n ∧ i = .int .i64 k ∧ Hid (∀ c ∈ G.take k, rg1 c N = 0) ∧ Hid (Below W2.heap.size W2 wr)) (fun i _ => n - (intOf i).toNat)
        case atStart => exact ⟨_, 0, rfl, by omega, rfl, HE, Lib.hid (Below.refl _ _)⟩
        case round =>
          obtain ⟨wr, k, rfl, hk, rfl, hE, hW⟩ := hrel
          by_cases hlt : k < n
          · obtain ⟨g, o, B, p, q, X, rfl, hg, z0, hx, hX⟩ := SlG.at H.out hlt
            have y0 : wr.cell? ⟨g, o + k, none⟩ = some (.slice B p q) := (hW.out.cell (p := ⟨g, _, none⟩) hg).trans z0
            have t0 : wr.cell? ⟨w.heap.size, 0, none⟩ = some (.int .i64 N) := (hW.out.cell (p := ⟨_, _, none⟩) LS.out).trans s0
            have t1 : wr.cell? ⟨w.heap.size, 1, none⟩ = some (.slice (some ⟨g, o, none⟩) n c) := (hW.out.cell (p := ⟨_, _, none⟩) LS.out).trans s1
            have hsX := HS.out X (List.mem_of_getElem? hx)
            have cr := Lib.hid (fun (W : World) (hb : Below wr.heap.size wr W) => CR.out B p q X W (hX.below (bel_trans hW.out hb)) hsX.1 (by rw [hX.1]; exact hsX.2))
            have HH : Hid (rg1 X N ≠ 0 → R1 = k ∧ R2 = rg1 X N) := Lib.hid (fun h => by
              have := hB.out; rw [bad_hit hx hE.out h] at this; injection this with e1 e2; exact ⟨e1, e2⟩)
            have HE1 : Hid (rg1 X N = 0 → ∀ c ∈ G.take (k + 1), rg1 c N = 0) := Lib.hid (fun h c hc => by
              rw [List.take_add_one, hx] at hc
              rcases List.mem_append.1 hc with hc | hc
              · exact hE.out c hc
              · obtain rfl : c = X := by simpa using hc
                exact h)
            have hk0 : 0 ≤ (k : Int) := by omega
            have hk1 : (k : Int) < (n : Int) := by omega
            have er : rgL X N = rg1 X N := rfl
            rw [er] at cr
            clear z0 hx hX hsX hE er
            generalize rg1 X N = v at *
            cases hv : (v != 0)
            · have hv0 : v = 0 := by simpa using hv
              have HE2 := Lib.hid (HE1.out hv0)
              clear HE1 HH hv0
              go_wp2_with (go_at_call 73; ((with_reducible refine (cr.out _ (Below.refl _ _)).mono ?_); rintro e w2 ⟨rfl, b2⟩))
              go_roundw
              case rel => exact ⟨_, k + 1, rfl, by omega, by go_num, HE2, Lib.hid (bel_trans hW.out b2)⟩
              case measure => simp [intOf]; omega
            · have hq := Lib.hid (HH.out (by simpa using hv))
              clear HE1 HH
              go_wp2_with (go_at_call 73; ((with_reducible refine (cr.out _ (Below.refl _ _)).mono ?_); rintro e w2 ⟨rfl, b2⟩))
              go_ret2
              exact ⟨by rw [hq.out.1, hq.out.2] <;> rfl, bel_trans HB2.out (bel_trans hW.out b2)⟩
          · obtain rfl : k = n := by omega
            have t1 : wr.cell? ⟨w.heap.size, 1, none⟩ = some (.slice a k c) := (hW.out.cell (p := ⟨_, _, none⟩) LS.out).trans s1
            have hq : Hid (R1 = 0 ∧ R2 = 0) := Lib.hid (by
              have h5 := hE.out
              rw [List.take_of_length_le (by have := HX.out; omega)] at h5
              have := hB.out; rw [bad_at N G 0 h5] at this; injection this with e1 e2; exact ⟨e1, e2⟩)
            clear hE
            go_wp2
            go_ret2
            exact ⟨by rw [hq.out.1, hq.out.2]; rfl, bel_trans HB2.out hW.out⟩

end Go.Proofs.YthchjceibpcgbaaGreatDoor.Cn
