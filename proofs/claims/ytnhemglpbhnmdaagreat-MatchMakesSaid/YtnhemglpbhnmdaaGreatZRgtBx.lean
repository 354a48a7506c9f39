/-
  What is proved: deep8_step (taken out of RgtB, for seats without that function).
-/
import Derived.Test.YtnhemglpbhnmdaaGreatBR
namespace Go.Proofs.YtnhemglpbhnmdaaGreat.C
open Go.RowKit L T
set_option linter.unusedVariables false
set_option linter.unusedSimpArgs false

def DeepOk (t : Cl) : Prop := ∀ (k : SS) (a : Option Addr) (n c most : Nat) (w : World), 1 ≤ most → most ≤ 1000000000 → ArWC w t k a n c →
  Calls Tryz.prog 89 #[.agg #[.int .i64 (opC t), .string (nmC t), .string (soC t), .slice k.a k.n k.c, .slice a n c], .int .i64 most] w fun e w' => e = .returned (.int .i64 ((min (dpC t) most : Nat) : Int)) ∧ Below w.heap.size w w'
set_option maxRecDepth 100000 in
set_option maxHeartbeats 4000000 in
theorem deep8_step (t : Cl) (hok : ∀ x ∈ subC t, DeepOk x) : DeepOk t := by
  intro kk a n c most w h1 hm hA
  obtain ⟨ka, kn, kc⟩ := kk
  obtain ⟨W2, hW2, hB2, hs2, S2⟩ := cbox1 w (opC t) (nmC t) (soC t) ⟨ka, kn, kc⟩ a n c
  dsimp only at hW2
  have hT := CsW.b (ArWC.subs hA) hB2
  rw [dpC_mk]
  have hk2 : ∀ k x, (subC t)[k]? = some x → DeepOk x := fun k x h => hok x (List.mem_of_getElem? h)
  have hn : n ≤ 9223372036854775807 := by have h1 := hT.2.1; have h2 := hT.2.2.1; unfold maxLen at h2; omega
  have htk : ∀ k x, (subC t)[k]? = some x → dpCs ((subC t).take (k + 1)) = max (dpCs ((subC t).take k)) (dpC x) := fun k x h => dpCs_take h
  have hend : ∀ k, n ≤ k → dpCs ((subC t).take k) = dpCs (subC t) := fun k h => by rw [List.take_of_length_le (by rw [← hT.1]; exact h)]
  have h0 : dpCs ((subC t).take 0) = 0 := rfl
  generalize subC t = la at *
  obtain ⟨F, hF⟩ : ∃ F : Nat → Nat, ∀ k, dpCs (la.take k) = F k := ⟨_, fun _ => rfl⟩
  simp only [hF] at htk hend h0
  generalize dpCs la = R at *
  obtain ⟨s0, s1, s2, s3, s4⟩ := S2.five
  have H1 := Lib.hid hT
  have Htk := Lib.hid htk
  have Hend := Lib.hid hend
  have HK := Lib.hid hk2
  have HS := Lib.hid S2
  have H0 := Lib.hid h0
  clear hA hT htk hend hk2 hok hF S2 h0
  generalize opC t = op at *
  generalize nmC t = nm at *
  generalize soC t = nu at *
  by_cases hm1 : most ≤ 1
  · obtain rfl : most = 1 := by omega
    have hd : Hid ((1 : Int) = ((min (1 + R) 1 : Nat) : Int)) := Lib.hid (by omega)
    have q1 : decide ((1 : Int) ≤ 1) = true := by decide
    go_enter Tryz.func89, Tryz.ntmps89
    go_wp2
    go_ret
    first | exact ⟨one hd.out, hB2⟩ | exact ⟨rfl, hB2⟩ | exact ⟨by simp, hB2⟩
  · have q1 : decide ((most : Int) ≤ 1) = false := decide_eq_false (by omega)
    have HR0 : Hid (0 = min (F 0) (most - 1)) := Lib.hid (by rw [H0.out]; omega)
    go_enter Tryz.func89, Tryz.ntmps89
    go_wp2
    go_loopw [5, 6] (fun q i wr0 => ∃ (wr : World) (k h : Nat), wr = wr0 ∧ k ≤ n ∧ q = .int .i64 h ∧ i = .int .i64 k ∧ Below W2.heap.size W2 wr ∧ h ≤ most ∧ Hid (h = min (F k) (most - 1))) (fun q i _ => n - (intOf i).toNat)
    case atStart => exact ⟨_, 0, 0, rfl, by omega, rfl, rfl, Below.refl _ _, by omega, HR0⟩
    case round =>
      obtain ⟨wr, k, h, rfl, hk, rfl, rfl, hB, hhm, hR⟩ := hrel
      obtain ⟨_, _, _, _, s3r⟩ := (CBox.b HS.out hB).five
      by_cases hlt : k < n
      · obtain ⟨bb, o, x, xk, A, M, Cc, rfl, hb, y0, y1, y2, y3, y4, hx, hok⟩ := (CsW.b H1.out hB).at hlt
        have cs := HK.out k x hx xk A M Cc (most - 1) wr (by omega) (by omega) hok
        have em : ((most - 1 : Nat) : Int) = (most : Int) - 1 := by omega
        rw [em] at cs
        have hst : Hid (max h (min (dpC x) (most - 1)) = min (F (k + 1)) (most - 1)) := Lib.hid (by rw [Htk.out k x hx, hR.out]; omega)
        clear hx hok H1 Htk HK HS em hR
        generalize hdx : min (dpC x) (most - 1) = dx at *
        have hdm : dx ≤ most := by omega
        clear hdx
        generalize opC x = op' at *
        generalize nmC x = nm' at *
        generalize soC x = nu' at *
        have hk0 : 0 ≤ (k : Int) := by omega
        have hk1 : (k : Int) < (n : Int) := by omega
        by_cases hgt : h < dx
        · have q2 : decide ((dx : Int) > (h : Int)) = true := decide_eq_true (by omega)
          have hnew : Hid (dx = min (F (k + 1)) (most - 1)) := Lib.hid (by rw [← hst.out]; omega)
          go_wp2_with (go_at_call 89; ((with_reducible refine cs.mono ?_); rintro e w4 ⟨rfl, hb4⟩))
          go_roundw
          case rel => exact ⟨_, k + 1, dx, rfl, by omega, rfl, by go_num, bel_trans hB hb4, by omega, hnew⟩
          case measure => simp [intOf]; omega
        · have q2 : decide ((dx : Int) > (h : Int)) = false := decide_eq_false (by omega)
          have hnew : Hid (h = min (F (k + 1)) (most - 1)) := Lib.hid (by rw [← hst.out]; omega)
          go_wp2_with (go_at_call 89; ((with_reducible refine cs.mono ?_); rintro e w4 ⟨rfl, hb4⟩))
          go_roundw
          case rel => exact ⟨_, k + 1, h, rfl, by omega, rfl, by go_num, bel_trans hB hb4, by omega, hnew⟩
          case measure => simp [intOf]; omega
      · have hnew : Hid (((h : Int) + 1) = ((min (1 + R) most : Nat) : Int)) := Lib.hid (by have h1 := hR.out; rw [Hend.out k (by omega)] at h1; omega)
        clear hR
        go_wp2
        go_ret
        exact ⟨one (by rw [← hnew.out]), bel_trans hB2 hB⟩
end Go.Proofs.YtnhemglpbhnmdaaGreat.C
