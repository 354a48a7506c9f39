/-
  What is proved: whether terms have at most 60 parts each.
-/
import Derived.Test.YtelepojpnkoelaaZLibTs
import Derived.Test.YtelepojpnkoelaaZLibF
namespace Go.Proofs.Ytelepojpnkoelaa.T
open Go.RowKit L
set_option linter.unusedVariables false
set_option linter.unusedSimpArgs false

def small (l : List Tm) : Bool := l.all (fun t => decide (size t ≤ 60))
theorem small_step {l : List Tm} {k : Nat} {t : Tm} (h : l[k]? = some t) : small (l.drop k) = (decide (size t ≤ 60) && small (l.drop (k + 1))) := by
  rw [drop_t h]; rfl

set_option maxRecDepth 100000 in
set_option maxHeartbeats 4000000 in
theorem Small_any (l : List Tm) (a : Option Addr) (n c : Nat) (w : World) (H : TsW w a n c l) : Calls Try.prog 5 #[.slice a n c] w fun e w' => e = .returned (.bool (small l)) ∧ Below w.heap.size w w' := by
  have hn : n = l.length := H.1
  have hc : n ≤ 9223372036854775807 := by have h1 := H.2.1; have h2 := H.2.2.1; unfold maxLen at h2; omega
  have H1 := Lib.hid H
  have Hst : Hid (∀ k t, l[k]? = some t → small (l.drop k) = (decide (size t ≤ 60) && small (l.drop (k + 1)))) := fun k t h => small_step h
  have Hend : Hid (∀ k, n ≤ k → small (l.drop k) = true) := by
    intro k hk; rw [List.drop_eq_nil_of_le (by omega)]; rfl
  have HR0 : Hid (small (l.drop 0) = small l) := by show _ = _; rw [List.drop_zero]
  generalize hR : small l = R at *
  clear hR H hn
  go_enter Try.func5, Try.ntmps5
  go_wp2
  go_loopw [3] (fun i wr0 => ∃ (wr : World) (k : Nat), wr = wr0 ∧ k ≤ n ∧ i = .int .i64 k ∧ Below w.heap.size w wr ∧ Hid (small (l.drop k) = R)) (fun i _ => n - (intOf i).toNat)
  case atStart => exact ⟨_, 0, rfl, by omega, rfl, Below.refl _ _, HR0⟩
  case round =>
    obtain ⟨wr, k, rfl, hk, rfl, hB, hR⟩ := hrel
    by_cases hlt : k < n
    · obtain ⟨bb, o, x, A', M, Cc, rfl, hb, y0, y1, y2, y3, hx, hok⟩ := (TsW.b H1.out hB).at hlt
      have cs := Size_any x A' M Cc 60 wr (by omega) hok
      have hle := szTo_le x 60
      have hs1 := Hst.out k x hx
      rw [show ((60 : Nat) : Int) = 60 from rfl] at cs
      clear hx hok H1 Hst
      generalize szTo 60 x = sz at *
      generalize opT x = op' at *
      generalize nameT x = nm' at *
      generalize numT x = nu' at *
      have hk0 : 0 ≤ (k : Int) := by omega
      have hk1 : (k : Int) < (n : Int) := by omega
      by_cases hq : size x ≤ 60
      · have hnew : Hid (small (l.drop (k + 1)) = R) := by show _ = _; rw [← hR.out, hs1, decide_eq_true hq]; rfl
        have hq2 : sz ≤ 60 := hle.2 hq
        clear hR hs1 hle hq
        go_wp2_with (go_at_call 17; ((with_reducible refine cs.mono ?_); rintro e w4 ⟨rfl, hb4⟩))
        go_roundw
        case rel => exact ⟨_, k + 1, rfl, by omega, by go_num, bel_trans hB hb4, hnew⟩
        case measure => simp [intOf]; omega
      · have hnew : Hid (false = R) := by show _ = _; rw [← hR.out, hs1, decide_eq_false hq]; rfl
        have hq2 : ¬ sz ≤ 60 := fun h => hq (hle.1 h)
        clear hR hs1 hle hq
        go_wp2_with (go_at_call 17; ((with_reducible refine cs.mono ?_); rintro e w4 ⟨rfl, hb4⟩))
        go_ret
        exact ⟨oneB hnew.out, bel_trans hB hb4⟩
    · have hnew : Hid (true = R) := by show _ = _; rw [← hR.out, Hend.out k (by omega)]
      clear hR
      go_wp2
      go_ret
      exact ⟨oneB hnew.out, hB⟩
end Go.Proofs.Ytelepojpnkoelaa.T
