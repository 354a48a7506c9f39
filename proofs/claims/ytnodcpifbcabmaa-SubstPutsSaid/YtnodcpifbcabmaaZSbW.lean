/-
  What is proved: whether a substitution has at most twelve pairs, of terms of at most sixty parts each.
-/
import Derived.Test.YtnodcpifbcabmaaBS
import Derived.Test.YtnodcpifbcabmaaZTrmY
import Derived.Test.YtnodcpifbcabmaaBB
namespace Go.Proofs.Ytnodcpifbcabmaa.U
open Go.RowKit L T C B
set_option linter.unusedVariables false
set_option linter.unusedSimpArgs false

def smallUs (l : List Pr) : Bool := l.all (fun p => decide (size p.t ≤ 60))
def smallU (l : List Pr) : Bool := smallUs l && decide (l.length ≤ 12)
theorem smallU_of {l : List Pr} (h : smallU l = true) : l.length ≤ 12 ∧ ∀ p ∈ l, size p.t ≤ 60 := by
  unfold smallU smallUs at h
  rw [Bool.and_eq_true, List.all_eq_true, decide_eq_true_eq] at h
  exact ⟨h.2, fun p hp => by simpa using h.1 p hp⟩
theorem smallUs_step {l : List Pr} {k : Nat} {p : Pr} (h : l[k]? = some p) : smallUs (l.drop k) = (decide (size p.t ≤ 60) && smallUs (l.drop (k + 1))) := by
  rw [drop_u h]; rfl
theorem small_one (t : Tm) : small [t] = decide (size t ≤ 60) := by unfold small; simp
set_option maxRecDepth 100000 in
set_option maxHeartbeats 4000000 in
theorem SmallU_any (l : List Pr) (a : Option Addr) (n c : Nat) (w : World) (H : UsW w a n c l) : Calls Try.prog 23 #[.slice a n c] w fun e w' => e = .returned (.bool (smallU l)) ∧ Below w.heap.size w w' := by
  have hn : n = l.length := H.1
  have hc : n ≤ 9223372036854775807 := H.lt63
  have H1 := Lib.hid H
  have Hst : Hid (∀ k p, l[k]? = some p → (smallUs (l.drop k) && decide (l.length ≤ 12)) = (decide (size p.t ≤ 60) && (smallUs (l.drop (k + 1)) && decide (l.length ≤ 12)))) := fun k p h => by rw [smallUs_step h, Bool.and_assoc]
  have Hend : Hid (∀ k, n ≤ k → (smallUs (l.drop k) && decide (l.length ≤ 12)) = decide ((n : Int) ≤ 12)) := by
    intro k hk
    rw [List.drop_eq_nil_of_le (by omega), ← hn]
    show (true && _) = _
    rw [Bool.true_and]
    exact decide_eq_decide.2 (by omega)
  have HR0 : Hid ((smallUs (l.drop 0) && decide (l.length ≤ 12)) = smallU l) := by show _ = _; rw [List.drop_zero]; rfl
  generalize hR : smallU l = R at *
  obtain ⟨F, hF⟩ : ∃ F : Nat → Bool, ∀ k, (smallUs (l.drop k) && decide (l.length ≤ 12)) = F k := ⟨_, fun _ => rfl⟩
  simp only [hF] at Hst Hend HR0
  clear hR H hn hF
  go_enter Try.func23, Try.ntmps23
  go_wp2
  go_loopw [3] (fun i wr0 => ∃ (wr : World) (k : Nat), wr = wr0 ∧ k ≤ n ∧ i = .int .i64 k ∧ Below w.heap.size w wr ∧ Hid (F k = R)) (fun i _ => n - (intOf i).toNat)
  case atStart => exact ⟨_, 0, rfl, by omega, rfl, Below.refl _ _, HR0⟩
  case round =>
    obtain ⟨wr, k, rfl, hk, rfl, hB, hR⟩ := hrel
    by_cases hlt : k < n
    · obtain ⟨bb, o, x, A', M, Cc, rfl, hb, y0, y1, y2, y3, y4, hx, hok⟩ := (UsW.b H1.out hB).at hlt
      obtain ⟨W4, hW4, hB4, hs4, S4⟩ := box1 wr (opT x.t) (nameT x.t) (numT x.t) A' M Cc
      have cs := Small_any [x.t] (some ⟨wr.heap.size, 0, none⟩) 1 1 W4 (tbox_ts S4 (ArW.b hok hB4))
      rw [small_one] at cs
      have hs1 := Hst.out k x hx
      clear hx hok H1 Hst S4 hs4
      generalize opT x.t = op' at *
      generalize nameT x.t = nm' at *
      generalize numT x.t = nu' at *
      have hk0 : 0 ≤ (k : Int) := by omega
      have hk1 : (k : Int) < (n : Int) := by omega
      cases hq : decide (size x.t ≤ 60) with
      | true =>
        have hnew : Hid (F (k + 1) = R) := by show _ = _; rw [← hR.out, hs1, hq]; rfl
        rw [hq] at cs
        clear hR hs1 hq
        go_wp2_with (go_at_call 17; ((with_reducible refine cs.mono ?_); rintro e w4 ⟨rfl, hb4⟩))
        go_roundw
        case rel => exact ⟨_, k + 1, rfl, by omega, by go_num, bel_trans (bel_trans hB hB4) hb4, hnew⟩
        case measure => simp [intOf]; omega
      | false =>
        have hnew : Hid (false = R) := by show _ = _; rw [← hR.out, hs1, hq]; rfl
        rw [hq] at cs
        clear hR hs1 hq
        go_wp2_with (go_at_call 17; ((with_reducible refine cs.mono ?_); rintro e w4 ⟨rfl, hb4⟩))
        go_ret
        exact ⟨oneB hnew.out, bel_trans (bel_trans hB hB4) hb4⟩
    · have hnew : Hid (decide ((n : Int) ≤ 12) = R) := by show _ = _; rw [← hR.out, Hend.out k (by omega)]
      clear hR
      go_wp2
      go_ret
      exact ⟨oneB hnew.out, hB⟩
end Go.Proofs.Ytnodcpifbcabmaa.U
