/-
  What is proved: the document's bound, May and get of layer 11.
  What is proved: the document's May of layer 11: may a term stand for a variable?
-/
import Derived.Test.YtnhemglpbhnmdaaGreatMC
import Derived.Test.YtnhemglpbhnmdaaGreatBR
import Derived.Test.YtnhemglpbhnmdaaGreatG5
import Derived.Test.YtnhemglpbhnmdaaGreatZRgtFt
import Derived.Deep.RegionHeld3
namespace Go.Proofs.YtnhemglpbhnmdaaGreat.Mt
open Go.RowKit L T C B U
set_option linter.unusedVariables false
set_option linter.unusedSimpArgs false

theorem bdT_mk (t : Tm) : bdT t = (opT t == 2 || bdTs (argsT t)) := by cases t; rw [bdT]; rfl
theorem bdTs_step {x : Tm} {l : List Tm} {k : Nat} (h : l[k]? = some x) : bdTs (l.drop k) = (bdT x || bdTs (l.drop (k + 1))) := by rw [drop_t h, bdTs]
def BdOk (t : Tm) : Prop := ∀ (a : Option Addr) (n c : Nat) (w : World), ArW w t a n c →
  Calls Tryz.prog 54 #[.agg #[.int .i64 (opT t), .string (nameT t), .int .i64 (numT t), .slice a n c]] w fun e w' => e = .returned (.bool (bdT t)) ∧ Below w.heap.size w w'
set_option maxRecDepth 100000 in
set_option maxHeartbeats 8000000 in
theorem bd_step (t : Tm) (hok : ∀ x ∈ argsT t, BdOk x) : BdOk t := by
  intro a n c w hA
  obtain ⟨W2, hW2, hB2, hs2, S2⟩ := box1 w (opT t) (nameT t) (numT t) a n c
  have hT := TsW.b (ArW.args hA) hB2
  have hR : bdT t = (opT t == 2 || bdTs ((argsT t).drop 0)) := bdT_mk t
  generalize bdT t = R at *
  have hk2 : ∀ k x, (argsT t)[k]? = some x → BdOk x := fun k x h => hok x (List.mem_of_getElem? h)
  have hst : ∀ k x, (argsT t)[k]? = some x → bdTs ((argsT t).drop k) = (bdT x || bdTs ((argsT t).drop (k + 1))) := fun k x h => bdTs_step h
  have he : ∀ k, n ≤ k → bdTs ((argsT t).drop k) = false := fun k h => by rw [List.drop_eq_nil_of_le (by rw [← hT.1]; exact h), bdTs]
  have hn : n ≤ 9223372036854775807 := by have h1 := hT.2.1; have h2 := hT.2.2.1; unfold maxLen at h2; omega
  generalize argsT t = l at *
  obtain ⟨F, hF⟩ : ∃ F : Nat → Bool, ∀ k, bdTs (l.drop k) = F k := ⟨_, fun _ => rfl⟩
  simp only [hF] at hst he hR
  obtain ⟨s0, s1, s2, s3⟩ := S2.four
  have H1 := Lib.hid hT
  have Hst := Lib.hid hst
  have He := Lib.hid he
  have HK := Lib.hid hk2
  have HS := Lib.hid S2
  have HR := Lib.hid hR
  clear hA hT hst he hk2 hok hF S2 hR
  generalize opT t = op at *
  generalize nameT t = nm at *
  generalize numT t = nu at *
  by_cases h2 : op = 2
  · subst h2
    have hnew : Hid (true = R) := Lib.hid (by rw [HR.out]; rfl)
    go_enter Tryz.func54, Tryz.ntmps54
    go_wp2
    go_ret
    exact ⟨oneB hnew.out, hB2⟩
  have q2 : (op == 2) = false := beq_no' h2
  have HR2 : Hid (R = F 0) := Lib.hid (by rw [HR.out, q2]; rfl)
  clear h2
  go_enter Tryz.func54, Tryz.ntmps54
  go_wp2
  go_loopw [3] (fun i wr0 => ∃ (wr : World) (k : Nat), wr = wr0 ∧ k ≤ n ∧ i = .int .i64 k ∧ Below W2.heap.size W2 wr ∧ Hid (F k = F 0)) (fun i _ => n - (intOf i).toNat)
  case atStart => exact ⟨_, 0, rfl, by omega, rfl, Below.refl _ _, Lib.hid rfl⟩
  case round =>
    obtain ⟨wr, k, rfl, hk, rfl, hB, hRk⟩ := hrel
    obtain ⟨u0, u1, u2, s3r⟩ := (TBox.b HS.out hB).four
    by_cases hlt : k < n
    · obtain ⟨bb, o, x, A, M, Cc, rfl, hb, y0, y1, y2, y3, hx, hok⟩ := (TsW.b H1.out hB).at hlt
      have hs1 := Lib.hid (Hst.out k x hx)
      have cs := HK.out k x hx A M Cc wr hok
      clear hx hok H1 Hst HK HS
      generalize bdT x = px at *
      generalize opT x = op' at *
      generalize nameT x = nm' at *
      generalize numT x = nu' at *
      have hk0 : 0 ≤ (k : Int) := by omega
      have hk1 : (k : Int) < (n : Int) := by omega
      cases px with
      | false =>
        have hnew : Hid (F (k + 1) = F 0) := Lib.hid (by rw [← hRk.out, hs1.out]; rfl)
        clear hRk hs1
        go_wp2_with (go_at_call 54; ((with_reducible refine cs.mono ?_); rintro e w4 ⟨rfl, hb4⟩))
        go_roundw
        case rel => exact ⟨_, k + 1, rfl, by omega, by go_num, bel_trans hB hb4, hnew⟩
        case measure => simp [intOf]; omega
      | true =>
        have hnew : Hid (true = R) := Lib.hid (by rw [HR2.out, ← hRk.out, hs1.out]; rfl)
        clear hRk hs1
        go_wp2_with (go_at_call 54; ((with_reducible refine cs.mono ?_); rintro e w4 ⟨rfl, hb4⟩))
        go_ret
        exact ⟨oneB hnew.out, bel_trans hB2 (bel_trans hB hb4)⟩
    · have hnew : Hid (false = R) := Lib.hid (by rw [HR2.out, ← hRk.out, He.out k (by omega)])
      clear hRk
      go_wp2
      go_ret
      exact ⟨oneB hnew.out, bel_trans hB2 hB⟩
theorem Bound_any (t : Tm) : BdOk t := Tm.ind bd_step t
end Go.Proofs.YtnhemglpbhnmdaaGreat.Mt
namespace Go.Proofs.YtnhemglpbhnmdaaGreat.Mt
open Go.RowKit L T C B U
set_option linter.unusedVariables false
set_option linter.unusedSimpArgs false

set_option maxRecDepth 100000 in
set_option maxHeartbeats 4000000 in
theorem May11_any (t : Tm) (a : Option Addr) (n c : Nat) (w : World) (hA : ArW w t a n c) :
    Calls Tryz.prog 25 #[.agg #[.int .i64 (opT t), .string (nameT t), .int .i64 (numT t), .slice a n c]] w fun e w' => e = .returned (.bool (mayT t)) ∧ Below w.heap.size w w' := by
  obtain ⟨W2, hW2, hB2, hs2, S2⟩ := box1 w (opT t) (nameT t) (numT t) a n c
  have hA2 := ArW.b hA hB2
  have c1 := TermRight8_any t a n c W2 hA2
  have c2 := fun (w' : World) (h : Below W2.heap.size W2 w') => Bound_any t a n c w' (ArW.b hA2 h)
  obtain ⟨s0, s1, s2, s3⟩ := S2.four
  have hm : Hid (mayT t = (decide (rightE t = 0) && !bdT t)) := Lib.hid rfl
  have HS := Lib.hid S2
  clear hA hA2 S2
  generalize mayT t = R at *
  generalize bdT t = B at *
  generalize rightE t = E at *
  generalize opT t = op at *
  generalize nameT t = nm at *
  generalize numT t = nu at *
  by_cases hE : E = 0
  · subst hE
    have hn : Hid ((!B) = R) := Lib.hid (by rw [hm.out]; rfl)
    clear hm
    go_enter Tryz.func25, Tryz.ntmps25
    go_wp2_with (first
      | (go_at_call 53; ((with_reducible refine c1.mono ?_); rintro e w3 ⟨rfl, hb3⟩; obtain ⟨u0, u1, u2, u3⟩ := (TBox.b HS.out hb3).four))
      | (go_at_call 54; ((with_reducible refine (c2 _ hb3).mono ?_); rintro e w4 ⟨rfl, hb4⟩; have B4 := bel_trans hb3 hb4)))
    go_ret
    exact ⟨oneB hn.out, bel_trans hB2 B4⟩
  · have hn : Hid (false = R) := Lib.hid (by rw [hm.out, decide_eq_false hE]; rfl)
    have hE2 : (E == 0) = false := beq_no' hE
    clear hm hE
    go_enter Tryz.func25, Tryz.ntmps25
    go_wp2_with (first
      | (go_at_call 53; ((with_reducible refine c1.mono ?_); rintro e w3 ⟨rfl, hb3⟩; obtain ⟨u0, u1, u2, u3⟩ := (TBox.b HS.out hb3).four)))
    go_ret
    exact ⟨oneB hn.out, bel_trans hB2 hb3⟩
end Go.Proofs.YtnhemglpbhnmdaaGreat.Mt
