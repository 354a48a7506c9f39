/-
  What is proved: whether a term has no bound number beyond 2^40, by the document of layer 10.
-/
import Derived.Test.YtnhemglpbhnmdaaGreatBS
import Derived.Test.YtnhemglpbhnmdaaGreatBR
namespace Go.Proofs.YtnhemglpbhnmdaaGreat.U
open Go.RowKit L T C
set_option linter.unusedVariables false
set_option linter.unusedSimpArgs false

mutual
def lowT : Tm → Bool
  | .mk o _ z l => lowTs l && (o != 2 || decide (z ≤ 1099511627776))
def lowTs : List Tm → Bool
  | [] => true
  | t :: l => lowT t && lowTs l
end
theorem lowT_mk (t : Tm) : lowT t = (lowTs (argsT t) && (opT t != 2 || decide (numT t ≤ 1099511627776))) := by cases t; rw [lowT]; rfl
theorem lowTs_step {x : Tm} {l : List Tm} {k : Nat} (h : l[k]? = some x) : lowTs (l.drop k) = (lowT x && lowTs (l.drop (k + 1))) := by rw [drop_t h, lowTs]
def LowOk (t : Tm) : Prop := ∀ (a : Option Addr) (n c : Nat) (w : World), ArW w t a n c →
  Calls Tryz.prog 30 #[.agg #[.int .i64 (opT t), .string (nameT t), .int .i64 (numT t), .slice a n c]] w fun e w' => e = .returned (.bool (lowT t)) ∧ Below w.heap.size w w'
set_option maxRecDepth 100000 in
set_option maxHeartbeats 8000000 in
theorem low_step (t : Tm) (hok : ∀ x ∈ argsT t, LowOk x) : LowOk t := by
  intro a n c w hA
  obtain ⟨W2, hW2, hB2, hs2, S2⟩ := box1 w (opT t) (nameT t) (numT t) a n c
  have hT := TsW.b (ArW.args hA) hB2
  have hR : lowT t = (lowTs ((argsT t).drop 0) && (opT t != 2 || decide (numT t ≤ 1099511627776))) := lowT_mk t
  generalize lowT t = R at *
  have hk2 : ∀ k x, (argsT t)[k]? = some x → LowOk x := fun k x h => hok x (List.mem_of_getElem? h)
  have hst : ∀ k x, (argsT t)[k]? = some x → lowTs ((argsT t).drop k) = (lowT x && lowTs ((argsT t).drop (k + 1))) := fun k x h => lowTs_step h
  have he : ∀ k, n ≤ k → lowTs ((argsT t).drop k) = true := fun k h => by rw [List.drop_eq_nil_of_le (by rw [← hT.1]; exact h), lowTs]
  have hn : n ≤ 9223372036854775807 := by have h1 := hT.2.1; have h2 := hT.2.2.1; unfold maxLen at h2; omega
  generalize argsT t = l at *
  obtain ⟨F, hF⟩ : ∃ F : Nat → Bool, ∀ k, lowTs (l.drop k) = F k := ⟨_, fun _ => rfl⟩
  simp only [hF] at hst he hR
  obtain ⟨s0, s1, s2, s3⟩ := S2.four
  have H1 := Lib.hid hT
  have Hst := Lib.hid hst
  have He := Lib.hid he
  have HK := Lib.hid hk2
  have HS := Lib.hid S2
  have HR := Lib.hid hR
  clear hA hT hst he hk2 hok hF S2 hR
  generalize opT t = op at *
  generalize nameT t = nm at *
  generalize numT t = nu at *
  go_enter Tryz.func30, Tryz.ntmps30
  go_wp2
  go_loopw [3] (fun i wr0 => ∃ (wr : World) (k : Nat), wr = wr0 ∧ k ≤ n ∧ i = .int .i64 k ∧ Below W2.heap.size W2 wr ∧ Hid (F k = F 0)) (fun i _ => n - (intOf i).toNat)
  case atStart => exact ⟨_, 0, rfl, by omega, rfl, Below.refl _ _, Lib.hid rfl⟩
  case round =>
    obtain ⟨wr, k, rfl, hk, rfl, hB, hRk⟩ := hrel
    obtain ⟨u0, u1, u2, s3r⟩ := (TBox.b HS.out hB).four
    by_cases hlt : k < n
    · obtain ⟨bb, o, x, A, M, Cc, rfl, hb, y0, y1, y2, y3, hx, hok⟩ := (TsW.b H1.out hB).at hlt
      have hs1 := Lib.hid (Hst.out k x hx)
      have cs := HK.out k x hx A M Cc wr hok
      clear hx hok H1 Hst HK HS
      generalize lowT x = px at *
      generalize opT x = op' at *
      generalize nameT x = nm' at *
      generalize numT x = nu' at *
      have hk0 : 0 ≤ (k : Int) := by omega
      have hk1 : (k : Int) < (n : Int) := by omega
      cases px with
      | true =>
        have hnew : Hid (F (k + 1) = F 0) := Lib.hid (by rw [← hRk.out, hs1.out]; rfl)
        clear hRk hs1
        go_wp2_with (go_at_call 30; ((with_reducible refine cs.mono ?_); rintro e w4 ⟨rfl, hb4⟩))
        go_roundw
        case rel => exact ⟨_, k + 1, rfl, by omega, by go_num, bel_trans hB hb4, hnew⟩
        case measure => simp [intOf]; omega
      | false =>
        have hnew : Hid (false = R) := Lib.hid (by rw [HR.out, ← hRk.out, hs1.out]; rfl)
        clear hRk hs1
        go_wp2_with (go_at_call 30; ((with_reducible refine cs.mono ?_); rintro e w4 ⟨rfl, hb4⟩))
        go_ret
        exact ⟨oneB hnew.out, bel_trans hB2 (bel_trans hB hb4)⟩
    · have hF0 : F 0 = true := by rw [← hRk.out, He.out k (by omega)]
      clear hRk
      by_cases h2 : op = 2
      · subst h2
        cases hd : decide (nu ≤ 1099511627776) with
        | true =>
          have hnew : Hid (true = R) := Lib.hid (by rw [HR.out, hF0, hd]; rfl)
          clear hF0
          go_wp2
          go_ret
          exact ⟨oneB hnew.out, bel_trans hB2 hB⟩
        | false =>
          have hnew : Hid (false = R) := Lib.hid (by rw [HR.out, hF0, hd]; rfl)
          clear hF0
          go_wp2
          go_ret
          exact ⟨oneB hnew.out, bel_trans hB2 hB⟩
      · have q2 : (op != 2) = true := bne_iff_ne.2 h2
        have hnew : Hid (true = R) := Lib.hid (by rw [HR.out, hF0, q2]; rfl)
        clear hF0 h2
        go_wp2
        go_ret
        exact ⟨oneB hnew.out, bel_trans hB2 hB⟩
theorem LowT_any (t : Tm) : LowOk t := Tm.ind low_step t
end Go.Proofs.YtnhemglpbhnmdaaGreat.U
