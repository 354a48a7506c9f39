/-
  What is proved: what the document's Depth of a term returns.
-/
import Derived.Test.YtbmniajimkondaaZTrmD
namespace Go.Proofs.Ytbmniajimkondaa.T
open Go.RowKit L
set_option linter.unusedVariables false
set_option linter.unusedSimpArgs false

mutual
theorem dpTo_max : ∀ (t : Tm) (most : Nat), dpTo most t ≤ most + 1
  | .mk o s n l, most => by rw [dpTo]; have := dpTos_max l most 1 (Nat.le_refl _); omega
theorem dpTos_max : ∀ (l : List Tm) (most d : Nat), 1 ≤ d → dpTos most d l ≤ max d (most + 1)
  | [], most, d, _ => by rw [dpTos]; omega
  | t :: l, most, d, h0 => by
    rw [dpTos]
    split
    · have h1 := dpTo_max t (most - 1)
      have h2 := dpTos_max l most (max d (1 + dpTo (most - 1) t)) (by omega)
      omega
    · omega
end
theorem dpTo_args (most : Nat) (t : Tm) : dpTo most t = dpTos most 1 (argsT t) := by cases t; rw [dpTo]; rfl
def RefDepthOk (t : Tm) : Prop := ∀ (a : Option Addr) (n c most : Nat) (w : World), most ≤ 1000000000 → ArW w t a n c →
  Calls Try.prog 60 #[.agg #[.int .i64 (opT t), .string (nameT t), .int .i64 (numT t), .slice a n c], .int .i64 most] w fun e w' => e = .returned (.int .i64 (dpTo most t : Nat)) ∧ Below w.heap.size w w'
set_option maxRecDepth 100000 in
set_option maxHeartbeats 4000000 in
theorem refdepth_step (t : Tm) (hok : ∀ x ∈ argsT t, RefDepthOk x) : RefDepthOk t := by
  intro a n c most w hm hA
  obtain ⟨W2, hW2, hB2, hs2, S2⟩ := box1 w (opT t) (nameT t) (numT t) a n c
  have hT := TsW.b (ArW.args hA) hB2
  rw [dpTo_args]
  generalize hl : argsT t = l at *
  have hst : ∀ k x q, l[k]? = some x → q ≤ most → dpTos most q (l.drop k) = dpTos most (max q (1 + dpTo (most - 1) x)) (l.drop (k + 1)) := fun k x q h h2 => by rw [drop_t h, dpTos, if_pos h2]
  have he : ∀ k q, n ≤ k → dpTos most q (l.drop k) = q := fun k q h => by rw [List.drop_eq_nil_of_le (by rw [← hT.1]; exact h), dpTos]
  have he2 : ∀ k q, most < q → dpTos most q (l.drop k) = q := fun k q h => by
    cases hd : l.drop k with
    | nil => rw [dpTos]
    | cons x r => rw [dpTos, if_neg (by omega)]
  have hn : n ≤ 9223372036854775807 := by have h1 := hT.2.1; have h2 := hT.2.2.1; unfold maxLen at h2; omega
  have hk2 : ∀ k x, l[k]? = some x → RefDepthOk x := fun k x h => hok x (List.mem_of_getElem? h)
  have h0 : dpTos most 1 l = dpTos most 1 (l.drop 0) := rfl
  rw [h0]
  obtain ⟨F, hF⟩ : ∃ F : Nat → Nat → Nat, ∀ k q, dpTos most q (l.drop k) = F k q := ⟨_, fun _ _ => rfl⟩
  simp only [hF] at hst he he2 ⊢
  generalize hRR : F 0 1 = R
  have HR0 := Lib.hid hRR
  clear hRR
  clear hF h0 hok
  obtain ⟨s0, s1, s2, s3⟩ := S2.four
  have H1 := Lib.hid hT
  have Hst := Lib.hid hst
  have He := Lib.hid he
  have He2 := Lib.hid he2
  have HK := Lib.hid hk2
  have HS := Lib.hid S2
  clear hA hT hst he he2 hk2 S2 hl s0 s1 s2
  generalize opT t = op at *
  generalize nameT t = nm at *
  generalize numT t = nu at *
  go_enter Try.func60, Try.ntmps60
  go_wp2
  go_loopw [5, 6] (fun q i wr0 => ∃ (wr : World) (k nk : Nat), wr = wr0 ∧ k ≤ n ∧ 1 ≤ nk ∧ nk ≤ most + 1 ∧ q = .int .i64 nk ∧ i = .int .i64 k ∧ Below W2.heap.size W2 wr ∧ Hid (F k nk = R)) (fun q i _ => n - (intOf i).toNat)
  case atStart => exact ⟨_, 0, 1, rfl, by omega, by omega, by omega, rfl, rfl, Below.refl _ _, HR0⟩
  case round =>
    obtain ⟨wr, k, nk, rfl, hk, hnk1, hnk, rfl, rfl, hB, hR⟩ := hrel
    obtain ⟨_, _, _, s3r⟩ := (TBox.b HS.out hB).four
    by_cases hlt : k < n
    · by_cases hq : nk ≤ most
      · obtain ⟨bb, o, x, A, M, Cc, rfl, hb, y0, y1, y2, y3, hx, hok⟩ := (TsW.b H1.out hB).at hlt
        have hs1 := Lib.hid (Hst.out k x nk hx hq)
        have cs := HK.out k x hx A M Cc (most - 1) wr (by omega) hok
        have hmx := dpTo_max x (most - 1)
        have em : ((most - 1 : Nat) : Int) = (most : Int) - 1 := by omega
        rw [em] at cs
        clear hx hok H1 Hst HK HS em
        generalize dpTo (most - 1) x = sz at *
        generalize opT x = op' at *
        generalize nameT x = nm' at *
        generalize numT x = nu' at *
        have hnew : Hid (F (k + 1) (max nk (1 + sz)) = R) := by show _ = _; rw [← hR.out, hs1.out]
        clear hR hs1
        have hk0 : 0 ≤ (k : Int) := by omega
        have hk1 : (k : Int) < (n : Int) := by omega
        go_wp2_with (go_at_call 60; ((with_reducible refine cs.mono ?_); rintro e w4 ⟨rfl, hb4⟩))
        go_roundw
        case rel => exact ⟨_, k + 1, max nk (1 + sz), rfl, by omega, by omega, by omega, by congr 1; (try split) <;> omega, by go_num, bel_trans hB hb4, hnew⟩
        case measure => simp [intOf]; omega
      · have hnew : Hid (nk = R) := by show _ = _; rw [← hR.out, He2.out k nk (by omega)]
        clear hR
        go_wp2
        go_ret
        exact ⟨one (by rw [← hnew.out]), bel_trans hB2 hB⟩
    · have hnew : Hid (nk = R) := by show _ = _; rw [← hR.out, He.out k nk (by omega)]
      clear hR
      go_wp2
      go_ret
      exact ⟨one (by rw [← hnew.out]), bel_trans hB2 hB⟩
theorem refdepth_any (t : Tm) : RefDepthOk t := Tm.ind refdepth_step t
set_option maxHeartbeats 4000000 in
theorem refDepth_any (t : Tm) (a : Option Addr) (m c : Nat) (w : World) (hA : ArW w t a m c) :
    Calls Try.prog 19 #[.agg #[.int .i64 (opT t), .string (nameT t), .int .i64 (numT t), .slice a m c]] w fun e w' => e = .returned (.int .i64 ((min (depth t) 65 : Nat) : Int)) ∧ Below w.heap.size w w' := by
  obtain ⟨W2, hW2, hB2, hs2, S2⟩ := box1 w (opT t) (nameT t) (numT t) a m c
  have cS := refdepth_any t a m c 64 W2 (by omega) (ArW.b hA hB2)
  rw [show ((64 : Nat) : Int) = 64 from rfl] at cS
  obtain ⟨s0, s1, s2, s3⟩ := S2.four
  have h1 := dpTo_min t 64
  clear S2 hA
  generalize dpTo 64 t = sz at *
  have H1 := Lib.hid (show ((min sz 65 : Nat) : Int) = ((min (depth t) 65 : Nat) : Int) by rw [show (65 : Nat) = 64 + 1 from rfl, h1])
  clear h1
  generalize ((min (depth t) 65 : Nat) : Int) = R at *
  generalize opT t = op at *
  generalize nameT t = nm at *
  generalize numT t = nu at *
  go_enter Try.func19, Try.ntmps19
  go_wp2_with (go_at_call 60; ((with_reducible refine cS.mono ?_); rintro e W5 ⟨rfl, hb5⟩))
  all_goals go_ret
  all_goals exact ⟨one (by rw [← H1.out]; omega), bel_trans hB2 hb5⟩
end Go.Proofs.Ytbmniajimkondaa.T
