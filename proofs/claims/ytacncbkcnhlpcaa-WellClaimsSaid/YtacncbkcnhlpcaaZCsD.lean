/-
  What is proved: how deep a claim of few parts is, as package claim tells.
-/
import Derived.Test.YtacncbkcnhlpcaaZCsS
namespace Go.Proofs.Ytacncbkcnhlpcaa.Cs
open Go.RowKit Go.Shelf L T C
set_option linter.unusedVariables false
set_option linter.unusedSimpArgs false

theorem dpCs_le {l : List Cl} (k : Nat) : dpCs (l.take k) ≤ dpCs l := by
  have := dpCs_app (l.take k) (l.drop k)
  rw [List.take_append_drop] at this
  omega
mutual
theorem dpC_sz : ∀ t : Cl, dpC t ≤ szC t
  | .mk o s z ts l => by rw [dpC, szC]; have := dpCs_sz l; omega
theorem dpCs_sz : ∀ l : List Cl, dpCs l ≤ szCs l
  | [] => by rw [dpCs, szCs]; omega
  | t :: l => by rw [dpCs, szCs]; have := dpC_sz t; have := dpCs_sz l; have : 0 < szC t := by rw [szC_mk]; omega
                 omega
end
def HeightOk (t : Cl) : Prop := ∀ (ks : SS) (a : Option Addr) (m c : Nat) (w : World), dpC t ≤ 1000000 → ArWC w t ks a m c →
  Calls Try.prog 102 #[.agg #[.int .i64 (opC t), .string (nmC t), .string (soC t), .slice ks.a ks.n ks.c, .slice a m c], .func (.func 86) #[] #[]] w fun e w' => e = .returned (.int .i64 (dpC t : Nat)) ∧ Below w.heap.size w w'

set_option maxRecDepth 100000 in
set_option maxHeartbeats 4000000 in
theorem height_step (t : Cl) (hok : ∀ x ∈ subC t, HeightOk x) : HeightOk t := by
  intro ks a m c w hd hA
  obtain ⟨W2, hW2, hB2, hs2, S2⟩ := cbox1 w (opC t) (nmC t) (soC t) ks a m c
  have hT := CsW.b (ArWC.subs hA) hB2
  rw [dpC_mk] at hd ⊢
  have hk2 : ∀ k x, (subC t)[k]? = some x → HeightOk x := fun k x h => hok x (List.mem_of_getElem? h)
  have hn : m ≤ 9223372036854775807 := by have h1 := hT.2.1; have h2 := hT.2.2.1; unfold maxLen at h2; omega
  have hle := fun k => @dpCs_le (subC t) k
  have htk : ∀ k x, (subC t)[k]? = some x → dpCs ((subC t).take (k + 1)) = max (dpCs ((subC t).take k)) (dpC x) := fun k x h => dpCs_take h
  have hend : ∀ k, m ≤ k → dpCs ((subC t).take k) = dpCs (subC t) := fun k h => by rw [List.take_of_length_le (by rw [← hT.1]; exact h)]
  have h0 : dpCs ((subC t).take 0) = 0 := rfl
  generalize subC t = la at *
  obtain ⟨F, hF⟩ : ∃ F : Nat → Nat, ∀ k, dpCs (la.take k) = F k := ⟨_, fun _ => rfl⟩
  simp only [hF] at hle htk hend h0
  generalize dpCs la = R at *
  obtain ⟨s0, s1, s2, s3, s4⟩ := S2.five
  have H1 := Lib.hid hT
  have Htk := Lib.hid htk
  have Hend := Lib.hid hend
  have HK := Lib.hid hk2
  have Hle := Lib.hid hle
  have H0 := Lib.hid h0
  clear hA hT htk hend hk2 hok hF S2 hle h0
  generalize opC t = op at *
  generalize nmC t = nm at *
  generalize soC t = nu at *
  go_enter Try.func102, Try.ntmps102
  go_wp2_with (go_at_call 86; ((with_reducible refine (subs_any _ _ _ _ _ _ _ W2).mono ?_); rintro e W2b ⟨rfl, hW2b⟩; have HW2 := Lib.hid hW2b; clear hW2b))
  have hB2b : Below W2.heap.size W2 W2b := by rw [HW2.out]; exact bel_alloc (Below.refl _ _) _
  clear HW2
  go_loopw [5, 12] (fun q i wr0 => ∃ (wr : World) (k h : Nat), wr = wr0 ∧ k ≤ m ∧ q = .int .i64 h ∧ i = .int .i64 k ∧ Below W2.heap.size W2 wr ∧ Hid (h = F k)) (fun q i _ => m - (intOf i).toNat)
  case atStart => exact ⟨_, 0, 0, rfl, by omega, rfl, rfl, hB2b, H0.out.symm⟩
  case round =>
    obtain ⟨wr, k, h, rfl, hk, rfl, rfl, hB, hR⟩ := hrel
    by_cases hlt : k < m
    · obtain ⟨bb, o, x, kk, A, M, Cc, rfl, hb, y0, y1, y2, y3, y4, hx, hok⟩ := (CsW.b H1.out hB).at hlt
      obtain ⟨W4, hW4, hB4, hs4, S4⟩ := cbox1 wr (opC x) (nmC x) (soC x) kk A M Cc
      have hmx := Htk.out k x hx
      have hl1 := Hle.out (k + 1)
      have hl0 := Hle.out k
      have hhk := hR.out
      have cs := HK.out k x hx kk A M Cc W4 (by omega) (ArWC.b hok hB4)
      obtain ⟨f0, f1, f2, f3, f4⟩ := S4.five
      have B4 := bel_trans hB hB4
      rw [← hhk] at hmx
      have Hmx := Lib.hid hmx
      have hdx : dpC x ≤ 1000000 := by omega
      have hhb : h ≤ 1000000 := by omega
      clear hx hok H1 Htk HK S4 hmx hR hl0 hl1 hhk
      generalize dpC x = dx at *
      generalize opC x = op' at *
      generalize nmC x = nm' at *
      generalize soC x = nu' at *
      have hk0 : 0 ≤ (k : Int) := by omega
      have hk1 : (k : Int) < (m : Int) := by omega
      go_wp2_with (go_at_call 102; ((with_reducible refine cs.mono ?_); rintro e w4 ⟨rfl, hb4⟩))
      go_roundw
      case rel => exact ⟨_, k + 1, max h dx, rfl, by omega, by congr 1; split <;> omega, by go_num, bel_trans B4 hb4, Hmx.out.symm⟩
      case measure => simp [intOf]; omega
    · have hnew : Hid (h = R) := by show _ = _; rw [hR.out, Hend.out k (by omega)]
      have hhb : h ≤ 1000000 := by have := hnew.out; omega
      clear hR
      go_wp2
      go_ret
      exact ⟨one (by rw [← hnew.out]; omega), bel_trans hB2 hB⟩
theorem height_any (t : Cl) : HeightOk t := Cl.ind height_step t

set_option maxRecDepth 100000 in
set_option maxHeartbeats 4000000 in
theorem treeDepth_few (t : Cl) (ks : SS) (a : Option Addr) (m c : Nat) (w : World) (hsz : szC t ≤ 4096) (hA : ArWC w t ks a m c) :
    Calls Try.prog 85 #[.agg #[.int .i64 (opC t), .string (nmC t), .string (soC t), .slice ks.a ks.n ks.c, .slice a m c], .func (.func 86) #[] #[]] w fun e w' => e = .returned (.int .i64 ((min (dpC t) 65 : Nat) : Int)) ∧ Below w.heap.size w w' := by
  obtain ⟨W2, hW2, hB2, hs2, S2⟩ := cbox1 w (opC t) (nmC t) (soC t) ks a m c
  have hd := dpC_sz t
  have cS := few_any t ks a m c W2 (ArWC.b hA hB2)
  rw [show decide (szC t ≤ 4096) = true from decide_eq_true hsz] at cS
  have cH := fun (w' : World) (h : Below W2.heap.size W2 w') => height_any t ks a m c w' (by omega) (ArWC.b (ArWC.b hA hB2) h)
  obtain ⟨s0, s1, s2, s3, s4⟩ := S2.five
  have HS := Lib.hid S2
  clear S2 hA
  have Hm := Lib.hid (show ∀ R : Int, R = min (dpC t : Int) 65 → R = ((min (dpC t) 65 : Nat) : Int) from fun R h => by omega)
  generalize ((min (dpC t) 65 : Nat) : Int) = R at *
  generalize szC t = sz at *
  generalize dpC t = dp at *
  generalize opC t = op at *
  generalize nmC t = nm at *
  generalize soC t = nu at *
  go_enter Try.func85, Try.ntmps85
  go_wp2_with (first
    | (go_at_call 101; ((with_reducible refine cS.mono ?_); rintro e w3 ⟨rfl, hb3⟩; obtain ⟨u0, u1, u2, u3, u4⟩ := (CBox.b HS.out hb3).five))
    | (go_at_call 102; ((with_reducible refine (cH _ hb3).mono ?_); rintro e w4 ⟨rfl, hb4⟩)))
  all_goals go_ret
  all_goals exact ⟨one (Hm.out _ (by omega)), bel_trans hB2 (bel_trans hb3 hb4)⟩
set_option maxHeartbeats 4000000 in
theorem Depth_few (t : Cl) (ks : SS) (a : Option Addr) (m c : Nat) (w : World) (hsz : szC t ≤ 4096) (hA : ArWC w t ks a m c) :
    Calls Try.prog 60 #[.agg #[.int .i64 (opC t), .string (nmC t), .string (soC t), .slice ks.a ks.n ks.c, .slice a m c]] w fun e w' => e = .returned (.int .i64 ((min (dpC t) 65 : Nat) : Int)) ∧ Below w.heap.size w w' := by
  obtain ⟨W2, hW2, hB2, hs2, S2⟩ := cbox1 w (opC t) (nmC t) (soC t) ks a m c
  have cS := treeDepth_few t ks a m c W2 hsz (ArWC.b hA hB2)
  obtain ⟨s0, s1, s2, s3, s4⟩ := S2.five
  clear S2 hA hsz
  generalize ((min (dpC t) 65 : Nat) : Int) = R at *
  generalize opC t = op at *
  generalize nmC t = nm at *
  generalize soC t = nu at *
  go_enter Try.func60, Try.ntmps60
  go_wp2_with (go_at_call 85; ((with_reducible refine cS.mono ?_); rintro e w3 ⟨rfl, hb3⟩))
  go_ret
  exact ⟨rfl, bel_trans hB2 hb3⟩
end Go.Proofs.Ytacncbkcnhlpcaa.Cs
