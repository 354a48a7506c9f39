/-
  What is proved: how deep a term is, as package term counts it for terms of few parts, and as the document does.
-/
import Derived.Test.YtelepojpnkoelaaZTrmS
namespace Go.Proofs.Ytelepojpnkoelaa.T
open Go.RowKit L
set_option linter.unusedVariables false
set_option linter.unusedSimpArgs false

theorem depths_app (l m : List Tm) : depths (l ++ m) = max (depths l) (depths m) := by
  induction l with
  | nil => rw [List.nil_append, depths]; omega
  | cons t l ih => rw [List.cons_append, depths, depths, ih]; omega
theorem depth_args (t : Tm) : depth t = 1 + depths (argsT t) := by cases t; rw [depth]; rfl
theorem depths_take {x : Tm} {l : List Tm} {k : Nat} (h : l[k]? = some x) : depths (l.take (k + 1)) = max (depths (l.take k)) (depth x) := by
  rw [take_t h, depths_app, depths, depths]; omega
theorem depths_le {l : List Tm} (k : Nat) : depths (l.take k) ≤ depths l := by
  have := depths_app (l.take k) (l.drop k)
  rw [List.take_append_drop] at this
  omega
def HeightOk (t : Tm) : Prop := ∀ (a : Option Addr) (m c : Nat) (w : World), depth t ≤ 1000000 → ArW w t a m c →
  Calls Try.prog 67 #[.agg #[.int .i64 (opT t), .string (nameT t), .int .i64 (numT t), .slice a m c], .func (.func 39) #[] #[]] w fun e w' => e = .returned (.int .i64 (depth t : Nat)) ∧ Below w.heap.size w w'

set_option maxRecDepth 100000 in
set_option maxHeartbeats 4000000 in
theorem height_step (t : Tm) (hok : ∀ x ∈ argsT t, HeightOk x) : HeightOk t := by
  intro a m c w hd hA
  obtain ⟨W2, hW2, hB2, hs2, S2⟩ := box1 w (opT t) (nameT t) (numT t) a m c
  have hT := TsW.b (ArW.args hA) hB2
  rw [depth_args] at hd ⊢
  have hk2 : ∀ k x, (argsT t)[k]? = some x → HeightOk x := fun k x h => hok x (List.mem_of_getElem? h)
  have hn : m ≤ 9223372036854775807 := by have h1 := hT.2.1; have h2 := hT.2.2.1; unfold maxLen at h2; omega
  have hle := fun k => @depths_le (argsT t) k
  have htk : ∀ k x, (argsT t)[k]? = some x → depths ((argsT t).take (k + 1)) = max (depths ((argsT t).take k)) (depth x) := fun k x h => depths_take h
  have hend : ∀ k, m ≤ k → depths ((argsT t).take k) = depths (argsT t) := fun k h => by rw [List.take_of_length_le (by rw [← hT.1]; exact h)]
  have h0 : depths ((argsT t).take 0) = 0 := rfl
  generalize argsT t = la at *
  obtain ⟨F, hF⟩ : ∃ F : Nat → Nat, ∀ k, depths (la.take k) = F k := ⟨_, fun _ => rfl⟩
  simp only [hF] at hle htk hend h0
  generalize depths la = R at *
  obtain ⟨s0, s1, s2, s3⟩ := S2.four
  have H1 := Lib.hid hT
  have Htk := Lib.hid htk
  have Hend := Lib.hid hend
  have HK := Lib.hid hk2
  have Hle := Lib.hid hle
  have H0 := Lib.hid h0
  clear hA hT htk hend hk2 hok hF S2 hle h0
  generalize opT t = op at *
  generalize nameT t = nm at *
  generalize numT t = nu at *
  go_enter Try.func67, Try.ntmps67
  go_wp2_with (go_at_call 39; ((with_reducible refine (args_any _ _ _ _ _ _ W2).mono ?_); rintro e W2b ⟨rfl, hW2b⟩; have HW2 := Lib.hid hW2b; clear hW2b))
  have hB2b : Below W2.heap.size W2 W2b := by rw [HW2.out]; exact bel_alloc (Below.refl _ _) _
  clear HW2
  go_loopw [5, 12] (fun q i wr0 => ∃ (wr : World) (k h : Nat), wr = wr0 ∧ k ≤ m ∧ q = .int .i64 h ∧ i = .int .i64 k ∧ Below W2.heap.size W2 wr ∧ Hid (h = F k)) (fun q i _ => m - (intOf i).toNat)
  case atStart => exact ⟨_, 0, 0, rfl, by omega, rfl, rfl, hB2b, H0.out.symm⟩
  case round =>
    obtain ⟨wr, k, h, rfl, hk, rfl, rfl, hB, hR⟩ := hrel
    by_cases hlt : k < m
    · obtain ⟨bb, o, x, A, M, Cc, rfl, hb, y0, y1, y2, y3, hx, hok⟩ := (TsW.b H1.out hB).at hlt
      obtain ⟨W4, hW4, hB4, hs4, S4⟩ := box1 wr (opT x) (nameT x) (numT x) A M Cc
      have hmx := Htk.out k x hx
      have hl1 := Hle.out (k + 1)
      have hl0 := Hle.out k
      have hhk := hR.out
      have cs := HK.out k x hx A M Cc W4 (by omega) (ArW.b hok hB4)
      obtain ⟨f0, f1, f2, f3⟩ := S4.four
      have B4 := bel_trans hB hB4
      rw [← hhk] at hmx
      have Hmx := Lib.hid hmx
      have hdx : depth x ≤ 1000000 := by omega
      have hhb : h ≤ 1000000 := by omega
      clear hx hok H1 Htk HK S4 hmx hR hl0 hl1 hhk
      generalize depth x = dx at *
      generalize opT x = op' at *
      generalize nameT x = nm' at *
      generalize numT x = nu' at *
      have hk0 : 0 ≤ (k : Int) := by omega
      have hk1 : (k : Int) < (m : Int) := by omega
      go_wp2_with (go_at_call 67; ((with_reducible refine cs.mono ?_); rintro e w4 ⟨rfl, hb4⟩))
      go_roundw
      case rel => exact ⟨_, k + 1, max h dx, rfl, by omega, by congr 1; split <;> omega, by go_num, bel_trans B4 hb4, Hmx.out.symm⟩
      case measure => simp [intOf]; omega
    · have hnew : Hid (h = R) := by show _ = _; rw [hR.out, Hend.out k (by omega)]
      have hhb : h ≤ 1000000 := by have := hnew.out; omega
      clear hR
      go_wp2
      go_ret
      exact ⟨one (by rw [← hnew.out]; omega), bel_trans hB2 hB⟩
theorem height_any (t : Tm) : HeightOk t := Tm.ind height_step t

set_option maxRecDepth 100000 in
set_option maxHeartbeats 4000000 in
theorem treeDepth_few (t : Tm) (a : Option Addr) (m c : Nat) (w : World) (hsz : size t ≤ 4096) (hA : ArW w t a m c) :
    Calls Try.prog 38 #[.agg #[.int .i64 (opT t), .string (nameT t), .int .i64 (numT t), .slice a m c], .func (.func 39) #[] #[]] w fun e w' => e = .returned (.int .i64 ((min (depth t) 65 : Nat) : Int)) ∧ Below w.heap.size w w' := by
  obtain ⟨W2, hW2, hB2, hs2, S2⟩ := box1 w (opT t) (nameT t) (numT t) a m c
  have hd := depth_size t
  have cS := few_any t a m c W2 (ArW.b hA hB2)
  rw [show decide (size t ≤ 4096) = true from decide_eq_true hsz] at cS
  have cH := fun (w' : World) (h : Below W2.heap.size W2 w') => height_any t a m c w' (by omega) (ArW.b (ArW.b hA hB2) h)
  obtain ⟨s0, s1, s2, s3⟩ := S2.four
  have HS := Lib.hid S2
  clear S2 hA
  have Hm := Lib.hid (show ∀ R : Int, R = min (depth t : Int) 65 → R = ((min (depth t) 65 : Nat) : Int) from fun R h => by omega)
  generalize ((min (depth t) 65 : Nat) : Int) = R at *
  generalize size t = sz at *
  generalize depth t = dp at *
  generalize opT t = op at *
  generalize nameT t = nm at *
  generalize numT t = nu at *
  go_enter Try.func38, Try.ntmps38
  go_wp2_with (first
    | (go_at_call 66; ((with_reducible refine cS.mono ?_); rintro e w3 ⟨rfl, hb3⟩; obtain ⟨u0, u1, u2, u3⟩ := (TBox.b HS.out hb3).four))
    | (go_at_call 67; ((with_reducible refine (cH _ hb3).mono ?_); rintro e w4 ⟨rfl, hb4⟩)))
  all_goals go_ret
  all_goals exact ⟨one (Hm.out _ (by omega)), bel_trans hB2 (bel_trans hb3 hb4)⟩
set_option maxHeartbeats 4000000 in
theorem Depth_few (t : Tm) (a : Option Addr) (m c : Nat) (w : World) (hsz : size t ≤ 4096) (hA : ArW w t a m c) :
    Calls Try.prog 19 #[.agg #[.int .i64 (opT t), .string (nameT t), .int .i64 (numT t), .slice a m c]] w fun e w' => e = .returned (.int .i64 ((min (depth t) 65 : Nat) : Int)) ∧ Below w.heap.size w w' := by
  obtain ⟨W2, hW2, hB2, hs2, S2⟩ := box1 w (opT t) (nameT t) (numT t) a m c
  have cS := treeDepth_few t a m c W2 hsz (ArW.b hA hB2)
  obtain ⟨s0, s1, s2, s3⟩ := S2.four
  clear S2 hA hsz
  generalize ((min (depth t) 65 : Nat) : Int) = R at *
  generalize opT t = op at *
  generalize nameT t = nm at *
  generalize numT t = nu at *
  go_enter Try.func19, Try.ntmps19
  go_wp2_with (go_at_call 38; ((with_reducible refine cS.mono ?_); rintro e w3 ⟨rfl, hb3⟩))
  go_ret
  exact ⟨rfl, bel_trans hB2 hb3⟩

end Go.Proofs.Ytelepojpnkoelaa.T
