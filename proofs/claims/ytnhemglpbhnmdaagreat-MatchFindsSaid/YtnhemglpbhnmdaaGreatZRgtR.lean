/-
  What is proved: the first error of a term by the document of layer 7: its Depth, Size, part, Right, at any term.
-/
import Derived.Test.YtnhemglpbhnmdaaGreatZRgtC
import Derived.Test.YtnhemglpbhnmdaaGreatBR
import Derived.Test.YtnhemglpbhnmdaaGreatBL
namespace Go.Proofs.YtnhemglpbhnmdaaGreat.C
open Go.RowKit L T
set_option linter.unusedVariables false
set_option linter.unusedSimpArgs false

theorem depths_le_take (l : List Tm) (k : Nat) : depths (l.take k) ≤ depths l := by
  have h := depths_appR (l.take k) (l.drop k)
  rw [List.take_append_drop] at h
  omega
def Dep7Ok (t : Tm) : Prop := ∀ (a : Option Addr) (n c most : Nat) (w : World), most ≤ 1000000000 → ArW w t a n c →
  Calls Tryz.prog 131 #[.agg #[.int .i64 (opT t), .string (nameT t), .int .i64 (numT t), .slice a n c], .int .i64 most] w fun e w' => e = .returned (.int .i64 ((min (depth t) (most + 1) : Nat) : Int)) ∧ Below w.heap.size w w'
set_option maxRecDepth 100000 in
set_option maxHeartbeats 4000000 in
theorem dep7_step (t : Tm) (hok : ∀ x ∈ argsT t, Dep7Ok x) : Dep7Ok t := by
  intro a n c most w hm hA
  obtain ⟨W2, hW2, hB2, hs2, S2⟩ := box1 w (opT t) (nameT t) (numT t) a n c
  have hT := TsW.b (ArW.args hA) hB2
  rw [depth_argsR]
  have hk2 : ∀ k x, (argsT t)[k]? = some x → Dep7Ok x := fun k x h => hok x (List.mem_of_getElem? h)
  have hn : n ≤ 9223372036854775807 := by have h1 := hT.2.1; have h2 := hT.2.2.1; unfold maxLen at h2; omega
  have htk : ∀ k x, (argsT t)[k]? = some x → depths ((argsT t).take (k + 1)) = max (depths ((argsT t).take k)) (depth x) := fun k x h => depths_takeR h
  have hend : ∀ k, n ≤ k → depths ((argsT t).take k) = depths (argsT t) := fun k h => by rw [List.take_of_length_le (by rw [← hT.1]; exact h)]
  have hle : ∀ k, depths ((argsT t).take k) ≤ depths (argsT t) := fun k => depths_le_take _ k
  have h0 : depths ((argsT t).take 0) = 0 := rfl
  generalize argsT t = la at *
  obtain ⟨F, hF⟩ : ∃ F : Nat → Nat, ∀ k, depths (la.take k) = F k := ⟨_, fun _ => rfl⟩
  simp only [hF] at htk hend h0 hle
  generalize depths la = R at *
  obtain ⟨s0, s1, s2, s3⟩ := S2.four
  have H1 := Lib.hid hT
  have Htk := Lib.hid htk
  have Hend := Lib.hid hend
  have Hle := Lib.hid hle
  have HK := Lib.hid hk2
  have HS := Lib.hid S2
  have HR0 : Hid (1 = min (1 + F 0) (most + 1)) := Lib.hid (by rw [h0]; omega)
  clear hA hT htk hend hk2 hok hF S2 h0 hle
  generalize opT t = op at *
  generalize nameT t = nm at *
  generalize numT t = nu at *
  go_enter Tryz.func131, Tryz.ntmps131
  go_wp2
  go_loopw [5, 6] (fun q i wr0 => ∃ (wr : World) (k h : Nat), wr = wr0 ∧ k ≤ n ∧ q = .int .i64 h ∧ i = .int .i64 k ∧ Below W2.heap.size W2 wr ∧ 1 ≤ h ∧ h ≤ 1000000001 ∧ Hid (h = min (1 + F k) (most + 1))) (fun q i _ => n - (intOf i).toNat)
  case atStart => exact ⟨_, 0, 1, rfl, by omega, rfl, rfl, Below.refl _ _, by omega, by omega, HR0⟩
  case round =>
    obtain ⟨wr, k, h, rfl, hk, rfl, rfl, hB, hh1, hhm, hR⟩ := hrel
    obtain ⟨_, _, _, s3r⟩ := (TBox.b HS.out hB).four
    by_cases hlt : k < n
    · by_cases hhd : h ≤ most
      · have q1 : decide (h ≤ most) = true := decide_eq_true (by omega)
        obtain ⟨bb, o, x, A, M, Cc, rfl, hb, y0, y1, y2, y3, hx, hok⟩ := (TsW.b H1.out hB).at hlt
        have cs := HK.out k x hx A M Cc (most - 1) wr (by omega) hok
        have em : ((most - 1 : Nat) : Int) = (most : Int) - 1 := by omega
        rw [em] at cs
        have hst : Hid (max h (1 + min (depth x) (most - 1 + 1)) = min (1 + F (k + 1)) (most + 1)) := Lib.hid (by rw [Htk.out k x hx, hR.out]; have := hR.out; omega)
        clear hx hok H1 Htk HK HS em hR
        generalize hdx : min (depth x) (most - 1 + 1) = dx at *
        have hdm : dx ≤ 1000000000 := by omega
        clear hdx
        generalize opT x = op' at *
        generalize nameT x = nm' at *
        generalize numT x = nu' at *
        have hk0 : 0 ≤ (k : Int) := by omega
        have hk1 : (k : Int) < (n : Int) := by omega
        clear hhd
        go_wp2_with (go_at_call 131; ((with_reducible refine cs.mono ?_); rintro e w4 ⟨rfl, hb4⟩))
        all_goals
          go_roundw
          case rel => exact ⟨_, k + 1, max h (1 + dx), rfl, by omega, by congr 1; split <;> omega, by go_num, bel_trans hB hb4, by omega, by omega, hst⟩
          case measure => simp [intOf]; omega
      · have q1 : decide (h ≤ most) = false := decide_eq_false (by omega)
        have hnew : Hid ((h : Int) = ((min (1 + R) (most + 1) : Nat) : Int)) := Lib.hid (by have h1 := hR.out; have h2 := Hle.out k; omega)
        have hk1 : (k : Int) < (n : Int) := by omega
        clear hR hhd
        go_wp2
        go_ret
        exact ⟨one hnew.out, bel_trans hB2 hB⟩
    · have hnew : Hid ((h : Int) = ((min (1 + R) (most + 1) : Nat) : Int)) := Lib.hid (by have h1 := hR.out; rw [Hend.out k (by omega)] at h1; omega)
      clear hR
      go_wp2
      go_ret
      exact ⟨one hnew.out, bel_trans hB2 hB⟩
theorem dep7_any (t : Tm) : Dep7Ok t := Tm.ind dep7_step t
set_option maxRecDepth 100000 in
theorem Depth7_any (t : Tm) (a : Option Addr) (n c : Nat) (w : World) (hA : ArW w t a n c) :
    Calls Tryz.prog 98 #[.agg #[.int .i64 (opT t), .string (nameT t), .int .i64 (numT t), .slice a n c]] w fun e w' => e = .returned (.int .i64 ((min (depth t) 65 : Nat) : Int)) ∧ Below w.heap.size w w' := by
  obtain ⟨W2, hW2, hB2, hs2, S2⟩ := box1 w (opT t) (nameT t) (numT t) a n c
  have cT := dep7_any t a n c 64 W2 (by omega) (ArW.b hA hB2)
  rw [show ((64 : Nat) : Int) = 64 from rfl, show (64 + 1 : Nat) = 65 from rfl] at cT
  obtain ⟨s0, s1, s2, s3⟩ := S2.four
  clear hA S2
  generalize hd : min (depth t) 65 = d at *
  have hd65 : (d : Int) ≤ 65 := by omega
  generalize opT t = op at *
  generalize nameT t = nm at *
  generalize numT t = nu at *
  clear hd
  go_enter Tryz.func98, Tryz.ntmps98
  go_wp2_with (go_at_call 131; ((with_reducible refine cT.mono ?_); rintro e w3 ⟨rfl, hb3⟩))
  go_ret
  refine ⟨?_, bel_trans hB2 hb3⟩
  first | rfl | (congr 2; done) | (congr 2; (repeat' split) <;> omega)
set_option maxRecDepth 100000 in
theorem Size7_any (t : Tm) (a : Option Addr) (n c : Nat) (w : World) (hA : ArW w t a n c) :
    Calls Tryz.prog 99 #[.agg #[.int .i64 (opT t), .string (nameT t), .int .i64 (numT t), .slice a n c]] w fun e w' => e = .returned (.int .i64 ((min (size t) 4097 : Nat) : Int)) ∧ Below w.heap.size w w' := by
  obtain ⟨W2, hW2, hB2, hs2, S2⟩ := box1 w (opT t) (nameT t) (numT t) a n c
  have cT := Size_any t a n c 4096 W2 (by omega) (ArW.b hA hB2)
  rw [show ((4096 : Nat) : Int) = 4096 from rfl] at cT
  have hsz : szTo 4096 t = min (size t) 4097 := by
    have h1 := szTo_max t 4096
    have h2 := szTo_le t 4096
    have h3 := szTo_small t 4096
    by_cases h : size t ≤ 4096
    · have := h3 h; omega
    · omega
  obtain ⟨s0, s1, s2, s3⟩ := S2.four
  clear hA S2
  rw [hsz] at cT
  clear hsz
  generalize hd : min (size t) 4097 = d at *
  have hd2 : (d : Int) ≤ 4097 := by omega
  clear hd
  generalize opT t = op at *
  generalize nameT t = nm at *
  generalize numT t = nu at *
  go_enter Tryz.func99, Tryz.ntmps99
  go_wp2_with (go_at_call 24; ((with_reducible refine cT.mono ?_); rintro e w3 ⟨rfl, hb3⟩))
  go_ret
  refine ⟨?_, bel_trans hB2 hb3⟩
  first | rfl | (congr 2; done) | (congr 2; (repeat' split) <;> omega)
end Go.Proofs.YtnhemglpbhnmdaaGreat.C
