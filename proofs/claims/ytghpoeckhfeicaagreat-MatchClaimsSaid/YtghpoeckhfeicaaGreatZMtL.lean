/-
  What is proved: the document's more of layer 11, at any pattern.
-/
import Derived.Test.YtghpoeckhfeicaaGreatZMtK
import Derived.Test.YtghpoeckhfeicaaGreatZMtC
namespace Go.Proofs.YtghpoeckhfeicaaGreat.Mt
open Go.RowKit L T C B U
set_option linter.unusedVariables false
set_option linter.unusedSimpArgs false

set_option maxRecDepth 100000 in
set_option maxHeartbeats 8000000 in
theorem more_diff (X : List ByteArray) (p : Tm) (hv : ¬ (opT p = 1 ∧ hasS X (nameT p) = true)) (l : List Pr) (t : Tm) (hd : ¬ (opT p = opT t ∧ nameT p = nameT t ∧ numT p = numT t ∧ (argsT p).length = (argsT t).length)) (b : Option Addr) (m d : Nat) (a : Option Addr) (n c : Nat) (a' : Option Addr) (n' c' : Nat) (aX : Option Addr) (nX cX : Nat) (w : World)
    (hP : ArW w p a n c) (hT : ArW w t a' n' c') (hX : IsS w aX nX X) (hnX : nX ≤ 9223372036854775807) :
    Calls Tryz.prog 86 #[.slice b m d, .agg #[.int .i64 (opT p), .string (nameT p), .int .i64 (numT p), .slice a n c], .agg #[.int .i64 (opT t), .string (nameT t), .int .i64 (numT t), .slice a' n' c'], .slice aX nX cX] w fun e w' => RtK (mat X p l t) w e w' := by
  obtain ⟨W2, hW2, hB2, hs2, S2, T2⟩ := box2 w (opT p) (nameT p) (numT p) a n c (opT t) (nameT t) (numT t) a' n' c'
  have c1 := Has_any aX nX cX X (nameT p) W2 (hX.below hB2) hnX
  have hR := mat_rw X p l t
  rw [if_neg hv] at hR
  have hn : n = (argsT p).length := (ArW.args hP).1
  have hn' : n' = (argsT t).length := (ArW.args hT).1
  obtain ⟨s0, s1, s2, s3⟩ := S2.four
  obtain ⟨t0, t1, t2, t3⟩ := T2.four
  rw [if_neg hd] at hR
  have HFin := Lib.hid (show ∀ (w' : World), Below W2.heap.size W2 w' → RtK (mat X p l t) w (.returned (.tuple #[.slice none 0 0, .bool false])) w' from fun w' hb => by
    refine ⟨none, 0, 0, ?_, fun l' h => ?_, bel_trans hB2 hb⟩
    · rw [hR]; rfl
    · rw [hR] at h; cases h)
  have Hd := Lib.hid hd
  have Hv := Lib.hid hv
  have HX := hasS X (nameT p)
  rw [← hn, ← hn'] at hd
  clear hR hP hT hX S2 T2 Hd hn hn'
  generalize hH : hasS X (nameT p) = H at *
  generalize mat X p l t = R at *
  generalize nameT p = nm at *
  generalize numT p = nz at *
  generalize opT p = op at *
  generalize opT t = ot at *
  generalize nameT t = nt at *
  generalize numT t = zt at *
  clear HX hH
  by_cases h1 : op = 1
  · subst h1
    have hH : H = false := by
      cases H with
      | false => rfl
      | true => exact absurd ⟨rfl, rfl⟩ hv
    subst hH
    clear hv Hv
    by_cases e1 : (1 : Int) = ot
    · subst e1
      by_cases e2 : nm = nt
      · subst e2
        by_cases e3 : nz = zt
        · subst e3
          have e4 : ¬ n = n' := fun e => hd ⟨rfl, rfl, rfl, e⟩
          have q4 : ((n : Int) != (n' : Int)) = true := by simp; omega
          clear hd e4
          go_enter Tryz.func86, Tryz.ntmps86
          go_wp2_with (go_at_call 13; ((with_reducible refine c1.mono ?_); rintro e w1 ⟨rfl, rfl⟩))
          go_ret2
          exact HFin.out _ (Below.refl _ _)
        · have q3 : (nz != zt) = true := bne_iff_ne.2 e3
          clear hd e3
          go_enter Tryz.func86, Tryz.ntmps86
          go_wp2_with (go_at_call 13; ((with_reducible refine c1.mono ?_); rintro e w1 ⟨rfl, rfl⟩))
          go_ret2
          exact HFin.out _ (Below.refl _ _)
      · have q2 : (nm.toList == nt.toList) = false := by
          cases h : nm.toList == nt.toList with
          | false => rfl
          | true => exact absurd (nm_eq.1 h) e2
        have q2' : (nm.toList != nt.toList) = true := by unfold bne; rw [q2]; rfl
        clear hd e2
        go_enter Tryz.func86, Tryz.ntmps86
        go_wp2_with (go_at_call 13; ((with_reducible refine c1.mono ?_); rintro e w1 ⟨rfl, rfl⟩))
        go_ret2
        exact HFin.out _ (Below.refl _ _)
    · have q1 : ((1 : Int) != ot) = true := bne_iff_ne.2 e1
      clear hd e1
      go_enter Tryz.func86, Tryz.ntmps86
      go_wp2_with (go_at_call 13; ((with_reducible refine c1.mono ?_); rintro e w1 ⟨rfl, rfl⟩))
      go_ret2
      exact HFin.out _ (Below.refl _ _)
  · have q0 : (op == 1) = false := beq_no' h1
    clear hv Hv c1 h1
    by_cases e1 : op = ot
    · subst e1
      by_cases e2 : nm = nt
      · subst e2
        by_cases e3 : nz = zt
        · subst e3
          have e4 : ¬ n = n' := fun e => hd ⟨rfl, rfl, rfl, e⟩
          have q4 : ((n : Int) != (n' : Int)) = true := by simp; omega
          clear hd e4
          go_enter Tryz.func86, Tryz.ntmps86
          go_wp2
          go_ret2
          exact HFin.out _ (Below.refl _ _)
        · have q3 : (nz != zt) = true := bne_iff_ne.2 e3
          clear hd e3
          go_enter Tryz.func86, Tryz.ntmps86
          go_wp2
          go_ret2
          exact HFin.out _ (Below.refl _ _)
      · have q2 : (nm.toList == nt.toList) = false := by
          cases h : nm.toList == nt.toList with
          | false => rfl
          | true => exact absurd (nm_eq.1 h) e2
        have q2' : (nm.toList != nt.toList) = true := by unfold bne; rw [q2]; rfl
        clear hd e2
        go_enter Tryz.func86, Tryz.ntmps86
        go_wp2
        go_ret2
        exact HFin.out _ (Below.refl _ _)
    · have q1 : (op != ot) = true := bne_iff_ne.2 e1
      clear hd e1
      go_enter Tryz.func86, Tryz.ntmps86
      go_wp2
      go_ret2
      exact HFin.out _ (Below.refl _ _)
end Go.Proofs.YtghpoeckhfeicaaGreat.Mt
