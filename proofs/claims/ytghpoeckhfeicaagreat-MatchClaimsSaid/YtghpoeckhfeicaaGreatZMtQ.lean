/-
  What is proved: package match's Term, and the document's More of layer 11.
-/
import Derived.Test.YtghpoeckhfeicaaGreatZMtP
namespace Go.Proofs.YtghpoeckhfeicaaGreat.Mt
open Go.RowKit L T C B U
set_option linter.unusedVariables false
set_option linter.unusedSimpArgs false

set_option maxRecDepth 100000 in
set_option maxHeartbeats 4000000 in
theorem TermM_any (X : List ByteArray) (p t : Tm) (a : Option Addr) (n c : Nat) (a' : Option Addr) (n' c' : Nat) (aX : Option Addr) (nX cX : Nat) (w : World) (hP : ArW w p a n c) (hsp : smT p) (hzp : size p ≤ 4096) (hT : ArW w t a' n' c') (hzt : size t ≤ 4096) (hX : IsS w aX nX X) (hnX : nX ≤ 1000000) (hsX : ∀ x ∈ X, x.size ≤ maxLen) :
    Calls Tryz.prog 20 #[.agg #[.int .i64 (opT p), .string (nameT p), .int .i64 (numT p), .slice a n c], .agg #[.int .i64 (opT t), .string (nameT t), .int .i64 (numT t), .slice a' n' c'], .slice aX nX cX] w fun e w' => RtPs (mat X p [] t) w e w' := by
  obtain ⟨W2, hW2, hB2, hs2, S2, T2⟩ := box2 w (opT p) (nameT p) (numT p) a n c (opT t) (nameT t) (numT t) a' n' c'
  have cm := More_any X [] p t none 0 0 a n c a' n' c' aX nX cX W2 (UsW.nil _) (fun q hq => by cases hq) (by omega) (ArW.b hP hB2) hsp hzp (ArW.b hT hB2) hzt (hX.below hB2) hnX hsX
  have hm : moreF X [] p t = mat X p [] t := by unfold moreF; rw [if_pos (by rw [rgU])]
  rw [hm] at cm
  obtain ⟨s0, s1, s2, s3⟩ := S2.four
  obtain ⟨t0, t1, t2, t3⟩ := T2.four
  have HF := Lib.hid (show ∀ (e : Ending) (w' : World), RtPs (mat X p [] t) W2 e w' → ∃ (A : Option Addr) (N C : Nat), e = .returned (.tuple #[.slice A N C, .bool (mat X p [] t).isSome]) ∧ Hid (RtPs (mat X p [] t) w (.returned (.tuple #[.slice A N C, .bool (mat X p [] t).isSome])) w') from fun e w' ⟨A, N, C, h1, h2, h3⟩ => ⟨A, N, C, h1, Lib.hid ⟨A, N, C, rfl, h2, bel_trans hB2 h3⟩⟩)
  clear S2 T2 hP hT hX hm hsp hzp hzt hsX
  generalize mat X p [] t = R at *
  generalize hok : R.isSome = ok at *
  generalize opT p = op at *
  generalize nameT p = nm at *
  generalize numT p = nz at *
  generalize opT t = ot at *
  generalize nameT t = nt at *
  generalize numT t = zt at *
  clear hok
  go_enter Tryz.func20, Tryz.ntmps20
  go_wp2_with (go_at_call 30; ((with_reducible refine cm.mono ?_); rintro e w3 h3; obtain ⟨A, N, C, rfl, hf⟩ := HF.out _ _ h3; clear h3))
  go_ret2
  exact hf.out
end Go.Proofs.YtghpoeckhfeicaaGreat.Mt
