/-
  What is proved: package match's Term, and the document's More of layer 11.
-/
import Derived.Test.YtnodcpifbcabmaaZMtP
namespace Go.Proofs.Ytnodcpifbcabmaa.Mt
open Go.RowKit L T C B U
set_option linter.unusedVariables false
set_option linter.unusedSimpArgs false

set_option maxRecDepth 100000 in
set_option maxHeartbeats 4000000 in
theorem TermM_any (X : List ByteArray) (p t : Tm) (a : Option Addr) (n c : Nat) (a' : Option Addr) (n' c' : Nat) (aX : Option Addr) (nX cX : Nat) (w : World) (hP : ArW w p a n c) (hsp : smT p) (hzp : size p ≤ 4096) (hT : ArW w t a' n' c') (hzt : size t ≤ 4096) (hX : IsS w aX nX X) (hnX : nX ≤ 1000000) (hsX : ∀ x ∈ X, x.size ≤ maxLen) :
    Calls Try.prog 36 #[.agg #[.int .i64 (opT p), .string (nameT p), .int .i64 (numT p), .slice a n c], .agg #[.int .i64 (opT t), .string (nameT t), .int .i64 (numT t), .slice a' n' c'], .slice aX nX cX] w fun e w' => RtPs (mat X p [] t) w e w' := by
  obtain ⟨W2, hW2, hB2, hs2, S2, T2⟩ := box2 w (opT p) (nameT p) (numT p) a n c (opT t) (nameT t) (numT t) a' n' c'
  have cm := More_any X [] p t none 0 0 a n c a' n' c' aX nX cX W2 (UsW.nil _) (fun q hq => by cases hq) (by omega) (ArW.b hP hB2) hsp hzp (ArW.b hT hB2) hzt (hX.below hB2) hnX hsX
  have hm : moreF X [] p t = mat X p [] t := by unfold moreF; rw [if_pos (by rw [rgU])]
  rw [hm] at cm
  obtain ⟨s0, s1, s2, s3⟩ := S2.four
  obtain ⟨t0, t1, t2, t3⟩ := T2.four
  have HF := Lib.hid (show ∀ (e : Ending) (w' : World), RtPs (mat X p [] t) W2 e w' → ∃ (A : Option Addr) (N C : Nat), e = .returned (.tuple #[.slice A N C, .bool (mat X p [] t).isSome]) ∧ Hid (RtPs (mat X p [] t) w (.returned (.tuple #[.slice A N C, .bool (mat X p [] t).isSome])) w') from fun e w' ⟨A, N, C, h1, h2, h3⟩ => ⟨A, N, C, h1, Lib.hid ⟨A, N, C, rfl, h2, bel_trans hB2 h3⟩⟩)
  clear S2 T2 hP hT hX hm hsp hzp hzt hsX
  generalize mat X p [] t = R at *
  generalize hok : R.isSome = ok at *
  generalize opT p = op at *
  generalize nameT p = nm at *
  generalize numT p = nz at *
  generalize opT t = ot at *
  generalize nameT t = nt at *
  generalize numT t = zt at *
  clear hok
  go_enter Try.func36, Try.ntmps36
  go_wp2_with (go_at_call 40; ((with_reducible refine cm.mono ?_); rintro e w3 h3; obtain ⟨A, N, C, rfl, hf⟩ := HF.out _ _ h3; clear h3))
  go_ret2
  exact hf.out
set_option maxRecDepth 100000 in
set_option maxHeartbeats 4000000 in
theorem RefMore_any (X : List ByteArray) (l : List Pr) (p t : Tm) (b : Option Addr) (m d : Nat) (a : Option Addr) (n c : Nat) (a' : Option Addr) (n' c' : Nat) (aX : Option Addr) (nX cX : Nat) (w : World)
    (hRt : ∀ w', UsW w' b m d l → Calls Try.prog 78 #[.slice b m d] w' fun e w'' => e = .returned (.bool (decide (rgU none l = 0))) ∧ Below w'.heap.size w' w'')
    (hsz : l.length + size p ≤ 1000000) (hG : UsW w b m d l) (hP : ArW w p a n c) (hT : ArW w t a' n' c') (hX : IsS w aX nX X) (hnX : nX ≤ 9223372036854775807) :
    Calls Try.prog 41 #[.slice b m d, .agg #[.int .i64 (opT p), .string (nameT p), .int .i64 (numT p), .slice a n c], .agg #[.int .i64 (opT t), .string (nameT t), .int .i64 (numT t), .slice a' n' c'], .slice aX nX cX] w fun e w' => RtPs (moreF X l p t) w e w' := by
  obtain ⟨W2, hW2, hB2, hs2, S2, T2⟩ := box2 w (opT p) (nameT p) (numT p) a n c (opT t) (nameT t) (numT t) a' n' c'
  have cr := hRt W2 (UsW.b hG hB2)
  have cm := fun (w' : World) (hb : Below W2.heap.size W2 w') => More11_any X p l t b m d a n c a' n' c' aX nX cX w' hsz (UsW.b (UsW.b hG hB2) hb) (ArW.b (ArW.b hP hB2) hb) (ArW.b (ArW.b hT hB2) hb) ((hX.below hB2).below hb) hnX
  have ct := fun (ok : Bool) (A : Option Addr) (N C : Nat) (w' : World) => told_any ok A N C w'
  have HS := Lib.hid S2
  have HT := Lib.hid T2
  by_cases hr : rgU none l = 0
  · have hm : moreF X l p t = mat X p l t := by unfold moreF; rw [if_pos hr]
    rw [decide_eq_true hr] at cr
    rw [hm]
    unfold RtK at cm
    have HF := Lib.hid (show ∀ (A : Option Addr) (N C : Nat) (w3 w' : World), (∀ l', mat X p l t = some l' → UsW w' A N C l') → Below W2.heap.size W2 w3 → Below w3.heap.size w3 w' → RtPs (mat X p l t) w (.returned (.tuple #[toldS (mat X p l t).isSome A N C, .bool (mat X p l t).isSome])) w' from fun A N C w3 w' h h3 hb => told_fin h (bel_trans hB2 (bel_trans h3 hb)))
    clear S2 T2 hP hT hX hG hm hr hRt
    generalize mat X p l t = R at *
    generalize hok : R.isSome = ok at *
    generalize opT p = op at *
    generalize nameT p = nm at *
    generalize numT p = nz at *
    generalize opT t = ot at *
    generalize nameT t = nt at *
    generalize numT t = zt at *
    clear hok
    go_enter Try.func41, Try.ntmps41
    go_wp2_with (first
      | (go_at_call 78; ((with_reducible refine cr.mono ?_); rintro e w2 ⟨rfl, hb2⟩; obtain ⟨s0, s1, s2, s3⟩ := (TBox.b HS.out hb2).four; obtain ⟨t0, t1, t2, t3⟩ := (TBox.b HT.out hb2).four))
      | (go_at_call 70; ((with_reducible refine (cm _ hb2).mono ?_); rintro e w3 ⟨A, N, C, rfl, hU, hb3⟩; have HU := Lib.hid hU; clear hU))
      | (go_at_call 69; ((with_reducible refine (ct _ _ _ _ _).mono ?_); rintro e w4 ⟨rfl, rfl⟩)))
    go_ret2
    exact HF.out _ _ _ _ _ HU.out hb2 hb3
  · have hm : moreF X l p t = none := by unfold moreF; rw [if_neg hr]
    rw [decide_eq_false hr] at cr
    rw [hm]
    have HF := Lib.hid (show ∀ (w' : World), Below W2.heap.size W2 w' → RtPs none w (.returned (.tuple #[.slice none 0 0, .bool false])) w' from fun w' hb => ⟨none, 0, 0, rfl, UsW.nil _, bel_trans hB2 hb⟩)
    clear S2 T2 hP hT hX hG hm hr hRt cm ct
    generalize opT p = op at *
    generalize nameT p = nm at *
    generalize numT p = nz at *
    generalize opT t = ot at *
    generalize nameT t = nt at *
    generalize numT t = zt at *
    go_enter Try.func41, Try.ntmps41
    go_wp2_with (go_at_call 78; ((with_reducible refine cr.mono ?_); rintro e w2 ⟨rfl, hb2⟩))
    go_ret2
    exact HF.out _ hb2
end Go.Proofs.Ytnodcpifbcabmaa.Mt
