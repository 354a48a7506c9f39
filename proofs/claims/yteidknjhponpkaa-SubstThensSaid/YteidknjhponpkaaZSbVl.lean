/-
  What is proved: the law over what two substitutions are together.
-/
import Derived.Test.YteidknjhponpkaaV2
import Derived.Test.YteidknjhponpkaaZSbVr
import Derived.Test.YteidknjhponpkaaZSbOz
import Derived.Test.YteidknjhponpkaaZSbV
import Derived.Test.YteidknjhponpkaaW1
namespace Go.Proofs.Yteidknjhponpkaa.U
open Go.RowKit L T C B
set_option linter.unusedVariables false
set_option linter.unusedSimpArgs false

theorem eqPs_reflV : ∀ l : List Pr, eqPs l l = true
  | [] => rfl
  | p :: l => by rw [eqPs, eqPs_reflV l, Bool.and_true]; unfold eqP; rw [eqS_refl, eqT_iff.2 rfl]; rfl
/-- what package subst returns is what the document does -/
theorem then_is {a b L : List Pr} (hz : ∀ p ∈ b, zT p.t) (h1 : ThenF a b L) (h2 : RisU L) : L = putsR (a.map (thenL b) ++ b) := by
  refine ris_ext h2 (putsR_ris _) fun s => ?_
  rw [h1.1 s, putsR_get]
  have e : thenL b = thenB b := by
    funext p
    unfold thenL thenB
    rw [get_eq (fun p hp => lf_wk0 p.t (hz p hp))]
  rw [e]
set_option maxRecDepth 100000 in
set_option maxHeartbeats 8000000 in
theorem thensB (a b : List Pr) (A : Option Addr) (n c : Nat) (A' : Option Addr) (n' c' : Nat) (w : World) (hG : UsW w A n c a) (hG' : UsW w A' n' c' b) (hsa : smU a) (hsb : smU b) (hz : ∀ p ∈ b, zT p.t) :
    Calls Try.prog 4 #[.slice A n c, .slice A' n' c'] w fun e w' => e = .returned (.bool true) ∧ Below w.heap.size w w' := by
  have g0 := fun (w' : World) => goes_any w'
  have z1 := fun (w' : World) (h : Below w.heap.size w w') => SmallU_any a A n c w' (UsW.b hG h)
  have z2 := fun (w' : World) (h : Below w.heap.size w w') => SmallU_any b A' n' c' w' (UsW.b hG' h)
  cases ha : smallU a with
  | false =>
    have z3 := z1 w (Below.refl _ _)
    rw [ha] at z3
    clear z1 z2 ha hG hG' hsa hsb hz
    go_enter Try.func4, Try.ntmps4
    go_wp2_with (first
      | (go_at_call 13; ((with_reducible refine z3.mono ?_); rintro e w1 ⟨rfl, hb1⟩))
      | (go_at_call 14; ((with_reducible refine (g0 _).mono ?_); rintro e w2 ⟨rfl, hb2⟩)))
    go_ret
    exact ⟨rfl, bel_trans hb1 hb2⟩
  | true =>
    have z3 := z1 w (Below.refl _ _)
    rw [ha] at z3
    cases hb : smallU b with
    | false =>
      rw [hb] at z2
      clear z1 ha hb hG hG' hsa hsb hz
      go_enter Try.func4, Try.ntmps4
      go_wp2_with (first
        | (go_at_call 13; ((with_reducible refine z3.mono ?_); rintro e w1 ⟨rfl, hb1⟩; have z3 := True.intro))
        | (go_at_call 13; ((with_reducible refine (z2 _ hb1).mono ?_); rintro e w2 ⟨rfl, hb2⟩))
        | (go_at_call 14; ((with_reducible refine (g0 _).mono ?_); rintro e w3 ⟨rfl, hb3⟩)))
      go_ret
      exact ⟨rfl, bel_trans (bel_trans hb1 hb2) hb3⟩
    | true =>
      rw [hb] at z2
      obtain ⟨la, sa⟩ := smallU_of ha
      obtain ⟨lb, sb⟩ := smallU_of hb
      have hn : n = a.length := hG.1
      have hn' : n' = b.length := hG'.1
      have cT := fun (w' : World) (h : Below w.heap.size w w') => Then2_any a b hsa (fun p hp => by have := sa p hp; omega) hsb (fun p hp => by have := sb p hp; omega) A n c A' n' c' w' (by omega) (UsW.b hG h) (UsW.b hG' h)
      have cR := fun (w' : World) (h : Below w.heap.size w w') => refThen_any a b (fun p hp => by have := sa p hp; omega) (fun p hp => by have := sb p hp; omega) A n c A' n' c' w' (by omega) (UsW.b hG h) (UsW.b hG' h)
      have HEq := Lib.hid (show ∀ L, ThenF a b L ∧ RisU L → L = putsR (a.map (thenL b) ++ b) from fun L h => then_is hz h.1 h.2)
      have cP := fun (l : List Pr) (b1 : Option Addr) (m d : Nat) (b' : Option Addr) (m' d' : Nat) (w' : World) (h : UsW w' b1 m d l) (h' : UsW w' b' m' d' l) => (Pairs_any l l b1 m d b' m' d' w' h h').mono (R' := fun e w1 => e = .returned (.bool true) ∧ Below w'.heap.size w' w1) fun e w1 h => by rw [eqPs_reflV] at h; exact h
      clear z1 ha hb hG hG' hsa hsb hz sa sb hn hn'
      generalize putsR (a.map (thenL b) ++ b) = RL at *
      go_enter Try.func4, Try.ntmps4
      go_wp2_with (first
        | (go_at_call 13; ((with_reducible refine z3.mono ?_); rintro e w1 ⟨rfl, hb1⟩; have z3 := True.intro))
        | (go_at_call 13; ((with_reducible refine (z2 _ hb1).mono ?_); rintro e w2 ⟨rfl, hb2⟩; have B2 := bel_trans hb1 hb2))
        | (go_at_call 16; ((with_reducible refine (cT _ B2).mono ?_); rintro e w3 ⟨A3, N3, C3, L, rfl, hU3, hF3, hb3⟩; obtain rfl := HEq.out L hF3; have HU3 := Lib.hid hU3; clear hU3 hF3; have B3 := bel_trans B2 hb3))
        | (go_at_call 17; ((with_reducible refine (cR _ B3).mono ?_); rintro e w4 ⟨A4, N4, C4, rfl, hU4, hb4⟩; have HU4 := Lib.hid hU4; clear hU4; have B4 := bel_trans B3 hb4))
        | (go_at_call 15; ((with_reducible refine (cP _ _ _ _ _ _ _ _ (UsW.b HU3.out hb4) HU4.out).mono ?_); rintro e w5 ⟨rfl, hb5⟩; have B5 := bel_trans B4 hb5))
        | (go_at_call 14; ((with_reducible refine (g0 _).mono ?_); rintro e w6 ⟨rfl, hb6⟩; have B6 := bel_trans B5 hb6)))
      go_ret
      exact ⟨rfl, B6⟩
theorem substThens (A : Option Addr) (n c : Nat) (a : List Pr) (A' : Option Addr) (n' c' : Nat) (b : List Pr) (w : World) (_ : n ≤ 9223372036854775807) (ha : UsW w A n c a ∧ smU a ∧ ∀ p ∈ a, zT p.t) (_ : n' ≤ 9223372036854775807) (hb : UsW w A' n' c' b ∧ smU b ∧ ∀ p ∈ b, zT p.t) :
    Calls Try.prog 4 #[.slice A n c, .slice A' n' c'] w fun e w' => e = .returned (.bool true) ∧ Below w.heap.size w w' :=
  thensB a b A n c A' n' c' w ha.1 hb.1 ha.2.1 hb.2.1 hb.2.2
end Go.Proofs.Yteidknjhponpkaa.U
