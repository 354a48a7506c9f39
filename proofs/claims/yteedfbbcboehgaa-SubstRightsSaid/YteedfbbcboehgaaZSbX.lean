/-
  What is proved: the law over the first error of a substitution, and over whether two are the same.
-/
import Derived.Test.YteedfbbcboehgaaZSbV
import Derived.Test.YteedfbbcboehgaaZSbW
import Derived.Test.YteedfbbcboehgaaBS
import Derived.Test.YteedfbbcboehgaaZSbD
import Derived.Test.YteedfbbcboehgaaBM
namespace Go.Proofs.Yteedfbbcboehgaa.U
open Go.RowKit L T C B
set_option linter.unusedVariables false
set_option linter.unusedSimpArgs false

theorem eqPs_self : ∀ l : List Pr, eqPs l l = true
  | [] => rfl
  | p :: l => by
    rw [eqPs, eqPs_self l, Bool.and_true]
    unfold eqP
    rw [eqS_iff.2 rfl, eqT_iff.2 rfl]; rfl
set_option maxRecDepth 100000 in
set_option maxHeartbeats 8000000 in
theorem rightsB (l l' : List Pr) (A : Option Addr) (n c : Nat) (A' : Option Addr) (n' c' : Nat) (w : World) (H : UsW w A n c l) (H' : UsW w A' n' c' l') :
    Calls Try.prog 6 #[.slice A n c, .slice A' n' c'] w fun e w' => e = .returned (.bool true) ∧ Below w.heap.size w w' := by
  have hB0 : Below w.heap.size w w := Below.refl _ _
  have g0 := fun (w' : World) => goes_any w'
  have z1 := fun (w' : World) (h : Below w.heap.size w w') => SmallU_any l A n c w' (H.b h)
  have z2 := fun (w' : World) (h : Below w.heap.size w w') => SmallU_any l' A' n' c' w' (H'.b h)
  have HRt := Lib.hid (show smallU l = true → ∀ (w' : World), Below w.heap.size w w' → _ from fun hs w' h => RightU_few l (fun p hp => by have := (smallU_of hs).2 p hp; omega) A n c w' (H.b h))
  have c2 := fun (w' : World) (h : Below w.heap.size w w') => RightU10_any l A n c w' (H.b h)
  have c3 := fun (w' : World) (h : Below w.heap.size w w') => SameU_any l l' A n c A' n' c' w' (H.b h) (H'.b h)
  have c4 := fun (w' : World) (h : Below w.heap.size w w') => Pairs_any l l' A n c A' n' c' w' (H.b h) (H'.b h)
  have c5 := fun (w' : World) (h : Below w.heap.size w w') => SameU_any l l A n c A n c w' (H.b h) (H.b h)
  rw [eqPs_self] at c5
  clear H H'
  generalize smallU l = s1 at *
  generalize smallU l' = s2 at *
  generalize eqPs l l' = E at *
  generalize rgU none l = R at *
  cases s1 with
  | false =>
    clear HRt c2 c3 c4 c5
    go_enter Try.func6, Try.ntmps6
    go_wp2_with (first
      | (go_at_call 31; ((with_reducible refine (z1 _ (by assumption)).mono ?_); rintro e w4 ⟨rfl, hb4⟩; have Bz := bel_trans (a := w) (by assumption) hb4))
      | (go_at_call 32; ((with_reducible refine (g0 _).mono ?_); rintro e w4 ⟨rfl, hb4⟩; have Bz := bel_trans (a := w) (by assumption) hb4)))
    go_ret
    exact ⟨rfl, Bz⟩
  | true =>
    have c1 := HRt.out rfl
    cases s2 with
    | false =>
      clear HRt c1 c2 c3 c4 c5
      go_enter Try.func6, Try.ntmps6
      go_wp2_with (first
        | (go_at_call 31; (first | ((with_reducible refine (z1 _ (by assumption)).mono ?_); rintro e w4 ⟨rfl, hb4⟩; have Bz := bel_trans (a := w) (by assumption) hb4; replace z1 := True.intro) | ((with_reducible refine (z2 _ (by assumption)).mono ?_); rintro e w4 ⟨rfl, hb4⟩; have Bz := bel_trans (a := w) (by assumption) hb4)))
        | (go_at_call 32; ((with_reducible refine (g0 _).mono ?_); rintro e w4 ⟨rfl, hb4⟩; have Bz := bel_trans (a := w) (by assumption) hb4)))
      go_ret
      exact ⟨rfl, Bz⟩
    | true =>
      clear HRt
      go_enter Try.func6, Try.ntmps6
      go_wp2_with (first
        | (go_at_call 31; (first | ((with_reducible refine (z1 _ (by assumption)).mono ?_); rintro e w4 ⟨rfl, hb4⟩; have Bz := bel_trans (a := w) (by assumption) hb4; replace z1 := True.intro) | ((with_reducible refine (z2 _ (by assumption)).mono ?_); rintro e w4 ⟨rfl, hb4⟩; have Bz := bel_trans (a := w) (by assumption) hb4)))
        | (go_at_call 33; ((with_reducible refine (c1 _ (by assumption)).mono ?_); rintro e w4 ⟨rfl, hb4⟩; have Bz := bel_trans (a := w) (by assumption) hb4))
        | (go_at_call 34; ((with_reducible refine (c2 _ (by assumption)).mono ?_); rintro e w4 ⟨rfl, hb4⟩; have Bz := bel_trans (a := w) (by assumption) hb4))
        | (go_at_call 35; (first | ((with_reducible refine (c3 _ (by assumption)).mono ?_); rintro e w4 ⟨rfl, hb4⟩; have Bz := bel_trans (a := w) (by assumption) hb4; replace c3 := True.intro) | ((with_reducible refine (c5 _ (by assumption)).mono ?_); rintro e w4 ⟨rfl, hb4⟩; have Bz := bel_trans (a := w) (by assumption) hb4)))
        | (go_at_call 36; ((with_reducible refine (c4 _ (by assumption)).mono ?_); rintro e w4 ⟨rfl, hb4⟩; have Bz := bel_trans (a := w) (by assumption) hb4))
        | (go_at_call 32; ((with_reducible refine (g0 _).mono ?_); rintro e w4 ⟨rfl, hb4⟩; have Bz := bel_trans (a := w) (by assumption) hb4)))
      go_ret
      exact ⟨rfl, Bz⟩
theorem substRights (A : Option Addr) (n c : Nat) (l : List Pr) (A' : Option Addr) (n' c' : Nat) (l' : List Pr) (w : World) (_ : n ≤ 9223372036854775807) (H : UsW w A n c l ∧ smU l) (_ : n' ≤ 9223372036854775807) (H' : UsW w A' n' c' l' ∧ smU l') :
    Calls Try.prog 6 #[.slice A n c, .slice A' n' c'] w fun e w' => e = .returned (.bool true) ∧ Below w.heap.size w w' :=
  rightsB l l' A n c A' n' c' w H.1 H'.1
end Go.Proofs.Yteedfbbcboehgaa.U
