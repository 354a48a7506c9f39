/-
  What is proved: the law over the names of the variables of any terms.
-/
import Derived.Test.YtbmniajimkondaaZTrmNm
import Derived.Test.YtbmniajimkondaaNE
import Derived.Test.YtbmniajimkondaaZTrmG
import Derived.Test.YtbmniajimkondaaNB
import Derived.Test.YtbmniajimkondaaNA
import Derived.Lib.SmallJoins
import Derived.Deep.Slices
import Derived.Deep.Fields
import Derived.ChangeArms
import Derived.OpenShut
namespace Go.Proofs.Ytbmniajimkondaa.T
open Go.RowKit Go.Deep Go.ChangeShapes Go.WideShapes Go.Joins L
set_option linter.unusedVariables false
set_option linter.unusedSimpArgs false

theorem sizes_small : ∀ l : List Tm, small l = true → sizes l ≤ l.length * 60
  | [], _ => by rw [sizes]; exact Nat.zero_le _
  | t :: l, h => by
    unfold small at h
    rw [List.all_cons, Bool.and_eq_true, decide_eq_true_eq] at h
    have := sizes_small l h.2
    rw [sizes, List.length_cons, Nat.add_mul]
    omega
set_option maxRecDepth 100000 in
set_option maxHeartbeats 8000000 in
theorem termNames (A : Option Addr) (n c : Nat) (l : List Tm) (w : World) (_ : n ≤ 9223372036854775807) (H : TsW w A n c l) :
    Calls Try.prog 4 #[.slice A n c] w fun e w' => e = .returned (.bool true) ∧ Below w.heap.size w w' := by
  have g0 := fun (w' : World) => goes_any w'
  have z1 := fun (w' : World) (h : Below w.heap.size w w') => Small_any l A n c w' (H.b h)
  have hn : n = l.length := H.1
  have HN := Lib.hid (show n ≤ 20 → small l = true → (∀ (w' : World), Below w.heap.size w w' → Calls Try.prog 22 #[.slice A n c] w' fun e w1 => ∃ v, e = .returned v ∧ OwnS w1 w'.heap.size v (names l) ∧ Below w'.heap.size w' w1) ∧
      (∀ (w' : World), Below w.heap.size w w' → Calls Try.prog 23 #[.slice A n c] w' fun e w1 => ∃ v, e = .returned v ∧ OwnS w1 w'.heap.size v (names l) ∧ Below w'.heap.size w' w1) ∧ (names l).length ≤ 1000000000 from fun h1 h2 => by
    have hz := sizes_small l h2
    rw [← hn] at hz
    refine ⟨fun w' h => Names_any l A n c w' (H.b h) (by omega), fun w' h => refNames_any l A n c w' (H.b h) (by omega), ?_⟩
    have := namesF_len (alls l) []
    rw [alls_len, List.length_nil] at this
    unfold names
    omega)
  have hBd : Below w.heap.size w w := Below.refl _ _
  clear H hn
  by_cases q1 : n ≤ 20
  · have p1 : decide ((20 : Int) < (n : Int)) = false := decide_eq_false (by omega)
    cases hs : small l with
    | false =>
      rw [hs] at z1
      clear HN hs q1
      go_enter Try.func4, Try.ntmps4
      go_wp2_with (first
        | (go_at_call 20; ((with_reducible refine (z1 _ (by assumption)).mono ?_); rintro e wX ⟨rfl, hbX⟩; have Bz : Below w.heap.size w wX := bel_trans (by assumption) hbX))
        | (go_at_call 13; ((with_reducible refine (g0 _).mono ?_); rintro e wY ⟨rfl, hbY⟩; have By : Below w.heap.size w wY := bel_trans (by assumption) hbY)))
      go_ret
      exact ⟨rfl, By⟩
    | true =>
      rw [hs] at z1
      obtain ⟨c1, c2, hl⟩ := HN.out q1 hs
      have cS := fun (a a' : Option Addr) (d d' : Nat) (w' : World) (h : IsS w' a (names l).length (names l)) (h' : IsS w' a' (names l).length (names l)) => (Strings_any a a' (names l).length (names l).length d d' (names l) (names l) w' h h' hl hl).mono (R' := fun e w1 => e = .returned (.bool true) ∧ Below w'.heap.size w' w1) fun e w1 h => by rw [eqL_refl] at h; exact h
      clear HN hs q1
      generalize names l = X at *
      go_enter Try.func4, Try.ntmps4
      go_wp2_with (first
        | (go_at_call 20; ((with_reducible refine (z1 _ (by assumption)).mono ?_); rintro e wX ⟨rfl, hbX⟩; have Bz : Below w.heap.size w wX := bel_trans (by assumption) hbX))
        | (go_at_call 22; ((with_reducible refine (c1 _ (by assumption)).mono ?_); rintro e w1 ⟨v1, rfl, ho1, hb1⟩; obtain ⟨A1, C1, hv1, hS1⟩ := ho1.slS; subst hv1; have HS1 := Lib.hid hS1; have B1 : Below w.heap.size w w1 := bel_trans (by assumption) hb1; clear ho1 hS1))
        | (go_at_call 23; ((with_reducible refine (c2 _ B1).mono ?_); rintro e w2 ⟨v2, rfl, ho2, hb2⟩; obtain ⟨A2, C2, hv2, hS2⟩ := ho2.slS; subst hv2; have HS2 := Lib.hid hS2; have B2 : Below w.heap.size w w2 := bel_trans B1 hb2; have cS2 := cS A1 A2 C1 C2 w2 ((HS1.out.below hb2).1) HS2.out.1; clear ho2 hS2))
        | (go_at_call 21; ((with_reducible refine cS2.mono ?_); rintro e w3 ⟨rfl, hb3⟩; have B3 : Below w.heap.size w w3 := bel_trans B2 hb3))
        | (go_at_call 13; ((with_reducible refine (g0 _).mono ?_); rintro e wY ⟨rfl, hbY⟩; have By : Below w.heap.size w wY := bel_trans B3 hbY)))
      go_ret
      exact ⟨rfl, By⟩
  · have p1 : decide ((20 : Int) < (n : Int)) = true := decide_eq_true (by omega)
    clear HN q1 z1
    go_enter Try.func4, Try.ntmps4
    go_wp2_with (go_at_call 13; ((with_reducible refine (g0 _).mono ?_); rintro e wY ⟨rfl, hbY⟩; have By : Below w.heap.size w wY := bel_trans (by assumption) hbY))
    go_ret
    exact ⟨rfl, By⟩
end Go.Proofs.Ytbmniajimkondaa.T
