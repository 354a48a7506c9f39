/-
  What is proved: the law over Compare and Same of claims.
-/
import Derived.Test.YtgjjhonopindlaaClmG
import Derived.Test.YtgjjhonopindlaaClmWt
import Derived.Test.YtgjjhonopindlaaClmO
import Derived.Test.YtgjjhonopindlaaClmCp
import Derived.Test.YtgjjhonopindlaaClmRc
namespace Go.Proofs.Ytgjjhonopindlaa.C
open Go.RowKit L T
set_option linter.unusedVariables false
set_option linter.unusedSimpArgs false

set_option maxRecDepth 100000 in
set_option maxHeartbeats 16000000 in
theorem comparesC (A B : Cl) (kA kB : SS) (aA aB : Option Addr) (nA cA nB cB : Nat) (w : World) (HA : ArWC w A kA aA nA cA) (HB : ArWC w B kB aB nB cB) :
    Calls Try.prog 3 #[.agg #[.int .i64 (opC A), .string (nmC A), .string (soC A), .slice kA.a kA.n kA.c, .slice aA nA cA], .agg #[.int .i64 (opC B), .string (nmC B), .string (soC B), .slice kB.a kB.n kB.c, .slice aB nB cB]] w fun e w' => e = .returned (.bool true) ∧ Below w.heap.size w w' := by
  obtain ⟨W, hW, hB0, hs, SA, SB⟩ := cbox2 w (opC A) (nmC A) (soC A) kA aA nA cA (opC B) (nmC B) (soC B) kB aB nB cB
  have gA := ArWC.b HA hB0
  have gB := ArWC.b HB hB0
  have g0 := fun (w' : World) => alive_any w'
  have zA := fun (w' : World) (h : Below W.heap.size W w') => Big_any A kA aA nA cA 400 w' (by omega) (ArWC.b gA h)
  have zB := fun (w' : World) (h : Below W.heap.size W w') => Big_any B kB aB nB cB 400 w' (by omega) (ArWC.b gB h)
  rw [show ((400 : Nat) : Int) = 400 from rfl] at zA zB
  have c1 := fun (w' : World) (h : Below W.heap.size W w') => CompareC_any A B kA aA nA cA kB aB nB cB w' (ArWC.b gA h) (ArWC.b gB h)
  have c2 := fun (w' : World) (h : Below W.heap.size W w') => refCl_any A B kA aA nA cA kB aB nB cB w' (ArWC.b gA h) (ArWC.b gB h)
  have c3 := fun (w' : World) (h : Below W.heap.size W w') => SameC_any A B kA aA nA cA kB aB nB cB w' (ArWC.b gA h) (ArWC.b gB h)
  have c4 := fun (w' : World) (h : Below W.heap.size W w') => refSame_any A B kA aA nA cA kB aB nB cB w' (ArWC.b gA h) (ArWC.b gB h)
  have HSA := Lib.hid SA
  have HSB := Lib.hid SB
  obtain ⟨a0, a1, a2, a3, a4⟩ := SA.five
  obtain ⟨b0, b1, b2, b3, b4⟩ := SB.five
  have hBd : Below W.heap.size W W := Below.refl _ _
  clear SA SB gA gB HA HB
  generalize wtTo 400 A = tA at *
  generalize wtTo 400 B = tB at *
  generalize cmpC A B = X at *
  generalize eqC A B = Y at *
  generalize opC A = oA at *
  generalize nmC A = mA at *
  generalize soC A = pA at *
  generalize opC B = oB at *
  generalize nmC B = mB at *
  generalize soC B = pB at *
  by_cases q1 : tA ≤ 400
  · by_cases q2 : tB ≤ 400
    · go_enter Try.func3, Try.ntmps3
      go_wp2_with (go_at_call 7; (first | ((with_reducible refine (zA _ (by first | assumption | exact Below.drew (by assumption))).mono ?_); rintro e w4 ⟨rfl, hb4⟩; have Bz := bel_trans (a := W) (by first | assumption | exact Below.drew (by assumption)) hb4; obtain ⟨a0, a1, a2, a3, a4⟩ := (CBox.b HSA.out Bz).five; obtain ⟨b0, b1, b2, b3, b4⟩ := (CBox.b HSB.out Bz).five) | ((with_reducible refine (zB _ (by first | assumption | exact Below.drew (by assumption))).mono ?_); rintro e w4 ⟨rfl, hb4⟩; have Bz := bel_trans (a := W) (by first | assumption | exact Below.drew (by assumption)) hb4; obtain ⟨a0, a1, a2, a3, a4⟩ := (CBox.b HSA.out Bz).five; obtain ⟨b0, b1, b2, b3, b4⟩ := (CBox.b HSB.out Bz).five)))
      go_region_held3 (fun w' => w'.cell? ⟨w.heap.size, 0, none⟩ = some (.int .i64 oA) ∧ w'.cell? ⟨w.heap.size, 1, none⟩ = some (.string mA) ∧ w'.cell? ⟨w.heap.size, 2, none⟩ = some (.string pA) ∧ w'.cell? ⟨w.heap.size, 3, none⟩ = some (.slice kA.a kA.n kA.c) ∧ w'.cell? ⟨w.heap.size, 4, none⟩ = some (.slice aA nA cA) ∧ w'.cell? ⟨w.heap.size + 1, 0, none⟩ = some (.int .i64 oB) ∧ w'.cell? ⟨w.heap.size + 1, 1, none⟩ = some (.string mB) ∧ w'.cell? ⟨w.heap.size + 1, 2, none⟩ = some (.string pB) ∧ w'.cell? ⟨w.heap.size + 1, 3, none⟩ = some (.slice kB.a kB.n kB.c) ∧ w'.cell? ⟨w.heap.size + 1, 4, none⟩ = some (.slice aB nB cB))
        (first | (exact ⟨a0, a1, a2, a3, a4, b0, b1, b2, b3, b4⟩) | go_keep)
        (first
          | (go_at_call 9; ((with_reducible refine (c3 _ (by first | assumption | exact Below.drew (by assumption))).mono ?_); rintro e w4 ⟨rfl, hb4⟩; have Bz := bel_trans (a := W) (by first | assumption | exact Below.drew (by assumption)) hb4; obtain ⟨a0, a1, a2, a3, a4⟩ := (CBox.b HSA.out Bz).five; obtain ⟨b0, b1, b2, b3, b4⟩ := (CBox.b HSB.out Bz).five))
          | (go_at_call 10; ((with_reducible refine (c4 _ (by first | assumption | exact Below.drew (by assumption))).mono ?_); rintro e w4 ⟨rfl, hb4⟩; have Bz := bel_trans (a := W) (by first | assumption | exact Below.drew (by assumption)) hb4; obtain ⟨a0, a1, a2, a3, a4⟩ := (CBox.b HSA.out Bz).five; obtain ⟨b0, b1, b2, b3, b4⟩ := (CBox.b HSB.out Bz).five))
          | (go_at_call 11; ((with_reducible refine (c1 _ (by first | assumption | exact Below.drew (by assumption))).mono ?_); rintro e w4 ⟨rfl, hb4⟩; have Bz := bel_trans (a := W) (by first | assumption | exact Below.drew (by assumption)) hb4; obtain ⟨a0, a1, a2, a3, a4⟩ := (CBox.b HSA.out Bz).five; obtain ⟨b0, b1, b2, b3, b4⟩ := (CBox.b HSB.out Bz).five))
          | (go_at_call 12; ((with_reducible refine (c2 _ (by first | assumption | exact Below.drew (by assumption))).mono ?_); rintro e w4 ⟨rfl, hb4⟩; have Bz := bel_trans (a := W) (by first | assumption | exact Below.drew (by assumption)) hb4; obtain ⟨a0, a1, a2, a3, a4⟩ := (CBox.b HSA.out Bz).five; obtain ⟨b0, b1, b2, b3, b4⟩ := (CBox.b HSB.out Bz).five))
          | (go_at_call 8; ((with_reducible refine (g0 _).mono ?_); rintro e w4 ⟨rfl, hb4⟩; have Bz := bel_trans (a := W) (by first | assumption | exact Below.drew (by assumption)) hb4; obtain ⟨a0, a1, a2, a3, a4⟩ := (CBox.b HSA.out Bz).five; obtain ⟨b0, b1, b2, b3, b4⟩ := (CBox.b HSB.out Bz).five)))
      all_goals go_wp2
      all_goals go_ret
      all_goals exact ⟨rfl, bel_trans hB0 Bz⟩
    · go_enter Try.func3, Try.ntmps3
      go_wp2_with (first | (go_at_call 7; (first | ((with_reducible refine (zA _ (by first | assumption | exact Below.drew (by assumption))).mono ?_); rintro e w4 ⟨rfl, hb4⟩; have Bz := bel_trans (a := W) (by first | assumption | exact Below.drew (by assumption)) hb4; obtain ⟨a0, a1, a2, a3, a4⟩ := (CBox.b HSA.out Bz).five; obtain ⟨b0, b1, b2, b3, b4⟩ := (CBox.b HSB.out Bz).five) | ((with_reducible refine (zB _ (by first | assumption | exact Below.drew (by assumption))).mono ?_); rintro e w4 ⟨rfl, hb4⟩; have Bz := bel_trans (a := W) (by first | assumption | exact Below.drew (by assumption)) hb4; obtain ⟨a0, a1, a2, a3, a4⟩ := (CBox.b HSA.out Bz).five; obtain ⟨b0, b1, b2, b3, b4⟩ := (CBox.b HSB.out Bz).five))) | (go_at_call 8; ((with_reducible refine (g0 _).mono ?_); rintro e w4 ⟨rfl, hb4⟩; have Bz := bel_trans (a := W) (by first | assumption | exact Below.drew (by assumption)) hb4; obtain ⟨a0, a1, a2, a3, a4⟩ := (CBox.b HSA.out Bz).five; obtain ⟨b0, b1, b2, b3, b4⟩ := (CBox.b HSB.out Bz).five)))
      go_ret
      exact ⟨rfl, bel_trans hB0 Bz⟩
  · go_enter Try.func3, Try.ntmps3
    go_wp2_with (first | (go_at_call 7; (first | ((with_reducible refine (zA _ (by first | assumption | exact Below.drew (by assumption))).mono ?_); rintro e w4 ⟨rfl, hb4⟩; have Bz := bel_trans (a := W) (by first | assumption | exact Below.drew (by assumption)) hb4; obtain ⟨a0, a1, a2, a3, a4⟩ := (CBox.b HSA.out Bz).five; obtain ⟨b0, b1, b2, b3, b4⟩ := (CBox.b HSB.out Bz).five) | ((with_reducible refine (zB _ (by first | assumption | exact Below.drew (by assumption))).mono ?_); rintro e w4 ⟨rfl, hb4⟩; have Bz := bel_trans (a := W) (by first | assumption | exact Below.drew (by assumption)) hb4; obtain ⟨a0, a1, a2, a3, a4⟩ := (CBox.b HSA.out Bz).five; obtain ⟨b0, b1, b2, b3, b4⟩ := (CBox.b HSB.out Bz).five))) | (go_at_call 8; ((with_reducible refine (g0 _).mono ?_); rintro e w4 ⟨rfl, hb4⟩; have Bz := bel_trans (a := W) (by first | assumption | exact Below.drew (by assumption)) hb4; obtain ⟨a0, a1, a2, a3, a4⟩ := (CBox.b HSA.out Bz).five; obtain ⟨b0, b1, b2, b3, b4⟩ := (CBox.b HSB.out Bz).five)))
    go_ret
    exact ⟨rfl, bel_trans hB0 Bz⟩

theorem claimCompares (x y : ClV) (w : World) (hx : ArWC w x.t x.k x.a x.n x.c) (hy : ArWC w y.t y.k y.a y.n y.c) :
    Calls Try.prog 3 #[x.val, y.val] w fun e w' => e = .returned (.bool true) ∧ Below w.heap.size w w' :=
  comparesC x.t y.t x.k y.k x.a y.a x.n x.c y.n y.c w hx hy
end Go.Proofs.Ytgjjhonopindlaa.C
