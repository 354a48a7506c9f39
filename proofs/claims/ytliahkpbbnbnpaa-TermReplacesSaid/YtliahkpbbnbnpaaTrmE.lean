/-
  What is proved: the law over Compare and Same.
-/
import Derived.Test.YtliahkpbbnbnpaaTrmG
import Derived.Test.YtliahkpbbnbnpaaTrmC
import Derived.Test.YtliahkpbbnbnpaaTrmW
import Derived.Test.YtliahkpbbnbnpaaLibTe
import Derived.Test.YtliahkpbbnbnpaaLibTs
import Derived.Test.YtliahkpbbnbnpaaTrmO
namespace Go.Proofs.Ytliahkpbbnbnpaa.T
open Go.RowKit L
set_option linter.unusedVariables false
set_option linter.unusedSimpArgs false

set_option maxRecDepth 100000 in
set_option maxHeartbeats 8000000 in
theorem compares (t u : Tm) (a a' : Option Addr) (n c n' c' : Nat) (w : World) (HA : ArW w t a n c) (HA' : ArW w u a' n' c') :
    Calls Try.prog 4 #[.agg #[.int .i64 (opT t), .string (nameT t), .int .i64 (numT t), .slice a n c], .agg #[.int .i64 (opT u), .string (nameT u), .int .i64 (numT u), .slice a' n' c']] w fun e w' => e = .returned (.bool true) ∧ Below w.heap.size w w' := by
  obtain ⟨W, hW, hB, hs, S, S'⟩ := box2 w (opT t) (nameT t) (numT t) a n c (opT u) (nameT u) (numT u) a' n' c'
  have hA := ArW.b HA hB
  have hA' := ArW.b HA' hB
  have hBd : Below W.heap.size W W.drew := (Below.refl _ _).drew
  have g0 := fun (w' : World) => goes_any w'
  have z1 := fun (w' : World) (h : Below W.heap.size W w') => Size_any t a n c 2000 w' (by omega) (ArW.b hA h)
  have z2 := fun (w' : World) (h : Below W.heap.size W w') => Size_any u a' n' c' 2000 w' (by omega) (ArW.b hA' h)
  have c1 := fun (w' : World) (h : Below W.heap.size W w') => Compare_any t u a n c a' n' c' w' (ArW.b hA h) (ArW.b hA' h)
  have c2 := fun (w' : World) (h : Below W.heap.size W w') => refCompare_any t u a n c a' n' c' w' (ArW.b hA h) (ArW.b hA' h)
  have c3 := fun (w' : World) (h : Below W.heap.size W w') => Same_any t u a n c a' n' c' w' (ArW.b hA h) (ArW.b hA' h)
  have c4 := fun (w' : World) (h : Below W.heap.size W w') => Term_any t u a n c a' n' c' w' (ArW.b hA h) (ArW.b hA' h)
  rw [show ((2000 : Nat) : Int) = 2000 from rfl] at z1 z2
  have lS := Blk.lt S
  have lS' := Blk.lt S'
  obtain ⟨s0, s1, s2, s3⟩ := S.four
  obtain ⟨r0, r1, r2, r3⟩ := S'.four
  clear hA hA' HA HA'
  generalize opT t = op at *
  generalize nameT t = nm at *
  generalize numT t = nu at *
  generalize opT u = op' at *
  generalize nameT u = nm' at *
  generalize numT u = nu' at *
  generalize szTo 2000 t = sz at *
  generalize szTo 2000 u = sz' at *
  generalize cmpT t u = cc at *
  generalize eqT t u = ee at *
  by_cases hz : sz ≤ 2000
  · by_cases hz' : sz' ≤ 2000
    · go_enter Try.func4, Try.ntmps4
      go_wp2_with (first
        | (go_at_call 11; (first | ((with_reducible refine (z1 _ (by first | assumption | exact Below.refl _ _)).mono ?_); rintro e w4 ⟨rfl, hb4⟩; have Bz := bel_trans (a := W) (Below.refl _ _) hb4; have x0 := (Bz.cell lS).trans s0; have x1 := (Bz.cell lS).trans s1; have x2 := (Bz.cell lS).trans s2; have x3 := (Bz.cell lS).trans s3; have q0 := (Bz.cell lS').trans r0; have q1 := (Bz.cell lS').trans r1; have q2 := (Bz.cell lS').trans r2; have q3 := (Bz.cell lS').trans r3) | ((with_reducible refine (z2 _ (by assumption)).mono ?_); rintro e w5 ⟨rfl, hb5⟩; have Bz := bel_trans (a := W) (by assumption) hb5; have y0 := (Bz.cell lS).trans s0; have y1 := (Bz.cell lS).trans s1; have y2 := (Bz.cell lS).trans s2; have y3 := (Bz.cell lS).trans s3; have t0 := (Bz.cell lS').trans r0; have t1 := (Bz.cell lS').trans r1; have t2 := (Bz.cell lS').trans r2; have t3 := (Bz.cell lS').trans r3))))
      go_region_held3 (fun w' => w'.cell? ⟨w.heap.size, 0, none⟩ = some (.int .i64 op) ∧ w'.cell? ⟨w.heap.size, 1, none⟩ = some (.string nm) ∧ w'.cell? ⟨w.heap.size, 2, none⟩ = some (.int .i64 nu) ∧ w'.cell? ⟨w.heap.size, 3, none⟩ = some (.slice a n c) ∧ w'.cell? ⟨w.heap.size + 1, 0, none⟩ = some (.int .i64 op') ∧ w'.cell? ⟨w.heap.size + 1, 1, none⟩ = some (.string nm') ∧ w'.cell? ⟨w.heap.size + 1, 2, none⟩ = some (.int .i64 nu') ∧ w'.cell? ⟨w.heap.size + 1, 3, none⟩ = some (.slice a' n' c'))
        (first | (exact ⟨(Bz.cell lS).trans s0, (Bz.cell lS).trans s1, (Bz.cell lS).trans s2, (Bz.cell lS).trans s3, (Bz.cell lS').trans r0, (Bz.cell lS').trans r1, (Bz.cell lS').trans r2, (Bz.cell lS').trans r3⟩) | go_keep)
        (first
          | (go_at_call 19; ((with_reducible refine (c1 _ (by first | assumption | exact Below.drew (by assumption))).mono ?_); rintro e w4 ⟨rfl, hb4⟩; have Bz := bel_trans (a := W) (by first | assumption | exact Below.drew (by assumption)) hb4))
          | (go_at_call 20; ((with_reducible refine (c2 _ (by first | assumption | exact Below.drew (by assumption))).mono ?_); rintro e w4 ⟨rfl, hb4⟩; have Bz := bel_trans (a := W) (by first | assumption | exact Below.drew (by assumption)) hb4))
          | (go_at_call 21; ((with_reducible refine (c3 _ (by first | assumption | exact Below.drew (by assumption))).mono ?_); rintro e w4 ⟨rfl, hb4⟩; have Bz := bel_trans (a := W) (by first | assumption | exact Below.drew (by assumption)) hb4))
          | (go_at_call 22; ((with_reducible refine (c4 _ (by first | assumption | exact Below.drew (by assumption))).mono ?_); rintro e w4 ⟨rfl, hb4⟩; have Bz := bel_trans (a := W) (by first | assumption | exact Below.drew (by assumption)) hb4))
          | (go_at_call 12; ((with_reducible refine (g0 _).mono ?_); rintro e w4 ⟨rfl, hb4⟩; have Bz := bel_trans (a := W) (by first | assumption | exact Below.drew (by assumption)) hb4)))
      all_goals go_wp2
      all_goals go_ret
      all_goals exact ⟨rfl, bel_trans hB Bz⟩
    · go_enter Try.func4, Try.ntmps4
      go_wp2_with (first
        | (go_at_call 11; (first | ((with_reducible refine (z1 _ (by first | assumption | exact Below.refl _ _)).mono ?_); rintro e w4 ⟨rfl, hb4⟩; have Bz := bel_trans (a := W) (Below.refl _ _) hb4; have x0 := (Bz.cell lS).trans s0; have x1 := (Bz.cell lS).trans s1; have x2 := (Bz.cell lS).trans s2; have x3 := (Bz.cell lS).trans s3; have q0 := (Bz.cell lS').trans r0; have q1 := (Bz.cell lS').trans r1; have q2 := (Bz.cell lS').trans r2; have q3 := (Bz.cell lS').trans r3) | ((with_reducible refine (z2 _ (by assumption)).mono ?_); rintro e w5 ⟨rfl, hb5⟩; have Bz := bel_trans (a := W) (by assumption) hb5; have y0 := (Bz.cell lS).trans s0; have y1 := (Bz.cell lS).trans s1; have y2 := (Bz.cell lS).trans s2; have y3 := (Bz.cell lS).trans s3; have t0 := (Bz.cell lS').trans r0; have t1 := (Bz.cell lS').trans r1; have t2 := (Bz.cell lS').trans r2; have t3 := (Bz.cell lS').trans r3)))
        | (go_at_call 12; ((with_reducible refine (g0 _).mono ?_); rintro e w4 ⟨rfl, hb4⟩; have Bz := bel_trans (a := W) (by first | assumption | exact Below.refl _ _) hb4)))
      go_ret
      exact ⟨rfl, bel_trans hB Bz⟩
  · go_enter Try.func4, Try.ntmps4
    go_wp2_with (first
      | (go_at_call 11; (first | ((with_reducible refine (z1 _ (by first | assumption | exact Below.refl _ _)).mono ?_); rintro e w4 ⟨rfl, hb4⟩; have Bz := bel_trans (a := W) (Below.refl _ _) hb4; have x0 := (Bz.cell lS).trans s0; have x1 := (Bz.cell lS).trans s1; have x2 := (Bz.cell lS).trans s2; have x3 := (Bz.cell lS).trans s3; have q0 := (Bz.cell lS').trans r0; have q1 := (Bz.cell lS').trans r1; have q2 := (Bz.cell lS').trans r2; have q3 := (Bz.cell lS').trans r3) | ((with_reducible refine (z2 _ (by assumption)).mono ?_); rintro e w5 ⟨rfl, hb5⟩; have Bz := bel_trans (a := W) (by assumption) hb5; have y0 := (Bz.cell lS).trans s0; have y1 := (Bz.cell lS).trans s1; have y2 := (Bz.cell lS).trans s2; have y3 := (Bz.cell lS).trans s3; have t0 := (Bz.cell lS').trans r0; have t1 := (Bz.cell lS').trans r1; have t2 := (Bz.cell lS').trans r2; have t3 := (Bz.cell lS').trans r3)))
      | (go_at_call 12; ((with_reducible refine (g0 _).mono ?_); rintro e w4 ⟨rfl, hb4⟩; have Bz := bel_trans (a := W) (by first | assumption | exact Below.refl _ _) hb4)))
    go_ret
    exact ⟨rfl, bel_trans hB Bz⟩

theorem termCompares (z z' : TmV) (w : World) (H : ArW w z.t z.a z.n z.c) (H' : ArW w z'.t z'.a z'.n z'.c) :
    Calls Try.prog 4 #[z.val, z'.val] w fun e w' => e = .returned (.bool true) ∧ Below w.heap.size w w' :=
  compares z.t z'.t z.a z'.a z.n z.c z'.n z'.c w H H'
end Go.Proofs.Ytliahkpbbnbnpaa.T
