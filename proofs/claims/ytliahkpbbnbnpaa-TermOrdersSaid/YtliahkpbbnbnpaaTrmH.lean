/-
  What is proved: a row of three terms for Small; the law over the order of terms.
-/
import Derived.Test.YtliahkpbbnbnpaaTrmE
import Derived.Test.YtliahkpbbnbnpaaTrmY
import Derived.Deep.Cut
import Derived.Deep.CutRange
namespace Go.Proofs.Ytliahkpbbnbnpaa.T
open Go.RowKit L
set_option linter.unusedVariables false
set_option linter.unusedSimpArgs false

theorem row3 (w : World) (t u v : Tm) (a : Option Addr) (n c : Nat) (a' : Option Addr) (n' c' : Nat) (a2 : Option Addr) (n2 c2 : Nat) (h : ArW w t a n c) (h' : ArW w u a' n' c') (h2 : ArW w v a2 n2 c2) :
    ∃ W, w.alloc (.cells #[.int .i64 (opT t), .string (nameT t), .int .i64 (numT t), .slice a n c, .int .i64 (opT u), .string (nameT u), .int .i64 (numT u), .slice a' n' c', .int .i64 (opT v), .string (nameT v), .int .i64 (numT v), .slice a2 n2 c2] 24) = W ∧ Below w.heap.size w W ∧ TsW W (some ⟨w.heap.size, 0, none⟩) 3 3 [t, u, v] := by
  have hb := bel_alloc (Below.refl w.heap.size w) (.cells #[.int .i64 (opT t), .string (nameT t), .int .i64 (numT t), .slice a n c, .int .i64 (opT u), .string (nameT u), .int .i64 (numT u), .slice a' n' c', .int .i64 (opT v), .string (nameT v), .int .i64 (numT v), .slice a2 n2 c2] 24)
  have B := Blk.new w #[.int .i64 (opT t), .string (nameT t), .int .i64 (numT t), .slice a n c, .int .i64 (opT u), .string (nameT u), .int .i64 (numT u), .slice a' n' c', .int .i64 (opT v), .string (nameT v), .int .i64 (numT v), .slice a2 n2 c2] 24
  refine ⟨_, rfl, hb, rfl, Nat.le_refl _, by unfold maxLen; omega, fun h => (by cases h), fun _ => ⟨_, 0, rfl, by simp, ?_⟩⟩
  rw [Rw, Rw, Rw, Rw]
  exact ⟨⟨a, n, c, Blk.cell B 0, Blk.cell B 1, Blk.cell B 2, Blk.cell B 3, ArW.b h hb⟩, ⟨a', n', c', Blk.cell B 4, Blk.cell B 5, Blk.cell B 6, Blk.cell B 7, ArW.b h' hb⟩, ⟨a2, n2, c2, Blk.cell B 8, Blk.cell B 9, Blk.cell B 10, Blk.cell B 11, ArW.b h2 hb⟩, trivial⟩

set_option maxRecDepth 100000 in
set_option maxHeartbeats 16000000 in
theorem orders (t u v : Tm) (a a' a2 : Option Addr) (n c n' c' n2 c2 : Nat) (w : World) (HA : ArW w t a n c) (HA' : ArW w u a' n' c') (HA2 : ArW w v a2 n2 c2) :
    Calls Try.prog 5 #[.agg #[.int .i64 (opT t), .string (nameT t), .int .i64 (numT t), .slice a n c], .agg #[.int .i64 (opT u), .string (nameT u), .int .i64 (numT u), .slice a' n' c'], .agg #[.int .i64 (opT v), .string (nameT v), .int .i64 (numT v), .slice a2 n2 c2]] w fun e w' => e = .returned (.bool true) ∧ Below w.heap.size w w' := by
  obtain ⟨W0, hW0, hB0, hs0, P0, P1, P2⟩ := box3 w (opT t) (nameT t) (numT t) a n c (opT u) (nameT u) (numT u) a' n' c' (opT v) (nameT v) (numT v) a2 n2 c2
  obtain ⟨W, hW, hB1, hRow⟩ := row3 W0 t u v a n c a' n' c' a2 n2 c2 (ArW.b HA hB0) (ArW.b HA' hB0) (ArW.b HA2 hB0)
  have hB : Below w.heap.size w W := bel_trans hB0 hB1
  have hA := ArW.b HA hB
  have hA' := ArW.b HA' hB
  have hA2 := ArW.b HA2 hB
  have S0 := P0.b hB1
  have S1 := P1.b hB1
  have S2 := P2.b hB1
  have g0 := fun (w' : World) => goes_any w'
  have z1 := Small_any [t, u, v] (some ⟨W0.heap.size, 0, none⟩) 3 3 W hRow
  have c1 := fun (w' : World) (h : Below W.heap.size W w') => Compare_any t u a n c a' n' c' w' (ArW.b hA h) (ArW.b hA' h)
  have c2' := fun (w' : World) (h : Below W.heap.size W w') => Compare_any u v a' n' c' a2 n2 c2 w' (ArW.b hA' h) (ArW.b hA2 h)
  have c3 := fun (w' : World) (h : Below W.heap.size W w') => Compare_any t v a n c a2 n2 c2 w' (ArW.b hA h) (ArW.b hA2 h)
  have c4 := fun (w' : World) (h : Below W.heap.size W w') => Compare_any u t a' n' c' a n c w' (ArW.b hA' h) (ArW.b hA h)
  have c5 := fun (w' : World) (h : Below W.heap.size W w') => Compare_any t t a n c a n c w' (ArW.b hA h) (ArW.b hA h)
  have c6 := fun (w' : World) (h : Below W.heap.size W w') => Same_any t u a n c a' n' c' w' (ArW.b hA h) (ArW.b hA' h)
  have eS : eqT t u = (cmpT t u == 0) := by rw [Bool.eq_iff_iff, eqT_iff, beq_iff_eq, linT.eq]
  rw [(linT.eq t t).2 rfl] at c5
  rw [linT.anti t u] at c4
  rw [eS] at c6
  have fx := linT.rng t u
  have fy := linT.rng u v
  have fz := linT.rng t v
  have hle : cmpT t u ≤ 0 → cmpT u v ≤ 0 → cmpT t v ≤ 0 ∧ (cmpT t v = 0 ↔ cmpT t u = 0 ∧ cmpT u v = 0) := fun h1 h2 => lin_le linT t u v h1 h2
  have l0 := Blk.lt S0
  have l1 := Blk.lt S1
  have l2 := Blk.lt S2
  obtain ⟨s0, s1, s2, s3⟩ := S0.four
  obtain ⟨r0, r1, r2, r3⟩ := S1.four
  obtain ⟨q0, q1, q2, q3⟩ := S2.four
  obtain ⟨a00, a01, a02, a03⟩ := P0.four
  obtain ⟨a10, a11, a12, a13⟩ := P1.four
  obtain ⟨a20, a21, a22, a23⟩ := P2.four
  have HLE := Lib.hid hle
  have hxz := Lib.hid (show cmpT t u = 0 → cmpT t v = cmpT u v from fun h => by rw [(linT.eq t u).1 h])
  clear hle
  clear hA hA' hA2 HA HA' HA2 hRow eS S0 S1 S2 P0 P1 P2
  generalize opT t = op at *
  generalize nameT t = nm at *
  generalize numT t = nu at *
  generalize opT u = op' at *
  generalize nameT u = nm' at *
  generalize numT u = nu' at *
  generalize opT v = op2 at *
  generalize nameT v = nm2 at *
  generalize numT v = nu2 at *
  generalize cmpT t u = x at *
  generalize cmpT u v = y at *
  generalize cmpT t v = z at *
  generalize small [t, u, v] = sm at *
  have hs0' := Lib.hid hs0
  clear hs0
  cases sm with
  | false =>
    go_enter Try.func5, Try.ntmps5
    go_wp2_with (first
      | (go_at_call 23; ((with_reducible refine z1.mono ?_); rintro e w4 ⟨rfl, hb4⟩; have Bz := bel_trans (a := W) (Below.refl _ _) hb4; have k0 := (Bz.cell l0).trans s0; have k1 := (Bz.cell l0).trans s1; have k2 := (Bz.cell l0).trans s2; have k3 := (Bz.cell l0).trans s3; have m0 := (Bz.cell l1).trans r0; have m1 := (Bz.cell l1).trans r1; have m2 := (Bz.cell l1).trans r2; have m3 := (Bz.cell l1).trans r3; have n0 := (Bz.cell l2).trans q0; have n1 := (Bz.cell l2).trans q1; have n2' := (Bz.cell l2).trans q2; have n3 := (Bz.cell l2).trans q3))
      | (go_at_call 12; ((with_reducible refine (g0 _).mono ?_); rintro e w7 ⟨rfl, hb7⟩; have By := bel_trans (a := W) (by assumption) hb7)))
    go_ret
    exact ⟨rfl, bel_trans hB By⟩
  | true =>
    go_enter Try.func5, Try.ntmps5
    go_upto_region 3 with (first
      | (go_at_call 23; ((with_reducible refine z1.mono ?_); rintro e w4 ⟨rfl, hb4⟩; have Bz := bel_trans (a := W) (Below.refl _ _) hb4; have k0 := (Bz.cell l0).trans s0; have k1 := (Bz.cell l0).trans s1; have k2 := (Bz.cell l0).trans s2; have k3 := (Bz.cell l0).trans s3; have m0 := (Bz.cell l1).trans r0; have m1 := (Bz.cell l1).trans r1; have m2 := (Bz.cell l1).trans r2; have m3 := (Bz.cell l1).trans r3; have n0 := (Bz.cell l2).trans q0; have n1 := (Bz.cell l2).trans q1; have n2' := (Bz.cell l2).trans q2; have n3 := (Bz.cell l2).trans q3))
      | (go_at_call 12; ((with_reducible refine (g0 _).mono ?_); rintro e w7 ⟨rfl, hb7⟩; have By := bel_trans (a := W) (by assumption) hb7)))
    go_cut [7, 8, 9] from 10 (fun v7 v8 v9 wc => v7 = .int .i64 x ∧ v8 = .int .i64 y ∧ v9 = .int .i64 z ∧ Below W.heap.size W wc)
    case first =>
      go_region_held3 (fun w' => w'.cell? ⟨w.heap.size, 0, none⟩ = some (.int .i64 op) ∧ w'.cell? ⟨w.heap.size, 1, none⟩ = some (.string nm) ∧ w'.cell? ⟨w.heap.size, 2, none⟩ = some (.int .i64 nu) ∧ w'.cell? ⟨w.heap.size, 3, none⟩ = some (.slice a n c) ∧ w'.cell? ⟨w.heap.size + 1, 0, none⟩ = some (.int .i64 op') ∧ w'.cell? ⟨w.heap.size + 1, 1, none⟩ = some (.string nm') ∧ w'.cell? ⟨w.heap.size + 1, 2, none⟩ = some (.int .i64 nu') ∧ w'.cell? ⟨w.heap.size + 1, 3, none⟩ = some (.slice a' n' c') ∧ w'.cell? ⟨w.heap.size + 1 + 1, 0, none⟩ = some (.int .i64 op2) ∧ w'.cell? ⟨w.heap.size + 1 + 1, 1, none⟩ = some (.string nm2) ∧ w'.cell? ⟨w.heap.size + 1 + 1, 2, none⟩ = some (.int .i64 nu2) ∧ w'.cell? ⟨w.heap.size + 1 + 1, 3, none⟩ = some (.slice a2 n2 c2))
        (first | (exact ⟨(Bz.cell l0).trans s0, (Bz.cell l0).trans s1, (Bz.cell l0).trans s2, (Bz.cell l0).trans s3, (Bz.cell l1).trans r0, (Bz.cell l1).trans r1, (Bz.cell l1).trans r2, (Bz.cell l1).trans r3, (Bz.cell l2).trans q0, (Bz.cell l2).trans q1, (Bz.cell l2).trans q2, (Bz.cell l2).trans q3⟩) | go_keep)
        (first
          | (go_at_call 19; ((with_reducible refine (c1 _ (by first | assumption | exact Below.drew (by assumption))).mono ?_); rintro e w4 ⟨rfl, hb4⟩; have Bz := bel_trans (a := W) (by first | assumption | exact Below.drew (by assumption)) hb4))
          | (go_at_call 19; ((with_reducible refine (c2' _ (by first | assumption | exact Below.drew (by assumption))).mono ?_); rintro e w4 ⟨rfl, hb4⟩; have Bz := bel_trans (a := W) (by first | assumption | exact Below.drew (by assumption)) hb4))
          | (go_at_call 19; ((with_reducible refine (c3 _ (by first | assumption | exact Below.drew (by assumption))).mono ?_); rintro e w4 ⟨rfl, hb4⟩; have Bz := bel_trans (a := W) (by first | assumption | exact Below.drew (by assumption)) hb4)))
      all_goals ((try go_wp2_with fail); go_meet; exact ⟨rfl, rfl, rfl, Bz⟩)
    case rest =>
      obtain ⟨rfl, rfl, rfl, Bz⟩ := hcut
      have k0 := (Bz.cell l0).trans s0
      have k1 := (Bz.cell l0).trans s1
      have k2 := (Bz.cell l0).trans s2
      have k3 := (Bz.cell l0).trans s3
      have m0 := (Bz.cell l1).trans r0
      have m1 := (Bz.cell l1).trans r1
      have m2 := (Bz.cell l1).trans r2
      have m3 := (Bz.cell l1).trans r3
      have n0 := (Bz.cell l2).trans q0
      have n1 := (Bz.cell l2).trans q1
      have n2' := (Bz.cell l2).trans q2
      have n3 := (Bz.cell l2).trans q3
      have hl := HLE.out
      clear HLE
      rcases fx with rfl | rfl | rfl
      · rw [show ((-1 : Int) == 0) = false from rfl] at c6
        rw [show (-(-1) : Int) = 1 from rfl] at c4
        rcases fy with rfl | rfl | rfl
        · obtain rfl : z = -1 := by have := hl (by omega) (by omega); omega
          clear hl fz
          go_wp2_with (first
            | (go_at_call 19; ((with_reducible refine (c4 _ (by first | assumption | exact Below.drew (by assumption))).mono ?_); rintro e w4 ⟨rfl, hb4⟩; have Bz := bel_trans (a := W) (by first | assumption | exact Below.drew (by assumption)) hb4; have k0 := (Bz.cell l0).trans s0; have k1 := (Bz.cell l0).trans s1; have k2 := (Bz.cell l0).trans s2; have k3 := (Bz.cell l0).trans s3; have m0 := (Bz.cell l1).trans r0; have m1 := (Bz.cell l1).trans r1; have m2 := (Bz.cell l1).trans r2; have m3 := (Bz.cell l1).trans r3; have n0 := (Bz.cell l2).trans q0; have n1 := (Bz.cell l2).trans q1; have n2' := (Bz.cell l2).trans q2; have n3 := (Bz.cell l2).trans q3))
            | (go_at_call 19; ((with_reducible refine (c5 _ (by first | assumption | exact Below.drew (by assumption))).mono ?_); rintro e w4 ⟨rfl, hb4⟩; have Bz := bel_trans (a := W) (by first | assumption | exact Below.drew (by assumption)) hb4; have k0 := (Bz.cell l0).trans s0; have k1 := (Bz.cell l0).trans s1; have k2 := (Bz.cell l0).trans s2; have k3 := (Bz.cell l0).trans s3; have m0 := (Bz.cell l1).trans r0; have m1 := (Bz.cell l1).trans r1; have m2 := (Bz.cell l1).trans r2; have m3 := (Bz.cell l1).trans r3; have n0 := (Bz.cell l2).trans q0; have n1 := (Bz.cell l2).trans q1; have n2' := (Bz.cell l2).trans q2; have n3 := (Bz.cell l2).trans q3))
            | (go_at_call 21; ((with_reducible refine (c6 _ (by first | assumption | exact Below.drew (by assumption))).mono ?_); rintro e w4 ⟨rfl, hb4⟩; have Bz := bel_trans (a := W) (by first | assumption | exact Below.drew (by assumption)) hb4; have k0 := (Bz.cell l0).trans s0; have k1 := (Bz.cell l0).trans s1; have k2 := (Bz.cell l0).trans s2; have k3 := (Bz.cell l0).trans s3; have m0 := (Bz.cell l1).trans r0; have m1 := (Bz.cell l1).trans r1; have m2 := (Bz.cell l1).trans r2; have m3 := (Bz.cell l1).trans r3; have n0 := (Bz.cell l2).trans q0; have n1 := (Bz.cell l2).trans q1; have n2' := (Bz.cell l2).trans q2; have n3 := (Bz.cell l2).trans q3))
            | (go_at_call 12; ((with_reducible refine (g0 _).mono ?_); rintro e w7 ⟨rfl, hb7⟩; have By := bel_trans (a := W) (by assumption) hb7)))
          go_ret
          exact ⟨rfl, bel_trans hB By⟩
        · obtain rfl : z = -1 := by have := hl (by omega) (by omega); omega
          clear hl fz
          go_wp2_with (first
            | (go_at_call 19; ((with_reducible refine (c4 _ (by first | assumption | exact Below.drew (by assumption))).mono ?_); rintro e w4 ⟨rfl, hb4⟩; have Bz := bel_trans (a := W) (by first | assumption | exact Below.drew (by assumption)) hb4; have k0 := (Bz.cell l0).trans s0; have k1 := (Bz.cell l0).trans s1; have k2 := (Bz.cell l0).trans s2; have k3 := (Bz.cell l0).trans s3; have m0 := (Bz.cell l1).trans r0; have m1 := (Bz.cell l1).trans r1; have m2 := (Bz.cell l1).trans r2; have m3 := (Bz.cell l1).trans r3; have n0 := (Bz.cell l2).trans q0; have n1 := (Bz.cell l2).trans q1; have n2' := (Bz.cell l2).trans q2; have n3 := (Bz.cell l2).trans q3))
            | (go_at_call 19; ((with_reducible refine (c5 _ (by first | assumption | exact Below.drew (by assumption))).mono ?_); rintro e w4 ⟨rfl, hb4⟩; have Bz := bel_trans (a := W) (by first | assumption | exact Below.drew (by assumption)) hb4; have k0 := (Bz.cell l0).trans s0; have k1 := (Bz.cell l0).trans s1; have k2 := (Bz.cell l0).trans s2; have k3 := (Bz.cell l0).trans s3; have m0 := (Bz.cell l1).trans r0; have m1 := (Bz.cell l1).trans r1; have m2 := (Bz.cell l1).trans r2; have m3 := (Bz.cell l1).trans r3; have n0 := (Bz.cell l2).trans q0; have n1 := (Bz.cell l2).trans q1; have n2' := (Bz.cell l2).trans q2; have n3 := (Bz.cell l2).trans q3))
            | (go_at_call 21; ((with_reducible refine (c6 _ (by first | assumption | exact Below.drew (by assumption))).mono ?_); rintro e w4 ⟨rfl, hb4⟩; have Bz := bel_trans (a := W) (by first | assumption | exact Below.drew (by assumption)) hb4; have k0 := (Bz.cell l0).trans s0; have k1 := (Bz.cell l0).trans s1; have k2 := (Bz.cell l0).trans s2; have k3 := (Bz.cell l0).trans s3; have m0 := (Bz.cell l1).trans r0; have m1 := (Bz.cell l1).trans r1; have m2 := (Bz.cell l1).trans r2; have m3 := (Bz.cell l1).trans r3; have n0 := (Bz.cell l2).trans q0; have n1 := (Bz.cell l2).trans q1; have n2' := (Bz.cell l2).trans q2; have n3 := (Bz.cell l2).trans q3))
            | (go_at_call 12; ((with_reducible refine (g0 _).mono ?_); rintro e w7 ⟨rfl, hb7⟩; have By := bel_trans (a := W) (by assumption) hb7)))
          go_ret
          exact ⟨rfl, bel_trans hB By⟩
        · clear hl fz
          go_wp2_with (first
            | (go_at_call 19; ((with_reducible refine (c4 _ (by first | assumption | exact Below.drew (by assumption))).mono ?_); rintro e w4 ⟨rfl, hb4⟩; have Bz := bel_trans (a := W) (by first | assumption | exact Below.drew (by assumption)) hb4; have k0 := (Bz.cell l0).trans s0; have k1 := (Bz.cell l0).trans s1; have k2 := (Bz.cell l0).trans s2; have k3 := (Bz.cell l0).trans s3; have m0 := (Bz.cell l1).trans r0; have m1 := (Bz.cell l1).trans r1; have m2 := (Bz.cell l1).trans r2; have m3 := (Bz.cell l1).trans r3; have n0 := (Bz.cell l2).trans q0; have n1 := (Bz.cell l2).trans q1; have n2' := (Bz.cell l2).trans q2; have n3 := (Bz.cell l2).trans q3))
            | (go_at_call 19; ((with_reducible refine (c5 _ (by first | assumption | exact Below.drew (by assumption))).mono ?_); rintro e w4 ⟨rfl, hb4⟩; have Bz := bel_trans (a := W) (by first | assumption | exact Below.drew (by assumption)) hb4; have k0 := (Bz.cell l0).trans s0; have k1 := (Bz.cell l0).trans s1; have k2 := (Bz.cell l0).trans s2; have k3 := (Bz.cell l0).trans s3; have m0 := (Bz.cell l1).trans r0; have m1 := (Bz.cell l1).trans r1; have m2 := (Bz.cell l1).trans r2; have m3 := (Bz.cell l1).trans r3; have n0 := (Bz.cell l2).trans q0; have n1 := (Bz.cell l2).trans q1; have n2' := (Bz.cell l2).trans q2; have n3 := (Bz.cell l2).trans q3))
            | (go_at_call 21; ((with_reducible refine (c6 _ (by first | assumption | exact Below.drew (by assumption))).mono ?_); rintro e w4 ⟨rfl, hb4⟩; have Bz := bel_trans (a := W) (by first | assumption | exact Below.drew (by assumption)) hb4; have k0 := (Bz.cell l0).trans s0; have k1 := (Bz.cell l0).trans s1; have k2 := (Bz.cell l0).trans s2; have k3 := (Bz.cell l0).trans s3; have m0 := (Bz.cell l1).trans r0; have m1 := (Bz.cell l1).trans r1; have m2 := (Bz.cell l1).trans r2; have m3 := (Bz.cell l1).trans r3; have n0 := (Bz.cell l2).trans q0; have n1 := (Bz.cell l2).trans q1; have n2' := (Bz.cell l2).trans q2; have n3 := (Bz.cell l2).trans q3))
            | (go_at_call 12; ((with_reducible refine (g0 _).mono ?_); rintro e w7 ⟨rfl, hb7⟩; have By := bel_trans (a := W) (by assumption) hb7)))
          go_ret
          exact ⟨rfl, bel_trans hB By⟩
      · rw [show ((0 : Int) == 0) = true from rfl] at c6
        rw [show (-0 : Int) = 0 from rfl] at c4
        have hxy := hxz.out rfl
        clear hxz
        rcases fy with rfl | rfl | rfl
        · obtain rfl : z = -1 := hxy
          clear hl fz
          go_wp2_with (first
            | (go_at_call 19; ((with_reducible refine (c4 _ (by first | assumption | exact Below.drew (by assumption))).mono ?_); rintro e w4 ⟨rfl, hb4⟩; have Bz := bel_trans (a := W) (by first | assumption | exact Below.drew (by assumption)) hb4; have k0 := (Bz.cell l0).trans s0; have k1 := (Bz.cell l0).trans s1; have k2 := (Bz.cell l0).trans s2; have k3 := (Bz.cell l0).trans s3; have m0 := (Bz.cell l1).trans r0; have m1 := (Bz.cell l1).trans r1; have m2 := (Bz.cell l1).trans r2; have m3 := (Bz.cell l1).trans r3; have n0 := (Bz.cell l2).trans q0; have n1 := (Bz.cell l2).trans q1; have n2' := (Bz.cell l2).trans q2; have n3 := (Bz.cell l2).trans q3))
            | (go_at_call 19; ((with_reducible refine (c5 _ (by first | assumption | exact Below.drew (by assumption))).mono ?_); rintro e w4 ⟨rfl, hb4⟩; have Bz := bel_trans (a := W) (by first | assumption | exact Below.drew (by assumption)) hb4; have k0 := (Bz.cell l0).trans s0; have k1 := (Bz.cell l0).trans s1; have k2 := (Bz.cell l0).trans s2; have k3 := (Bz.cell l0).trans s3; have m0 := (Bz.cell l1).trans r0; have m1 := (Bz.cell l1).trans r1; have m2 := (Bz.cell l1).trans r2; have m3 := (Bz.cell l1).trans r3; have n0 := (Bz.cell l2).trans q0; have n1 := (Bz.cell l2).trans q1; have n2' := (Bz.cell l2).trans q2; have n3 := (Bz.cell l2).trans q3))
            | (go_at_call 21; ((with_reducible refine (c6 _ (by first | assumption | exact Below.drew (by assumption))).mono ?_); rintro e w4 ⟨rfl, hb4⟩; have Bz := bel_trans (a := W) (by first | assumption | exact Below.drew (by assumption)) hb4; have k0 := (Bz.cell l0).trans s0; have k1 := (Bz.cell l0).trans s1; have k2 := (Bz.cell l0).trans s2; have k3 := (Bz.cell l0).trans s3; have m0 := (Bz.cell l1).trans r0; have m1 := (Bz.cell l1).trans r1; have m2 := (Bz.cell l1).trans r2; have m3 := (Bz.cell l1).trans r3; have n0 := (Bz.cell l2).trans q0; have n1 := (Bz.cell l2).trans q1; have n2' := (Bz.cell l2).trans q2; have n3 := (Bz.cell l2).trans q3))
            | (go_at_call 12; ((with_reducible refine (g0 _).mono ?_); rintro e w7 ⟨rfl, hb7⟩; have By := bel_trans (a := W) (by assumption) hb7)))
          go_ret
          exact ⟨rfl, bel_trans hB By⟩
        · obtain rfl : z = 0 := hxy
          clear hl fz
          go_wp2_with (first
            | (go_at_call 19; ((with_reducible refine (c4 _ (by first | assumption | exact Below.drew (by assumption))).mono ?_); rintro e w4 ⟨rfl, hb4⟩; have Bz := bel_trans (a := W) (by first | assumption | exact Below.drew (by assumption)) hb4; have k0 := (Bz.cell l0).trans s0; have k1 := (Bz.cell l0).trans s1; have k2 := (Bz.cell l0).trans s2; have k3 := (Bz.cell l0).trans s3; have m0 := (Bz.cell l1).trans r0; have m1 := (Bz.cell l1).trans r1; have m2 := (Bz.cell l1).trans r2; have m3 := (Bz.cell l1).trans r3; have n0 := (Bz.cell l2).trans q0; have n1 := (Bz.cell l2).trans q1; have n2' := (Bz.cell l2).trans q2; have n3 := (Bz.cell l2).trans q3))
            | (go_at_call 19; ((with_reducible refine (c5 _ (by first | assumption | exact Below.drew (by assumption))).mono ?_); rintro e w4 ⟨rfl, hb4⟩; have Bz := bel_trans (a := W) (by first | assumption | exact Below.drew (by assumption)) hb4; have k0 := (Bz.cell l0).trans s0; have k1 := (Bz.cell l0).trans s1; have k2 := (Bz.cell l0).trans s2; have k3 := (Bz.cell l0).trans s3; have m0 := (Bz.cell l1).trans r0; have m1 := (Bz.cell l1).trans r1; have m2 := (Bz.cell l1).trans r2; have m3 := (Bz.cell l1).trans r3; have n0 := (Bz.cell l2).trans q0; have n1 := (Bz.cell l2).trans q1; have n2' := (Bz.cell l2).trans q2; have n3 := (Bz.cell l2).trans q3))
            | (go_at_call 21; ((with_reducible refine (c6 _ (by first | assumption | exact Below.drew (by assumption))).mono ?_); rintro e w4 ⟨rfl, hb4⟩; have Bz := bel_trans (a := W) (by first | assumption | exact Below.drew (by assumption)) hb4; have k0 := (Bz.cell l0).trans s0; have k1 := (Bz.cell l0).trans s1; have k2 := (Bz.cell l0).trans s2; have k3 := (Bz.cell l0).trans s3; have m0 := (Bz.cell l1).trans r0; have m1 := (Bz.cell l1).trans r1; have m2 := (Bz.cell l1).trans r2; have m3 := (Bz.cell l1).trans r3; have n0 := (Bz.cell l2).trans q0; have n1 := (Bz.cell l2).trans q1; have n2' := (Bz.cell l2).trans q2; have n3 := (Bz.cell l2).trans q3))
            | (go_at_call 12; ((with_reducible refine (g0 _).mono ?_); rintro e w7 ⟨rfl, hb7⟩; have By := bel_trans (a := W) (by assumption) hb7)))
          go_ret
          exact ⟨rfl, bel_trans hB By⟩
        · clear hl fz hxy
          go_wp2_with (first
            | (go_at_call 19; ((with_reducible refine (c4 _ (by first | assumption | exact Below.drew (by assumption))).mono ?_); rintro e w4 ⟨rfl, hb4⟩; have Bz := bel_trans (a := W) (by first | assumption | exact Below.drew (by assumption)) hb4; have k0 := (Bz.cell l0).trans s0; have k1 := (Bz.cell l0).trans s1; have k2 := (Bz.cell l0).trans s2; have k3 := (Bz.cell l0).trans s3; have m0 := (Bz.cell l1).trans r0; have m1 := (Bz.cell l1).trans r1; have m2 := (Bz.cell l1).trans r2; have m3 := (Bz.cell l1).trans r3; have n0 := (Bz.cell l2).trans q0; have n1 := (Bz.cell l2).trans q1; have n2' := (Bz.cell l2).trans q2; have n3 := (Bz.cell l2).trans q3))
            | (go_at_call 19; ((with_reducible refine (c5 _ (by first | assumption | exact Below.drew (by assumption))).mono ?_); rintro e w4 ⟨rfl, hb4⟩; have Bz := bel_trans (a := W) (by first | assumption | exact Below.drew (by assumption)) hb4; have k0 := (Bz.cell l0).trans s0; have k1 := (Bz.cell l0).trans s1; have k2 := (Bz.cell l0).trans s2; have k3 := (Bz.cell l0).trans s3; have m0 := (Bz.cell l1).trans r0; have m1 := (Bz.cell l1).trans r1; have m2 := (Bz.cell l1).trans r2; have m3 := (Bz.cell l1).trans r3; have n0 := (Bz.cell l2).trans q0; have n1 := (Bz.cell l2).trans q1; have n2' := (Bz.cell l2).trans q2; have n3 := (Bz.cell l2).trans q3))
            | (go_at_call 21; ((with_reducible refine (c6 _ (by first | assumption | exact Below.drew (by assumption))).mono ?_); rintro e w4 ⟨rfl, hb4⟩; have Bz := bel_trans (a := W) (by first | assumption | exact Below.drew (by assumption)) hb4; have k0 := (Bz.cell l0).trans s0; have k1 := (Bz.cell l0).trans s1; have k2 := (Bz.cell l0).trans s2; have k3 := (Bz.cell l0).trans s3; have m0 := (Bz.cell l1).trans r0; have m1 := (Bz.cell l1).trans r1; have m2 := (Bz.cell l1).trans r2; have m3 := (Bz.cell l1).trans r3; have n0 := (Bz.cell l2).trans q0; have n1 := (Bz.cell l2).trans q1; have n2' := (Bz.cell l2).trans q2; have n3 := (Bz.cell l2).trans q3))
            | (go_at_call 12; ((with_reducible refine (g0 _).mono ?_); rintro e w7 ⟨rfl, hb7⟩; have By := bel_trans (a := W) (by assumption) hb7)))
          go_ret
          exact ⟨rfl, bel_trans hB By⟩
      · rw [show ((1 : Int) == 0) = false from rfl] at c6
        clear hl fz fy
        go_wp2_with (first
          | (go_at_call 19; ((with_reducible refine (c4 _ (by first | assumption | exact Below.drew (by assumption))).mono ?_); rintro e w4 ⟨rfl, hb4⟩; have Bz := bel_trans (a := W) (by first | assumption | exact Below.drew (by assumption)) hb4; have k0 := (Bz.cell l0).trans s0; have k1 := (Bz.cell l0).trans s1; have k2 := (Bz.cell l0).trans s2; have k3 := (Bz.cell l0).trans s3; have m0 := (Bz.cell l1).trans r0; have m1 := (Bz.cell l1).trans r1; have m2 := (Bz.cell l1).trans r2; have m3 := (Bz.cell l1).trans r3; have n0 := (Bz.cell l2).trans q0; have n1 := (Bz.cell l2).trans q1; have n2' := (Bz.cell l2).trans q2; have n3 := (Bz.cell l2).trans q3))
          | (go_at_call 19; ((with_reducible refine (c5 _ (by first | assumption | exact Below.drew (by assumption))).mono ?_); rintro e w4 ⟨rfl, hb4⟩; have Bz := bel_trans (a := W) (by first | assumption | exact Below.drew (by assumption)) hb4; have k0 := (Bz.cell l0).trans s0; have k1 := (Bz.cell l0).trans s1; have k2 := (Bz.cell l0).trans s2; have k3 := (Bz.cell l0).trans s3; have m0 := (Bz.cell l1).trans r0; have m1 := (Bz.cell l1).trans r1; have m2 := (Bz.cell l1).trans r2; have m3 := (Bz.cell l1).trans r3; have n0 := (Bz.cell l2).trans q0; have n1 := (Bz.cell l2).trans q1; have n2' := (Bz.cell l2).trans q2; have n3 := (Bz.cell l2).trans q3))
          | (go_at_call 21; ((with_reducible refine (c6 _ (by first | assumption | exact Below.drew (by assumption))).mono ?_); rintro e w4 ⟨rfl, hb4⟩; have Bz := bel_trans (a := W) (by first | assumption | exact Below.drew (by assumption)) hb4; have k0 := (Bz.cell l0).trans s0; have k1 := (Bz.cell l0).trans s1; have k2 := (Bz.cell l0).trans s2; have k3 := (Bz.cell l0).trans s3; have m0 := (Bz.cell l1).trans r0; have m1 := (Bz.cell l1).trans r1; have m2 := (Bz.cell l1).trans r2; have m3 := (Bz.cell l1).trans r3; have n0 := (Bz.cell l2).trans q0; have n1 := (Bz.cell l2).trans q1; have n2' := (Bz.cell l2).trans q2; have n3 := (Bz.cell l2).trans q3))
          | (go_at_call 12; ((with_reducible refine (g0 _).mono ?_); rintro e w7 ⟨rfl, hb7⟩; have By := bel_trans (a := W) (by assumption) hb7)))
        go_ret
        exact ⟨rfl, bel_trans hB By⟩

theorem termOrders (z0 z1 z2 : TmV) (w : World) (H : ArW w z0.t z0.a z0.n z0.c) (H1 : ArW w z1.t z1.a z1.n z1.c) (H2 : ArW w z2.t z2.a z2.n z2.c) :
    Calls Try.prog 5 #[z0.val, z1.val, z2.val] w fun e w' => e = .returned (.bool true) ∧ Below w.heap.size w w' :=
  orders z0.t z1.t z2.t z0.a z1.a z2.a z0.n z0.c z1.n z1.c z2.n z2.c w H H1 H2
end Go.Proofs.Ytliahkpbbnbnpaa.T
