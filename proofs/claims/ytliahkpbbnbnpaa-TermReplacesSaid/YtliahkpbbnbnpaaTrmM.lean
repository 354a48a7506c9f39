/-
  What is proved: the law over Replace.
-/
import Derived.Test.YtliahkpbbnbnpaaTrmZ
import Derived.Test.YtliahkpbbnbnpaaTrmF
namespace Go.Proofs.Ytliahkpbbnbnpaa.T
open Go.RowKit L
set_option linter.unusedVariables false
set_option linter.unusedSimpArgs false

theorem MixT.ret {B : Nat} {r : Tm} {w w' : World} {e : Ending} (h : MixT B r w e w') : RetT r w e w' := by
  obtain ⟨A, N, C, e1, h1, hb⟩ := h
  exact ⟨A, N, C, e1, ArP.ar (fun b hb => hb.1) r h1, hb⟩
theorem refl_ret {f u t : Tm} (hs1 : size t ≤ 60) (a : Option Addr) (m c : Nat) (a1 : Option Addr) (n1 c1 : Nat) (a2 : Option Addr) (n2 c2 : Nat) (w : World) (hA : ArW w t a m c) (h1 : ArW w f a1 n1 c1) (h2 : ArW w u a2 n2 c2) :
  Calls Try.prog 33 #[.agg #[.int .i64 (opT t), .string (nameT t), .int .i64 (numT t), .slice a m c], .agg #[.int .i64 (opT f), .string (nameT f), .int .i64 (numT f), .slice a1 n1 c1], .agg #[.int .i64 (opT u), .string (nameT u), .int .i64 (numT u), .slice a2 n2 c2]] w fun e w' => RetT (rep f u t) w e w' :=
  (RefRep_any f u t w.heap.size a m c a1 n1 c1 a2 n2 c2 w (Nat.le_refl _) (by omega) hA h1 h2).mono fun e w' h => h.ret

set_option maxRecDepth 100000 in
set_option maxHeartbeats 16000000 in
theorem replaces (t f u : Tm) (a a' a2 : Option Addr) (n c n' c' n2 c2 : Nat) (w : World) (HA : ArW w t a n c) (HA' : ArW w f a' n' c') (HA2 : ArW w u a2 n2 c2) :
    Calls Try.prog 8 #[.agg #[.int .i64 (opT t), .string (nameT t), .int .i64 (numT t), .slice a n c], .agg #[.int .i64 (opT f), .string (nameT f), .int .i64 (numT f), .slice a' n' c'], .agg #[.int .i64 (opT u), .string (nameT u), .int .i64 (numT u), .slice a2 n2 c2]] w fun e w' => e = .returned (.bool true) ∧ Below w.heap.size w w' := by
  obtain ⟨W0, hW0, hB0, hs0, P0, P1, P2⟩ := box3 w (opT t) (nameT t) (numT t) a n c (opT f) (nameT f) (numT f) a' n' c' (opT u) (nameT u) (numT u) a2 n2 c2
  obtain ⟨W, hW, hB1, hRow⟩ := row3 W0 t f u a n c a' n' c' a2 n2 c2 (ArW.b HA hB0) (ArW.b HA' hB0) (ArW.b HA2 hB0)
  have hB : Below w.heap.size w W := bel_trans hB0 hB1
  have hA := ArW.b HA hB
  have hA' := ArW.b HA' hB
  have hA2 := ArW.b HA2 hB
  have S0 := P0.b hB1
  have S1 := P1.b hB1
  have S2 := P2.b hB1
  have g0 := fun (w' : World) => goes_any w'
  have z1 := Small_any [t, f, u] (some ⟨W0.heap.size, 0, none⟩) 3 3 W hRow
  have cR1 := fun (hsm : small [t, f, u] = true) (w' : World) (h : Below W.heap.size W w') => repl_ret (f := f) (u := u) (t := t) (small3 hsm).1 (small3 hsm).2.2 a n c a' n' c' a2 n2 c2 w' (ArW.b hA h) (ArW.b hA' h) (ArW.b hA2 h)
  have cR2 := fun (hsm : small [t, f, u] = true) (w' : World) (h : Below W.heap.size W w') => refl_ret (f := f) (u := u) (t := t) (small3 hsm).1 a n c a' n' c' a2 n2 c2 w' (ArW.b hA h) (ArW.b hA' h) (ArW.b hA2 h)
  have eTT : eqT (rep f u t) (rep f u t) = true := eqT_iff.2 rfl
  have cT := fun (A : Option Addr) (N C : Nat) (A' : Option Addr) (N' C' : Nat) (w' : World) (hX : ArW w' (rep f u t) A N C) (hX' : ArW w' (rep f u t) A' N' C') => Term_any (rep f u t) (rep f u t) A N C A' N' C' w' hX hX'
  rw [eTT] at cT
  have HCR1 := Lib.hid cR1
  have HCR2 := Lib.hid cR2
  have l0 := Blk.lt S0
  have l1 := Blk.lt S1
  have l2 := Blk.lt S2
  obtain ⟨s0, s1, s2, s3⟩ := S0.four
  obtain ⟨r0, r1, r2, r3⟩ := S1.four
  obtain ⟨q0, q1, q2, q3⟩ := S2.four
  obtain ⟨a00, a01, a02, a03⟩ := P0.four
  obtain ⟨a10, a11, a12, a13⟩ := P1.four
  obtain ⟨a20, a21, a22, a23⟩ := P2.four
  have HS0 := Lib.hid hs0
  clear hA hA' hA2 HA HA' HA2 hRow S0 S1 S2 P0 P1 P2 hs0 eTT cR1 cR2
  generalize hsm : small [t, f, u] = sm at z1
  have Hsm := Lib.hid hsm
  clear hsm
  cases sm with
  | false =>
    clear HCR1 HCR2 cT
    generalize opT t = op at *
    generalize nameT t = nm at *
    generalize numT t = nu at *
    generalize opT f = op' at *
    generalize nameT f = nm' at *
    generalize numT f = nu' at *
    generalize opT u = op2 at *
    generalize nameT u = nm2 at *
    generalize numT u = nu2 at *
    go_enter Try.func8, Try.ntmps8
    go_wp2_with (first
      | (go_at_call 23; ((with_reducible refine z1.mono ?_); rintro e w4 ⟨rfl, hb4⟩; have Bz := bel_trans (a := W) (Below.refl _ _) hb4; have k0 := (Bz.cell l0).trans s0; have k1 := (Bz.cell l0).trans s1; have k2 := (Bz.cell l0).trans s2; have k3 := (Bz.cell l0).trans s3; have m0 := (Bz.cell l1).trans r0; have m1 := (Bz.cell l1).trans r1; have m2 := (Bz.cell l1).trans r2; have m3 := (Bz.cell l1).trans r3; have n0 := (Bz.cell l2).trans q0; have n1 := (Bz.cell l2).trans q1; have n2' := (Bz.cell l2).trans q2; have n3 := (Bz.cell l2).trans q3))
      | (go_at_call 12; ((with_reducible refine (g0 _).mono ?_); rintro e w7 ⟨rfl, hb7⟩; have By := bel_trans (a := W) (by assumption) hb7)))
    go_ret
    exact ⟨rfl, bel_trans hB By⟩
  | true =>
    have cR1 := HCR1.out Hsm.out
    have cR2 := HCR2.out Hsm.out
    clear HCR1 HCR2 Hsm
    unfold RetT at cR1 cR2
    generalize rep f u t = r at *
    generalize opT r = opr at *
    generalize nameT r = nmr at *
    generalize numT r = nur at *
    generalize opT t = op at *
    generalize nameT t = nm at *
    generalize numT t = nu at *
    generalize opT f = op' at *
    generalize nameT f = nm' at *
    generalize numT f = nu' at *
    generalize opT u = op2 at *
    generalize nameT u = nm2 at *
    generalize numT u = nu2 at *
    go_enter Try.func8, Try.ntmps8
    go_wp2_with (first
      | (go_at_call 23; ((with_reducible refine z1.mono ?_); rintro e w4 ⟨rfl, hb4⟩; have Bz := bel_trans (a := W) (Below.refl _ _) hb4; have k0 := (Bz.cell l0).trans s0; have k1 := (Bz.cell l0).trans s1; have k2 := (Bz.cell l0).trans s2; have k3 := (Bz.cell l0).trans s3; have m0 := (Bz.cell l1).trans r0; have m1 := (Bz.cell l1).trans r1; have m2 := (Bz.cell l1).trans r2; have m3 := (Bz.cell l1).trans r3; have n0 := (Bz.cell l2).trans q0; have n1 := (Bz.cell l2).trans q1; have n2' := (Bz.cell l2).trans q2; have n3 := (Bz.cell l2).trans q3))
      | (fail))
    go_region_held3 (fun w' => w'.cell? ⟨w.heap.size, 0, none⟩ = some (.int .i64 op) ∧ w'.cell? ⟨w.heap.size, 1, none⟩ = some (.string nm) ∧ w'.cell? ⟨w.heap.size, 2, none⟩ = some (.int .i64 nu) ∧ w'.cell? ⟨w.heap.size, 3, none⟩ = some (.slice a n c) ∧ w'.cell? ⟨w.heap.size + 1, 0, none⟩ = some (.int .i64 op') ∧ w'.cell? ⟨w.heap.size + 1, 1, none⟩ = some (.string nm') ∧ w'.cell? ⟨w.heap.size + 1, 2, none⟩ = some (.int .i64 nu') ∧ w'.cell? ⟨w.heap.size + 1, 3, none⟩ = some (.slice a' n' c') ∧ w'.cell? ⟨w.heap.size + 1 + 1, 0, none⟩ = some (.int .i64 op2) ∧ w'.cell? ⟨w.heap.size + 1 + 1, 1, none⟩ = some (.string nm2) ∧ w'.cell? ⟨w.heap.size + 1 + 1, 2, none⟩ = some (.int .i64 nu2) ∧ w'.cell? ⟨w.heap.size + 1 + 1, 3, none⟩ = some (.slice a2 n2 c2))
        (first | (exact ⟨(Bz.cell l0).trans s0, (Bz.cell l0).trans s1, (Bz.cell l0).trans s2, (Bz.cell l0).trans s3, (Bz.cell l1).trans r0, (Bz.cell l1).trans r1, (Bz.cell l1).trans r2, (Bz.cell l1).trans r3, (Bz.cell l2).trans q0, (Bz.cell l2).trans q1, (Bz.cell l2).trans q2, (Bz.cell l2).trans q3⟩) | go_keep)
        (first
          | (go_at_call 32; ((with_reducible refine (cR1 _ (by first | assumption | exact Below.drew (by assumption))).mono ?_); rintro e w4 ⟨A4, N4, C4, rfl, hX4, hb4⟩; have HX4 := Lib.hid hX4; clear hX4; have Bz := bel_trans (a := W) (by first | assumption | exact Below.drew (by assumption)) hb4; have B4 := Below.refl w4.heap.size w4; try (have B5 := bel_trans (a := w5) (by first | assumption | exact Below.drew (by assumption)) hb4)))
          | (go_at_call 33; ((with_reducible refine (cR2 _ (by first | assumption | exact Below.drew (by assumption))).mono ?_); rintro e w5 ⟨A5, N5, C5, rfl, hX5, hb5⟩; have HX5 := Lib.hid hX5; clear hX5; have Bz := bel_trans (a := W) (by first | assumption | exact Below.drew (by assumption)) hb5; have B5 := Below.refl w5.heap.size w5; try (have B4 := bel_trans (a := w4) (by first | assumption | exact Below.drew (by assumption)) hb5)))
          | (go_at_call 22; ((with_reducible refine (cT A4 N4 C4 A5 N5 C5 _ (ArW.b HX4.out B4) (ArW.b HX5.out B5)).mono ?_); rintro e w6 ⟨rfl, hb6⟩; have Bz := bel_trans (a := W) (by first | assumption | exact Below.drew (by assumption)) hb6))
          | (go_at_call 12; ((with_reducible refine (g0 _).mono ?_); rintro e w7 ⟨rfl, hb7⟩; have Bz := bel_trans (a := W) (by first | assumption | exact Below.drew (by assumption)) hb7)))
    all_goals go_wp2
    all_goals go_ret
    all_goals exact ⟨rfl, bel_trans hB Bz⟩

theorem termReplaces (z0 z1 z2 : TmV) (w : World) (H : ArW w z0.t z0.a z0.n z0.c) (H1 : ArW w z1.t z1.a z1.n z1.c) (H2 : ArW w z2.t z2.a z2.n z2.c) :
    Calls Try.prog 8 #[z0.val, z1.val, z2.val] w fun e w' => e = .returned (.bool true) ∧ Below w.heap.size w w' :=
  replaces z0.t z1.t z2.t z0.a z1.a z2.a z0.n z0.c z1.n z1.c z2.n z2.c w H H1 H2
end Go.Proofs.Ytliahkpbbnbnpaa.T
