/-
  What is proved: the law over Replace without the document's answer.
-/
import Derived.Test.YtliahkpbbnbnpaaTrmH
import Derived.Test.YtliahkpbbnbnpaaTrmU
import Derived.Test.YtliahkpbbnbnpaaTrmX
namespace Go.Proofs.Ytliahkpbbnbnpaa.T
open Go.RowKit L
set_option linter.unusedVariables false
set_option linter.unusedSimpArgs false

/-- a term is returned, wherever its Args lie -/
def RetT (r : Tm) (w : World) (e : Ending) (w' : World) : Prop := ∃ A N C, e = .returned (.agg #[.int .i64 (opT r), .string (nameT r), .int .i64 (numT r), .slice A N C]) ∧ ArW w' r A N C ∧ Below w.heap.size w w'
theorem NewT.ret {r : Tm} {w w' : World} {e : Ending} (h : NewT r w e w') : RetT r w e w' := by
  obtain ⟨h, e1, hf, hb⟩ := h
  obtain ⟨q1, q2, q3⟩ := Fr.hd hf
  exact ⟨h.a, h.n, h.c, by rw [e1, q1, q2, q3], Fr.ar _ (Nat.le_refl _) hf, hb⟩
theorem small3 {t f u : Tm} (h : small [t, f, u] = true) : size t ≤ 60 ∧ size f ≤ 60 ∧ size u ≤ 60 := by
  simp [small] at h
  exact h
theorem repl_ret {f u t : Tm} (hs1 : size t ≤ 60) (hs2 : size u ≤ 60) (a : Option Addr) (m c : Nat) (a1 : Option Addr) (n1 c1 : Nat) (a2 : Option Addr) (n2 c2 : Nat) (w : World) (hA : ArW w t a m c) (h1 : ArW w f a1 n1 c1) (h2 : ArW w u a2 n2 c2) :
  Calls Try.prog 32 #[.agg #[.int .i64 (opT t), .string (nameT t), .int .i64 (numT t), .slice a m c], .agg #[.int .i64 (opT f), .string (nameT f), .int .i64 (numT f), .slice a1 n1 c1], .agg #[.int .i64 (opT u), .string (nameT u), .int .i64 (numT u), .slice a2 n2 c2]] w fun e w' => RetT (rep f u t) w e w' :=
  (Replace_any f u t a m c a1 n1 c1 a2 n2 c2 w (by omega) (by omega) hA h1 h2).mono fun e w' h => h.ret

set_option maxRecDepth 100000 in
set_option maxHeartbeats 16000000 in
theorem gone (t f u : Tm) (a a' a2 : Option Addr) (n c n' c' n2 c2 : Nat) (w : World) (HA : ArW w t a n c) (HA' : ArW w f a' n' c') (HA2 : ArW w u a2 n2 c2) :
    Calls Try.prog 9 #[.agg #[.int .i64 (opT t), .string (nameT t), .int .i64 (numT t), .slice a n c], .agg #[.int .i64 (opT f), .string (nameT f), .int .i64 (numT f), .slice a' n' c'], .agg #[.int .i64 (opT u), .string (nameT u), .int .i64 (numT u), .slice a2 n2 c2]] w fun e w' => e = .returned (.bool true) ∧ Below w.heap.size w w' := by
  obtain ⟨W0, hW0, hB0, hs0, P0, P1, P2⟩ := box3 w (opT t) (nameT t) (numT t) a n c (opT f) (nameT f) (numT f) a' n' c' (opT u) (nameT u) (numT u) a2 n2 c2
  obtain ⟨W, hW, hB1, hRow⟩ := row3 W0 t f u a n c a' n' c' a2 n2 c2 (ArW.b HA hB0) (ArW.b HA' hB0) (ArW.b HA2 hB0)
  have hB : Below w.heap.size w W := bel_trans hB0 hB1
  have hA := ArW.b HA hB
  have hA' := ArW.b HA' hB
  have hA2 := ArW.b HA2 hB
  have S0 := P0.b hB1
  have S1 := P1.b hB1
  have S2 := P2.b hB1
  have g0 := fun (w' : World) => goes_any w'
  have z1 := Small_any [t, f, u] (some ⟨W0.heap.size, 0, none⟩) 3 3 W hRow
  have cR1 := fun (hsm : small [t, f, u] = true) (w' : World) (h : Below W.heap.size W w') => repl_ret (f := f) (u := f) (t := t) (small3 hsm).1 (small3 hsm).2.1 a n c a' n' c' a' n' c' w' (ArW.b hA h) (ArW.b hA' h) (ArW.b hA' h)
  have cR2 := fun (hsm : small [t, f, u] = true) (w' : World) (h : Below W.heap.size W w') => repl_ret (f := f) (u := u) (t := t) (small3 hsm).1 (small3 hsm).2.2 a n c a' n' c' a2 n2 c2 w' (ArW.b hA h) (ArW.b hA' h) (ArW.b hA2 h)
  rw [rep_self] at cR1
  have eTT : eqT t t = true := eqT_iff.2 rfl
  have cS := fun (A : Option Addr) (N C : Nat) (w' : World) (hX : ArW w' t A N C) (h : Below W.heap.size W w') => Same_any t t A N C a n c w' hX (ArW.b hA h)
  rw [eTT] at cS
  have cH1 := fun (w' : World) (h : Below W.heap.size W w') => Has_any u f a2 n2 c2 a' n' c' w' (ArW.b hA2 h) (ArW.b hA' h)
  have cH2 := fun (w' : World) (h : Below W.heap.size W w') => Has_any t f a n c a' n' c' w' (ArW.b hA h) (ArW.b hA' h)
  have cHx := fun (A : Option Addr) (N C : Nat) (w' : World) (hX : ArW w' (rep f u t) A N C) (h : Below W.heap.size W w') => Has_any (rep f u t) f A N C a' n' c' w' hX (ArW.b hA' h)
  have cSx := fun (A : Option Addr) (N C : Nat) (w' : World) (hX : ArW w' (rep f u t) A N C) (h : Below W.heap.size W w') => Same_any (rep f u t) t A N C a n c w' hX (ArW.b hA h)
  have hSame := Lib.hid (show has t f = false → eqT (rep f u t) t = true from fun h => by rw [rep_none f u t h, eTT])
  have hGone := Lib.hid (show n' = 0 → has u f = false → has (rep f u t) f = false from fun h0 hu => by
    have hl := (ArW.args HA').1
    cases f with
    | mk o s z l =>
      have hl2 : n' = l.length := hl
      obtain rfl : l = [] := List.length_eq_zero_iff.1 (by omega)
      exact rep_gone o s z u hu t)
  have HCR1 := Lib.hid cR1
  have HCR2 := Lib.hid cR2
  have l0 := Blk.lt S0
  have l1 := Blk.lt S1
  have l2 := Blk.lt S2
  obtain ⟨s0, s1, s2, s3⟩ := S0.four
  obtain ⟨r0, r1, r2, r3⟩ := S1.four
  obtain ⟨q0, q1, q2, q3⟩ := S2.four
  obtain ⟨a00, a01, a02, a03⟩ := P0.four
  obtain ⟨a10, a11, a12, a13⟩ := P1.four
  obtain ⟨a20, a21, a22, a23⟩ := P2.four
  have HS0 := Lib.hid hs0
  clear hA hA' hA2 HA HA' HA2 hRow S0 S1 S2 P0 P1 P2 hs0 eTT cR1 cR2
  generalize hsm : small [t, f, u] = sm at z1
  have Hsm := Lib.hid hsm
  clear hsm
  cases sm with
  | false =>
    clear HCR1 HCR2 cS cH1 cH2 cHx cSx hSame hGone
    generalize opT t = op at *
    generalize nameT t = nm at *
    generalize numT t = nu at *
    generalize opT f = op' at *
    generalize nameT f = nm' at *
    generalize numT f = nu' at *
    generalize opT u = op2 at *
    generalize nameT u = nm2 at *
    generalize numT u = nu2 at *
    go_enter Try.func9, Try.ntmps9
    go_wp2_with (first
      | (go_at_call 23; ((with_reducible refine z1.mono ?_); rintro e w4 ⟨rfl, hb4⟩; have Bz := bel_trans (a := W) (Below.refl _ _) hb4; have k0 := (Bz.cell l0).trans s0; have k1 := (Bz.cell l0).trans s1; have k2 := (Bz.cell l0).trans s2; have k3 := (Bz.cell l0).trans s3; have m0 := (Bz.cell l1).trans r0; have m1 := (Bz.cell l1).trans r1; have m2 := (Bz.cell l1).trans r2; have m3 := (Bz.cell l1).trans r3; have n0 := (Bz.cell l2).trans q0; have n1 := (Bz.cell l2).trans q1; have n2' := (Bz.cell l2).trans q2; have n3 := (Bz.cell l2).trans q3))
      | (go_at_call 12; ((with_reducible refine (g0 _).mono ?_); rintro e w7 ⟨rfl, hb7⟩; have By := bel_trans (a := W) (by assumption) hb7)))
    go_ret
    exact ⟨rfl, bel_trans hB By⟩
  | true =>
    have cR1 := HCR1.out Hsm.out
    have cR2 := HCR2.out Hsm.out
    clear HCR1 HCR2 Hsm
    unfold RetT at cR1 cR2
    generalize rep f u t = r at *
    generalize has u f = hu at *
    generalize has t f = ht at *
    generalize has r f = hx at *
    generalize eqT r t = sx at *
    generalize opT r = opr at *
    generalize nameT r = nmr at *
    generalize numT r = nur at *
    generalize opT t = op at *
    generalize nameT t = nm at *
    generalize numT t = nu at *
    generalize opT f = op' at *
    generalize nameT f = nm' at *
    generalize numT f = nu' at *
    generalize opT u = op2 at *
    generalize nameT u = nm2 at *
    generalize numT u = nu2 at *
    go_enter Try.func9, Try.ntmps9
    go_upto_region 3 with (first
      | (go_at_call 23; ((with_reducible refine z1.mono ?_); rintro e w4 ⟨rfl, hb4⟩; have Bz := bel_trans (a := W) (Below.refl _ _) hb4; have k0 := (Bz.cell l0).trans s0; have k1 := (Bz.cell l0).trans s1; have k2 := (Bz.cell l0).trans s2; have k3 := (Bz.cell l0).trans s3; have m0 := (Bz.cell l1).trans r0; have m1 := (Bz.cell l1).trans r1; have m2 := (Bz.cell l1).trans r2; have m3 := (Bz.cell l1).trans r3; have n0 := (Bz.cell l2).trans q0; have n1 := (Bz.cell l2).trans q1; have n2' := (Bz.cell l2).trans q2; have n3 := (Bz.cell l2).trans q3))
      | (go_at_call 12; ((with_reducible refine (g0 _).mono ?_); rintro e w7 ⟨rfl, hb7⟩; have By := bel_trans (a := W) (by assumption) hb7)))
    go_cut [22] from 9 (fun v wc => v = .bool false ∧ Below W.heap.size W wc)
    case first =>
      go_region_held3 (fun w' => w'.cell? ⟨w.heap.size, 0, none⟩ = some (.int .i64 op) ∧ w'.cell? ⟨w.heap.size, 1, none⟩ = some (.string nm) ∧ w'.cell? ⟨w.heap.size, 2, none⟩ = some (.int .i64 nu) ∧ w'.cell? ⟨w.heap.size, 3, none⟩ = some (.slice a n c) ∧ w'.cell? ⟨w.heap.size + 1, 0, none⟩ = some (.int .i64 op') ∧ w'.cell? ⟨w.heap.size + 1, 1, none⟩ = some (.string nm') ∧ w'.cell? ⟨w.heap.size + 1, 2, none⟩ = some (.int .i64 nu') ∧ w'.cell? ⟨w.heap.size + 1, 3, none⟩ = some (.slice a' n' c') ∧ w'.cell? ⟨w.heap.size + 1 + 1, 0, none⟩ = some (.int .i64 op2) ∧ w'.cell? ⟨w.heap.size + 1 + 1, 1, none⟩ = some (.string nm2) ∧ w'.cell? ⟨w.heap.size + 1 + 1, 2, none⟩ = some (.int .i64 nu2) ∧ w'.cell? ⟨w.heap.size + 1 + 1, 3, none⟩ = some (.slice a2 n2 c2))
        (first | (exact ⟨(Bz.cell l0).trans s0, (Bz.cell l0).trans s1, (Bz.cell l0).trans s2, (Bz.cell l0).trans s3, (Bz.cell l1).trans r0, (Bz.cell l1).trans r1, (Bz.cell l1).trans r2, (Bz.cell l1).trans r3, (Bz.cell l2).trans q0, (Bz.cell l2).trans q1, (Bz.cell l2).trans q2, (Bz.cell l2).trans q3⟩) | go_keep)
        (first
          | (go_at_call 32; ((with_reducible refine (cR1 _ (by first | assumption | exact Below.drew (by assumption))).mono ?_); rintro e w4 ⟨A4, N4, C4, rfl, hX4, hb4⟩; have HX4 := Lib.hid hX4; clear hX4; have Bz := bel_trans (a := W) (by first | assumption | exact Below.drew (by assumption)) hb4))
          | (go_at_call 21; ((with_reducible refine (cS A4 N4 C4 _ (ArW.b HX4.out (by first | assumption | exact Below.refl _ _)) (by first | assumption | exact Below.drew (by assumption))).mono ?_); rintro e w5 ⟨rfl, hb5⟩; have Bz := bel_trans (a := W) (by first | assumption | exact Below.drew (by assumption)) hb5)))
      all_goals ((try go_wp2_with fail); go_meet; exact ⟨rfl, Bz⟩)
    case rest =>
      obtain ⟨rfl, Bz⟩ := hcut
      have k0 := (Bz.cell l0).trans s0
      have k1 := (Bz.cell l0).trans s1
      have k2 := (Bz.cell l0).trans s2
      have k3 := (Bz.cell l0).trans s3
      have m0 := (Bz.cell l1).trans r0
      have m1 := (Bz.cell l1).trans r1
      have m2 := (Bz.cell l1).trans r2
      have m3 := (Bz.cell l1).trans r3
      have n0 := (Bz.cell l2).trans q0
      have n1 := (Bz.cell l2).trans q1
      have n2' := (Bz.cell l2).trans q2
      have n3 := (Bz.cell l2).trans q3
      by_cases hn : n' = 0
      · have hnI : ((n' : Int) == 0) = true := by simp; omega
        cases hu with
        | true =>
          clear hGone hn
          cases ht with
          | true =>
            clear hSame
            go_wp2_with (first
              | (go_at_call 32; ((with_reducible refine (cR2 _ (by first | assumption | exact Below.drew (by assumption))).mono ?_); rintro e w5 ⟨A5, N5, C5, rfl, hX5, hb5⟩; have Bz5 := bel_trans (a := W) (by first | assumption | exact Below.drew (by assumption)) hb5; obtain ⟨W6, hW6, hB6, hs6, X6⟩ := box1 w5 opr nmr nur A5 N5 C5; have HX6 := Lib.hid (ArW.b hX5 hB6); have HS6 := Lib.hid hs6; clear hX5 hs6; have Bz := bel_trans (a := W) Bz5 hB6; have lX := Blk.lt X6; obtain ⟨X0, X1, X2, X3⟩ := X6.four; clear X6; have Bx := Below.refl W6.heap.size W6; have k0 := (Bz.cell l0).trans s0; have k1 := (Bz.cell l0).trans s1; have k2 := (Bz.cell l0).trans s2; have k3 := (Bz.cell l0).trans s3; have m0 := (Bz.cell l1).trans r0; have m1 := (Bz.cell l1).trans r1; have m2 := (Bz.cell l1).trans r2; have m3 := (Bz.cell l1).trans r3; have n0 := (Bz.cell l2).trans q0; have n1 := (Bz.cell l2).trans q1; have n2' := (Bz.cell l2).trans q2; have n3 := (Bz.cell l2).trans q3))
              | (go_at_call 30; ((with_reducible refine (cH1 _ (by assumption)).mono ?_); rintro e w8 ⟨rfl, hb8⟩; have Bz := bel_trans (a := W) (by assumption) hb8; have Bx := bel_trans (a := W6) (by assumption) hb8; have k0 := (Bz.cell l0).trans s0; have k1 := (Bz.cell l0).trans s1; have k2 := (Bz.cell l0).trans s2; have k3 := (Bz.cell l0).trans s3; have m0 := (Bz.cell l1).trans r0; have m1 := (Bz.cell l1).trans r1; have m2 := (Bz.cell l1).trans r2; have m3 := (Bz.cell l1).trans r3; have n0 := (Bz.cell l2).trans q0; have n1 := (Bz.cell l2).trans q1; have n2' := (Bz.cell l2).trans q2; have n3 := (Bz.cell l2).trans q3; have x0 := (Bx.cell lX).trans X0; have x1 := (Bx.cell lX).trans X1; have x2 := (Bx.cell lX).trans X2; have x3 := (Bx.cell lX).trans X3))
              | (go_at_call 30; ((with_reducible refine (cH2 _ (by assumption)).mono ?_); rintro e w8 ⟨rfl, hb8⟩; have Bz := bel_trans (a := W) (by assumption) hb8; have Bx := bel_trans (a := W6) (by assumption) hb8; have k0 := (Bz.cell l0).trans s0; have k1 := (Bz.cell l0).trans s1; have k2 := (Bz.cell l0).trans s2; have k3 := (Bz.cell l0).trans s3; have m0 := (Bz.cell l1).trans r0; have m1 := (Bz.cell l1).trans r1; have m2 := (Bz.cell l1).trans r2; have m3 := (Bz.cell l1).trans r3; have n0 := (Bz.cell l2).trans q0; have n1 := (Bz.cell l2).trans q1; have n2' := (Bz.cell l2).trans q2; have n3 := (Bz.cell l2).trans q3; have x0 := (Bx.cell lX).trans X0; have x1 := (Bx.cell lX).trans X1; have x2 := (Bx.cell lX).trans X2; have x3 := (Bx.cell lX).trans X3))
              | (go_at_call 30; ((with_reducible refine (cHx A5 N5 C5 _ (ArW.b HX6.out (by assumption)) (by assumption)).mono ?_); rintro e w8 ⟨rfl, hb8⟩; have Bz := bel_trans (a := W) (by assumption) hb8; have Bx := bel_trans (a := W6) (by assumption) hb8; have k0 := (Bz.cell l0).trans s0; have k1 := (Bz.cell l0).trans s1; have k2 := (Bz.cell l0).trans s2; have k3 := (Bz.cell l0).trans s3; have m0 := (Bz.cell l1).trans r0; have m1 := (Bz.cell l1).trans r1; have m2 := (Bz.cell l1).trans r2; have m3 := (Bz.cell l1).trans r3; have n0 := (Bz.cell l2).trans q0; have n1 := (Bz.cell l2).trans q1; have n2' := (Bz.cell l2).trans q2; have n3 := (Bz.cell l2).trans q3; have x0 := (Bx.cell lX).trans X0; have x1 := (Bx.cell lX).trans X1; have x2 := (Bx.cell lX).trans X2; have x3 := (Bx.cell lX).trans X3))
              | (go_at_call 21; ((with_reducible refine (cSx A5 N5 C5 _ (ArW.b HX6.out (by assumption)) (by assumption)).mono ?_); rintro e w8 ⟨rfl, hb8⟩; have Bz := bel_trans (a := W) (by assumption) hb8; have Bx := bel_trans (a := W6) (by assumption) hb8; have k0 := (Bz.cell l0).trans s0; have k1 := (Bz.cell l0).trans s1; have k2 := (Bz.cell l0).trans s2; have k3 := (Bz.cell l0).trans s3; have m0 := (Bz.cell l1).trans r0; have m1 := (Bz.cell l1).trans r1; have m2 := (Bz.cell l1).trans r2; have m3 := (Bz.cell l1).trans r3; have n0 := (Bz.cell l2).trans q0; have n1 := (Bz.cell l2).trans q1; have n2' := (Bz.cell l2).trans q2; have n3 := (Bz.cell l2).trans q3; have x0 := (Bx.cell lX).trans X0; have x1 := (Bx.cell lX).trans X1; have x2 := (Bx.cell lX).trans X2; have x3 := (Bx.cell lX).trans X3))
              | (go_at_call 12; ((with_reducible refine (g0 _).mono ?_); rintro e w7 ⟨rfl, hb7⟩; have By := bel_trans (a := W) (by assumption) hb7)))
            go_ret
            exact ⟨rfl, bel_trans hB By⟩
          | false =>
            obtain rfl : sx = true := hSame.out rfl
            clear hSame
            go_wp2_with (first
              | (go_at_call 32; ((with_reducible refine (cR2 _ (by first | assumption | exact Below.drew (by assumption))).mono ?_); rintro e w5 ⟨A5, N5, C5, rfl, hX5, hb5⟩; have Bz5 := bel_trans (a := W) (by first | assumption | exact Below.drew (by assumption)) hb5; obtain ⟨W6, hW6, hB6, hs6, X6⟩ := box1 w5 opr nmr nur A5 N5 C5; have HX6 := Lib.hid (ArW.b hX5 hB6); have HS6 := Lib.hid hs6; clear hX5 hs6; have Bz := bel_trans (a := W) Bz5 hB6; have lX := Blk.lt X6; obtain ⟨X0, X1, X2, X3⟩ := X6.four; clear X6; have Bx := Below.refl W6.heap.size W6; have k0 := (Bz.cell l0).trans s0; have k1 := (Bz.cell l0).trans s1; have k2 := (Bz.cell l0).trans s2; have k3 := (Bz.cell l0).trans s3; have m0 := (Bz.cell l1).trans r0; have m1 := (Bz.cell l1).trans r1; have m2 := (Bz.cell l1).trans r2; have m3 := (Bz.cell l1).trans r3; have n0 := (Bz.cell l2).trans q0; have n1 := (Bz.cell l2).trans q1; have n2' := (Bz.cell l2).trans q2; have n3 := (Bz.cell l2).trans q3))
              | (go_at_call 30; ((with_reducible refine (cH1 _ (by assumption)).mono ?_); rintro e w8 ⟨rfl, hb8⟩; have Bz := bel_trans (a := W) (by assumption) hb8; have Bx := bel_trans (a := W6) (by assumption) hb8; have k0 := (Bz.cell l0).trans s0; have k1 := (Bz.cell l0).trans s1; have k2 := (Bz.cell l0).trans s2; have k3 := (Bz.cell l0).trans s3; have m0 := (Bz.cell l1).trans r0; have m1 := (Bz.cell l1).trans r1; have m2 := (Bz.cell l1).trans r2; have m3 := (Bz.cell l1).trans r3; have n0 := (Bz.cell l2).trans q0; have n1 := (Bz.cell l2).trans q1; have n2' := (Bz.cell l2).trans q2; have n3 := (Bz.cell l2).trans q3; have x0 := (Bx.cell lX).trans X0; have x1 := (Bx.cell lX).trans X1; have x2 := (Bx.cell lX).trans X2; have x3 := (Bx.cell lX).trans X3))
              | (go_at_call 30; ((with_reducible refine (cH2 _ (by assumption)).mono ?_); rintro e w8 ⟨rfl, hb8⟩; have Bz := bel_trans (a := W) (by assumption) hb8; have Bx := bel_trans (a := W6) (by assumption) hb8; have k0 := (Bz.cell l0).trans s0; have k1 := (Bz.cell l0).trans s1; have k2 := (Bz.cell l0).trans s2; have k3 := (Bz.cell l0).trans s3; have m0 := (Bz.cell l1).trans r0; have m1 := (Bz.cell l1).trans r1; have m2 := (Bz.cell l1).trans r2; have m3 := (Bz.cell l1).trans r3; have n0 := (Bz.cell l2).trans q0; have n1 := (Bz.cell l2).trans q1; have n2' := (Bz.cell l2).trans q2; have n3 := (Bz.cell l2).trans q3; have x0 := (Bx.cell lX).trans X0; have x1 := (Bx.cell lX).trans X1; have x2 := (Bx.cell lX).trans X2; have x3 := (Bx.cell lX).trans X3))
              | (go_at_call 30; ((with_reducible refine (cHx A5 N5 C5 _ (ArW.b HX6.out (by assumption)) (by assumption)).mono ?_); rintro e w8 ⟨rfl, hb8⟩; have Bz := bel_trans (a := W) (by assumption) hb8; have Bx := bel_trans (a := W6) (by assumption) hb8; have k0 := (Bz.cell l0).trans s0; have k1 := (Bz.cell l0).trans s1; have k2 := (Bz.cell l0).trans s2; have k3 := (Bz.cell l0).trans s3; have m0 := (Bz.cell l1).trans r0; have m1 := (Bz.cell l1).trans r1; have m2 := (Bz.cell l1).trans r2; have m3 := (Bz.cell l1).trans r3; have n0 := (Bz.cell l2).trans q0; have n1 := (Bz.cell l2).trans q1; have n2' := (Bz.cell l2).trans q2; have n3 := (Bz.cell l2).trans q3; have x0 := (Bx.cell lX).trans X0; have x1 := (Bx.cell lX).trans X1; have x2 := (Bx.cell lX).trans X2; have x3 := (Bx.cell lX).trans X3))
              | (go_at_call 21; ((with_reducible refine (cSx A5 N5 C5 _ (ArW.b HX6.out (by assumption)) (by assumption)).mono ?_); rintro e w8 ⟨rfl, hb8⟩; have Bz := bel_trans (a := W) (by assumption) hb8; have Bx := bel_trans (a := W6) (by assumption) hb8; have k0 := (Bz.cell l0).trans s0; have k1 := (Bz.cell l0).trans s1; have k2 := (Bz.cell l0).trans s2; have k3 := (Bz.cell l0).trans s3; have m0 := (Bz.cell l1).trans r0; have m1 := (Bz.cell l1).trans r1; have m2 := (Bz.cell l1).trans r2; have m3 := (Bz.cell l1).trans r3; have n0 := (Bz.cell l2).trans q0; have n1 := (Bz.cell l2).trans q1; have n2' := (Bz.cell l2).trans q2; have n3 := (Bz.cell l2).trans q3; have x0 := (Bx.cell lX).trans X0; have x1 := (Bx.cell lX).trans X1; have x2 := (Bx.cell lX).trans X2; have x3 := (Bx.cell lX).trans X3))
              | (go_at_call 12; ((with_reducible refine (g0 _).mono ?_); rintro e w7 ⟨rfl, hb7⟩; have By := bel_trans (a := W) (by assumption) hb7)))
            go_ret
            exact ⟨rfl, bel_trans hB By⟩
        | false =>
          obtain rfl : hx = false := hGone.out hn rfl
          clear hGone hn
          cases ht with
          | true =>
            clear hSame
            go_wp2_with (first
              | (go_at_call 32; ((with_reducible refine (cR2 _ (by first | assumption | exact Below.drew (by assumption))).mono ?_); rintro e w5 ⟨A5, N5, C5, rfl, hX5, hb5⟩; have Bz5 := bel_trans (a := W) (by first | assumption | exact Below.drew (by assumption)) hb5; obtain ⟨W6, hW6, hB6, hs6, X6⟩ := box1 w5 opr nmr nur A5 N5 C5; have HX6 := Lib.hid (ArW.b hX5 hB6); have HS6 := Lib.hid hs6; clear hX5 hs6; have Bz := bel_trans (a := W) Bz5 hB6; have lX := Blk.lt X6; obtain ⟨X0, X1, X2, X3⟩ := X6.four; clear X6; have Bx := Below.refl W6.heap.size W6; have k0 := (Bz.cell l0).trans s0; have k1 := (Bz.cell l0).trans s1; have k2 := (Bz.cell l0).trans s2; have k3 := (Bz.cell l0).trans s3; have m0 := (Bz.cell l1).trans r0; have m1 := (Bz.cell l1).trans r1; have m2 := (Bz.cell l1).trans r2; have m3 := (Bz.cell l1).trans r3; have n0 := (Bz.cell l2).trans q0; have n1 := (Bz.cell l2).trans q1; have n2' := (Bz.cell l2).trans q2; have n3 := (Bz.cell l2).trans q3))
              | (go_at_call 30; ((with_reducible refine (cH1 _ (by assumption)).mono ?_); rintro e w8 ⟨rfl, hb8⟩; have Bz := bel_trans (a := W) (by assumption) hb8; have Bx := bel_trans (a := W6) (by assumption) hb8; have k0 := (Bz.cell l0).trans s0; have k1 := (Bz.cell l0).trans s1; have k2 := (Bz.cell l0).trans s2; have k3 := (Bz.cell l0).trans s3; have m0 := (Bz.cell l1).trans r0; have m1 := (Bz.cell l1).trans r1; have m2 := (Bz.cell l1).trans r2; have m3 := (Bz.cell l1).trans r3; have n0 := (Bz.cell l2).trans q0; have n1 := (Bz.cell l2).trans q1; have n2' := (Bz.cell l2).trans q2; have n3 := (Bz.cell l2).trans q3; have x0 := (Bx.cell lX).trans X0; have x1 := (Bx.cell lX).trans X1; have x2 := (Bx.cell lX).trans X2; have x3 := (Bx.cell lX).trans X3))
              | (go_at_call 30; ((with_reducible refine (cH2 _ (by assumption)).mono ?_); rintro e w8 ⟨rfl, hb8⟩; have Bz := bel_trans (a := W) (by assumption) hb8; have Bx := bel_trans (a := W6) (by assumption) hb8; have k0 := (Bz.cell l0).trans s0; have k1 := (Bz.cell l0).trans s1; have k2 := (Bz.cell l0).trans s2; have k3 := (Bz.cell l0).trans s3; have m0 := (Bz.cell l1).trans r0; have m1 := (Bz.cell l1).trans r1; have m2 := (Bz.cell l1).trans r2; have m3 := (Bz.cell l1).trans r3; have n0 := (Bz.cell l2).trans q0; have n1 := (Bz.cell l2).trans q1; have n2' := (Bz.cell l2).trans q2; have n3 := (Bz.cell l2).trans q3; have x0 := (Bx.cell lX).trans X0; have x1 := (Bx.cell lX).trans X1; have x2 := (Bx.cell lX).trans X2; have x3 := (Bx.cell lX).trans X3))
              | (go_at_call 30; ((with_reducible refine (cHx A5 N5 C5 _ (ArW.b HX6.out (by assumption)) (by assumption)).mono ?_); rintro e w8 ⟨rfl, hb8⟩; have Bz := bel_trans (a := W) (by assumption) hb8; have Bx := bel_trans (a := W6) (by assumption) hb8; have k0 := (Bz.cell l0).trans s0; have k1 := (Bz.cell l0).trans s1; have k2 := (Bz.cell l0).trans s2; have k3 := (Bz.cell l0).trans s3; have m0 := (Bz.cell l1).trans r0; have m1 := (Bz.cell l1).trans r1; have m2 := (Bz.cell l1).trans r2; have m3 := (Bz.cell l1).trans r3; have n0 := (Bz.cell l2).trans q0; have n1 := (Bz.cell l2).trans q1; have n2' := (Bz.cell l2).trans q2; have n3 := (Bz.cell l2).trans q3; have x0 := (Bx.cell lX).trans X0; have x1 := (Bx.cell lX).trans X1; have x2 := (Bx.cell lX).trans X2; have x3 := (Bx.cell lX).trans X3))
              | (go_at_call 21; ((with_reducible refine (cSx A5 N5 C5 _ (ArW.b HX6.out (by assumption)) (by assumption)).mono ?_); rintro e w8 ⟨rfl, hb8⟩; have Bz := bel_trans (a := W) (by assumption) hb8; have Bx := bel_trans (a := W6) (by assumption) hb8; have k0 := (Bz.cell l0).trans s0; have k1 := (Bz.cell l0).trans s1; have k2 := (Bz.cell l0).trans s2; have k3 := (Bz.cell l0).trans s3; have m0 := (Bz.cell l1).trans r0; have m1 := (Bz.cell l1).trans r1; have m2 := (Bz.cell l1).trans r2; have m3 := (Bz.cell l1).trans r3; have n0 := (Bz.cell l2).trans q0; have n1 := (Bz.cell l2).trans q1; have n2' := (Bz.cell l2).trans q2; have n3 := (Bz.cell l2).trans q3; have x0 := (Bx.cell lX).trans X0; have x1 := (Bx.cell lX).trans X1; have x2 := (Bx.cell lX).trans X2; have x3 := (Bx.cell lX).trans X3))
              | (go_at_call 12; ((with_reducible refine (g0 _).mono ?_); rintro e w7 ⟨rfl, hb7⟩; have By := bel_trans (a := W) (by assumption) hb7)))
            go_ret
            exact ⟨rfl, bel_trans hB By⟩
          | false =>
            obtain rfl : sx = true := hSame.out rfl
            clear hSame
            go_wp2_with (first
              | (go_at_call 32; ((with_reducible refine (cR2 _ (by first | assumption | exact Below.drew (by assumption))).mono ?_); rintro e w5 ⟨A5, N5, C5, rfl, hX5, hb5⟩; have Bz5 := bel_trans (a := W) (by first | assumption | exact Below.drew (by assumption)) hb5; obtain ⟨W6, hW6, hB6, hs6, X6⟩ := box1 w5 opr nmr nur A5 N5 C5; have HX6 := Lib.hid (ArW.b hX5 hB6); have HS6 := Lib.hid hs6; clear hX5 hs6; have Bz := bel_trans (a := W) Bz5 hB6; have lX := Blk.lt X6; obtain ⟨X0, X1, X2, X3⟩ := X6.four; clear X6; have Bx := Below.refl W6.heap.size W6; have k0 := (Bz.cell l0).trans s0; have k1 := (Bz.cell l0).trans s1; have k2 := (Bz.cell l0).trans s2; have k3 := (Bz.cell l0).trans s3; have m0 := (Bz.cell l1).trans r0; have m1 := (Bz.cell l1).trans r1; have m2 := (Bz.cell l1).trans r2; have m3 := (Bz.cell l1).trans r3; have n0 := (Bz.cell l2).trans q0; have n1 := (Bz.cell l2).trans q1; have n2' := (Bz.cell l2).trans q2; have n3 := (Bz.cell l2).trans q3))
              | (go_at_call 30; ((with_reducible refine (cH1 _ (by assumption)).mono ?_); rintro e w8 ⟨rfl, hb8⟩; have Bz := bel_trans (a := W) (by assumption) hb8; have Bx := bel_trans (a := W6) (by assumption) hb8; have k0 := (Bz.cell l0).trans s0; have k1 := (Bz.cell l0).trans s1; have k2 := (Bz.cell l0).trans s2; have k3 := (Bz.cell l0).trans s3; have m0 := (Bz.cell l1).trans r0; have m1 := (Bz.cell l1).trans r1; have m2 := (Bz.cell l1).trans r2; have m3 := (Bz.cell l1).trans r3; have n0 := (Bz.cell l2).trans q0; have n1 := (Bz.cell l2).trans q1; have n2' := (Bz.cell l2).trans q2; have n3 := (Bz.cell l2).trans q3; have x0 := (Bx.cell lX).trans X0; have x1 := (Bx.cell lX).trans X1; have x2 := (Bx.cell lX).trans X2; have x3 := (Bx.cell lX).trans X3))
              | (go_at_call 30; ((with_reducible refine (cH2 _ (by assumption)).mono ?_); rintro e w8 ⟨rfl, hb8⟩; have Bz := bel_trans (a := W) (by assumption) hb8; have Bx := bel_trans (a := W6) (by assumption) hb8; have k0 := (Bz.cell l0).trans s0; have k1 := (Bz.cell l0).trans s1; have k2 := (Bz.cell l0).trans s2; have k3 := (Bz.cell l0).trans s3; have m0 := (Bz.cell l1).trans r0; have m1 := (Bz.cell l1).trans r1; have m2 := (Bz.cell l1).trans r2; have m3 := (Bz.cell l1).trans r3; have n0 := (Bz.cell l2).trans q0; have n1 := (Bz.cell l2).trans q1; have n2' := (Bz.cell l2).trans q2; have n3 := (Bz.cell l2).trans q3; have x0 := (Bx.cell lX).trans X0; have x1 := (Bx.cell lX).trans X1; have x2 := (Bx.cell lX).trans X2; have x3 := (Bx.cell lX).trans X3))
              | (go_at_call 30; ((with_reducible refine (cHx A5 N5 C5 _ (ArW.b HX6.out (by assumption)) (by assumption)).mono ?_); rintro e w8 ⟨rfl, hb8⟩; have Bz := bel_trans (a := W) (by assumption) hb8; have Bx := bel_trans (a := W6) (by assumption) hb8; have k0 := (Bz.cell l0).trans s0; have k1 := (Bz.cell l0).trans s1; have k2 := (Bz.cell l0).trans s2; have k3 := (Bz.cell l0).trans s3; have m0 := (Bz.cell l1).trans r0; have m1 := (Bz.cell l1).trans r1; have m2 := (Bz.cell l1).trans r2; have m3 := (Bz.cell l1).trans r3; have n0 := (Bz.cell l2).trans q0; have n1 := (Bz.cell l2).trans q1; have n2' := (Bz.cell l2).trans q2; have n3 := (Bz.cell l2).trans q3; have x0 := (Bx.cell lX).trans X0; have x1 := (Bx.cell lX).trans X1; have x2 := (Bx.cell lX).trans X2; have x3 := (Bx.cell lX).trans X3))
              | (go_at_call 21; ((with_reducible refine (cSx A5 N5 C5 _ (ArW.b HX6.out (by assumption)) (by assumption)).mono ?_); rintro e w8 ⟨rfl, hb8⟩; have Bz := bel_trans (a := W) (by assumption) hb8; have Bx := bel_trans (a := W6) (by assumption) hb8; have k0 := (Bz.cell l0).trans s0; have k1 := (Bz.cell l0).trans s1; have k2 := (Bz.cell l0).trans s2; have k3 := (Bz.cell l0).trans s3; have m0 := (Bz.cell l1).trans r0; have m1 := (Bz.cell l1).trans r1; have m2 := (Bz.cell l1).trans r2; have m3 := (Bz.cell l1).trans r3; have n0 := (Bz.cell l2).trans q0; have n1 := (Bz.cell l2).trans q1; have n2' := (Bz.cell l2).trans q2; have n3 := (Bz.cell l2).trans q3; have x0 := (Bx.cell lX).trans X0; have x1 := (Bx.cell lX).trans X1; have x2 := (Bx.cell lX).trans X2; have x3 := (Bx.cell lX).trans X3))
              | (go_at_call 12; ((with_reducible refine (g0 _).mono ?_); rintro e w7 ⟨rfl, hb7⟩; have By := bel_trans (a := W) (by assumption) hb7)))
            go_ret
            exact ⟨rfl, bel_trans hB By⟩
      · have hnI : ((n' : Int) == 0) = false := by simp; omega
        clear hGone hn
        cases ht with
        | true =>
          clear hSame
          go_wp2_with (first
            | (go_at_call 32; ((with_reducible refine (cR2 _ (by first | assumption | exact Below.drew (by assumption))).mono ?_); rintro e w5 ⟨A5, N5, C5, rfl, hX5, hb5⟩; have Bz5 := bel_trans (a := W) (by first | assumption | exact Below.drew (by assumption)) hb5; obtain ⟨W6, hW6, hB6, hs6, X6⟩ := box1 w5 opr nmr nur A5 N5 C5; have HX6 := Lib.hid (ArW.b hX5 hB6); have HS6 := Lib.hid hs6; clear hX5 hs6; have Bz := bel_trans (a := W) Bz5 hB6; have lX := Blk.lt X6; obtain ⟨X0, X1, X2, X3⟩ := X6.four; clear X6; have Bx := Below.refl W6.heap.size W6; have k0 := (Bz.cell l0).trans s0; have k1 := (Bz.cell l0).trans s1; have k2 := (Bz.cell l0).trans s2; have k3 := (Bz.cell l0).trans s3; have m0 := (Bz.cell l1).trans r0; have m1 := (Bz.cell l1).trans r1; have m2 := (Bz.cell l1).trans r2; have m3 := (Bz.cell l1).trans r3; have n0 := (Bz.cell l2).trans q0; have n1 := (Bz.cell l2).trans q1; have n2' := (Bz.cell l2).trans q2; have n3 := (Bz.cell l2).trans q3))
            | (go_at_call 30; ((with_reducible refine (cH1 _ (by assumption)).mono ?_); rintro e w8 ⟨rfl, hb8⟩; have Bz := bel_trans (a := W) (by assumption) hb8; have Bx := bel_trans (a := W6) (by assumption) hb8; have k0 := (Bz.cell l0).trans s0; have k1 := (Bz.cell l0).trans s1; have k2 := (Bz.cell l0).trans s2; have k3 := (Bz.cell l0).trans s3; have m0 := (Bz.cell l1).trans r0; have m1 := (Bz.cell l1).trans r1; have m2 := (Bz.cell l1).trans r2; have m3 := (Bz.cell l1).trans r3; have n0 := (Bz.cell l2).trans q0; have n1 := (Bz.cell l2).trans q1; have n2' := (Bz.cell l2).trans q2; have n3 := (Bz.cell l2).trans q3; have x0 := (Bx.cell lX).trans X0; have x1 := (Bx.cell lX).trans X1; have x2 := (Bx.cell lX).trans X2; have x3 := (Bx.cell lX).trans X3))
            | (go_at_call 30; ((with_reducible refine (cH2 _ (by assumption)).mono ?_); rintro e w8 ⟨rfl, hb8⟩; have Bz := bel_trans (a := W) (by assumption) hb8; have Bx := bel_trans (a := W6) (by assumption) hb8; have k0 := (Bz.cell l0).trans s0; have k1 := (Bz.cell l0).trans s1; have k2 := (Bz.cell l0).trans s2; have k3 := (Bz.cell l0).trans s3; have m0 := (Bz.cell l1).trans r0; have m1 := (Bz.cell l1).trans r1; have m2 := (Bz.cell l1).trans r2; have m3 := (Bz.cell l1).trans r3; have n0 := (Bz.cell l2).trans q0; have n1 := (Bz.cell l2).trans q1; have n2' := (Bz.cell l2).trans q2; have n3 := (Bz.cell l2).trans q3; have x0 := (Bx.cell lX).trans X0; have x1 := (Bx.cell lX).trans X1; have x2 := (Bx.cell lX).trans X2; have x3 := (Bx.cell lX).trans X3))
            | (go_at_call 30; ((with_reducible refine (cHx A5 N5 C5 _ (ArW.b HX6.out (by assumption)) (by assumption)).mono ?_); rintro e w8 ⟨rfl, hb8⟩; have Bz := bel_trans (a := W) (by assumption) hb8; have Bx := bel_trans (a := W6) (by assumption) hb8; have k0 := (Bz.cell l0).trans s0; have k1 := (Bz.cell l0).trans s1; have k2 := (Bz.cell l0).trans s2; have k3 := (Bz.cell l0).trans s3; have m0 := (Bz.cell l1).trans r0; have m1 := (Bz.cell l1).trans r1; have m2 := (Bz.cell l1).trans r2; have m3 := (Bz.cell l1).trans r3; have n0 := (Bz.cell l2).trans q0; have n1 := (Bz.cell l2).trans q1; have n2' := (Bz.cell l2).trans q2; have n3 := (Bz.cell l2).trans q3; have x0 := (Bx.cell lX).trans X0; have x1 := (Bx.cell lX).trans X1; have x2 := (Bx.cell lX).trans X2; have x3 := (Bx.cell lX).trans X3))
            | (go_at_call 21; ((with_reducible refine (cSx A5 N5 C5 _ (ArW.b HX6.out (by assumption)) (by assumption)).mono ?_); rintro e w8 ⟨rfl, hb8⟩; have Bz := bel_trans (a := W) (by assumption) hb8; have Bx := bel_trans (a := W6) (by assumption) hb8; have k0 := (Bz.cell l0).trans s0; have k1 := (Bz.cell l0).trans s1; have k2 := (Bz.cell l0).trans s2; have k3 := (Bz.cell l0).trans s3; have m0 := (Bz.cell l1).trans r0; have m1 := (Bz.cell l1).trans r1; have m2 := (Bz.cell l1).trans r2; have m3 := (Bz.cell l1).trans r3; have n0 := (Bz.cell l2).trans q0; have n1 := (Bz.cell l2).trans q1; have n2' := (Bz.cell l2).trans q2; have n3 := (Bz.cell l2).trans q3; have x0 := (Bx.cell lX).trans X0; have x1 := (Bx.cell lX).trans X1; have x2 := (Bx.cell lX).trans X2; have x3 := (Bx.cell lX).trans X3))
            | (go_at_call 12; ((with_reducible refine (g0 _).mono ?_); rintro e w7 ⟨rfl, hb7⟩; have By := bel_trans (a := W) (by assumption) hb7)))
          go_ret
          exact ⟨rfl, bel_trans hB By⟩
        | false =>
          obtain rfl : sx = true := hSame.out rfl
          clear hSame
          go_wp2_with (first
            | (go_at_call 32; ((with_reducible refine (cR2 _ (by first | assumption | exact Below.drew (by assumption))).mono ?_); rintro e w5 ⟨A5, N5, C5, rfl, hX5, hb5⟩; have Bz5 := bel_trans (a := W) (by first | assumption | exact Below.drew (by assumption)) hb5; obtain ⟨W6, hW6, hB6, hs6, X6⟩ := box1 w5 opr nmr nur A5 N5 C5; have HX6 := Lib.hid (ArW.b hX5 hB6); have HS6 := Lib.hid hs6; clear hX5 hs6; have Bz := bel_trans (a := W) Bz5 hB6; have lX := Blk.lt X6; obtain ⟨X0, X1, X2, X3⟩ := X6.four; clear X6; have Bx := Below.refl W6.heap.size W6; have k0 := (Bz.cell l0).trans s0; have k1 := (Bz.cell l0).trans s1; have k2 := (Bz.cell l0).trans s2; have k3 := (Bz.cell l0).trans s3; have m0 := (Bz.cell l1).trans r0; have m1 := (Bz.cell l1).trans r1; have m2 := (Bz.cell l1).trans r2; have m3 := (Bz.cell l1).trans r3; have n0 := (Bz.cell l2).trans q0; have n1 := (Bz.cell l2).trans q1; have n2' := (Bz.cell l2).trans q2; have n3 := (Bz.cell l2).trans q3))
            | (go_at_call 30; ((with_reducible refine (cH1 _ (by assumption)).mono ?_); rintro e w8 ⟨rfl, hb8⟩; have Bz := bel_trans (a := W) (by assumption) hb8; have Bx := bel_trans (a := W6) (by assumption) hb8; have k0 := (Bz.cell l0).trans s0; have k1 := (Bz.cell l0).trans s1; have k2 := (Bz.cell l0).trans s2; have k3 := (Bz.cell l0).trans s3; have m0 := (Bz.cell l1).trans r0; have m1 := (Bz.cell l1).trans r1; have m2 := (Bz.cell l1).trans r2; have m3 := (Bz.cell l1).trans r3; have n0 := (Bz.cell l2).trans q0; have n1 := (Bz.cell l2).trans q1; have n2' := (Bz.cell l2).trans q2; have n3 := (Bz.cell l2).trans q3; have x0 := (Bx.cell lX).trans X0; have x1 := (Bx.cell lX).trans X1; have x2 := (Bx.cell lX).trans X2; have x3 := (Bx.cell lX).trans X3))
            | (go_at_call 30; ((with_reducible refine (cH2 _ (by assumption)).mono ?_); rintro e w8 ⟨rfl, hb8⟩; have Bz := bel_trans (a := W) (by assumption) hb8; have Bx := bel_trans (a := W6) (by assumption) hb8; have k0 := (Bz.cell l0).trans s0; have k1 := (Bz.cell l0).trans s1; have k2 := (Bz.cell l0).trans s2; have k3 := (Bz.cell l0).trans s3; have m0 := (Bz.cell l1).trans r0; have m1 := (Bz.cell l1).trans r1; have m2 := (Bz.cell l1).trans r2; have m3 := (Bz.cell l1).trans r3; have n0 := (Bz.cell l2).trans q0; have n1 := (Bz.cell l2).trans q1; have n2' := (Bz.cell l2).trans q2; have n3 := (Bz.cell l2).trans q3; have x0 := (Bx.cell lX).trans X0; have x1 := (Bx.cell lX).trans X1; have x2 := (Bx.cell lX).trans X2; have x3 := (Bx.cell lX).trans X3))
            | (go_at_call 30; ((with_reducible refine (cHx A5 N5 C5 _ (ArW.b HX6.out (by assumption)) (by assumption)).mono ?_); rintro e w8 ⟨rfl, hb8⟩; have Bz := bel_trans (a := W) (by assumption) hb8; have Bx := bel_trans (a := W6) (by assumption) hb8; have k0 := (Bz.cell l0).trans s0; have k1 := (Bz.cell l0).trans s1; have k2 := (Bz.cell l0).trans s2; have k3 := (Bz.cell l0).trans s3; have m0 := (Bz.cell l1).trans r0; have m1 := (Bz.cell l1).trans r1; have m2 := (Bz.cell l1).trans r2; have m3 := (Bz.cell l1).trans r3; have n0 := (Bz.cell l2).trans q0; have n1 := (Bz.cell l2).trans q1; have n2' := (Bz.cell l2).trans q2; have n3 := (Bz.cell l2).trans q3; have x0 := (Bx.cell lX).trans X0; have x1 := (Bx.cell lX).trans X1; have x2 := (Bx.cell lX).trans X2; have x3 := (Bx.cell lX).trans X3))
            | (go_at_call 21; ((with_reducible refine (cSx A5 N5 C5 _ (ArW.b HX6.out (by assumption)) (by assumption)).mono ?_); rintro e w8 ⟨rfl, hb8⟩; have Bz := bel_trans (a := W) (by assumption) hb8; have Bx := bel_trans (a := W6) (by assumption) hb8; have k0 := (Bz.cell l0).trans s0; have k1 := (Bz.cell l0).trans s1; have k2 := (Bz.cell l0).trans s2; have k3 := (Bz.cell l0).trans s3; have m0 := (Bz.cell l1).trans r0; have m1 := (Bz.cell l1).trans r1; have m2 := (Bz.cell l1).trans r2; have m3 := (Bz.cell l1).trans r3; have n0 := (Bz.cell l2).trans q0; have n1 := (Bz.cell l2).trans q1; have n2' := (Bz.cell l2).trans q2; have n3 := (Bz.cell l2).trans q3; have x0 := (Bx.cell lX).trans X0; have x1 := (Bx.cell lX).trans X1; have x2 := (Bx.cell lX).trans X2; have x3 := (Bx.cell lX).trans X3))
            | (go_at_call 12; ((with_reducible refine (g0 _).mono ?_); rintro e w7 ⟨rfl, hb7⟩; have By := bel_trans (a := W) (by assumption) hb7)))
          go_ret
          exact ⟨rfl, bel_trans hB By⟩

theorem termGone (z0 z1 z2 : TmV) (w : World) (H : ArW w z0.t z0.a z0.n z0.c) (H1 : ArW w z1.t z1.a z1.n z1.c) (H2 : ArW w z2.t z2.a z2.n z2.c) :
    Calls Try.prog 9 #[z0.val, z1.val, z2.val] w fun e w' => e = .returned (.bool true) ∧ Below w.heap.size w w' :=
  gone z0.t z1.t z2.t z0.a z1.a z2.a z0.n z0.c z1.n z1.c z2.n z2.c w H H1 H2
end Go.Proofs.Ytliahkpbbnbnpaa.T
