/-
  What is proved: the law over Copy.
-/
import Derived.Test.YtliahkpbbnbnpaaTrmT
import Derived.Test.YtliahkpbbnbnpaaTrmN
import Derived.Test.YtliahkpbbnbnpaaTrmM
namespace Go.Proofs.Ytliahkpbbnbnpaa.T
open Go.RowKit L
set_option linter.unusedVariables false
set_option linter.unusedSimpArgs false

theorem row1 (w : World) (t : Tm) (a : Option Addr) (n c : Nat) (h : ArW w t a n c) :
    ∃ W, w.alloc (.cells #[.int .i64 (opT t), .string (nameT t), .int .i64 (numT t), .slice a n c] 24) = W ∧ Below w.heap.size w W ∧ TsW W (some ⟨w.heap.size, 0, none⟩) 1 1 [t] := by
  have hb := bel_alloc (Below.refl w.heap.size w) (.cells #[.int .i64 (opT t), .string (nameT t), .int .i64 (numT t), .slice a n c] 24)
  have B := Blk.new w #[.int .i64 (opT t), .string (nameT t), .int .i64 (numT t), .slice a n c] 24
  refine ⟨_, rfl, hb, rfl, Nat.le_refl _, by unfold maxLen; omega, fun h => (by cases h), fun _ => ⟨_, 0, rfl, by simp, ?_⟩⟩
  rw [Rw, Rw]
  exact ⟨⟨a, n, c, Blk.cell B 0, Blk.cell B 1, Blk.cell B 2, Blk.cell B 3, ArW.b h hb⟩, trivial⟩
/-- a copy is returned, in blocks of its own -/
def RetF (t : Tm) (w : World) (e : Ending) (w' : World) : Prop := ∃ A N C, e = .returned (.agg #[.int .i64 (opT t), .string (nameT t), .int .i64 (numT t), .slice A N C]) ∧ Fr w' t w.heap.size w'.heap.size ⟨opT t, nameT t, numT t, A, N, C⟩ ∧ Below w.heap.size w w'
theorem NewT.retF {r : Tm} {w w' : World} {e : Ending} (h : NewT r w e w') : RetF r w e w' := by
  obtain ⟨h, e1, hf, hb⟩ := h
  obtain ⟨q1, q2, q3⟩ := Fr.hd hf
  refine ⟨h.a, h.n, h.c, by rw [e1, q1, q2, q3], ?_, hb⟩
  rw [← q1, ← q2, ← q3]
  exact hf

set_option maxRecDepth 100000 in
set_option maxHeartbeats 16000000 in
theorem copies (t : Tm) (a : Option Addr) (n c : Nat) (w : World) (HA : ArW w t a n c) :
    Calls Try.prog 10 #[.agg #[.int .i64 (opT t), .string (nameT t), .int .i64 (numT t), .slice a n c]] w fun e w' => e = .returned (.bool true) ∧ Below w.heap.size w w' := by
  obtain ⟨W0, hW0, hB0, hs0, P0⟩ := box1 w (opT t) (nameT t) (numT t) a n c
  obtain ⟨W, hW, hB1, hRow⟩ := row1 W0 t a n c (ArW.b HA hB0)
  have hB : Below w.heap.size w W := bel_trans hB0 hB1
  have hA := ArW.b HA hB
  have S0 := P0.b hB1
  have g0 := fun (w' : World) => goes_any w'
  have z1 := Small_any [t] (some ⟨W0.heap.size, 0, none⟩) 1 1 W hRow
  have cW := fun (hsm : small [t] = true) (w' : World) (h : Below W.heap.size W w') => (Twin_any t a n c w' (by simp [small] at hsm; omega) (ArW.b hA h)).mono (fun e w1 h => MixT.ret h)
  have cC := fun (hsm : small [t] = true) (w' : World) (h : Below W.heap.size W w') => (Copy_any t a n c w' (by simp [small] at hsm; omega) (ArW.b hA h)).mono (fun e w1 h => NewT.retF h)
  have eTT : eqT t t = true := eqT_iff.2 rfl
  have cT := fun (A : Option Addr) (N C : Nat) (A' : Option Addr) (N' C' : Nat) (w' : World) (hX : ArW w' t A N C) (hX' : ArW w' t A' N' C') => Term_any t t A N C A' N' C' w' hX hX'
  rw [eTT] at cT
  have cP := fun (A : Option Addr) (N C lo hi : Nat) (w' : World) (h1 : hi ≤ w'.heap.size) (h2 : Fr w' t lo hi ⟨opT t, nameT t, numT t, A, N, C⟩) => Spoil_any t ⟨opT t, nameT t, numT t, A, N, C⟩ lo hi w' h1 h2
  have HCW := Lib.hid cW
  have HCC := Lib.hid cC
  have l0 := Blk.lt S0
  obtain ⟨s0, s1, s2, s3⟩ := S0.four
  obtain ⟨a00, a01, a02, a03⟩ := P0.four
  have HS0 := Lib.hid hs0
  have HAt := Lib.hid hA
  clear hA HA hRow S0 P0 hs0 eTT cW cC
  generalize hsm : small [t] = sm at z1
  have Hsm := Lib.hid hsm
  clear hsm
  cases sm with
  | false =>
    clear HCW HCC cT cP
    generalize opT t = op at *
    generalize nameT t = nm at *
    generalize numT t = nu at *
    go_enter Try.func10, Try.ntmps10
    go_wp2_with (first
      | (go_at_call 23; ((with_reducible refine z1.mono ?_); rintro e w4 ⟨rfl, hb4⟩; have Bz := bel_trans (a := W) (Below.refl _ _) hb4; have k0 := (Bz.cell l0).trans s0; have k1 := (Bz.cell l0).trans s1; have k2 := (Bz.cell l0).trans s2; have k3 := (Bz.cell l0).trans s3))
      | (go_at_call 12; ((with_reducible refine (g0 _).mono ?_); rintro e w9 ⟨rfl, hb9⟩; have By := bel_trans (a := W) (by assumption) hb9)))
    go_ret
    exact ⟨rfl, bel_trans hB By⟩
  | true =>
    have cW := HCW.out Hsm.out
    have cC := HCC.out Hsm.out
    clear HCW HCC Hsm
    unfold RetT at cW
    unfold RetF at cC
    generalize opT t = op at *
    generalize nameT t = nm at *
    generalize numT t = nu at *
    go_enter Try.func10, Try.ntmps10
    go_wp2_with (first
      | (go_at_call 23; ((with_reducible refine z1.mono ?_); rintro e w4 ⟨rfl, hb4⟩; have Bz := bel_trans (a := W) (Below.refl _ _) hb4; have k0 := (Bz.cell l0).trans s0; have k1 := (Bz.cell l0).trans s1; have k2 := (Bz.cell l0).trans s2; have k3 := (Bz.cell l0).trans s3))
      | (go_at_call 34; ((with_reducible refine (cW _ (by assumption)).mono ?_); rintro e w5 ⟨A5, N5, C5, rfl, hX5, hb5⟩; have Bz5 := bel_trans (a := W) (by assumption) hb5; obtain ⟨W6, hW6, hB6, hs6, X6⟩ := box1 w5 op nm nu A5 N5 C5; have HX6 := Lib.hid (ArW.b hX5 hB6); clear hX5 hs6; have Bz := bel_trans (a := W) Bz5 hB6; have lX := Blk.lt X6; have HXb := Lib.hid X6; obtain ⟨X0, X1, X2, X3⟩ := X6.four; clear X6; have Bx := Below.refl W6.heap.size W6; have k0 := (Bz.cell l0).trans s0; have k1 := (Bz.cell l0).trans s1; have k2 := (Bz.cell l0).trans s2; have k3 := (Bz.cell l0).trans s3))
      | (go_at_call 35; ((with_reducible refine (cC _ (by assumption)).mono ?_); rintro e w7 ⟨A7, N7, C7, rfl, hF7, hb7⟩; have Bz7 := bel_trans (a := W) (by assumption) hb7; obtain ⟨W8, hW8, hB8, hs8, X8⟩ := box1 w7 op nm nu A7 N7 C7; have HF8 := Lib.hid (Fr.same t (fun b h1 h2 => hB8.block b h2) hF7); have HY8 := Lib.hid (ArW.b (Fr.ar t (Nat.le_refl _) hF7) hB8); have H78 := Lib.hid hB8.size; clear hF7 hs8; have Bz := bel_trans (a := W) Bz7 hB8; have Bx := bel_trans (a := W6) hb7 hB8; have lY := Blk.lt X8; obtain ⟨Y0, Y1, Y2, Y3⟩ := X8.four; clear X8; have Bv := Below.refl W8.heap.size W8; have k0 := (Bz.cell l0).trans s0; have k1 := (Bz.cell l0).trans s1; have k2 := (Bz.cell l0).trans s2; have k3 := (Bz.cell l0).trans s3; have x0 := (Bx.cell lX).trans X0; have x1 := (Bx.cell lX).trans X1; have x2 := (Bx.cell lX).trans X2; have x3 := (Bx.cell lX).trans X3))
      | (go_at_call 22; ((with_reducible refine (cT A7 N7 C7 A5 N5 C5 _ HY8.out (ArW.b HX6.out Bx)).mono ?_); rintro e w9 ⟨rfl, hb9⟩; have Bz := bel_trans (a := W) (by assumption) hb9; have Bx := bel_trans (a := W6) (by assumption) hb9; have Bv := bel_trans (a := W8) (by assumption) hb9; have HFz := Lib.hid (Fr.same t (fun b h1 h2 => hb9.block b (Nat.lt_of_lt_of_le h2 H78.out)) HF8.out); have Hsz := Lib.hid (Nat.le_trans H78.out hb9.size); have Hb9 := Lib.hid hb9; have k0 := (Bz.cell l0).trans s0; have k1 := (Bz.cell l0).trans s1; have k2 := (Bz.cell l0).trans s2; have k3 := (Bz.cell l0).trans s3; have x0 := (Bx.cell lX).trans X0; have x1 := (Bx.cell lX).trans X1; have x2 := (Bx.cell lX).trans X2; have x3 := (Bx.cell lX).trans X3; have y0 := (Bv.cell lY).trans Y0; have y1 := (Bv.cell lY).trans Y1; have y2 := (Bv.cell lY).trans Y2; have y3 := (Bv.cell lY).trans Y3))
      | (go_at_call 36; ((with_reducible refine (cP A7 N7 C7 _ _ _ Hsz.out HFz.out).mono ?_); rintro e w10 ⟨rfl, hb10, ho10⟩; have Bx := (by assumption : Below W6.heap.size W6 w9).trans hb10; have Bz := bel_trans (a := W) ((by assumption : Below W.heap.size W W6)) Bx; clear ho10; have k0 := (Bz.cell l0).trans s0; have k1 := (Bz.cell l0).trans s1; have k2 := (Bz.cell l0).trans s2; have k3 := (Bz.cell l0).trans s3; have x0 := (Bx.cell lX).trans X0; have x1 := (Bx.cell lX).trans X1; have x2 := (Bx.cell lX).trans X2; have x3 := (Bx.cell lX).trans X3))
      | (go_at_call 22; ((with_reducible refine (cT a n c A5 N5 C5 _ (ArW.b HAt.out (by assumption)) (ArW.b HX6.out (by assumption))).mono ?_); rintro e w11 ⟨rfl, hb11⟩; have Bz := bel_trans (a := W) (by assumption) hb11))
      | (go_at_call 12; ((with_reducible refine (g0 _).mono ?_); rintro e w9 ⟨rfl, hb9⟩; have By := bel_trans (a := W) (by assumption) hb9)))
    go_ret
    exact ⟨rfl, bel_trans hB By⟩
theorem termCopies (z : TmV) (w : World) (H : ArW w z.t z.a z.n z.c) :
    Calls Try.prog 10 #[z.val] w fun e w' => e = .returned (.bool true) ∧ Below w.heap.size w w' :=
  copies z.t z.a z.n z.c w H
end Go.Proofs.Ytliahkpbbnbnpaa.T
