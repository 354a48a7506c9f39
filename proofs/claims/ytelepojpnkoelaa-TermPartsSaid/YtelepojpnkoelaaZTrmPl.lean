/-
  What is proved: the law over the parts of a term.
-/
import Derived.Test.YtelepojpnkoelaaZTrmPr
import Derived.Test.YtelepojpnkoelaaZTrmX
import Derived.Test.YtelepojpnkoelaaZTrmG
import Derived.Test.YtelepojpnkoelaaZTrmO
import Derived.Test.YtelepojpnkoelaaZTrmY
import Derived.Test.YtelepojpnkoelaaZLibTs
import Derived.Deep.DeepCutAuto
import Derived.Deep.CutRange
namespace Go.Proofs.Ytelepojpnkoelaa.T
open Go.RowKit L
set_option linter.unusedVariables false
set_option linter.unusedSimpArgs false

theorem row2p (w : World) (t u : Tm) (a : Option Addr) (n c : Nat) (a' : Option Addr) (n' c' : Nat) (h : ArW w t a n c) (h' : ArW w u a' n' c') :
    ∃ W, w.alloc (.cells #[.int .i64 (opT t), .string (nameT t), .int .i64 (numT t), .slice a n c, .int .i64 (opT u), .string (nameT u), .int .i64 (numT u), .slice a' n' c'] 24) = W ∧ Below w.heap.size w W ∧ TsW W (some ⟨w.heap.size, 0, none⟩) 2 2 [t, u] := by
  have hb := bel_alloc (Below.refl w.heap.size w) (.cells #[.int .i64 (opT t), .string (nameT t), .int .i64 (numT t), .slice a n c, .int .i64 (opT u), .string (nameT u), .int .i64 (numT u), .slice a' n' c'] 24)
  have B := Blk.new w #[.int .i64 (opT t), .string (nameT t), .int .i64 (numT t), .slice a n c, .int .i64 (opT u), .string (nameT u), .int .i64 (numT u), .slice a' n' c'] 24
  refine ⟨_, rfl, hb, rfl, Nat.le_refl _, by unfold maxLen; omega, fun h => (by cases h), fun _ => ⟨_, 0, rfl, by simp, ?_⟩⟩
  rw [Rw, Rw, Rw]
  exact ⟨⟨a, n, c, Blk.cell B 0, Blk.cell B 1, Blk.cell B 2, Blk.cell B 3, ArW.b h hb⟩, ⟨a', n', c', Blk.cell B 4, Blk.cell B 5, Blk.cell B 6, Blk.cell B 7, ArW.b h' hb⟩, trivial⟩
theorem has_uq (t u : Tm) : inT (uq [] (all t)) u = has t u := by
  rw [Bool.eq_iff_iff, inT_iff, uq_in, has_iff]
  simp
set_option maxRecDepth 100000 in
set_option maxHeartbeats 16000000 in
theorem parts_law (t u : Tm) (a a' : Option Addr) (n c n' c' : Nat) (w : World) (HA : ArW w t a n c) (HA' : ArW w u a' n' c') :
    Calls Try.prog 3 #[.agg #[.int .i64 (opT t), .string (nameT t), .int .i64 (numT t), .slice a n c], .agg #[.int .i64 (opT u), .string (nameT u), .int .i64 (numT u), .slice a' n' c']] w fun e w' => e = .returned (.bool true) ∧ Below w.heap.size w w' := by
  obtain ⟨W0, hW0, hB0, hs0, P0, P1⟩ := box2 w (opT t) (nameT t) (numT t) a n c (opT u) (nameT u) (numT u) a' n' c'
  obtain ⟨W, hW, hB1, hRow⟩ := row2p W0 t u a n c a' n' c' (ArW.b HA hB0) (ArW.b HA' hB0)
  have hB : Below w.heap.size w W := bel_trans hB0 hB1
  have hA := ArW.b HA hB
  have hA' := ArW.b HA' hB
  have S0 := P0.b hB1
  have S1 := P1.b hB1
  have g0 := fun (w' : World) => goes_any w'
  have z1 := Small_any [t, u] (some ⟨W0.heap.size, 0, none⟩) 2 2 W hRow
  have hsz : small [t, u] = true → size t ≤ 1000 := fun h => by simp [small] at h; omega
  have HR := Lib.hid (fun (h : small [t, u] = true) (w' : World) (hb : Below W.heap.size W w') => refParts_any t a n c w' (hsz h) (ArW.b hA hb))
  have HP := Lib.hid (fun (h : small [t, u] = true) (w' : World) (hb : Below W.heap.size W w') => Parts_any t a n c w' (hsz h) (ArW.b hA hb))
  have cT := fun (A : Option Addr) (N C : Nat) (A2 : Option Addr) (N2 C2 : Nat) (w' : World) (h1 : TsW w' A N C (uq [] (all t))) (h2 : TsW w' A2 N2 C2 (uq [] (all t))) => Terms_any (uq [] (all t)) A N C A2 N2 C2 (uq [] (all t)) w' h1 h2
  rw [eqTs_refl] at cT
  have cH := fun (w' : World) (h : Below W.heap.size W w') => Has_any t u a n c a' n' c' w' (ArW.b hA h) (ArW.b hA' h)
  have cI := fun (A : Option Addr) (N C : Nat) (w' : World) (h1 : TsW w' A N C (uq [] (all t))) (h : Below W.heap.size W w') => refIn_any (uq [] (all t)) u A N C a' n' c' w' h1 (ArW.b hA' h)
  rw [has_uq] at cI
  have l0 := Blk.lt S0
  have l1 := Blk.lt S1
  obtain ⟨s0, s1, s2, s3⟩ := S0.four
  obtain ⟨r0, r1, r2, r3⟩ := S1.four
  obtain ⟨a00, a01, a02, a03⟩ := P0.four
  obtain ⟨a10, a11, a12, a13⟩ := P1.four
  have HS0 := Lib.hid hs0
  clear hA hA' HA HA' hRow S0 S1 P0 P1 hs0 hsz
  generalize hsm : small [t, u] = sm at z1
  have Hsm := Lib.hid hsm
  clear hsm
  cases sm with
  | false =>
    clear HR HP cT cH cI
    generalize opT t = op at *
    generalize nameT t = nm at *
    generalize numT t = nu at *
    generalize opT u = op' at *
    generalize nameT u = nm' at *
    generalize numT u = nu' at *
    go_enter Try.func3, Try.ntmps3
    go_wp2_with (first
      | (go_at_call 5; ((with_reducible refine z1.mono ?_); rintro e w4 ⟨rfl, hb4⟩; have Bz := bel_trans (a := W) (Below.refl _ _) hb4; have k0 := (Bz.cell l0).trans s0; have k1 := (Bz.cell l0).trans s1; have k2 := (Bz.cell l0).trans s2; have k3 := (Bz.cell l0).trans s3; have m0 := (Bz.cell l1).trans r0; have m1 := (Bz.cell l1).trans r1; have m2 := (Bz.cell l1).trans r2; have m3 := (Bz.cell l1).trans r3))
      | (go_at_call 6; ((with_reducible refine (g0 _).mono ?_); rintro e w7 ⟨rfl, hb7⟩; have By := bel_trans (a := W) (by assumption) hb7)))
    go_ret
    exact ⟨rfl, bel_trans hB By⟩
  | true =>
    have cR := HR.out Hsm.out
    have cP := HP.out Hsm.out
    clear HR HP Hsm
    generalize uq [] (all t) = L at *
    generalize has t u = ht at *
    generalize opT t = op at *
    generalize nameT t = nm at *
    generalize numT t = nu at *
    generalize opT u = op' at *
    generalize nameT u = nm' at *
    generalize numT u = nu' at *
    go_enter Try.func3, Try.ntmps3
    go_upto_region 4 with (first
      | (go_at_call 5; ((with_reducible refine z1.mono ?_); rintro e w4 ⟨rfl, hb4⟩; have Bz := bel_trans (a := W) (Below.refl _ _) hb4; have k0 := (Bz.cell l0).trans s0; have k1 := (Bz.cell l0).trans s1; have k2 := (Bz.cell l0).trans s2; have k3 := (Bz.cell l0).trans s3; have m0 := (Bz.cell l1).trans r0; have m1 := (Bz.cell l1).trans r1; have m2 := (Bz.cell l1).trans r2; have m3 := (Bz.cell l1).trans r3))
      | (go_at_call 7; ((with_reducible refine (cR _ (by first | assumption | exact Below.drew (by assumption) | exact Below.refl _ _)).mono ?_); rintro e w6 ⟨⟨AL, NL, CL, rfl, hL⟩, hb6⟩; have Bz := bel_trans (a := W) (by assumption) hb6; have HL := Lib.hid hL; clear hL; have Bx : Below w6.heap.size w6 w6.drew := (Below.refl _ _).drew; have k0 := (Bz.cell l0).trans s0; have k1 := (Bz.cell l0).trans s1; have k2 := (Bz.cell l0).trans s2; have k3 := (Bz.cell l0).trans s3; have m0 := (Bz.cell l1).trans r0; have m1 := (Bz.cell l1).trans r1; have m2 := (Bz.cell l1).trans r2; have m3 := (Bz.cell l1).trans r3)))
    go_region_held3 (fun w' => w'.cell? ⟨w.heap.size, 0, none⟩ = some (.int .i64 op) ∧ w'.cell? ⟨w.heap.size, 1, none⟩ = some (.string nm) ∧ w'.cell? ⟨w.heap.size, 2, none⟩ = some (.int .i64 nu) ∧ w'.cell? ⟨w.heap.size, 3, none⟩ = some (.slice a n c) ∧ w'.cell? ⟨w.heap.size + 1, 0, none⟩ = some (.int .i64 op') ∧ w'.cell? ⟨w.heap.size + 1, 1, none⟩ = some (.string nm') ∧ w'.cell? ⟨w.heap.size + 1, 2, none⟩ = some (.int .i64 nu') ∧ w'.cell? ⟨w.heap.size + 1, 3, none⟩ = some (.slice a' n' c'))
      (first | (exact ⟨(Bz.cell l0).trans s0, (Bz.cell l0).trans s1, (Bz.cell l0).trans s2, (Bz.cell l0).trans s3, (Bz.cell l1).trans r0, (Bz.cell l1).trans r1, (Bz.cell l1).trans r2, (Bz.cell l1).trans r3⟩) | go_keep)
      (first
        | (go_at_call 9; ((with_reducible refine (cP _ (by first | assumption | exact Below.drew (by assumption) | exact Below.refl _ _)).mono ?_); rintro e w8 ⟨⟨A8, N8, C8, rfl, h8⟩, hb8⟩; have H8 := Lib.hid h8; clear h8; have Bz := bel_trans (a := W) (by first | assumption | exact Below.drew (by assumption) | exact Below.refl _ _) hb8; have Bx := bel_trans (a := w6) Bx hb8))
        | (go_at_call 8; ((with_reducible refine (cT A8 N8 C8 AL NL CL _ H8.out (TsW.b HL.out Bx)).mono ?_); rintro e w9 ⟨rfl, hb9⟩; have Bz := bel_trans (a := W) (by first | assumption | exact Below.drew (by assumption) | exact Below.refl _ _) hb9; have Bx := bel_trans (a := w6) Bx hb9))
        | (go_at_call 10; ((with_reducible refine (cH _ (by first | assumption | exact Below.drew (by assumption) | exact Below.refl _ _)).mono ?_); rintro e w9 ⟨rfl, hb9⟩; have Bz := bel_trans (a := W) (by first | assumption | exact Below.drew (by assumption) | exact Below.refl _ _) hb9; have Bx := bel_trans (a := w6) Bx hb9))
        | (go_at_call 11; ((with_reducible refine (cI AL NL CL _ (TsW.b HL.out Bx) (by first | assumption | exact Below.drew (by assumption) | exact Below.refl _ _)).mono ?_); rintro e w9 ⟨rfl, hb9⟩; have Bz := bel_trans (a := W) (by first | assumption | exact Below.drew (by assumption) | exact Below.refl _ _) hb9; have Bx := bel_trans (a := w6) Bx hb9))
        | (go_at_call 6; ((with_reducible refine (g0 _).mono ?_); rintro e w7 ⟨rfl, hb7⟩; have Bz := bel_trans (a := W) (by first | assumption | exact Below.drew (by assumption) | exact Below.refl _ _) hb7)))
    all_goals go_wp2
    all_goals go_ret
    all_goals exact ⟨rfl, bel_trans hB Bz⟩
theorem termParts (z0 z1 : TmV) (w : World) (H : ArW w z0.t z0.a z0.n z0.c) (H1 : ArW w z1.t z1.a z1.n z1.c) :
    Calls Try.prog 3 #[z0.val, z1.val] w fun e w' => e = .returned (.bool true) ∧ Below w.heap.size w w' :=
  parts_law z0.t z1.t z0.a z1.a z0.n z0.c z1.n z1.c w H H1
end Go.Proofs.Ytelepojpnkoelaa.T
