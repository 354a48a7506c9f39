/-
  What is proved: the law over Open.
-/
import Derived.Test.YtceijoggoniaoaaBndLo
import Derived.Test.YtceijoggoniaoaaBndRf
namespace Go.Proofs.Ytceijoggoniaoaa.B
open Go.RowKit L T C
set_option linter.unusedVariables false
set_option linter.unusedSimpArgs false

theorem exact_self (r : Cl) (K0 : Option Addr) (K1 K2 : Nat) (A : Option Addr) (N C : Nat) (V0 : Option Addr) (V1 V2 : Nat) (A' : Option Addr) (N' C' : Nat) (w : World) (h : ArWC w r ⟨K0, K1, K2⟩ A N C) (h' : ArWC w r ⟨V0, V1, V2⟩ A' N' C') :
    Calls Try.prog 18 #[.agg #[.int .i64 (opC r), .string (nmC r), .string (soC r), .slice K0 K1 K2, .slice A N C], .agg #[.int .i64 (opC r), .string (nmC r), .string (soC r), .slice V0 V1 V2, .slice A' N' C']] w fun e w' => e = .returned (.bool true) ∧ Below w.heap.size w w' :=
  (Exact_any r r ⟨K0, K1, K2⟩ A N C ⟨V0, V1, V2⟩ A' N' C' w h h').mono fun e w' h => by rw [exC_refl] at h; exact h
theorem rtT_rw {r : Tm} {w w' : World} {e : Ending} (h : RtT r w e w') : ∃ A N C, e = .returned (.agg #[.int .i64 (opT r), .string (nameT r), .int .i64 (numT r), .slice A N C]) ∧ ArW w' r A N C ∧ Below w.heap.size w w' := by
  obtain ⟨a, n, c, e1, hA, hb⟩ := h
  exact ⟨a, n, c, e1, ArP.ar (fun b hb => by unfold Nw at hb; omega) r hA, hb⟩
theorem term_self (r : Tm) (A : Option Addr) (N C : Nat) (A' : Option Addr) (N' C' : Nat) (w : World) (h : ArW w r A N C) (h' : ArW w r A' N' C') :
    Calls Try.prog 21 #[.agg #[.int .i64 (opT r), .string (nameT r), .int .i64 (numT r), .slice A N C], .agg #[.int .i64 (opT r), .string (nameT r), .int .i64 (numT r), .slice A' N' C']] w fun e w' => e = .returned (.bool true) ∧ Below w.heap.size w w' :=
  (Term_any r r A N C A' N' C' w h h').mono fun e w' h => by rw [eqT_self] at h; exact h
set_option maxRecDepth 100000 in
set_option maxHeartbeats 16000000 in
theorem opensB (A : Cl) (B : Tm) (kA : SS) (aA aB : Option Addr) (nA cA nB cB : Nat) (w : World) (HA : ArWC w A kA aA nA cA) (HB : ArW w B aB nB cB) :
    Calls Try.prog 5 #[.agg #[.int .i64 (opC A), .string (nmC A), .string (soC A), .slice kA.a kA.n kA.c, .slice aA nA cA], .agg #[.int .i64 (opT B), .string (nameT B), .int .i64 (numT B), .slice aB nB cB]] w fun e w' => e = .returned (.bool true) ∧ Below w.heap.size w w' := by
  obtain ⟨W, hW, hB0, hs, SA, SB⟩ := lawBoxes w (opC A) (nmC A) (soC A) kA aA nA cA (opT B) (nameT B) (numT B) aB nB cB
  have gA := ArWC.b HA hB0
  have gB := ArW.b HB hB0
  have g0 := fun (w' : World) => alive_any w'
  have zA := fun (w' : World) (h : Below W.heap.size W w') => Big_any A kA aA nA cA 100 w' (by omega) (ArWC.b gA h)
  have zB := fun (w' : World) (h : Below W.heap.size W w') => Size_any B aB nB cB 30 w' (by omega) (ArW.b gB h)
  rw [show ((100 : Nat) : Int) = 100 from rfl] at zA
  rw [show ((30 : Nat) : Int) = 30 from rfl] at zB
  have HC := Lib.hid (show wtTo 100 A ≤ 100 → szTo 30 B ≤ 30 → ∀ (w' : World), Below W.heap.size W w' →
      (Calls Try.prog 24 #[.agg #[.int .i64 (opC A), .string (nmC A), .string (soC A), .slice kA.a kA.n kA.c, .slice aA nA cA], .agg #[.int .i64 (opT B), .string (nameT B), .int .i64 (numT B), .slice aB nB cB]] w' fun e w1 => ∃ K0 K1 K2 A' N' C', e = .returned (.agg #[.int .i64 (opC (wkC (fOpen B) 0 A)), .string (nmC (wkC (fOpen B) 0 A)), .string (soC (wkC (fOpen B) 0 A)), .slice K0 K1 K2, .slice A' N' C']) ∧ ArWC w1 (wkC (fOpen B) 0 A) ⟨K0, K1, K2⟩ A' N' C' ∧ Below w'.heap.size w' w1) ∧
      (Calls Try.prog 25 #[.agg #[.int .i64 (opC A), .string (nmC A), .string (soC A), .slice kA.a kA.n kA.c, .slice aA nA cA], .agg #[.int .i64 (opT B), .string (nameT B), .int .i64 (numT B), .slice aB nB cB]] w' fun e w1 => ∃ K0 K1 K2 A' N' C', e = .returned (.agg #[.int .i64 (opC (wkC (fOpen B) 0 A)), .string (nmC (wkC (fOpen B) 0 A)), .string (soC (wkC (fOpen B) 0 A)), .slice K0 K1 K2, .slice A' N' C']) ∧ ArWC w1 (wkC (fOpen B) 0 A) ⟨K0, K1, K2⟩ A' N' C' ∧ Below w'.heap.size w' w1) from fun h1 h2 w' hb => by
    have s1 := small_c h1
    have s2 := small_t h2
    exact ⟨(Open_any A kA aA nA cA B aB nB cB w' (by omega) (by omega) (ArWC.b gA hb) (ArW.b gB hb)).mono fun e w1 h => h.rv, (refOpen_any A kA aA nA cA B aB nB cB w' (by omega) (ArWC.b gA hb) (by omega) (ArW.b gB hb)).mono fun e w1 h => h.rv⟩)
  have cE := fun (r : Cl) => exact_self r
  have HSA := Lib.hid SA
  have HSB := Lib.hid SB
  obtain ⟨a0, a1, a2, a3, a4⟩ := SA.five
  obtain ⟨b0, b1, b2, b3⟩ := SB.four
  have hBd : Below W.heap.size W W := Below.refl _ _
  clear SA SB gA gB HA HB
  generalize wtTo 100 A = tA at *
  generalize szTo 30 B = tB at *
  generalize wkC (fOpen B) 0 A = rr at *
  generalize opC A = oA at *
  generalize nmC A = mA at *
  generalize soC A = pA at *
  generalize opT B = oB at *
  generalize nameT B = mB at *
  generalize numT B = pB at *
  by_cases q1 : tA ≤ 100
  · by_cases q2 : tB ≤ 30
    · have c1 := fun (w' : World) (hb : Below W.heap.size W w') => (HC.out q1 q2 w' hb).1
      have c2 := fun (w' : World) (hb : Below W.heap.size W w') => (HC.out q1 q2 w' hb).2
      go_enter Try.func5, Try.ntmps5
      go_wp2_with (first
        | (go_at_call 9; ((with_reducible refine (g0 _).mono ?_); rintro e wX ⟨rfl, hbX⟩; have Bz := bel_trans (a := W) (by first | assumption | exact Below.drew (by assumption)) hbX; (try (have HX5 := Lib.hid (ArWC.b HX5.out (by first | exact hbX | exact bel_trans ((Below.refl _ _).drew) hbX)))); (try (have HX7 := Lib.hid (ArWC.b HX7.out (by first | exact hbX | exact bel_trans ((Below.refl _ _).drew) hbX)))); (try (have HY5 := Lib.hid (ArW.b HY5.out (by first | exact hbX | exact bel_trans ((Below.refl _ _).drew) hbX)))); (try (have HY7 := Lib.hid (ArW.b HY7.out (by first | exact hbX | exact bel_trans ((Below.refl _ _).drew) hbX)))); obtain ⟨a0, a1, a2, a3, a4⟩ := (CBox.b HSA.out Bz).five; obtain ⟨b0, b1, b2, b3⟩ := (TBox.b HSB.out Bz).four))
        | (go_at_call 10; ((with_reducible refine (zA _ (by first | assumption | exact Below.drew (by assumption))).mono ?_); rintro e wX ⟨rfl, hbX⟩; have Bz := bel_trans (a := W) (by first | assumption | exact Below.drew (by assumption)) hbX; (try (have HX5 := Lib.hid (ArWC.b HX5.out (by first | exact hbX | exact bel_trans ((Below.refl _ _).drew) hbX)))); (try (have HX7 := Lib.hid (ArWC.b HX7.out (by first | exact hbX | exact bel_trans ((Below.refl _ _).drew) hbX)))); (try (have HY5 := Lib.hid (ArW.b HY5.out (by first | exact hbX | exact bel_trans ((Below.refl _ _).drew) hbX)))); (try (have HY7 := Lib.hid (ArW.b HY7.out (by first | exact hbX | exact bel_trans ((Below.refl _ _).drew) hbX)))); obtain ⟨a0, a1, a2, a3, a4⟩ := (CBox.b HSA.out Bz).five; obtain ⟨b0, b1, b2, b3⟩ := (TBox.b HSB.out Bz).four))
        | (go_at_call 11; ((with_reducible refine (zB _ (by first | assumption | exact Below.drew (by assumption))).mono ?_); rintro e wX ⟨rfl, hbX⟩; have Bz := bel_trans (a := W) (by first | assumption | exact Below.drew (by assumption)) hbX; (try (have HX5 := Lib.hid (ArWC.b HX5.out (by first | exact hbX | exact bel_trans ((Below.refl _ _).drew) hbX)))); (try (have HX7 := Lib.hid (ArWC.b HX7.out (by first | exact hbX | exact bel_trans ((Below.refl _ _).drew) hbX)))); (try (have HY5 := Lib.hid (ArW.b HY5.out (by first | exact hbX | exact bel_trans ((Below.refl _ _).drew) hbX)))); (try (have HY7 := Lib.hid (ArW.b HY7.out (by first | exact hbX | exact bel_trans ((Below.refl _ _).drew) hbX)))); obtain ⟨a0, a1, a2, a3, a4⟩ := (CBox.b HSA.out Bz).five; obtain ⟨b0, b1, b2, b3⟩ := (TBox.b HSB.out Bz).four)))
      go_region_held3 (fun w' => w'.cell? ⟨w.heap.size, 0, none⟩ = some (.int .i64 oA) ∧ w'.cell? ⟨w.heap.size, 1, none⟩ = some (.string mA) ∧ w'.cell? ⟨w.heap.size, 2, none⟩ = some (.string pA) ∧ w'.cell? ⟨w.heap.size, 3, none⟩ = some (.slice kA.a kA.n kA.c) ∧ w'.cell? ⟨w.heap.size, 4, none⟩ = some (.slice aA nA cA) ∧ w'.cell? ⟨w.heap.size + 1, 0, none⟩ = some (.int .i64 oB) ∧ w'.cell? ⟨w.heap.size + 1, 1, none⟩ = some (.string mB) ∧ w'.cell? ⟨w.heap.size + 1, 2, none⟩ = some (.int .i64 pB) ∧ w'.cell? ⟨w.heap.size + 1, 3, none⟩ = some (.slice aB nB cB))
        (first | (exact ⟨a0, a1, a2, a3, a4, b0, b1, b2, b3⟩) | go_keep)
        (first
          | (go_at_call 24; ((with_reducible refine (c1 _ (by first | assumption | exact Below.drew (by assumption))).mono ?_); rintro e wX ⟨K50, K51, K52, A5, N5, C5, rfl, hX, hbX⟩; have Bz := bel_trans (a := W) (by first | assumption | exact Below.drew (by assumption)) hbX; (try (have HX5 := Lib.hid (ArWC.b HX5.out (by first | exact hbX | exact bel_trans ((Below.refl _ _).drew) hbX)))); (try (have HX7 := Lib.hid (ArWC.b HX7.out (by first | exact hbX | exact bel_trans ((Below.refl _ _).drew) hbX)))); (try (have HY5 := Lib.hid (ArW.b HY5.out (by first | exact hbX | exact bel_trans ((Below.refl _ _).drew) hbX)))); (try (have HY7 := Lib.hid (ArW.b HY7.out (by first | exact hbX | exact bel_trans ((Below.refl _ _).drew) hbX)))); have HX5 := Lib.hid hX; clear hX; obtain ⟨a0, a1, a2, a3, a4⟩ := (CBox.b HSA.out Bz).five; obtain ⟨b0, b1, b2, b3⟩ := (TBox.b HSB.out Bz).four))
          | (go_at_call 25; ((with_reducible refine (c2 _ (by first | assumption | exact Below.drew (by assumption))).mono ?_); rintro e wX ⟨K70, K71, K72, A7, N7, C7, rfl, hX, hbX⟩; have Bz := bel_trans (a := W) (by first | assumption | exact Below.drew (by assumption)) hbX; (try (have HX5 := Lib.hid (ArWC.b HX5.out (by first | exact hbX | exact bel_trans ((Below.refl _ _).drew) hbX)))); (try (have HX7 := Lib.hid (ArWC.b HX7.out (by first | exact hbX | exact bel_trans ((Below.refl _ _).drew) hbX)))); (try (have HY5 := Lib.hid (ArW.b HY5.out (by first | exact hbX | exact bel_trans ((Below.refl _ _).drew) hbX)))); (try (have HY7 := Lib.hid (ArW.b HY7.out (by first | exact hbX | exact bel_trans ((Below.refl _ _).drew) hbX)))); have HX7 := Lib.hid hX; clear hX; obtain ⟨a0, a1, a2, a3, a4⟩ := (CBox.b HSA.out Bz).five; obtain ⟨b0, b1, b2, b3⟩ := (TBox.b HSB.out Bz).four))
          | (go_at_call 18; ((with_reducible refine (cE _ _ _ _ _ _ _ _ _ _ _ _ _ _ (by first | exact HX5.out | exact ArWC.b HX5.out (Below.refl _ _).drew) (by first | exact HX7.out | exact ArWC.b HX7.out (Below.refl _ _).drew)).mono ?_); rintro e wX ⟨rfl, hbX⟩; have Bz := bel_trans (a := W) (by first | assumption | exact Below.drew (by assumption)) hbX; (try (have HX5 := Lib.hid (ArWC.b HX5.out (by first | exact hbX | exact bel_trans ((Below.refl _ _).drew) hbX)))); (try (have HX7 := Lib.hid (ArWC.b HX7.out (by first | exact hbX | exact bel_trans ((Below.refl _ _).drew) hbX)))); (try (have HY5 := Lib.hid (ArW.b HY5.out (by first | exact hbX | exact bel_trans ((Below.refl _ _).drew) hbX)))); (try (have HY7 := Lib.hid (ArW.b HY7.out (by first | exact hbX | exact bel_trans ((Below.refl _ _).drew) hbX)))); obtain ⟨a0, a1, a2, a3, a4⟩ := (CBox.b HSA.out Bz).five; obtain ⟨b0, b1, b2, b3⟩ := (TBox.b HSB.out Bz).four)))
      all_goals go_wp2
      all_goals go_ret
      all_goals exact ⟨rfl, bel_trans hB0 Bz⟩
    · go_enter Try.func5, Try.ntmps5
      go_wp2_with (first
        | (go_at_call 9; ((with_reducible refine (g0 _).mono ?_); rintro e wX ⟨rfl, hbX⟩; have Bz := bel_trans (a := W) (by first | assumption | exact Below.drew (by assumption)) hbX; (try (have HX5 := Lib.hid (ArWC.b HX5.out (by first | exact hbX | exact bel_trans ((Below.refl _ _).drew) hbX)))); (try (have HX7 := Lib.hid (ArWC.b HX7.out (by first | exact hbX | exact bel_trans ((Below.refl _ _).drew) hbX)))); (try (have HY5 := Lib.hid (ArW.b HY5.out (by first | exact hbX | exact bel_trans ((Below.refl _ _).drew) hbX)))); (try (have HY7 := Lib.hid (ArW.b HY7.out (by first | exact hbX | exact bel_trans ((Below.refl _ _).drew) hbX)))); obtain ⟨a0, a1, a2, a3, a4⟩ := (CBox.b HSA.out Bz).five; obtain ⟨b0, b1, b2, b3⟩ := (TBox.b HSB.out Bz).four))
        | (go_at_call 10; ((with_reducible refine (zA _ (by first | assumption | exact Below.drew (by assumption))).mono ?_); rintro e wX ⟨rfl, hbX⟩; have Bz := bel_trans (a := W) (by first | assumption | exact Below.drew (by assumption)) hbX; (try (have HX5 := Lib.hid (ArWC.b HX5.out (by first | exact hbX | exact bel_trans ((Below.refl _ _).drew) hbX)))); (try (have HX7 := Lib.hid (ArWC.b HX7.out (by first | exact hbX | exact bel_trans ((Below.refl _ _).drew) hbX)))); (try (have HY5 := Lib.hid (ArW.b HY5.out (by first | exact hbX | exact bel_trans ((Below.refl _ _).drew) hbX)))); (try (have HY7 := Lib.hid (ArW.b HY7.out (by first | exact hbX | exact bel_trans ((Below.refl _ _).drew) hbX)))); obtain ⟨a0, a1, a2, a3, a4⟩ := (CBox.b HSA.out Bz).five; obtain ⟨b0, b1, b2, b3⟩ := (TBox.b HSB.out Bz).four))
        | (go_at_call 11; ((with_reducible refine (zB _ (by first | assumption | exact Below.drew (by assumption))).mono ?_); rintro e wX ⟨rfl, hbX⟩; have Bz := bel_trans (a := W) (by first | assumption | exact Below.drew (by assumption)) hbX; (try (have HX5 := Lib.hid (ArWC.b HX5.out (by first | exact hbX | exact bel_trans ((Below.refl _ _).drew) hbX)))); (try (have HX7 := Lib.hid (ArWC.b HX7.out (by first | exact hbX | exact bel_trans ((Below.refl _ _).drew) hbX)))); (try (have HY5 := Lib.hid (ArW.b HY5.out (by first | exact hbX | exact bel_trans ((Below.refl _ _).drew) hbX)))); (try (have HY7 := Lib.hid (ArW.b HY7.out (by first | exact hbX | exact bel_trans ((Below.refl _ _).drew) hbX)))); obtain ⟨a0, a1, a2, a3, a4⟩ := (CBox.b HSA.out Bz).five; obtain ⟨b0, b1, b2, b3⟩ := (TBox.b HSB.out Bz).four)))
      go_ret
      exact ⟨rfl, bel_trans hB0 Bz⟩
  · go_enter Try.func5, Try.ntmps5
    go_wp2_with (first
        | (go_at_call 9; ((with_reducible refine (g0 _).mono ?_); rintro e wX ⟨rfl, hbX⟩; have Bz := bel_trans (a := W) (by first | assumption | exact Below.drew (by assumption)) hbX; (try (have HX5 := Lib.hid (ArWC.b HX5.out (by first | exact hbX | exact bel_trans ((Below.refl _ _).drew) hbX)))); (try (have HX7 := Lib.hid (ArWC.b HX7.out (by first | exact hbX | exact bel_trans ((Below.refl _ _).drew) hbX)))); (try (have HY5 := Lib.hid (ArW.b HY5.out (by first | exact hbX | exact bel_trans ((Below.refl _ _).drew) hbX)))); (try (have HY7 := Lib.hid (ArW.b HY7.out (by first | exact hbX | exact bel_trans ((Below.refl _ _).drew) hbX)))); obtain ⟨a0, a1, a2, a3, a4⟩ := (CBox.b HSA.out Bz).five; obtain ⟨b0, b1, b2, b3⟩ := (TBox.b HSB.out Bz).four))
        | (go_at_call 10; ((with_reducible refine (zA _ (by first | assumption | exact Below.drew (by assumption))).mono ?_); rintro e wX ⟨rfl, hbX⟩; have Bz := bel_trans (a := W) (by first | assumption | exact Below.drew (by assumption)) hbX; (try (have HX5 := Lib.hid (ArWC.b HX5.out (by first | exact hbX | exact bel_trans ((Below.refl _ _).drew) hbX)))); (try (have HX7 := Lib.hid (ArWC.b HX7.out (by first | exact hbX | exact bel_trans ((Below.refl _ _).drew) hbX)))); (try (have HY5 := Lib.hid (ArW.b HY5.out (by first | exact hbX | exact bel_trans ((Below.refl _ _).drew) hbX)))); (try (have HY7 := Lib.hid (ArW.b HY7.out (by first | exact hbX | exact bel_trans ((Below.refl _ _).drew) hbX)))); obtain ⟨a0, a1, a2, a3, a4⟩ := (CBox.b HSA.out Bz).five; obtain ⟨b0, b1, b2, b3⟩ := (TBox.b HSB.out Bz).four))
        | (go_at_call 11; ((with_reducible refine (zB _ (by first | assumption | exact Below.drew (by assumption))).mono ?_); rintro e wX ⟨rfl, hbX⟩; have Bz := bel_trans (a := W) (by first | assumption | exact Below.drew (by assumption)) hbX; (try (have HX5 := Lib.hid (ArWC.b HX5.out (by first | exact hbX | exact bel_trans ((Below.refl _ _).drew) hbX)))); (try (have HX7 := Lib.hid (ArWC.b HX7.out (by first | exact hbX | exact bel_trans ((Below.refl _ _).drew) hbX)))); (try (have HY5 := Lib.hid (ArW.b HY5.out (by first | exact hbX | exact bel_trans ((Below.refl _ _).drew) hbX)))); (try (have HY7 := Lib.hid (ArW.b HY7.out (by first | exact hbX | exact bel_trans ((Below.refl _ _).drew) hbX)))); obtain ⟨a0, a1, a2, a3, a4⟩ := (CBox.b HSA.out Bz).five; obtain ⟨b0, b1, b2, b3⟩ := (TBox.b HSB.out Bz).four)))
    go_ret
    exact ⟨rfl, bel_trans hB0 Bz⟩
theorem bindOpens (x : ClV) (y : TmV) (w : World) (hx : ArWC w x.t x.k x.a x.n x.c) (hy : ArW w y.t y.a y.n y.c) :
    Calls Try.prog 5 #[x.val, y.val] w fun e w' => e = .returned (.bool true) ∧ Below w.heap.size w w' :=
  opensB x.t y.t x.k x.a y.a x.n x.c y.n y.c w hx hy
end Go.Proofs.Ytceijoggoniaoaa.B
