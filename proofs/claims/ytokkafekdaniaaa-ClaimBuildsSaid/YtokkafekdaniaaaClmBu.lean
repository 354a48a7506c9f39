/-
  What is proved: the law over what is put together of claims, and what is taken apart.
-/
import Derived.Test.YtokkafekdaniaaaClmFl
import Derived.Test.YtokkafekdaniaaaClmG
import Derived.Deep.RegionHeld3
namespace Go.Proofs.Ytokkafekdaniaaa.C
open Go.RowKit L T
set_option linter.unusedVariables false
set_option linter.unusedSimpArgs false

theorem RhC.rv {t : Cl} {w' w1 : World} {e : Ending} (h : RhC t w' e w1) : ∃ K0 K1 K2 A' N' C', e = .returned (.agg #[.int .i64 (opC (t)), .string (nmC (t)), .string (soC (t)), .slice K0 K1 K2, .slice A' N' C']) ∧ ArWC w1 (t) ⟨K0, K1, K2⟩ A' N' C' ∧ Below w'.heap.size w' w1 := by
  obtain ⟨⟨o, n, s, k, a, m, c⟩, e1, ⟨e2, e3, e4⟩, hA, hb⟩ := h
  dsimp only at e1 e2 e3 e4 hA
  subst e2 e3 e4
  exact ⟨k.a, k.n, k.c, a, m, c, e1, hA, hb⟩
theorem RdC.rv {t : Cl} {w' w1 : World} {e : Ending} (h : RdC t w' e w1) : ∃ K0 K1 K2 A' N' C', e = .returned (.agg #[.int .i64 (opC (t)), .string (nmC (t)), .string (soC (t)), .slice K0 K1 K2, .slice A' N' C']) ∧ ArWC w1 (t) ⟨K0, K1, K2⟩ A' N' C' ∧ Below w'.heap.size w' w1 := by
  obtain ⟨h, e1, e2, hA, hb⟩ := h
  exact RhC.rv ⟨h, e1, e2, ArCP.ar (fun b hb => hb.2) t hA, hb⟩
theorem few_wts {l : List Cl} (h : fewL 200 l = true) : wts l ≤ 200 * l.length := by
  induction l with
  | nil => simp [wts]
  | cons t l ih =>
    unfold fewL at h
    rw [List.all_cons, Bool.and_eq_true, decide_eq_true_eq] at h
    have h1 := wtTo_le t 200 h.1
    have h2 := ih h.2
    rw [wts, List.length_cons]; omega
theorem exCs_refl (l : List Cl) : exCs l l = true := exCs_iff.2 rfl
set_option maxRecDepth 100000 in
set_option maxHeartbeats 32000000 in
theorem buildsB (L0 : List Cl) (AL : Option Addr) (mL cL : Nat) (T : Cl) (kA : SS) (aA : Option Addr) (nA cA : Nat) (q : Int) (w : World) (HL : CsW w AL mL cL L0) (HA : ArWC w T kA aA nA cA) :
    Calls Try.prog 6 #[.slice AL mL cL, .agg #[.int .i64 (opC T), .string (nmC T), .string (soC T), .slice kA.a kA.n kA.c, .slice aA nA cA], .int .i64 q] w fun e w' => e = .returned (.bool true) ∧ Below w.heap.size w w' := by
  obtain ⟨W, hW, hB0, hs, SA⟩ := cbox1 w (opC T) (nmC T) (soC T) kA aA nA cA
  have gA := ArWC.b HA hB0
  have gL := CsW.b HL hB0
  have hlen : mL = L0.length := HL.1
  have g0 := fun (w' : World) => alive_any w'
  have zF := fun (w' : World) (h : Below W.heap.size W w') => Few_any L0 AL mL cL 200 w' (by omega) (CsW.b gL h)
  have zA := fun (w' : World) (h : Below W.heap.size W w') => Big_any T kA aA nA cA 200 w' (by omega) (ArWC.b gA h)
  rw [show ((200 : Nat) : Int) = 200 from rfl] at zF zA
  have HC := Lib.hid (show L0.length ≤ 20 → fewL 200 L0 = true → wtTo 200 T ≤ 200 → ∀ (w' : World), Below W.heap.size W w' →
      (Calls Try.prog 36 #[.agg #[.int .i64 (opC T), .string (nmC T), .string (soC T), .slice kA.a kA.n kA.c, .slice aA nA cA]] w' fun e w1 => ∃ K0 K1 K2 A' N' C', e = .returned (.agg #[.int .i64 (opC (.mk 6 ⟨#[]⟩ ⟨#[]⟩ [] [T])), .string (nmC (.mk 6 ⟨#[]⟩ ⟨#[]⟩ [] [T])), .string (soC (.mk 6 ⟨#[]⟩ ⟨#[]⟩ [] [T])), .slice K0 K1 K2, .slice A' N' C']) ∧ ArWC w1 (.mk 6 ⟨#[]⟩ ⟨#[]⟩ [] [T]) ⟨K0, K1, K2⟩ A' N' C' ∧ Below w'.heap.size w' w1) ∧
      (Calls Try.prog 37 #[.agg #[.int .i64 (opC T), .string (nmC T), .string (soC T), .slice kA.a kA.n kA.c, .slice aA nA cA]] w' fun e w1 => ∃ K0 K1 K2 A' N' C', e = .returned (.agg #[.int .i64 (opC (.mk 6 ⟨#[]⟩ ⟨#[]⟩ [] [T])), .string (nmC (.mk 6 ⟨#[]⟩ ⟨#[]⟩ [] [T])), .string (soC (.mk 6 ⟨#[]⟩ ⟨#[]⟩ [] [T])), .slice K0 K1 K2, .slice A' N' C']) ∧ ArWC w1 (.mk 6 ⟨#[]⟩ ⟨#[]⟩ [] [T]) ⟨K0, K1, K2⟩ A' N' C' ∧ Below w'.heap.size w' w1) ∧
      (Calls Try.prog 38 #[.slice AL mL cL] w' fun e w1 => ∃ K0 K1 K2 A' N' C', e = .returned (.agg #[.int .i64 (opC (joinL 7 1 L0)), .string (nmC (joinL 7 1 L0)), .string (soC (joinL 7 1 L0)), .slice K0 K1 K2, .slice A' N' C']) ∧ ArWC w1 (joinL 7 1 L0) ⟨K0, K1, K2⟩ A' N' C' ∧ Below w'.heap.size w' w1) ∧
      (Calls Try.prog 39 #[.int .i64 7, .slice AL mL cL] w' fun e w1 => ∃ K0 K1 K2 A' N' C', e = .returned (.agg #[.int .i64 (opC (joinL 7 1 L0)), .string (nmC (joinL 7 1 L0)), .string (soC (joinL 7 1 L0)), .slice K0 K1 K2, .slice A' N' C']) ∧ ArWC w1 (joinL 7 1 L0) ⟨K0, K1, K2⟩ A' N' C' ∧ Below w'.heap.size w' w1) ∧
      (Calls Try.prog 40 #[.slice AL mL cL] w' fun e w1 => ∃ K0 K1 K2 A' N' C', e = .returned (.agg #[.int .i64 (opC (joinL 8 2 L0)), .string (nmC (joinL 8 2 L0)), .string (soC (joinL 8 2 L0)), .slice K0 K1 K2, .slice A' N' C']) ∧ ArWC w1 (joinL 8 2 L0) ⟨K0, K1, K2⟩ A' N' C' ∧ Below w'.heap.size w' w1) ∧
      (Calls Try.prog 39 #[.int .i64 8, .slice AL mL cL] w' fun e w1 => ∃ K0 K1 K2 A' N' C', e = .returned (.agg #[.int .i64 (opC (joinL 8 2 L0)), .string (nmC (joinL 8 2 L0)), .string (soC (joinL 8 2 L0)), .slice K0 K1 K2, .slice A' N' C']) ∧ ArWC w1 (joinL 8 2 L0) ⟨K0, K1, K2⟩ A' N' C' ∧ Below w'.heap.size w' w1) ∧
      (Calls Try.prog 42 #[.agg #[.int .i64 (opC T), .string (nmC T), .string (soC T), .slice kA.a kA.n kA.c, .slice aA nA cA], .int .i64 q] w' fun e w1 => ∃ A' N' C', e = .returned (.slice A' N' C') ∧ CsW w1 A' N' C' (endsL (flatP q) T) ∧ Below w'.heap.size w' w1) ∧
      (Calls Try.prog 43 #[.agg #[.int .i64 (opC T), .string (nmC T), .string (soC T), .slice kA.a kA.n kA.c, .slice aA nA cA], .int .i64 q] w' fun e w1 => ∃ A' N' C', e = .returned (.slice A' N' C') ∧ CsW w1 A' N' C' (endsL (flatP q) T) ∧ Below w'.heap.size w' w1) from fun h1 h2 h3 w' hb => by
    have s1 := wtTo_le T 200 h3
    have s2 := few_wts h2
    exact ⟨(Not_any T kA aA nA cA w' (by omega) (ArWC.b gA hb)).mono fun e w1 h => h.rv, (refNot_any T kA aA nA cA w' (ArWC.b gA hb)).mono fun e w1 h => h.rv,
      (And_any L0 AL mL cL w' (by omega) (CsW.b gL hb)).mono fun e w1 h => h.rv, (join_any L0 7 1 w'.heap.size AL mL cL w' (.inl ⟨rfl, rfl⟩) (Nat.le_refl _) (CsW.b gL hb)).mono fun e w1 h => (h.rh (Nat.le_refl _)).rv,
      (Or_any L0 AL mL cL w' (by omega) (CsW.b gL hb)).mono fun e w1 h => h.rv, (join_any L0 8 2 w'.heap.size AL mL cL w' (.inr ⟨rfl, rfl⟩) (Nat.le_refl _) (CsW.b gL hb)).mono fun e w1 h => (h.rh (Nat.le_refl _)).rv,
      Flat_any q T kA aA nA cA w' (by omega) (ArWC.b gA hb), refFlatC_any q T kA aA nA cA w' (by omega) (ArWC.b gA hb)⟩)
  have cE := fun (r : Cl) (K0 : Option Addr) (K1 K2 : Nat) (A : Option Addr) (N C : Nat) (V0 : Option Addr) (V1 V2 : Nat) (A' : Option Addr) (N' C' : Nat) (w' : World) (h : ArWC w' r ⟨K0, K1, K2⟩ A N C) (h' : ArWC w' r ⟨V0, V1, V2⟩ A' N' C') => (Exact_any r r ⟨K0, K1, K2⟩ A N C ⟨V0, V1, V2⟩ A' N' C' w' h h').mono (R' := fun e w1 => e = .returned (.bool true) ∧ Below w'.heap.size w' w1) fun e w1 h => by rw [exC_refl] at h; exact h
  have cS := fun (r : List Cl) (A : Option Addr) (N C : Nat) (A' : Option Addr) (N' C' : Nat) (w' : World) (h : CsW w' A N C r) (h' : CsW w' A' N' C' r) => (Exacts8_any r r A N C A' N' C' w' h h').mono (R' := fun e w1 => e = .returned (.bool true) ∧ Below w'.heap.size w' w1) fun e w1 h => by rw [exCs_refl] at h; exact h
  have HSA := Lib.hid SA
  obtain ⟨a0, a1, a2, a3, a4⟩ := SA.five
  have hBd : Below W.heap.size W W := Below.refl _ _
  obtain ⟨kAa, kAn, kAc⟩ := kA
  dsimp only at *
  clear SA gA gL HA HL hs
  rw [← hlen] at HC zF
  generalize wtTo 200 T = tA at *
  generalize fewL 200 L0 = fw at *
  generalize joinL 7 1 L0 = r7 at *
  generalize joinL 8 2 L0 = r8 at *
  generalize endsL (flatP q) T = rf at *
  generalize hr6 : Cl.mk 6 ⟨#[]⟩ ⟨#[]⟩ [] [T] = r6 at *
  clear hr6
  generalize opC T = oA at *
  generalize nmC T = mA at *
  generalize soC T = pA at *
  clear hlen
  by_cases q1 : mL ≤ 20
  · have e1 : decide (mL ≤ 200) = true := decide_eq_true (by omega)
    rw [e1, Bool.true_and] at zF
    clear e1
    have p1 : decide ((mL : Int) > 20) = false := decide_eq_false (by omega)
    cases fw with
    | true =>
      by_cases q2 : tA ≤ 200
      · have c1 := fun (w' : World) (hb : Below W.heap.size W w') => (HC.out q1 rfl q2 w' hb).1
        have c2 := fun (w' : World) (hb : Below W.heap.size W w') => (HC.out q1 rfl q2 w' hb).2.1
        have c3 := fun (w' : World) (hb : Below W.heap.size W w') => (HC.out q1 rfl q2 w' hb).2.2.1
        have c4 := fun (w' : World) (hb : Below W.heap.size W w') => (HC.out q1 rfl q2 w' hb).2.2.2.1
        have c5 := fun (w' : World) (hb : Below W.heap.size W w') => (HC.out q1 rfl q2 w' hb).2.2.2.2.1
        have c6 := fun (w' : World) (hb : Below W.heap.size W w') => (HC.out q1 rfl q2 w' hb).2.2.2.2.2.1
        have c7 := fun (w' : World) (hb : Below W.heap.size W w') => (HC.out q1 rfl q2 w' hb).2.2.2.2.2.2.1
        have c8 := fun (w' : World) (hb : Below W.heap.size W w') => (HC.out q1 rfl q2 w' hb).2.2.2.2.2.2.2
        clear HC
        go_enter Try.func6, Try.ntmps6
        go_wp2_with (first
          | (go_at_call 32; ((with_reducible refine (zF _ (by first | assumption | exact Below.drew (by assumption))).mono ?_); rintro e wX ⟨rfl, hbX⟩; have Bz := bel_trans (a := W) (by first | assumption | exact Below.drew (by assumption)) hbX; (try (have HX5 := Lib.hid (ArWC.b HX5.out (by first | exact hbX | exact bel_trans ((Below.refl _ _).drew) hbX)))); (try (have HX7 := Lib.hid (ArWC.b HX7.out (by first | exact hbX | exact bel_trans ((Below.refl _ _).drew) hbX)))); (try (have HC5 := Lib.hid (CsW.b HC5.out (by first | exact hbX | exact bel_trans ((Below.refl _ _).drew) hbX)))); (try (have HC7 := Lib.hid (CsW.b HC7.out (by first | exact hbX | exact bel_trans ((Below.refl _ _).drew) hbX)))); obtain ⟨a0, a1, a2, a3, a4⟩ := (CBox.b HSA.out Bz).five))
          | (go_at_call 33; ((with_reducible refine (zA _ (by first | assumption | exact Below.drew (by assumption))).mono ?_); rintro e wX ⟨rfl, hbX⟩; have Bz := bel_trans (a := W) (by first | assumption | exact Below.drew (by assumption)) hbX; (try (have HX5 := Lib.hid (ArWC.b HX5.out (by first | exact hbX | exact bel_trans ((Below.refl _ _).drew) hbX)))); (try (have HX7 := Lib.hid (ArWC.b HX7.out (by first | exact hbX | exact bel_trans ((Below.refl _ _).drew) hbX)))); (try (have HC5 := Lib.hid (CsW.b HC5.out (by first | exact hbX | exact bel_trans ((Below.refl _ _).drew) hbX)))); (try (have HC7 := Lib.hid (CsW.b HC7.out (by first | exact hbX | exact bel_trans ((Below.refl _ _).drew) hbX)))); obtain ⟨a0, a1, a2, a3, a4⟩ := (CBox.b HSA.out Bz).five)))
        clear zF zA
        go_region_held3 (fun w' => w'.cell? ⟨w.heap.size, 0, none⟩ = some (.int .i64 oA) ∧ w'.cell? ⟨w.heap.size, 1, none⟩ = some (.string mA) ∧ w'.cell? ⟨w.heap.size, 2, none⟩ = some (.string pA) ∧ w'.cell? ⟨w.heap.size, 3, none⟩ = some (.slice kAa kAn kAc) ∧ w'.cell? ⟨w.heap.size, 4, none⟩ = some (.slice aA nA cA))
          (first | (exact ⟨a0, a1, a2, a3, a4⟩) | go_keep)
          (first
            | (go_at_call 36; ((with_reducible refine (c1 _ (by first | assumption | exact Below.drew (by assumption))).mono ?_); rintro e wX ⟨K50, K51, K52, A5, N5, C5, rfl, hX, hbX⟩; have Bz := bel_trans (a := W) (by first | assumption | exact Below.drew (by assumption)) hbX; (try (have HX5 := Lib.hid (ArWC.b HX5.out (by first | exact hbX | exact bel_trans ((Below.refl _ _).drew) hbX)))); (try (have HX7 := Lib.hid (ArWC.b HX7.out (by first | exact hbX | exact bel_trans ((Below.refl _ _).drew) hbX)))); (try (have HC5 := Lib.hid (CsW.b HC5.out (by first | exact hbX | exact bel_trans ((Below.refl _ _).drew) hbX)))); (try (have HC7 := Lib.hid (CsW.b HC7.out (by first | exact hbX | exact bel_trans ((Below.refl _ _).drew) hbX)))); have HX5 := Lib.hid hX; clear hX; obtain ⟨a0, a1, a2, a3, a4⟩ := (CBox.b HSA.out Bz).five))
            | (go_at_call 37; ((with_reducible refine (c2 _ (by first | assumption | exact Below.drew (by assumption))).mono ?_); rintro e wX ⟨K70, K71, K72, A7, N7, C7, rfl, hX, hbX⟩; have Bz := bel_trans (a := W) (by first | assumption | exact Below.drew (by assumption)) hbX; (try (have HX5 := Lib.hid (ArWC.b HX5.out (by first | exact hbX | exact bel_trans ((Below.refl _ _).drew) hbX)))); (try (have HX7 := Lib.hid (ArWC.b HX7.out (by first | exact hbX | exact bel_trans ((Below.refl _ _).drew) hbX)))); (try (have HC5 := Lib.hid (CsW.b HC5.out (by first | exact hbX | exact bel_trans ((Below.refl _ _).drew) hbX)))); (try (have HC7 := Lib.hid (CsW.b HC7.out (by first | exact hbX | exact bel_trans ((Below.refl _ _).drew) hbX)))); have HX7 := Lib.hid hX; clear hX; obtain ⟨a0, a1, a2, a3, a4⟩ := (CBox.b HSA.out Bz).five))
            | (go_at_call 38; ((with_reducible refine (c3 _ (by first | assumption | exact Below.drew (by assumption))).mono ?_); rintro e wX ⟨K50, K51, K52, A5, N5, C5, rfl, hX, hbX⟩; have Bz := bel_trans (a := W) (by first | assumption | exact Below.drew (by assumption)) hbX; (try (have HX5 := Lib.hid (ArWC.b HX5.out (by first | exact hbX | exact bel_trans ((Below.refl _ _).drew) hbX)))); (try (have HX7 := Lib.hid (ArWC.b HX7.out (by first | exact hbX | exact bel_trans ((Below.refl _ _).drew) hbX)))); (try (have HC5 := Lib.hid (CsW.b HC5.out (by first | exact hbX | exact bel_trans ((Below.refl _ _).drew) hbX)))); (try (have HC7 := Lib.hid (CsW.b HC7.out (by first | exact hbX | exact bel_trans ((Below.refl _ _).drew) hbX)))); have HX5 := Lib.hid hX; clear hX; obtain ⟨a0, a1, a2, a3, a4⟩ := (CBox.b HSA.out Bz).five))
            | (go_at_call 39; ((with_reducible refine (c4 _ (by first | assumption | exact Below.drew (by assumption))).mono ?_); rintro e wX ⟨K70, K71, K72, A7, N7, C7, rfl, hX, hbX⟩; have Bz := bel_trans (a := W) (by first | assumption | exact Below.drew (by assumption)) hbX; (try (have HX5 := Lib.hid (ArWC.b HX5.out (by first | exact hbX | exact bel_trans ((Below.refl _ _).drew) hbX)))); (try (have HX7 := Lib.hid (ArWC.b HX7.out (by first | exact hbX | exact bel_trans ((Below.refl _ _).drew) hbX)))); (try (have HC5 := Lib.hid (CsW.b HC5.out (by first | exact hbX | exact bel_trans ((Below.refl _ _).drew) hbX)))); (try (have HC7 := Lib.hid (CsW.b HC7.out (by first | exact hbX | exact bel_trans ((Below.refl _ _).drew) hbX)))); have HX7 := Lib.hid hX; clear hX; obtain ⟨a0, a1, a2, a3, a4⟩ := (CBox.b HSA.out Bz).five))
            | (go_at_call 40; ((with_reducible refine (c5 _ (by first | assumption | exact Below.drew (by assumption))).mono ?_); rintro e wX ⟨K50, K51, K52, A5, N5, C5, rfl, hX, hbX⟩; have Bz := bel_trans (a := W) (by first | assumption | exact Below.drew (by assumption)) hbX; (try (have HX5 := Lib.hid (ArWC.b HX5.out (by first | exact hbX | exact bel_trans ((Below.refl _ _).drew) hbX)))); (try (have HX7 := Lib.hid (ArWC.b HX7.out (by first | exact hbX | exact bel_trans ((Below.refl _ _).drew) hbX)))); (try (have HC5 := Lib.hid (CsW.b HC5.out (by first | exact hbX | exact bel_trans ((Below.refl _ _).drew) hbX)))); (try (have HC7 := Lib.hid (CsW.b HC7.out (by first | exact hbX | exact bel_trans ((Below.refl _ _).drew) hbX)))); have HX5 := Lib.hid hX; clear hX; obtain ⟨a0, a1, a2, a3, a4⟩ := (CBox.b HSA.out Bz).five))
            | (go_at_call 39; ((with_reducible refine (c6 _ (by first | assumption | exact Below.drew (by assumption))).mono ?_); rintro e wX ⟨K70, K71, K72, A7, N7, C7, rfl, hX, hbX⟩; have Bz := bel_trans (a := W) (by first | assumption | exact Below.drew (by assumption)) hbX; (try (have HX5 := Lib.hid (ArWC.b HX5.out (by first | exact hbX | exact bel_trans ((Below.refl _ _).drew) hbX)))); (try (have HX7 := Lib.hid (ArWC.b HX7.out (by first | exact hbX | exact bel_trans ((Below.refl _ _).drew) hbX)))); (try (have HC5 := Lib.hid (CsW.b HC5.out (by first | exact hbX | exact bel_trans ((Below.refl _ _).drew) hbX)))); (try (have HC7 := Lib.hid (CsW.b HC7.out (by first | exact hbX | exact bel_trans ((Below.refl _ _).drew) hbX)))); have HX7 := Lib.hid hX; clear hX; obtain ⟨a0, a1, a2, a3, a4⟩ := (CBox.b HSA.out Bz).five))
            | (go_at_call 35; ((with_reducible refine (cE _ _ _ _ _ _ _ _ _ _ _ _ _ _ (by first | exact HX5.out | exact ArWC.b HX5.out (Below.refl _ _).drew) (by first | exact HX7.out | exact ArWC.b HX7.out (Below.refl _ _).drew)).mono ?_); rintro e wX ⟨rfl, hbX⟩; have Bz := bel_trans (a := W) (by first | assumption | exact Below.drew (by assumption)) hbX; (try (have HX5 := Lib.hid (ArWC.b HX5.out (by first | exact hbX | exact bel_trans ((Below.refl _ _).drew) hbX)))); (try (have HX7 := Lib.hid (ArWC.b HX7.out (by first | exact hbX | exact bel_trans ((Below.refl _ _).drew) hbX)))); (try (have HC5 := Lib.hid (CsW.b HC5.out (by first | exact hbX | exact bel_trans ((Below.refl _ _).drew) hbX)))); (try (have HC7 := Lib.hid (CsW.b HC7.out (by first | exact hbX | exact bel_trans ((Below.refl _ _).drew) hbX)))); obtain ⟨a0, a1, a2, a3, a4⟩ := (CBox.b HSA.out Bz).five))
            | (go_at_call 42; ((with_reducible refine (c7 _ (by first | assumption | exact Below.drew (by assumption))).mono ?_); rintro e wX ⟨A5, N5, C5, rfl, hX, hbX⟩; have Bz := bel_trans (a := W) (by first | assumption | exact Below.drew (by assumption)) hbX; (try (have HX5 := Lib.hid (ArWC.b HX5.out (by first | exact hbX | exact bel_trans ((Below.refl _ _).drew) hbX)))); (try (have HX7 := Lib.hid (ArWC.b HX7.out (by first | exact hbX | exact bel_trans ((Below.refl _ _).drew) hbX)))); (try (have HC5 := Lib.hid (CsW.b HC5.out (by first | exact hbX | exact bel_trans ((Below.refl _ _).drew) hbX)))); (try (have HC7 := Lib.hid (CsW.b HC7.out (by first | exact hbX | exact bel_trans ((Below.refl _ _).drew) hbX)))); have HC5 := Lib.hid hX; clear hX; obtain ⟨a0, a1, a2, a3, a4⟩ := (CBox.b HSA.out Bz).five))
            | (go_at_call 43; ((with_reducible refine (c8 _ (by first | assumption | exact Below.drew (by assumption))).mono ?_); rintro e wX ⟨A7, N7, C7, rfl, hX, hbX⟩; have Bz := bel_trans (a := W) (by first | assumption | exact Below.drew (by assumption)) hbX; (try (have HX5 := Lib.hid (ArWC.b HX5.out (by first | exact hbX | exact bel_trans ((Below.refl _ _).drew) hbX)))); (try (have HX7 := Lib.hid (ArWC.b HX7.out (by first | exact hbX | exact bel_trans ((Below.refl _ _).drew) hbX)))); (try (have HC5 := Lib.hid (CsW.b HC5.out (by first | exact hbX | exact bel_trans ((Below.refl _ _).drew) hbX)))); (try (have HC7 := Lib.hid (CsW.b HC7.out (by first | exact hbX | exact bel_trans ((Below.refl _ _).drew) hbX)))); have HC7 := Lib.hid hX; clear hX; obtain ⟨a0, a1, a2, a3, a4⟩ := (CBox.b HSA.out Bz).five))
            | (go_at_call 41; ((with_reducible refine (cS _ _ _ _ _ _ _ _ (by first | exact HC5.out | exact CsW.b HC5.out (Below.refl _ _).drew) (by first | exact HC7.out | exact CsW.b HC7.out (Below.refl _ _).drew)).mono ?_); rintro e wX ⟨rfl, hbX⟩; have Bz := bel_trans (a := W) (by first | assumption | exact Below.drew (by assumption)) hbX; (try (have HX5 := Lib.hid (ArWC.b HX5.out (by first | exact hbX | exact bel_trans ((Below.refl _ _).drew) hbX)))); (try (have HX7 := Lib.hid (ArWC.b HX7.out (by first | exact hbX | exact bel_trans ((Below.refl _ _).drew) hbX)))); (try (have HC5 := Lib.hid (CsW.b HC5.out (by first | exact hbX | exact bel_trans ((Below.refl _ _).drew) hbX)))); (try (have HC7 := Lib.hid (CsW.b HC7.out (by first | exact hbX | exact bel_trans ((Below.refl _ _).drew) hbX)))); obtain ⟨a0, a1, a2, a3, a4⟩ := (CBox.b HSA.out Bz).five))
            | (go_at_call 34; ((with_reducible refine (g0 _).mono ?_); rintro e wX ⟨rfl, hbX⟩; have Bz := bel_trans (a := W) (by first | assumption | exact Below.drew (by assumption)) hbX; (try (have HX5 := Lib.hid (ArWC.b HX5.out (by first | exact hbX | exact bel_trans ((Below.refl _ _).drew) hbX)))); (try (have HX7 := Lib.hid (ArWC.b HX7.out (by first | exact hbX | exact bel_trans ((Below.refl _ _).drew) hbX)))); (try (have HC5 := Lib.hid (CsW.b HC5.out (by first | exact hbX | exact bel_trans ((Below.refl _ _).drew) hbX)))); (try (have HC7 := Lib.hid (CsW.b HC7.out (by first | exact hbX | exact bel_trans ((Below.refl _ _).drew) hbX)))); obtain ⟨a0, a1, a2, a3, a4⟩ := (CBox.b HSA.out Bz).five)))
        all_goals go_wp2
        all_goals go_ret
        all_goals exact ⟨rfl, bel_trans hB0 Bz⟩
      · clear HC
        go_enter Try.func6, Try.ntmps6
        go_wp2_with (first
          | (go_at_call 32; ((with_reducible refine (zF _ (by first | assumption | exact Below.drew (by assumption))).mono ?_); rintro e wX ⟨rfl, hbX⟩; have Bz := bel_trans (a := W) (by first | assumption | exact Below.drew (by assumption)) hbX; (try (have HX5 := Lib.hid (ArWC.b HX5.out (by first | exact hbX | exact bel_trans ((Below.refl _ _).drew) hbX)))); (try (have HX7 := Lib.hid (ArWC.b HX7.out (by first | exact hbX | exact bel_trans ((Below.refl _ _).drew) hbX)))); (try (have HC5 := Lib.hid (CsW.b HC5.out (by first | exact hbX | exact bel_trans ((Below.refl _ _).drew) hbX)))); (try (have HC7 := Lib.hid (CsW.b HC7.out (by first | exact hbX | exact bel_trans ((Below.refl _ _).drew) hbX)))); obtain ⟨a0, a1, a2, a3, a4⟩ := (CBox.b HSA.out Bz).five))
          | (go_at_call 33; ((with_reducible refine (zA _ (by first | assumption | exact Below.drew (by assumption))).mono ?_); rintro e wX ⟨rfl, hbX⟩; have Bz := bel_trans (a := W) (by first | assumption | exact Below.drew (by assumption)) hbX; (try (have HX5 := Lib.hid (ArWC.b HX5.out (by first | exact hbX | exact bel_trans ((Below.refl _ _).drew) hbX)))); (try (have HX7 := Lib.hid (ArWC.b HX7.out (by first | exact hbX | exact bel_trans ((Below.refl _ _).drew) hbX)))); (try (have HC5 := Lib.hid (CsW.b HC5.out (by first | exact hbX | exact bel_trans ((Below.refl _ _).drew) hbX)))); (try (have HC7 := Lib.hid (CsW.b HC7.out (by first | exact hbX | exact bel_trans ((Below.refl _ _).drew) hbX)))); obtain ⟨a0, a1, a2, a3, a4⟩ := (CBox.b HSA.out Bz).five))
          | (go_at_call 34; ((with_reducible refine (g0 _).mono ?_); rintro e wX ⟨rfl, hbX⟩; have Bz := bel_trans (a := W) (by first | assumption | exact Below.drew (by assumption)) hbX; (try (have HX5 := Lib.hid (ArWC.b HX5.out (by first | exact hbX | exact bel_trans ((Below.refl _ _).drew) hbX)))); (try (have HX7 := Lib.hid (ArWC.b HX7.out (by first | exact hbX | exact bel_trans ((Below.refl _ _).drew) hbX)))); (try (have HC5 := Lib.hid (CsW.b HC5.out (by first | exact hbX | exact bel_trans ((Below.refl _ _).drew) hbX)))); (try (have HC7 := Lib.hid (CsW.b HC7.out (by first | exact hbX | exact bel_trans ((Below.refl _ _).drew) hbX)))); obtain ⟨a0, a1, a2, a3, a4⟩ := (CBox.b HSA.out Bz).five)))
        go_ret
        exact ⟨rfl, bel_trans hB0 Bz⟩
    | false =>
      clear HC
      go_enter Try.func6, Try.ntmps6
      go_wp2_with (first
        | (go_at_call 32; ((with_reducible refine (zF _ (by first | assumption | exact Below.drew (by assumption))).mono ?_); rintro e wX ⟨rfl, hbX⟩; have Bz := bel_trans (a := W) (by first | assumption | exact Below.drew (by assumption)) hbX; (try (have HX5 := Lib.hid (ArWC.b HX5.out (by first | exact hbX | exact bel_trans ((Below.refl _ _).drew) hbX)))); (try (have HX7 := Lib.hid (ArWC.b HX7.out (by first | exact hbX | exact bel_trans ((Below.refl _ _).drew) hbX)))); (try (have HC5 := Lib.hid (CsW.b HC5.out (by first | exact hbX | exact bel_trans ((Below.refl _ _).drew) hbX)))); (try (have HC7 := Lib.hid (CsW.b HC7.out (by first | exact hbX | exact bel_trans ((Below.refl _ _).drew) hbX)))); obtain ⟨a0, a1, a2, a3, a4⟩ := (CBox.b HSA.out Bz).five))
        | (go_at_call 34; ((with_reducible refine (g0 _).mono ?_); rintro e wX ⟨rfl, hbX⟩; have Bz := bel_trans (a := W) (by first | assumption | exact Below.drew (by assumption)) hbX; (try (have HX5 := Lib.hid (ArWC.b HX5.out (by first | exact hbX | exact bel_trans ((Below.refl _ _).drew) hbX)))); (try (have HX7 := Lib.hid (ArWC.b HX7.out (by first | exact hbX | exact bel_trans ((Below.refl _ _).drew) hbX)))); (try (have HC5 := Lib.hid (CsW.b HC5.out (by first | exact hbX | exact bel_trans ((Below.refl _ _).drew) hbX)))); (try (have HC7 := Lib.hid (CsW.b HC7.out (by first | exact hbX | exact bel_trans ((Below.refl _ _).drew) hbX)))); obtain ⟨a0, a1, a2, a3, a4⟩ := (CBox.b HSA.out Bz).five)))
      go_ret
      exact ⟨rfl, bel_trans hB0 Bz⟩
  · have p1 : decide ((mL : Int) > 20) = true := decide_eq_true (by omega)
    clear HC
    go_enter Try.func6, Try.ntmps6
    go_wp2_with (first
      | (go_at_call 34; ((with_reducible refine (g0 _).mono ?_); rintro e wX ⟨rfl, hbX⟩; have Bz := bel_trans (a := W) (by first | assumption | exact Below.drew (by assumption)) hbX; (try (have HX5 := Lib.hid (ArWC.b HX5.out (by first | exact hbX | exact bel_trans ((Below.refl _ _).drew) hbX)))); (try (have HX7 := Lib.hid (ArWC.b HX7.out (by first | exact hbX | exact bel_trans ((Below.refl _ _).drew) hbX)))); (try (have HC5 := Lib.hid (CsW.b HC5.out (by first | exact hbX | exact bel_trans ((Below.refl _ _).drew) hbX)))); (try (have HC7 := Lib.hid (CsW.b HC7.out (by first | exact hbX | exact bel_trans ((Below.refl _ _).drew) hbX)))); obtain ⟨a0, a1, a2, a3, a4⟩ := (CBox.b HSA.out Bz).five)))
    go_ret
    exact ⟨rfl, bel_trans hB0 Bz⟩
theorem claimBuilds (AL : Option Addr) (mL cL : Nat) (L0 : List Cl) (x : ClV) (q : Int) (w : World) (_ : mL ≤ 9223372036854775807) (HL : CsW w AL mL cL L0) (hx : ArWC w x.t x.k x.a x.n x.c) (_ : -9223372036854775808 ≤ q) (_ : q ≤ 9223372036854775807) :
    Calls Try.prog 6 #[.slice AL mL cL, x.val, .int .i64 q] w fun e w' => e = .returned (.bool true) ∧ Below w.heap.size w w' :=
  buildsB L0 AL mL cL x.t x.k x.a x.n x.c q w HL hx
end Go.Proofs.Ytokkafekdaniaaa.C
