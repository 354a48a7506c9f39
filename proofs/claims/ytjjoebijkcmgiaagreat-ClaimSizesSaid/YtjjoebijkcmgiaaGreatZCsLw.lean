/-
  What is proved: the law over the sizes, depths and first errors of claims put together.
-/
import Derived.Test.YtjjoebijkcmgiaaGreatZCsM
import Derived.Test.YtjjoebijkcmgiaaGreatZCsR
import Derived.Test.YtjjoebijkcmgiaaGreatZClmG
import Derived.Test.YtjjoebijkcmgiaaGreatBC
namespace Go.Proofs.YtjjoebijkcmgiaaGreat.Cs
open Go.RowKit L T C
set_option linter.unusedVariables false
set_option linter.unusedSimpArgs false

theorem rdC_rv {t : Cl} {w' w1 : World} {e : Ending} (h : RdC t w' e w1) : ∃ K0 K1 K2 A' N' C', e = .returned (.agg #[.int .i64 (opC t), .string (nmC t), .string (soC t), .slice K0 K1 K2, .slice A' N' C']) ∧ ArWC w1 t ⟨K0, K1, K2⟩ A' N' C' ∧ Below w'.heap.size w' w1 := by
  obtain ⟨⟨o, n, s, ⟨k0, k1, k2⟩, a, m, c⟩, e1, ⟨e2, e3, e4⟩, hA, hb⟩ := h
  dsimp only at e1 e2 e3 e4 hA
  subst e2 e3 e4
  exact ⟨k0, k1, k2, a, m, c, e1, ArCP.ar (fun b hb => hb.2) t hA, hb⟩
theorem row2ab (Z : World) (a b : Cl) (k1 : SS) (a1 : Option Addr) (n1 c1 : Nat) (k2 : SS) (a2 : Option Addr) (n2 c2 : Nat) (h1 : ArWC Z a k1 a1 n1 c1) (h2 : ArWC Z b k2 a2 n2 c2) :
    CsW (Z.alloc (.cells #[.int .i64 (opC a), .string (nmC a), .string (soC a), .slice k1.a k1.n k1.c, .slice a1 n1 c1, .int .i64 (opC b), .string (nmC b), .string (soC b), .slice k2.a k2.n k2.c, .slice a2 n2 c2] 25)) (some ⟨Z.heap.size, 0, none⟩) 2 2 [a, b] := by
  refine rowL Z [⟨opC a, nmC a, soC a, k1, a1, n1, c1⟩, ⟨opC b, nmC b, soC b, k2, a2, n2, c2⟩] [a, b] rfl (by simp) fun k hk hk2 => ?_
  have : k = 0 ∨ k = 1 := by simp at hk; omega
  rcases this with rfl | rfl
  · exact ⟨⟨rfl, rfl, rfl⟩, h1⟩
  · exact ⟨⟨rfl, rfl, rfl⟩, h2⟩
set_option maxRecDepth 100000 in
set_option maxHeartbeats 32000000 in
theorem sizesB (a b : Cl) (kA : SS) (aA : Option Addr) (nA cA : Nat) (kB : SS) (aB : Option Addr) (nB cB : Nat) (w : World) (HA : ArWC w a kA aA nA cA) (HB : ArWC w b kB aB nB cB) :
    Calls Tryz.prog 4 #[.agg #[.int .i64 (opC a), .string (nmC a), .string (soC a), .slice kA.a kA.n kA.c, .slice aA nA cA], .agg #[.int .i64 (opC b), .string (nmC b), .string (soC b), .slice kB.a kB.n kB.c, .slice aB nB cB]] w fun e w' => e = .returned (.bool true) ∧ Below w.heap.size w w' := by
  obtain ⟨W, hW, hB0, hs, SA, SB⟩ := cbox2 w (opC a) (nmC a) (soC a) kA aA nA cA (opC b) (nmC b) (soC b) kB aB nB cB
  have gA := ArWC.b HA hB0
  have gB := ArWC.b HB hB0
  have g0 := fun (w' : World) => alive_any w'
  have zA := fun (w' : World) (h : Below W.heap.size W w') => Big_any a kA aA nA cA 400 w' (by omega) (ArWC.b gA h)
  have zB := fun (w' : World) (h : Below W.heap.size W w') => Big_any b kB aB nB cB 400 w' (by omega) (ArWC.b gB h)
  rw [show ((400 : Nat) : Int) = 400 from rfl] at zA zB
  have HSA := Lib.hid SA
  have HSB := Lib.hid SB
  obtain ⟨a0, a1, a2, a3, a4⟩ := SA.five
  obtain ⟨b0, b1, b2, b3, b4⟩ := SB.five
  have hBd : Below W.heap.size W W := Below.refl _ _
  have ls : w.heap.size + 1 < W.heap.size := by omega
  by_cases q1 : wtTo 400 a ≤ 400
  · have p1 : decide (400 < wtTo 400 a) = false := decide_eq_false (by omega)
    rw [p1] at zA
    by_cases q2 : wtTo 400 b ≤ 400
    · have p2 : decide (400 < wtTo 400 b) = false := decide_eq_false (by omega)
      rw [p2] at zB
      have s1 := Nat.le_trans (wtTo_le a 400 q1) q1
      have s2 := Nat.le_trans (wtTo_le b 400 q2) q2
      have d1 := szC_wt a
      have d2 := szC_wt b
      have w0 := wt_and a b
      have w9 := wt_not a
      have d3 := szC_wt (andC a b)
      have cSA := fun (w' : World) (h : Below W.heap.size W w') => cSize_any a kA aA nA cA w' (ArWC.b gA h)
      have cSB := fun (w' : World) (h : Below W.heap.size W w') => cSize_any b kB aB nB cB w' (ArWC.b gB h)
      rw [Nat.min_eq_left (show wt a ≤ 4097 by omega)] at cSA
      rw [Nat.min_eq_left (show wt b ≤ 4097 by omega)] at cSB
      have cDA := fun (w' : World) (h : Below W.heap.size W w') => Depth_few a kA aA nA cA w' (by omega) (ArWC.b gA h)
      have cDB := fun (w' : World) (h : Below W.heap.size W w') => Depth_few b kB aB nB cB w' (by omega) (ArWC.b gB h)
      have cRA := fun (w' : World) (h : Below W.heap.size W w') => cRight_few a kA aA nA cA w' (by omega) (ArWC.b gA h)
      have cRB := fun (w' : World) (h : Below W.heap.size W w') => cRight_few b kB aB nB cB w' (by omega) (ArWC.b gB h)
      have cSC := fun (K0 : Option Addr) (K1 K2 : Nat) (A2 : Option Addr) (N2 C2 : Nat) (w' : World) (h : ArWC w' (andC a b) ⟨K0, K1, K2⟩ A2 N2 C2) => cSize_any (andC a b) ⟨K0, K1, K2⟩ A2 N2 C2 w' h
      rw [show ((min (wt (andC a b)) 4097 : Nat) : Int) = (wt a : Int) + (wt b : Int) + 1 by omega] at cSC
      have cSN := fun (K0 : Option Addr) (K1 K2 : Nat) (A2 : Option Addr) (N2 C2 : Nat) (w' : World) (h : ArWC w' (notC a) ⟨K0, K1, K2⟩ A2 N2 C2) => cSize_any (notC a) ⟨K0, K1, K2⟩ A2 N2 C2 w' h
      rw [show ((min (wt (notC a)) 4097 : Nat) : Int) = (wt a : Int) + 1 by omega] at cSN
      have cDC := fun (K0 : Option Addr) (K1 K2 : Nat) (A2 : Option Addr) (N2 C2 : Nat) (w' : World) (h : ArWC w' (andC a b) ⟨K0, K1, K2⟩ A2 N2 C2) => Depth_few (andC a b) ⟨K0, K1, K2⟩ A2 N2 C2 w' (by omega) h
      have cRC := fun (K0 : Option Addr) (K1 K2 : Nat) (A2 : Option Addr) (N2 C2 : Nat) (w' : World) (h : ArWC w' (andC a b) ⟨K0, K1, K2⟩ A2 N2 C2) => cRight_few (andC a b) ⟨K0, K1, K2⟩ A2 N2 C2 w' (by omega) h
      have hdp := deep_and a b
      have hrt := right_and a b s1 s2
      rw [hdp] at cDC hrt
      have cAnd := fun (w' : World) (h : Below W.heap.size W w') => (And_any [a, b] (some ⟨w'.heap.size, 0, none⟩) 2 2 _ (by rw [wts, wts, wts]; omega) (row2ab w' a b kA aA nA cA kB aB nB cB (ArWC.b gA h) (ArWC.b gB h))).mono fun e w1 h => rdC_rv (t := andC a b) h
      have cNot := fun (w' : World) (h : Below W.heap.size W w') => (Not_any a kA aA nA cA w' (by omega) (ArWC.b gA h)).mono fun e w1 h => rdC_rv (t := notC a) h
      obtain ⟨kAa, kAn, kAc⟩ := kA
      obtain ⟨kBa, kBn, kBc⟩ := kB
      dsimp only at *
      clear SA SB gA gB HA HB hs d1 d2 d3 w0 w9 q1 q2 p1 p2 hdp
      have hD1 : min (dpC a) 65 ≤ 65 := Nat.min_le_right _ _
      have hD2 : min (dpC b) 65 ≤ 65 := Nat.min_le_right _ _
      generalize wt a = sa at *
      generalize wt b = sb at *
      generalize min (dpC a) 65 = da at *
      generalize min (dpC b) 65 = db at *
      generalize crightE a = ra at *
      generalize crightE b = rb at *
      generalize crightE (andC a b) = rc at *
      generalize andC a b = cc at *
      generalize notC a = cn at *
      have hw1 : IntKind.i64.wrap ((sa : Int) + (sb : Int)) = (sa : Int) + (sb : Int) := by rw [IntKind.wrap_i64]; omega
      have hw2 : IntKind.i64.wrap ((sa : Int) + (sb : Int) + 1) = (sa : Int) + (sb : Int) + 1 := by rw [IntKind.wrap_i64]; omega
      have hw3 : IntKind.i64.wrap ((sa : Int) + 1) = (sa : Int) + 1 := by rw [IntKind.wrap_i64]; omega
      have hw4 : IntKind.i64.wrap (max (da : Int) (db : Int) + 1) = max (da : Int) (db : Int) + 1 := by rw [IntKind.wrap_i64]; omega
      generalize opC a = oA at *
      generalize nmC a = mA at *
      generalize soC a = pA at *
      generalize opC b = oB at *
      generalize nmC b = mB at *
      generalize soC b = pB at *
      go_enter Tryz.func4, Tryz.ntmps4
      go_wp2_with (first
        | (go_at_call 5; (first | ((with_reducible refine (zA _ (by assumption)).mono ?_); rintro e wX ⟨rfl, hbX⟩; have Bz := bel_trans (a := W) (by assumption) hbX; obtain ⟨a0, a1, a2, a3, a4⟩ := (CBox.b HSA.out Bz).five; obtain ⟨b0, b1, b2, b3, b4⟩ := (CBox.b HSB.out Bz).five; replace zA := True.intro) | ((with_reducible refine (zB _ (by assumption)).mono ?_); rintro e wX ⟨rfl, hbX⟩; have Bz := bel_trans (a := W) (by assumption) hbX; obtain ⟨a0, a1, a2, a3, a4⟩ := (CBox.b HSA.out Bz).five; obtain ⟨b0, b1, b2, b3, b4⟩ := (CBox.b HSB.out Bz).five)))
        | (go_at_call 13; ((with_reducible refine (cAnd _ (by assumption)).mono ?_); rintro e w5 ⟨K0, K1, K2, A2, N2, C2, rfl, hA5, hb5⟩; have HA5 := Lib.hid hA5; clear hA5; obtain ⟨W6, hW6, hB6, hs6, S6⟩ := cbox1 w5 0 ⟨#[]⟩ ⟨#[]⟩ SS.nil none 0 0; dsimp only [SS.nil] at hW6 S6; obtain ⟨f0, f1, f2, f3, f4⟩ := S6.free; obtain ⟨e0, e1, e2, e3, e4⟩ := S6.five; have S7 := CBox.put S6 (opC cc) (nmC cc) (soC cc) ⟨K0, K1, K2⟩ A2 N2 C2; have B57 := put5_below hB6 (Nat.le_refl _) (.int .i64 (opC cc)) (.string (nmC cc)) (.string (soC cc)) (.slice K0 K1 K2) (.slice A2 N2 C2); obtain ⟨W7, hW7⟩ : ∃ W7, put5 W6 w5.heap.size (.int .i64 (opC cc)) (.string (nmC cc)) (.string (soC cc)) (.slice K0 K1 K2) (.slice A2 N2 C2) = W7 := ⟨_, rfl⟩; dsimp only at S7; rw [hW7] at S7 B57; unfold put5 at hW7; have B7 : Below W.heap.size W W7 := bel_trans (bel_trans (bel_alloc Bz _) hb5) B57; have HA7 := Lib.hid (ArWC.b HA5.out B57); have HS7 := Lib.hid S7; clear S6 S7)))
      try simp only [hW7]
      have HQ := Lib.hid (show ∀ (w' : World), Below W7.heap.size W7 w' → w'.cell? ⟨w.heap.size, 0, none⟩ = some (.int .i64 oA) ∧ w'.cell? ⟨w.heap.size, 1, none⟩ = some (.string mA) ∧ w'.cell? ⟨w.heap.size, 2, none⟩ = some (.string pA) ∧ w'.cell? ⟨w.heap.size, 3, none⟩ = some (.slice kAa kAn kAc) ∧ w'.cell? ⟨w.heap.size, 4, none⟩ = some (.slice aA nA cA) ∧ w'.cell? ⟨w.heap.size + 1, 0, none⟩ = some (.int .i64 oB) ∧ w'.cell? ⟨w.heap.size + 1, 1, none⟩ = some (.string mB) ∧ w'.cell? ⟨w.heap.size + 1, 2, none⟩ = some (.string pB) ∧ w'.cell? ⟨w.heap.size + 1, 3, none⟩ = some (.slice kBa kBn kBc) ∧ w'.cell? ⟨w.heap.size + 1, 4, none⟩ = some (.slice aB nB cB) ∧ w'.cell? ⟨w5.heap.size, 0, none⟩ = some (.int .i64 (opC cc)) ∧ w'.cell? ⟨w5.heap.size, 1, none⟩ = some (.string (nmC cc)) ∧ w'.cell? ⟨w5.heap.size, 2, none⟩ = some (.string (soC cc)) ∧ w'.cell? ⟨w5.heap.size, 3, none⟩ = some (.slice K0 K1 K2) ∧ w'.cell? ⟨w5.heap.size, 4, none⟩ = some (.slice A2 N2 C2) from fun w' h => (by
        obtain ⟨q0, q1, q2, q3, q4⟩ := (CBox.b HSA.out (bel_trans B7 h)).five
        obtain ⟨t0, t1, t2, t3, t4⟩ := (CBox.b HSB.out (bel_trans B7 h)).five
        obtain ⟨p0, p1, p2, p3, p4⟩ := (CBox.b HS7.out h).five
        exact ⟨q0, q1, q2, q3, q4, t0, t1, t2, t3, t4, p0, p1, p2, p3, p4⟩))
      clear cAnd hW7 hW6 zA zB f0 f1 f2 f3 f4 e0 e1 e2 e3 e4
      obtain ⟨y0, y1, y2, y3, y4, z0, z1, z2, z3, z4, x0, x1, x2, x3, x4⟩ := HQ.out _ (Below.refl _ _)
      go_region_held3 (fun w' => w'.cell? ⟨w.heap.size, 0, none⟩ = some (.int .i64 oA) ∧ w'.cell? ⟨w.heap.size, 1, none⟩ = some (.string mA) ∧ w'.cell? ⟨w.heap.size, 2, none⟩ = some (.string pA) ∧ w'.cell? ⟨w.heap.size, 3, none⟩ = some (.slice kAa kAn kAc) ∧ w'.cell? ⟨w.heap.size, 4, none⟩ = some (.slice aA nA cA) ∧ w'.cell? ⟨w.heap.size + 1, 0, none⟩ = some (.int .i64 oB) ∧ w'.cell? ⟨w.heap.size + 1, 1, none⟩ = some (.string mB) ∧ w'.cell? ⟨w.heap.size + 1, 2, none⟩ = some (.string pB) ∧ w'.cell? ⟨w.heap.size + 1, 3, none⟩ = some (.slice kBa kBn kBc) ∧ w'.cell? ⟨w.heap.size + 1, 4, none⟩ = some (.slice aB nB cB) ∧ w'.cell? ⟨w5.heap.size, 0, none⟩ = some (.int .i64 (opC cc)) ∧ w'.cell? ⟨w5.heap.size, 1, none⟩ = some (.string (nmC cc)) ∧ w'.cell? ⟨w5.heap.size, 2, none⟩ = some (.string (soC cc)) ∧ w'.cell? ⟨w5.heap.size, 3, none⟩ = some (.slice K0 K1 K2) ∧ w'.cell? ⟨w5.heap.size, 4, none⟩ = some (.slice A2 N2 C2))
        (first | (exact HQ.out _ (by first | assumption | exact Below.drew (by assumption) | exact Below.refl _ _ | exact (Below.refl _ _).drew)) | go_keep)
        (first
          | (go_at_call 11; (first | ((with_reducible refine (cDA _ (bel_trans B7 (by first | assumption | exact Below.drew (by assumption) | exact Below.refl _ _ | exact (Below.refl _ _).drew))).mono ?_); rintro e wX ⟨rfl, hbX⟩; have Bn : Below W7.heap.size W7 wX := bel_trans (by first | assumption | exact Below.drew (by assumption) | exact Below.refl _ _ | exact (Below.refl _ _).drew) hbX) | ((with_reducible refine (cDB _ (bel_trans B7 (by first | assumption | exact Below.drew (by assumption) | exact Below.refl _ _ | exact (Below.refl _ _).drew))).mono ?_); rintro e wX ⟨rfl, hbX⟩; have Bn : Below W7.heap.size W7 wX := bel_trans (by first | assumption | exact Below.drew (by assumption) | exact Below.refl _ _ | exact (Below.refl _ _).drew) hbX))))
      all_goals go_wp2_with fail
      all_goals (
        clear cDA cDB
        generalize hdc : min (max (da : Int) (db : Int) + 1) 65 = dc at *
        clear hdc
        obtain ⟨y0, y1, y2, y3, y4, z0, z1, z2, z3, z4, x0, x1, x2, x3, x4⟩ := HQ.out _ Bn
        go_region_held3 (fun w' => w'.cell? ⟨w.heap.size, 0, none⟩ = some (.int .i64 oA) ∧ w'.cell? ⟨w.heap.size, 1, none⟩ = some (.string mA) ∧ w'.cell? ⟨w.heap.size, 2, none⟩ = some (.string pA) ∧ w'.cell? ⟨w.heap.size, 3, none⟩ = some (.slice kAa kAn kAc) ∧ w'.cell? ⟨w.heap.size, 4, none⟩ = some (.slice aA nA cA) ∧ w'.cell? ⟨w.heap.size + 1, 0, none⟩ = some (.int .i64 oB) ∧ w'.cell? ⟨w.heap.size + 1, 1, none⟩ = some (.string mB) ∧ w'.cell? ⟨w.heap.size + 1, 2, none⟩ = some (.string pB) ∧ w'.cell? ⟨w.heap.size + 1, 3, none⟩ = some (.slice kBa kBn kBc) ∧ w'.cell? ⟨w.heap.size + 1, 4, none⟩ = some (.slice aB nB cB) ∧ w'.cell? ⟨w5.heap.size, 0, none⟩ = some (.int .i64 (opC cc)) ∧ w'.cell? ⟨w5.heap.size, 1, none⟩ = some (.string (nmC cc)) ∧ w'.cell? ⟨w5.heap.size, 2, none⟩ = some (.string (soC cc)) ∧ w'.cell? ⟨w5.heap.size, 3, none⟩ = some (.slice K0 K1 K2) ∧ w'.cell? ⟨w5.heap.size, 4, none⟩ = some (.slice A2 N2 C2))
          (first | (exact HQ.out _ (by first | assumption | exact Below.drew (by assumption) | exact Below.refl _ _ | exact (Below.refl _ _).drew)) | go_keep)
          (first
            | (go_at_call 9; (first | ((with_reducible refine (cSA _ (bel_trans B7 (by first | assumption | exact Below.drew (by assumption) | exact Below.refl _ _ | exact (Below.refl _ _).drew))).mono ?_); rintro e wX ⟨rfl, hbX⟩; have Bn : Below W7.heap.size W7 wX := bel_trans (by first | assumption | exact Below.drew (by assumption) | exact Below.refl _ _ | exact (Below.refl _ _).drew) hbX; (try (have HX9 := Lib.hid (ArWC.b HX9.out (by first | exact hbX | exact bel_trans ((Below.refl _ _).drew) hbX))))) | ((with_reducible refine (cSB _ (bel_trans B7 (by first | assumption | exact Below.drew (by assumption) | exact Below.refl _ _ | exact (Below.refl _ _).drew))).mono ?_); rintro e wX ⟨rfl, hbX⟩; have Bn : Below W7.heap.size W7 wX := bel_trans (by first | assumption | exact Below.drew (by assumption) | exact Below.refl _ _ | exact (Below.refl _ _).drew) hbX; (try (have HX9 := Lib.hid (ArWC.b HX9.out (by first | exact hbX | exact bel_trans ((Below.refl _ _).drew) hbX))))) | ((with_reducible refine (cSC _ _ _ _ _ _ _ (ArWC.b HA7.out (by first | assumption | exact Below.drew (by assumption) | exact Below.refl _ _ | exact (Below.refl _ _).drew))).mono ?_); rintro e wX ⟨rfl, hbX⟩; have Bn : Below W7.heap.size W7 wX := bel_trans (by first | assumption | exact Below.drew (by assumption) | exact Below.refl _ _ | exact (Below.refl _ _).drew) hbX; (try (have HX9 := Lib.hid (ArWC.b HX9.out (by first | exact hbX | exact bel_trans ((Below.refl _ _).drew) hbX))))) | ((with_reducible refine (cSN _ _ _ _ _ _ _ (by first | exact HX9.out | exact ArWC.b HX9.out (Below.refl _ _).drew)).mono ?_); rintro e wX ⟨rfl, hbX⟩; have Bn : Below W7.heap.size W7 wX := bel_trans (by first | assumption | exact Below.drew (by assumption) | exact Below.refl _ _ | exact (Below.refl _ _).drew) hbX)))
            | (go_at_call 11; ((with_reducible refine (cDC _ _ _ _ _ _ _ (ArWC.b HA7.out (by first | assumption | exact Below.drew (by assumption) | exact Below.refl _ _ | exact (Below.refl _ _).drew))).mono ?_); rintro e wX ⟨rfl, hbX⟩; have Bn : Below W7.heap.size W7 wX := bel_trans (by first | assumption | exact Below.drew (by assumption) | exact Below.refl _ _ | exact (Below.refl _ _).drew) hbX; (try (have HX9 := Lib.hid (ArWC.b HX9.out (by first | exact hbX | exact bel_trans ((Below.refl _ _).drew) hbX))))))
            | (go_at_call 14; ((with_reducible refine (cNot _ (bel_trans B7 (by first | assumption | exact Below.drew (by assumption) | exact Below.refl _ _ | exact (Below.refl _ _).drew))).mono ?_); rintro e wX ⟨K90, K91, K92, A9, N9, C9, rfl, hX, hbX⟩; have Bn : Below W7.heap.size W7 wX := bel_trans (by first | assumption | exact Below.drew (by assumption) | exact Below.refl _ _ | exact (Below.refl _ _).drew) hbX; have HX9 := Lib.hid hX; clear hX)))
        all_goals clear cSA cSB cSC cSN cNot cDC
        all_goals go_wp2_with fail
        all_goals obtain ⟨y0, y1, y2, y3, y4, z0, z1, z2, z3, z4, x0, x1, x2, x3, x4⟩ := HQ.out _ Bn
        all_goals by_cases hra : ra = 0
        all_goals by_cases hrb : rb = 0
        all_goals by_cases hdl : dc ≤ 64
        all_goals first
          | (have p1 : (ra == 0) = true := by rw [hra]; rfl
             first
               | (have p2 : (rb == 0) = true := by rw [hrb]; rfl
                  first
                    | (have p3 : decide (dc ≤ 64) = true := decide_eq_true hdl
                       rw [p1, p2, p3] at hrt
                       have p4 : (rc == 0) = true := hrt)
                    | (have p3 : decide (dc ≤ 64) = false := decide_eq_false hdl
                       rw [p1, p2, p3] at hrt
                       have p4 : (rc == 0) = false := hrt))
               | (have p2 : (rb == 0) = false := beq_no' hrb
                  rw [p1, p2] at hrt
                  have p4 : (rc == 0) = false := hrt))
          | (have p1 : (ra == 0) = false := beq_no' hra
             rw [p1] at hrt
             have p4 : (rc == 0) = false := hrt)
        all_goals clear hra hrb hdl hrt
        all_goals go_wp2_with (first
          | (go_at_call 7; (first | ((with_reducible refine (cRA _ (bel_trans B7 (by first | assumption | exact Below.drew (by assumption) | exact Below.refl _ _ | exact (Below.refl _ _).drew))).mono ?_); rintro e wX ⟨rfl, hbX⟩; have Bn : Below W7.heap.size W7 wX := bel_trans (by first | assumption | exact Below.drew (by assumption) | exact Below.refl _ _ | exact (Below.refl _ _).drew) hbX; obtain ⟨y0, y1, y2, y3, y4, z0, z1, z2, z3, z4, x0, x1, x2, x3, x4⟩ := HQ.out _ Bn) | ((with_reducible refine (cRB _ (bel_trans B7 (by first | assumption | exact Below.drew (by assumption) | exact Below.refl _ _ | exact (Below.refl _ _).drew))).mono ?_); rintro e wX ⟨rfl, hbX⟩; have Bn : Below W7.heap.size W7 wX := bel_trans (by first | assumption | exact Below.drew (by assumption) | exact Below.refl _ _ | exact (Below.refl _ _).drew) hbX; obtain ⟨y0, y1, y2, y3, y4, z0, z1, z2, z3, z4, x0, x1, x2, x3, x4⟩ := HQ.out _ Bn) | ((with_reducible refine (cRC _ _ _ _ _ _ _ (ArWC.b HA7.out (by first | assumption | exact Below.drew (by assumption) | exact Below.refl _ _ | exact (Below.refl _ _).drew))).mono ?_); rintro e wX ⟨rfl, hbX⟩; have Bn : Below W7.heap.size W7 wX := bel_trans (by first | assumption | exact Below.drew (by assumption) | exact Below.refl _ _ | exact (Below.refl _ _).drew) hbX)))
          | (go_at_call 6; ((with_reducible refine (g0 _).mono ?_); rintro e wX ⟨rfl, hbX⟩; have Bn : Below W7.heap.size W7 wX := bel_trans (by first | assumption | exact Below.drew (by assumption) | exact Below.refl _ _ | exact (Below.refl _ _).drew) hbX)))
        all_goals go_ret
        all_goals exact ⟨rfl, bel_trans hB0 (bel_trans (a := W) B7 Bn)⟩)
    · have p2 : decide (400 < wtTo 400 b) = true := decide_eq_true (by omega)
      rw [p2] at zB
      obtain ⟨kAa, kAn, kAc⟩ := kA
      obtain ⟨kBa, kBn, kBc⟩ := kB
      dsimp only at *
      clear SA SB gA gB HA HB hs q1 q2 p1 p2
      generalize opC a = oA at *
      generalize nmC a = mA at *
      generalize soC a = pA at *
      generalize opC b = oB at *
      generalize nmC b = mB at *
      generalize soC b = pB at *
      go_enter Tryz.func4, Tryz.ntmps4
      go_wp2_with (first
        | (go_at_call 5; (first | ((with_reducible refine (zA _ (by assumption)).mono ?_); rintro e wX ⟨rfl, hbX⟩; have Bz := bel_trans (a := W) (by assumption) hbX; obtain ⟨a0, a1, a2, a3, a4⟩ := (CBox.b HSA.out Bz).five; obtain ⟨b0, b1, b2, b3, b4⟩ := (CBox.b HSB.out Bz).five; replace zA := True.intro) | ((with_reducible refine (zB _ (by assumption)).mono ?_); rintro e wX ⟨rfl, hbX⟩; have Bz := bel_trans (a := W) (by assumption) hbX; obtain ⟨a0, a1, a2, a3, a4⟩ := (CBox.b HSA.out Bz).five; obtain ⟨b0, b1, b2, b3, b4⟩ := (CBox.b HSB.out Bz).five)))
        | (go_at_call 6; ((with_reducible refine (g0 _).mono ?_); rintro e wX ⟨rfl, hbX⟩; have Bz := bel_trans (a := W) (by assumption) hbX)))
      go_ret
      exact ⟨rfl, bel_trans hB0 Bz⟩
  · have p1 : decide (400 < wtTo 400 a) = true := decide_eq_true (by omega)
    rw [p1] at zA
    obtain ⟨kAa, kAn, kAc⟩ := kA
    obtain ⟨kBa, kBn, kBc⟩ := kB
    dsimp only at *
    clear SA SB gA gB HA HB hs q1 p1 zB
    generalize opC a = oA at *
    generalize nmC a = mA at *
    generalize soC a = pA at *
    generalize opC b = oB at *
    generalize nmC b = mB at *
    generalize soC b = pB at *
    go_enter Tryz.func4, Tryz.ntmps4
    go_wp2_with (first
      | (go_at_call 5; (first | ((with_reducible refine (zA _ (by assumption)).mono ?_); rintro e wX ⟨rfl, hbX⟩; have Bz := bel_trans (a := W) (by assumption) hbX; obtain ⟨a0, a1, a2, a3, a4⟩ := (CBox.b HSA.out Bz).five; obtain ⟨b0, b1, b2, b3, b4⟩ := (CBox.b HSB.out Bz).five; replace zA := True.intro) | ((with_reducible refine (zB _ (by assumption)).mono ?_); rintro e wX ⟨rfl, hbX⟩; have Bz := bel_trans (a := W) (by assumption) hbX; obtain ⟨a0, a1, a2, a3, a4⟩ := (CBox.b HSA.out Bz).five; obtain ⟨b0, b1, b2, b3, b4⟩ := (CBox.b HSB.out Bz).five)))
      | (go_at_call 6; ((with_reducible refine (g0 _).mono ?_); rintro e wX ⟨rfl, hbX⟩; have Bz := bel_trans (a := W) (by assumption) hbX)))
    go_ret
    exact ⟨rfl, bel_trans hB0 Bz⟩
theorem claimSizes (x y : ClV) (w : World) (hx : ArWC w x.t x.k x.a x.n x.c) (hy : ArWC w y.t y.k y.a y.n y.c) :
    Calls Tryz.prog 4 #[x.val, y.val] w fun e w' => e = .returned (.bool true) ∧ Below w.heap.size w w' :=
  sizesB x.t y.t x.k x.a x.n x.c y.k y.a y.n y.c w hx hy
end Go.Proofs.YtjjoebijkcmgiaaGreat.Cs
