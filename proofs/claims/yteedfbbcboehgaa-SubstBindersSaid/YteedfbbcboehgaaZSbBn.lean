/-
  What is proved: the law over substitutions in claims that differ in binders' names only.
-/
import Derived.Test.YteedfbbcboehgaaZSbAc
import Derived.Test.YteedfbbcboehgaaZSbCo
import Derived.Test.YteedfbbcboehgaaZSbRg
import Derived.Test.YteedfbbcboehgaaZSbNm
import Derived.Test.YteedfbbcboehgaaZSbV
import Derived.Test.YteedfbbcboehgaaZSbW
import Derived.Test.YteedfbbcboehgaaBM
import Derived.Test.YteedfbbcboehgaaZClmQ
import Derived.Test.YteedfbbcboehgaaBC
import Derived.Test.YteedfbbcboehgaaZLibV
namespace Go.Proofs.Yteedfbbcboehgaa.U
open Go.RowKit L T C B
set_option linter.unusedVariables false
set_option linter.unusedSimpArgs false

theorem bn_named (t : Cl) (W : World) (kA : SS) (aA : Option Addr) (nA cA : Nat) (A3 : Option Addr) (n3 c3 : Nat) (X : List ByteArray) (hw : wt t ≤ 60) (hA : ArWC W t kA aA nA cA) (hX : SlS W A3 n3 c3 X) (hn3 : n3 ≤ 9223372036854775807) (w' : World) (h : Below W.heap.size W w') :
    Calls Try.prog 51 #[.agg #[.int .i64 (opC t), .string (nmC t), .string (soC t), .slice kA.a kA.n kA.c, .slice aA nA cA], .slice A3 n3 c3] w' fun e w1 => ∃ (d : Cl) (K0 : Option Addr) (K1 K2 : Nat) (A2 : Option Addr) (N2 C2 : Nat) (A4 : Option Addr) (n4 c4 : Nat), e = .returned (.tuple #[.agg #[.int .i64 (opC d), .string (nmC d), .string (soC d), .slice K0 K1 K2, .slice A2 N2 C2], .slice A4 n4 c4]) ∧ liC t d ∧ ArWC w1 d ⟨K0, K1, K2⟩ A2 N2 C2 ∧ Below w'.heap.size w' w1 := by
  refine (named_any W t kA aA nA cA A3 n3 c3 X w' (by omega) hA hX hn3 h h.size).mono ?_
  rintro e w1 ⟨d, K0, K1, K2, A2, N2, C2, A4, n4, c4, X4, rfl, hd, hA5, hX4, hM4, hb5⟩
  exact ⟨d, K0, K1, K2, A2, N2, C2, A4, n4, c4, rfl, hd, ArCP.ar (fun b hb => by have := h.size; have := hb5.size; unfold OldNew at hb; omega) d hA5, hb5⟩
theorem bn_apply (l : List Pr) (hs : smallU l = true) (hsm : smU l) (t : Cl) (hst : smC t) (hw : wt t ≤ 60) (A : Option Addr) (n c : Nat) (kA : SS) (aA : Option Addr) (nA cA : Nat) (w' : World) (hU : UsW w' A n c l) (hA : ArWC w' t kA aA nA cA) :
    Calls Try.prog 47 #[.slice A n c, .agg #[.int .i64 (opC t), .string (nmC t), .string (soC t), .slice kA.a kA.n kA.c, .slice aA nA cA]] w' fun e w1 => ∃ K5 K6 K7 A5 N5 C5, e = .returned (.agg #[.int .i64 (opC (sbCl l 0 t)), .string (nmC (sbCl l 0 t)), .string (soC (sbCl l 0 t)), .slice K5 K6 K7, .slice A5 N5 C5]) ∧ ArWC w1 (sbCl l 0 t) ⟨K5, K6, K7⟩ A5 N5 C5 ∧ Below w'.heap.size w' w1 := by
  obtain ⟨h1, h2⟩ := smallU_of hs
  exact (ApplyClaim_any l (fun p hp => by have := h2 p hp; omega) (fun p hp => (hsm p hp).2) (by unfold maxLen; omega) t hst (by omega) A n c kA aA nA cA w' hU hA).mono fun e w1 h => (by obtain ⟨ka, kn, kc, a, n, c, e1, hA, hb⟩ := h; exact ⟨ka, kn, kc, a, n, c, e1, ArCP.ar (fun b hb => by unfold Nw at hb; omega) _ hA, hb⟩)
set_option maxRecDepth 100000 in
set_option maxHeartbeats 16000000 in
theorem bindersB (l : List Pr) (A : Option Addr) (n c : Nat) (t : Cl) (kA : SS) (aA : Option Addr) (nA cA : Nat) (A3 : Option Addr) (n3 c3 : Nat) (X : List ByteArray) (w : World) (H : UsW w A n c l) (hsm : smU l) (HA : ArWC w t kA aA nA cA) (hst : smC t) (hn3 : n3 ≤ 9223372036854775807) (hX : SlS w A3 n3 c3 X) :
    Calls Try.prog 11 #[.slice A n c, .agg #[.int .i64 (opC t), .string (nmC t), .string (soC t), .slice kA.a kA.n kA.c, .slice aA nA cA], .slice A3 n3 c3] w fun e w' => e = .returned (.bool true) ∧ Below w.heap.size w w' := by
  obtain ⟨W, hW, hB0, hs, SA⟩ := cbox1 w (opC t) (nmC t) (soC t) kA aA nA cA
  have gA := ArWC.b HA hB0
  have gU := UsW.b H hB0
  have gX : SlS W A3 n3 c3 X := ⟨hX.1.below hB0, hX.2⟩
  have g0 := fun (w' : World) => goes_any w'
  have z1 := fun (w' : World) (h : Below W.heap.size W w') => SmallU_any l A n c w' (UsW.b gU h)
  have zA := fun (w' : World) (h : Below W.heap.size W w') => Big_any t kA aA nA cA 60 w' (by omega) (ArWC.b gA h)
  rw [show ((60 : Nat) : Int) = 60 from rfl] at zA
  have HR := Lib.hid (show wtTo 60 t ≤ 60 → ∀ (w' : World), Below W.heap.size W w' → Calls Try.prog 45 #[.slice A n c, .agg #[.int .i64 (opC t), .string (nmC t), .string (soC t), .slice kA.a kA.n kA.c, .slice aA nA cA]] w' fun e w1 => ∃ b : Bool, e = .returned (.bool b) ∧ Below w'.heap.size w' w1 from fun h w' hb =>
    (right10_any l t (by have := wtTo_le t 60 h; omega) A n c kA aA nA cA w' (UsW.b gU hb) (ArWC.b gA hb)).mono fun e w1 h => (by obtain ⟨b, e1, _, e3⟩ := h; exact ⟨b, e1, e3⟩))
  have HN := Lib.hid (show wtTo 60 t ≤ 60 → _ from fun h => bn_named t W kA aA nA cA A3 n3 c3 X (by have := wtTo_le t 60 h; omega) gA gX hn3)
  have HP := Lib.hid (show smallU l = true → wtTo 60 t ≤ 60 → ∀ (w' : World), Below W.heap.size W w' → _ from fun hu h w' hb => bn_apply l hu hsm t hst (by have := wtTo_le t 60 h; omega) A n c kA aA nA cA w' (UsW.b gU hb) (ArWC.b gA hb))
  have HD := Lib.hid (show smallU l = true → wtTo 60 t ≤ 60 → ∀ (d : Cl), liC t d → ∀ (K0 : Option Addr) (K1 K2 : Nat) (A2 : Option Addr) (N2 C2 : Nat) (w' : World), Below W.heap.size W w' → ArWC w' d ⟨K0, K1, K2⟩ A2 N2 C2 → _ from fun hu h d hd K0 K1 K2 A2 N2 C2 w' hb hA => bn_apply l hu hsm d (li_sm hd hst) (by have := wtTo_le t 60 h; have := li_wt hd; omega) A n c ⟨K0, K1, K2⟩ A2 N2 C2 w' (UsW.b gU hb) hA)
  have HE := Lib.hid (show ∀ (d : Cl), liC t d → ∀ (K0 : Option Addr) (K1 K2 : Nat) (A2 : Option Addr) (N2 C2 : Nat) (V0 : Option Addr) (V1 V2 : Nat) (A7 : Option Addr) (N7 C7 : Nat) (w' : World), ArWC w' (sbCl l 0 t) ⟨K0, K1, K2⟩ A2 N2 C2 → ArWC w' (sbCl l 0 d) ⟨V0, V1, V2⟩ A7 N7 C7 → Calls Try.prog 52 #[.agg #[.int .i64 (opC (sbCl l 0 t)), .string (nmC (sbCl l 0 t)), .string (soC (sbCl l 0 t)), .slice K0 K1 K2, .slice A2 N2 C2], .agg #[.int .i64 (opC (sbCl l 0 d)), .string (nmC (sbCl l 0 d)), .string (soC (sbCl l 0 d)), .slice V0 V1 V2, .slice A7 N7 C7]] w' fun e w1 => e = .returned (.bool true) ∧ Below w'.heap.size w' w1 from fun d hd K0 K1 K2 A2 N2 C2 V0 V1 V2 A7 N7 C7 w' h h' =>
    (Claim_any (sbCl l 0 t) (sbCl l 0 d) ⟨K0, K1, K2⟩ A2 N2 C2 ⟨V0, V1, V2⟩ A7 N7 C7 w' h h').mono fun e w1 h => (by rw [li_eq (li_sb l hd)] at h; exact h))
  have HSA := Lib.hid SA
  obtain ⟨a0, a1, a2, a3, a4⟩ := SA.five
  have hBd : Below W.heap.size W W := Below.refl _ _
  have ls : w.heap.size < W.heap.size := by omega
  obtain ⟨kAa, kAn, kAc⟩ := kA
  dsimp only at *
  clear SA gA gU gX HA H hX hs hst hsm
  generalize smallU l = s1 at *
  generalize wtTo 60 t = tA at *
  generalize sbCl l 0 t = r1 at *
  generalize hop : opC t = oA at *
  generalize hnm : nmC t = mA at *
  generalize hso : soC t = pA at *
  clear hop hnm hso
  cases s1 with
  | false =>
    clear HR HN HP HD HE zA
    go_enter Try.func11, Try.ntmps11
    go_wp2_with (first
      | (go_at_call 31; ((with_reducible refine (z1 _ (by assumption)).mono ?_); rintro e wX ⟨rfl, hbX⟩; have Bz := bel_trans (a := W) (by assumption) hbX; obtain ⟨a0, a1, a2, a3, a4⟩ := (CBox.b HSA.out Bz).five))
      | (go_at_call 32; ((with_reducible refine (g0 _).mono ?_); rintro e wX ⟨rfl, hbX⟩; have Bz := bel_trans (a := W) (by first | assumption | exact Below.drew (by assumption) | exact Below.refl _ _ | exact (Below.refl _ _).drew) hbX)))
    go_ret
    exact ⟨rfl, bel_trans hB0 Bz⟩
  | true =>
    by_cases q2 : tA ≤ 60
    · have p2 : decide (60 < tA) = false := decide_eq_false (by omega)
      rw [p2] at zA
      have cR := HR.out q2
      have cN := HN.out q2
      have c1 := HP.out rfl q2
      have cD := HD.out rfl q2
      clear HR HN HP HD p2
      go_enter Try.func11, Try.ntmps11
      go_wp2_with (first
        | (go_at_call 31; ((with_reducible refine (z1 _ (by assumption)).mono ?_); rintro e wX ⟨rfl, hbX⟩; have Bz := bel_trans (a := W) (by assumption) hbX; obtain ⟨a0, a1, a2, a3, a4⟩ := (CBox.b HSA.out Bz).five))
        | (go_at_call 42; ((with_reducible refine (zA _ (by assumption)).mono ?_); rintro e wX ⟨rfl, hbX⟩; have Bz := bel_trans (a := W) (by assumption) hbX; obtain ⟨a0, a1, a2, a3, a4⟩ := (CBox.b HSA.out Bz).five))
        | (go_at_call 45; ((with_reducible refine (cR _ (by assumption)).mono ?_); rintro e wX ⟨b9, rfl, hbX⟩; have Bz := bel_trans (a := W) (by assumption) hbX; obtain ⟨a0, a1, a2, a3, a4⟩ := (CBox.b HSA.out Bz).five)))
      · clear cN c1 cD HE
        go_wp2_with (go_at_call 32; ((with_reducible refine (g0 _).mono ?_); rintro e wX ⟨rfl, hbX⟩; have Bz := bel_trans (a := W) (by first | assumption | exact Below.drew (by assumption) | exact Below.refl _ _ | exact (Below.refl _ _).drew) hbX))
        go_ret
        exact ⟨rfl, bel_trans hB0 Bz⟩
      ·
        go_wp2_with (go_at_call 51; ((with_reducible refine (cN _ (by assumption)).mono ?_); rintro e w5 ⟨d, K0, K1, K2, A2, N2, C2, A4, n4, c4, rfl, hd, hA5, hb5⟩; have HA5 := Lib.hid hA5; have Hd := Lib.hid hd; clear hA5 hd; obtain ⟨W6, hW6, hB6, hs6, S6⟩ := cbox1 w5 0 ⟨#[]⟩ ⟨#[]⟩ SS.nil none 0 0; dsimp only [SS.nil] at hW6 S6; obtain ⟨f0, f1, f2, f3, f4⟩ := S6.free; obtain ⟨e0, e1, e2, e3, e4⟩ := S6.five; have S7 := CBox.put S6 (opC d) (nmC d) (soC d) ⟨K0, K1, K2⟩ A2 N2 C2; have B57 := put5_below hB6 (Nat.le_refl _) (.int .i64 (opC d)) (.string (nmC d)) (.string (soC d)) (.slice K0 K1 K2) (.slice A2 N2 C2); obtain ⟨W7, hW7⟩ : ∃ W7, put5 W6 w5.heap.size (.int .i64 (opC d)) (.string (nmC d)) (.string (soC d)) (.slice K0 K1 K2) (.slice A2 N2 C2) = W7 := ⟨_, rfl⟩; dsimp only at S7; rw [hW7] at S7 B57; unfold put5 at hW7; have B7 := bel_trans (bel_trans Bz hb5) B57; have HA7 := Lib.hid (ArWC.b HA5.out B57); have HS7 := Lib.hid S7; have cE := HE.out d Hd.out; have c2 := fun (w' : World) (h : Below W7.heap.size W7 w') => cD d Hd.out K0 K1 K2 A2 N2 C2 w' (bel_trans B7 h) (ArWC.b HA7.out h); have c3 := fun (w' : World) (h : Below W7.heap.size W7 w') => c1 w' (bel_trans B7 h); clear S6 S7))
        try simp only [hW7]
        have HQ := Lib.hid (show ∀ (w' : World), Below W7.heap.size W7 w' → w'.cell? ⟨w.heap.size, 0, none⟩ = some (.int .i64 oA) ∧ w'.cell? ⟨w.heap.size, 1, none⟩ = some (.string mA) ∧ w'.cell? ⟨w.heap.size, 2, none⟩ = some (.string pA) ∧ w'.cell? ⟨w.heap.size, 3, none⟩ = some (.slice kAa kAn kAc) ∧ w'.cell? ⟨w.heap.size, 4, none⟩ = some (.slice aA nA cA) ∧ w'.cell? ⟨w5.heap.size, 0, none⟩ = some (.int .i64 (opC d)) ∧ w'.cell? ⟨w5.heap.size, 1, none⟩ = some (.string (nmC d)) ∧ w'.cell? ⟨w5.heap.size, 2, none⟩ = some (.string (soC d)) ∧ w'.cell? ⟨w5.heap.size, 3, none⟩ = some (.slice K0 K1 K2) ∧ w'.cell? ⟨w5.heap.size, 4, none⟩ = some (.slice A2 N2 C2) from fun w' h => (by
          obtain ⟨q0, q1, q2, q3, q4⟩ := (CBox.b HSA.out (bel_trans B7 h)).five
          obtain ⟨p0, p1, p2, p3, p4⟩ := (CBox.b HS7.out h).five
          exact ⟨q0, q1, q2, q3, q4, p0, p1, p2, p3, p4⟩))
        clear cD cR cN c1 hW7 hW6 HE f0 f1 f2 f3 f4 e0 e1 e2 e3 e4
        generalize sbCl l 0 d = r2 at *
        generalize opC d = oD at *
        generalize nmC d = mD at *
        generalize soC d = pD at *
        obtain ⟨x0, x1, x2, x3, x4, y0, y1, y2, y3, y4⟩ := HQ.out _ (Below.refl _ _)
        go_region_held3 (fun w' => w'.cell? ⟨w.heap.size, 0, none⟩ = some (.int .i64 oA) ∧ w'.cell? ⟨w.heap.size, 1, none⟩ = some (.string mA) ∧ w'.cell? ⟨w.heap.size, 2, none⟩ = some (.string pA) ∧ w'.cell? ⟨w.heap.size, 3, none⟩ = some (.slice kAa kAn kAc) ∧ w'.cell? ⟨w.heap.size, 4, none⟩ = some (.slice aA nA cA) ∧ w'.cell? ⟨w5.heap.size, 0, none⟩ = some (.int .i64 oD) ∧ w'.cell? ⟨w5.heap.size, 1, none⟩ = some (.string mD) ∧ w'.cell? ⟨w5.heap.size, 2, none⟩ = some (.string pD) ∧ w'.cell? ⟨w5.heap.size, 3, none⟩ = some (.slice K0 K1 K2) ∧ w'.cell? ⟨w5.heap.size, 4, none⟩ = some (.slice A2 N2 C2))
          (first | (exact HQ.out _ (by first | assumption | exact Below.drew (by assumption) | exact Below.refl _ _ | exact (Below.refl _ _).drew)) | go_keep)
          (first
            | (go_at_call 47; ((with_reducible refine (c3 _ (by first | assumption | exact Below.drew (by assumption) | exact Below.refl _ _ | exact (Below.refl _ _).drew)).mono ?_); rintro e wX ⟨K50, K51, K52, A5, N5, C5, rfl, hX, hbX⟩; have Bn : Below W7.heap.size W7 wX := bel_trans (by first | assumption | exact Below.drew (by assumption) | exact Below.refl _ _ | exact (Below.refl _ _).drew) hbX; (try (have HX5 := Lib.hid (ArWC.b HX5.out (by first | exact hbX | exact bel_trans ((Below.refl _ _).drew) hbX)))); (try (have HX7 := Lib.hid (ArWC.b HX7.out (by first | exact hbX | exact bel_trans ((Below.refl _ _).drew) hbX)))); have HX5 := Lib.hid hX; clear hX))
            | (go_at_call 47; ((with_reducible refine (c2 _ (by first | assumption | exact Below.drew (by assumption) | exact Below.refl _ _ | exact (Below.refl _ _).drew)).mono ?_); rintro e wX ⟨K70, K71, K72, A7, N7, C7, rfl, hX, hbX⟩; have Bn : Below W7.heap.size W7 wX := bel_trans (by first | assumption | exact Below.drew (by assumption) | exact Below.refl _ _ | exact (Below.refl _ _).drew) hbX; (try (have HX5 := Lib.hid (ArWC.b HX5.out (by first | exact hbX | exact bel_trans ((Below.refl _ _).drew) hbX)))); (try (have HX7 := Lib.hid (ArWC.b HX7.out (by first | exact hbX | exact bel_trans ((Below.refl _ _).drew) hbX)))); have HX7 := Lib.hid hX; clear hX))
            | (go_at_call 52; ((with_reducible refine (cE _ _ _ _ _ _ _ _ _ _ _ _ _ (by first | exact HX5.out | exact ArWC.b HX5.out (Below.refl _ _).drew) (by first | exact HX7.out | exact ArWC.b HX7.out (Below.refl _ _).drew)).mono ?_); rintro e wX ⟨rfl, hbX⟩; have Bn : Below W7.heap.size W7 wX := bel_trans (by first | assumption | exact Below.drew (by assumption) | exact Below.refl _ _ | exact (Below.refl _ _).drew) hbX))
            | (go_at_call 32; ((with_reducible refine (g0 _).mono ?_); rintro e wX ⟨rfl, hbX⟩; have Bn : Below W7.heap.size W7 wX := bel_trans (by first | assumption | exact Below.drew (by assumption) | exact Below.refl _ _ | exact (Below.refl _ _).drew) hbX)))
        all_goals go_wp2
        all_goals go_ret
        all_goals exact ⟨rfl, bel_trans hB0 (bel_trans (a := W) B7 Bn)⟩
    · have p2 : decide (60 < tA) = true := decide_eq_true (by omega)
      rw [p2] at zA
      clear HR HN HP HD HE p2
      go_enter Try.func11, Try.ntmps11
      go_wp2_with (first
        | (go_at_call 31; ((with_reducible refine (z1 _ (by assumption)).mono ?_); rintro e wX ⟨rfl, hbX⟩; have Bz := bel_trans (a := W) (by assumption) hbX; obtain ⟨a0, a1, a2, a3, a4⟩ := (CBox.b HSA.out Bz).five))
        | (go_at_call 42; ((with_reducible refine (zA _ (by assumption)).mono ?_); rintro e wX ⟨rfl, hbX⟩; have Bz := bel_trans (a := W) (by assumption) hbX; obtain ⟨a0, a1, a2, a3, a4⟩ := (CBox.b HSA.out Bz).five))
        | (go_at_call 32; ((with_reducible refine (g0 _).mono ?_); rintro e wX ⟨rfl, hbX⟩; have Bz := bel_trans (a := W) (by first | assumption | exact Below.drew (by assumption) | exact Below.refl _ _ | exact (Below.refl _ _).drew) hbX)))
      go_ret
      exact ⟨rfl, bel_trans hB0 Bz⟩
theorem substBinders (A : Option Addr) (n c : Nat) (l : List Pr) (z : ClV) (A3 : Option Addr) (n3 c3 : Nat) (X : List ByteArray) (w : World) (_ : n ≤ 9223372036854775807) (H : UsW w A n c l ∧ smU l) (HA : ArWC w z.t z.k z.a z.n z.c ∧ smC z.t) (h3 : n3 ≤ 9223372036854775807) (HX : SlS w A3 n3 c3 X ∧ sizedS X) :
    Calls Try.prog 11 #[.slice A n c, z.val, .slice A3 n3 c3] w fun e w' => e = .returned (.bool true) ∧ Below w.heap.size w w' :=
  bindersB l A n c z.t z.k z.a z.n z.c A3 n3 c3 X w H.1 H.2 HA.1 HA.2 h3 HX.1
end Go.Proofs.Yteedfbbcboehgaa.U
