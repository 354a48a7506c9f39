/-
  What is proved: the law over the loose numbers of what was opened with a term without loose numbers.
-/
import Derived.Test.YtokkafekdaniaaaRgtU
import Derived.Test.YtokkafekdaniaaaRgtF
import Derived.Test.YtokkafekdaniaaaRgtG
import Derived.Test.YtokkafekdaniaaaBndS
import Derived.Test.YtokkafekdaniaaaBndQ
import Derived.Test.YtokkafekdaniaaaClmO
import Derived.Test.YtokkafekdaniaaaTrmO
namespace Go.Proofs.Ytokkafekdaniaaa.B
open Go.RowKit L T C
set_option linter.unusedVariables false
set_option linter.unusedSimpArgs false

/-- what has been gathered of the loose numbers -/
def LessR (X : List Int) (W : World) (wr : World) (v : Value) (k : Nat) : Prop := OwnI wr W.heap.size v (less (X.take k)) ∧ Below W.heap.size W wr
set_option maxRecDepth 100000 in
set_option maxHeartbeats 16000000 in
theorem lessB (A : Cl) (B : Tm) (kA : SS) (aA aB : Option Addr) (nA cA nB cB : Nat) (w : World) (HA : ArWC w A kA aA nA cA) (HB : ArW w B aB nB cB) :
    Calls Try.prog 8 #[.agg #[.int .i64 (opC A), .string (nmC A), .string (soC A), .slice kA.a kA.n kA.c, .slice aA nA cA], .agg #[.int .i64 (opT B), .string (nameT B), .int .i64 (numT B), .slice aB nB cB]] w fun e w' => e = .returned (.bool true) ∧ Below w.heap.size w w' := by
  obtain ⟨W, hW, hB0, hs, SA, SB⟩ := lawBoxesR w (opC A) (nmC A) (soC A) kA aA nA cA (opT B) (nameT B) (numT B) aB nB cB
  have gA := ArWC.b HA hB0
  have gB := ArW.b HB hB0
  have g0 := fun (w' : World) => alive_any w'
  have zA := fun (w' : World) (h : Below W.heap.size W w') => Big_any A kA aA nA cA 200 w' (by omega) (ArWC.b gA h)
  have zB := fun (w' : World) (h : Below W.heap.size W w') => Size_any B aB nB cB 30 w' (by omega) (ArW.b gB h)
  rw [show ((200 : Nat) : Int) = 200 from rfl] at zA
  rw [show ((30 : Nat) : Int) = 30 from rfl] at zB
  have cR := fun (w' : World) (h : Below W.heap.size W w') => Right8C_any A kA aA nA cA w' (ArWC.b gA h)
  have cS := fun (w' : World) (h : Below W.heap.size W w') => SmallC_any A kA aA nA cA w' (ArWC.b gA h)
  have HL := Lib.hid (show szTo 30 B ≤ 30 → ∀ (w' : World), Below W.heap.size W w' → Calls Try.prog 51 #[.agg #[.int .i64 (opT B), .string (nameT B), .int .i64 (numT B), .slice aB nB cB]] w' fun e w1 => RtI (looseL (lone B)) w' e w1 from fun h w' hb => by
    have s2 := small_tR h
    exact refLooseTerm_any B aB nB cB w' (by omega) (ArW.b gB hb))
  have HX := Lib.hid (show wtTo 200 A ≤ 200 → ∀ (w' : World), Below W.heap.size W w' → Calls Try.prog 52 #[.agg #[.int .i64 (opC A), .string (nmC A), .string (soC A), .slice kA.a kA.n kA.c, .slice aA nA cA]] w' fun e w1 => RtI (looseL A) w' e w1 from fun h w' hb => by
    have s1 := small_cR h
    exact refLoose_any A kA aA nA cA w' (by omega) (ArWC.b gA hb))
  have HO := Lib.hid (show wtTo 200 A ≤ 200 → szTo 30 B ≤ 30 → ∀ (w' : World), Below W.heap.size W w' → Calls Try.prog 47 #[.agg #[.int .i64 (opC A), .string (nmC A), .string (soC A), .slice kA.a kA.n kA.c, .slice aA nA cA], .agg #[.int .i64 (opT B), .string (nameT B), .int .i64 (numT B), .slice aB nB cB]] w' fun e w1 => RvC (opC (wkC (fOpen B) 0 A)) (nmC (wkC (fOpen B) 0 A)) (soC (wkC (fOpen B) 0 A)) (wkC (fOpen B) 0 A) w' e w1 from fun h h2 w' hb => by
    have s1 := small_cR h
    have s2 := small_tR h2
    exact (Open_any A kA aA nA cA B aB nB cB w' (by omega) (by omega) (ArWC.b gA hb) (ArW.b gB hb)).mono fun e w1 h => h.rv)
  have HLo := Lib.hid (show wtTo 200 A ≤ 200 → szTo 30 B ≤ 30 → crightE A = 0 → smallC A = true → (looseL (lone B)).length = 0 → ∀ K0 K1 K2 A' N' C' (w' : World), ArWC w' (wkC (fOpen B) 0 A) ⟨K0, K1, K2⟩ A' N' C' → Calls Try.prog 54 #[.agg #[.int .i64 (opC (wkC (fOpen B) 0 A)), .string (nmC (wkC (fOpen B) 0 A)), .string (soC (wkC (fOpen B) 0 A)), .slice K0 K1 K2, .slice A' N' C']] w' fun e w1 => ∃ A1 n1 C1, e = .returned (.slice A1 n1 C1) ∧ NsW w1 A1 n1 C1 (less (looseL A)) ∧ Below w'.heap.size w' w1 from fun h h2 hr hsm hl K0 K1 K2 A' N' C' w' ha => by
    have s1 := small_cR h
    have s2 := small_tR h2
    have h3 := wt_open B A 0
    have h4 : wt A * size B ≤ 200 * 30 := Nat.mul_le_mul s1 s2
    rw [looseL_puts, lsC_lone] at hl
    exact (Loose_any _ ⟨K0, K1, K2⟩ A' N' C' w' (by omega) ha).mono fun e w1 h => by
      rw [loose_open (plain_right hr hsm) (lone_nil hl)] at h
      exact h.open)
  have HLen := Lib.hid (show wtTo 200 A ≤ 200 → (looseL A).length ≤ 200 from fun h => by have := small_cR h; have := loose_len A; omega)
  have HIn := Lib.hid (show ∀ k x, (looseL A)[k]? = some x → In64 x from fun k x h => looseL_in (List.mem_of_getElem? h))
  have cI := fun (Z : List Int) (A1 : Option Addr) (n1 c1 : Nat) (A2 : Option Addr) (n2 c2 : Nat) (w' : World) (h1 : NsW w' A1 n1 c1 Z) (h2 : NsW w' A2 n2 c2 Z) => (Ints_any A1 n1 c1 Z A2 n2 c2 Z w' h1 h2).mono (R' := fun e w1 => e = .returned (.bool true) ∧ Below w'.heap.size w' w1) fun e w1 h => by rw [decide_eq_true (rfl : Z = Z)] at h; exact h
  have HSA := Lib.hid SA
  have HSB := Lib.hid SB
  obtain ⟨a0, a1, a2, a3, a4⟩ := SA.five
  obtain ⟨b0, b1, b2, b3⟩ := SB.four
  have hBd : Below W.heap.size W W := Below.refl _ _
  clear SA SB gA gB HA HB
  generalize wtTo 200 A = tA at *
  generalize szTo 30 B = tB at *
  generalize crightE A = R at *
  generalize smallC A = sm at *
  generalize looseL A = X at *
  generalize looseL (lone B) = Y at *
  generalize wkC (fOpen B) 0 A = rr at *
  generalize opC A = oA at *
  generalize nmC A = mA at *
  generalize soC A = pA at *
  generalize opT B = oB at *
  generalize nameT B = mB at *
  generalize numT B = pB at *
  obtain ⟨kAa, kAn, kAc⟩ := kA
  dsimp only at *
  by_cases q1 : tA ≤ 200
  · by_cases q2 : tB ≤ 30
    · have cL := HL.out q2
      have cX := HX.out q1
      have cO := HO.out q1 q2
      by_cases q3 : R = 0
      · have p3 : (R != 0) = false := by rw [q3]; rfl
        cases sm with
        | true =>
          by_cases q5 : Y.length = 0
          · have p5 : ¬ 0 < Y.length := by omega
            have cLo := HLo.out q1 q2 q3 rfl q5
            have hXl := HLen.out q1
            clear HL HX HO HLo HLen q3 q5
            go_enter Try.func8, Try.ntmps8
            go_wp2_with (first
              | (go_at_call 44; ((with_reducible refine (g0 _).mono ?_); rintro e wX ⟨rfl, hbX⟩; have Bz := bel_trans (a := W) (by assumption) hbX; obtain ⟨a0, a1, a2, a3, a4⟩ := (CBox.b HSA.out Bz).five; obtain ⟨b0, b1, b2, b3⟩ := (TBox.b HSB.out Bz).four))
              | (go_at_call 33; ((with_reducible refine (zA _ (by assumption)).mono ?_); rintro e wX ⟨rfl, hbX⟩; have Bz := bel_trans (a := W) (by assumption) hbX; obtain ⟨a0, a1, a2, a3, a4⟩ := (CBox.b HSA.out Bz).five; obtain ⟨b0, b1, b2, b3⟩ := (TBox.b HSB.out Bz).four))
              | (go_at_call 15; ((with_reducible refine (zB _ (by assumption)).mono ?_); rintro e wX ⟨rfl, hbX⟩; have Bz := bel_trans (a := W) (by assumption) hbX; obtain ⟨a0, a1, a2, a3, a4⟩ := (CBox.b HSA.out Bz).five; obtain ⟨b0, b1, b2, b3⟩ := (TBox.b HSB.out Bz).four))
              | (go_at_call 45; ((with_reducible refine (cR _ (by assumption)).mono ?_); rintro e wX ⟨rfl, hbX⟩; have Bz := bel_trans (a := W) (by assumption) hbX; obtain ⟨a0, a1, a2, a3, a4⟩ := (CBox.b HSA.out Bz).five; obtain ⟨b0, b1, b2, b3⟩ := (TBox.b HSB.out Bz).four))
              | (go_at_call 46; ((with_reducible refine (cS _ (by assumption)).mono ?_); rintro e wX ⟨rfl, hbX⟩; have Bz := bel_trans (a := W) (by assumption) hbX; obtain ⟨a0, a1, a2, a3, a4⟩ := (CBox.b HSA.out Bz).five; obtain ⟨b0, b1, b2, b3⟩ := (TBox.b HSB.out Bz).four))
              | (go_at_call 51; ((with_reducible refine (cL _ (by assumption)).mono ?_); rintro e wX ⟨A7, C7, rfl, hN7, hbX⟩; have Bz := bel_trans (a := W) (by assumption) hbX; obtain ⟨a0, a1, a2, a3, a4⟩ := (CBox.b HSA.out Bz).five; obtain ⟨b0, b1, b2, b3⟩ := (TBox.b HSB.out Bz).four; clear hN7))
              | (go_at_call 52; ((with_reducible refine (cX _ (by assumption)).mono ?_); rintro e wX ⟨A8, C8, rfl, hN8, hbX⟩; have Bz := bel_trans (a := W) (by assumption) hbX; obtain ⟨a0, a1, a2, a3, a4⟩ := (CBox.b HSA.out Bz).five; obtain ⟨b0, b1, b2, b3⟩ := (TBox.b HSB.out Bz).four; have HN8 := Lib.hid hN8; have hn8 := hN8.2.1; clear hN8)))
            have hlX : X.length ≤ 200 := hXl
            have HB8 := Lib.hid Bz
            have H0 : Hid (LessR X wX wX (.slice none 0 0) 0) := Lib.hid ⟨by rw [List.take_zero]; exact OwnI.nil _ _, Below.refl _ _⟩
            go_loopw [5, 36] (fun v i wr0 => ∃ (wr : World) (k : Nat) (v' : Value), v' = v ∧ wr = wr0 ∧ k ≤ X.length ∧ i = .int .i64 k ∧ Hid (LessR X wX wr v' k)) (fun v i _ => X.length - (intOf i).toNat)
            case atStart => exact ⟨_, 0, _, rfl, rfl, by omega, rfl, H0⟩
            case round =>
              clear a0 a1 a2 a3 a4 b0 b1 b2 b3
              obtain ⟨wr, k, v, rfl, rfl, hk, rfl, hR⟩ := hrel
              have hBr := hR.out.2
              have hY := hR.out.1
              have Bw := bel_trans HB8.out hBr
              obtain ⟨a0, a1, a2, a3, a4⟩ := (CBox.b HSA.out Bw).five
              obtain ⟨b0, b1, b2, b3⟩ := (TBox.b HSB.out Bw).four
              by_cases hlt : k < X.length
              · obtain ⟨g, x, rfl, hg, z0, hx⟩ := NsW.at HN8.out hlt
                have y0 := (hBr.cell (p := ⟨g, _, none⟩) hg).trans z0
                have hin := HIn.out k x hx
                unfold In64 at hin
                have hst := less_step hx
                have hk0 : 0 ≤ (k : Int) := by omega
                have hk1 : (k : Int) < (X.length : Int) := by omega
                by_cases hp : 0 < x
                · have p1 : decide (x > 0) = true := decide_eq_true hp
                  have wr1 : IntKind.i64.wrap (x - 1) = x - 1 := by rw [IntKind.wrap_i64]; omega
                  rw [if_pos hp] at hst
                  obtain ⟨W3, hW3⟩ : ∃ W3, wr.alloc (.cells #[.int .i64 (x - 1)] 3) = W3 := ⟨_, rfl⟩
                  have hB3 : Below wr.heap.size wr W3 := by rw [← hW3]; exact bel_alloc (Below.refl _ _) _
                  have z3 : W3.cell? ⟨wr.heap.size, 0, none⟩ = some (.int .i64 (x - 1)) := by rw [← hW3]; exact Blk.cell (Blk.new wr #[.int .i64 (x - 1)] 3) 0
                  have hown3 := OwnI.b hY hB3
                  have hs3 : wX.heap.size ≤ W3.heap.size := Nat.le_trans hBr.size hB3.size
                  have B3 := bel_trans hBr hB3
                  have hl3 : (less (X.take k)).length + 1 ≤ 1000000000 := by have := less_len (X.take k); rw [List.length_take] at this; omega
                  have Hst := Lib.hid hst
                  clear hx hst hin hp z0 hR hY
                  generalize less (X.take k) = LX at *
                  go_wp2_with (at_builtin; ((refine app_int rfl (.tmp 42) (.tmp 45) rfl wX.heap.size v LX rfl hown3 wr.heap.size (x - 1) rfl z3 hl3 hs3 ?_); intro v4 w4 ho4 hg4))
                  go_roundw
                  case rel => exact ⟨_, k + 1, v4, rfl, rfl, by omega, by go_num, Lib.hid ⟨by rw [Hst.out]; exact ho4, B3.grown hg4 hs3 (fun q hq => (hown3.lt q hq).1)⟩⟩
                  case measure => simp [intOf]; omega
                · have p1 : decide (x > 0) = false := decide_eq_false hp
                  rw [if_neg hp, List.append_nil] at hst
                  have Hst := Lib.hid hst
                  clear hx hst hin hp z0
                  go_wp2
                  go_roundw
                  case rel => exact ⟨_, k + 1, v, rfl, rfl, by omega, by go_num, Lib.hid ⟨by rw [Hst.out]; exact hY, hBr⟩⟩
                  case measure => simp [intOf]; omega
              · have hkl : X.take k = X := List.take_of_length_le (by omega)
                rw [hkl] at hY
                obtain ⟨Av, Cv, hv, _⟩ := hY.slice
                obtain ⟨nv, hnv⟩ : ∃ nv, (less X).length = nv := ⟨_, rfl⟩
                rw [hnv] at hv
                have hv' := hv
                subst hv'
                have HNv := Lib.hid (OwnI.ns hY)
                have cOw := cO wr Bw
                clear hR hY hkl hnv hv
                generalize less X = LX at *
                go_wp2_with (first
                  | (go_at_call 47; ((with_reducible refine cOw.mono ?_); rintro e w9 ⟨Q0, Q1, Q2, QA, QN, QC, rfl, hA9, hb9⟩; have cLw := cLo Q0 Q1 Q2 QA QN QC w9 hA9; clear hA9))
                  | (go_at_call 54; ((with_reducible refine cLw.mono ?_); rintro e w10 ⟨A10, n10, C10, rfl, hN10, hb10⟩; have cIw := cI _ _ _ _ _ _ _ w10 hN10 (NsW.b HNv.out (bel_trans hb9 hb10)); clear hN10))
                  | (go_at_call 53; ((with_reducible refine cIw.mono ?_); rintro e w11 ⟨rfl, hb11⟩)))
                go_ret
                exact ⟨rfl, bel_trans hB0 (bel_trans Bw (bel_trans hb9 (bel_trans hb10 hb11)))⟩
          · have p5 : 0 < Y.length := by omega
            clear HL HX HO HLo HLen q3 q5
            go_enter Try.func8, Try.ntmps8
            go_wp2_with (first
              | (go_at_call 44; ((with_reducible refine (g0 _).mono ?_); rintro e wX ⟨rfl, hbX⟩; have Bz := bel_trans (a := W) (by assumption) hbX; obtain ⟨a0, a1, a2, a3, a4⟩ := (CBox.b HSA.out Bz).five; obtain ⟨b0, b1, b2, b3⟩ := (TBox.b HSB.out Bz).four))
              | (go_at_call 33; ((with_reducible refine (zA _ (by assumption)).mono ?_); rintro e wX ⟨rfl, hbX⟩; have Bz := bel_trans (a := W) (by assumption) hbX; obtain ⟨a0, a1, a2, a3, a4⟩ := (CBox.b HSA.out Bz).five; obtain ⟨b0, b1, b2, b3⟩ := (TBox.b HSB.out Bz).four))
              | (go_at_call 15; ((with_reducible refine (zB _ (by assumption)).mono ?_); rintro e wX ⟨rfl, hbX⟩; have Bz := bel_trans (a := W) (by assumption) hbX; obtain ⟨a0, a1, a2, a3, a4⟩ := (CBox.b HSA.out Bz).five; obtain ⟨b0, b1, b2, b3⟩ := (TBox.b HSB.out Bz).four))
              | (go_at_call 45; ((with_reducible refine (cR _ (by assumption)).mono ?_); rintro e wX ⟨rfl, hbX⟩; have Bz := bel_trans (a := W) (by assumption) hbX; obtain ⟨a0, a1, a2, a3, a4⟩ := (CBox.b HSA.out Bz).five; obtain ⟨b0, b1, b2, b3⟩ := (TBox.b HSB.out Bz).four))
              | (go_at_call 46; ((with_reducible refine (cS _ (by assumption)).mono ?_); rintro e wX ⟨rfl, hbX⟩; have Bz := bel_trans (a := W) (by assumption) hbX; obtain ⟨a0, a1, a2, a3, a4⟩ := (CBox.b HSA.out Bz).five; obtain ⟨b0, b1, b2, b3⟩ := (TBox.b HSB.out Bz).four))
              | (go_at_call 51; ((with_reducible refine (cL _ (by assumption)).mono ?_); rintro e wX ⟨A7, C7, rfl, hN7, hbX⟩; have Bz := bel_trans (a := W) (by assumption) hbX; obtain ⟨a0, a1, a2, a3, a4⟩ := (CBox.b HSA.out Bz).five; obtain ⟨b0, b1, b2, b3⟩ := (TBox.b HSB.out Bz).four; clear hN7)))
            go_ret
            exact ⟨rfl, bel_trans hB0 Bz⟩
        | false =>
          clear HL HX HO HLo HLen q3
          go_enter Try.func8, Try.ntmps8
          go_wp2_with (first
            | (go_at_call 44; ((with_reducible refine (g0 _).mono ?_); rintro e wX ⟨rfl, hbX⟩; have Bz := bel_trans (a := W) (by assumption) hbX; obtain ⟨a0, a1, a2, a3, a4⟩ := (CBox.b HSA.out Bz).five; obtain ⟨b0, b1, b2, b3⟩ := (TBox.b HSB.out Bz).four))
            | (go_at_call 33; ((with_reducible refine (zA _ (by assumption)).mono ?_); rintro e wX ⟨rfl, hbX⟩; have Bz := bel_trans (a := W) (by assumption) hbX; obtain ⟨a0, a1, a2, a3, a4⟩ := (CBox.b HSA.out Bz).five; obtain ⟨b0, b1, b2, b3⟩ := (TBox.b HSB.out Bz).four))
            | (go_at_call 15; ((with_reducible refine (zB _ (by assumption)).mono ?_); rintro e wX ⟨rfl, hbX⟩; have Bz := bel_trans (a := W) (by assumption) hbX; obtain ⟨a0, a1, a2, a3, a4⟩ := (CBox.b HSA.out Bz).five; obtain ⟨b0, b1, b2, b3⟩ := (TBox.b HSB.out Bz).four))
            | (go_at_call 45; ((with_reducible refine (cR _ (by assumption)).mono ?_); rintro e wX ⟨rfl, hbX⟩; have Bz := bel_trans (a := W) (by assumption) hbX; obtain ⟨a0, a1, a2, a3, a4⟩ := (CBox.b HSA.out Bz).five; obtain ⟨b0, b1, b2, b3⟩ := (TBox.b HSB.out Bz).four))
            | (go_at_call 46; ((with_reducible refine (cS _ (by assumption)).mono ?_); rintro e wX ⟨rfl, hbX⟩; have Bz := bel_trans (a := W) (by assumption) hbX; obtain ⟨a0, a1, a2, a3, a4⟩ := (CBox.b HSA.out Bz).five; obtain ⟨b0, b1, b2, b3⟩ := (TBox.b HSB.out Bz).four)))
          go_ret
          exact ⟨rfl, bel_trans hB0 Bz⟩
      · have p3 : (R != 0) = true := bne_iff_ne.2 q3
        clear HL HX HO HLo HLen q3
        go_enter Try.func8, Try.ntmps8
        go_wp2_with (first
          | (go_at_call 44; ((with_reducible refine (g0 _).mono ?_); rintro e wX ⟨rfl, hbX⟩; have Bz := bel_trans (a := W) (by assumption) hbX; obtain ⟨a0, a1, a2, a3, a4⟩ := (CBox.b HSA.out Bz).five; obtain ⟨b0, b1, b2, b3⟩ := (TBox.b HSB.out Bz).four))
          | (go_at_call 33; ((with_reducible refine (zA _ (by assumption)).mono ?_); rintro e wX ⟨rfl, hbX⟩; have Bz := bel_trans (a := W) (by assumption) hbX; obtain ⟨a0, a1, a2, a3, a4⟩ := (CBox.b HSA.out Bz).five; obtain ⟨b0, b1, b2, b3⟩ := (TBox.b HSB.out Bz).four))
          | (go_at_call 15; ((with_reducible refine (zB _ (by assumption)).mono ?_); rintro e wX ⟨rfl, hbX⟩; have Bz := bel_trans (a := W) (by assumption) hbX; obtain ⟨a0, a1, a2, a3, a4⟩ := (CBox.b HSA.out Bz).five; obtain ⟨b0, b1, b2, b3⟩ := (TBox.b HSB.out Bz).four))
          | (go_at_call 45; ((with_reducible refine (cR _ (by assumption)).mono ?_); rintro e wX ⟨rfl, hbX⟩; have Bz := bel_trans (a := W) (by assumption) hbX; obtain ⟨a0, a1, a2, a3, a4⟩ := (CBox.b HSA.out Bz).five; obtain ⟨b0, b1, b2, b3⟩ := (TBox.b HSB.out Bz).four)))
        go_ret
        exact ⟨rfl, bel_trans hB0 Bz⟩
    · go_enter Try.func8, Try.ntmps8
      go_wp2_with (first
        | (go_at_call 44; ((with_reducible refine (g0 _).mono ?_); rintro e wX ⟨rfl, hbX⟩; have Bz := bel_trans (a := W) (by assumption) hbX; obtain ⟨a0, a1, a2, a3, a4⟩ := (CBox.b HSA.out Bz).five; obtain ⟨b0, b1, b2, b3⟩ := (TBox.b HSB.out Bz).four))
        | (go_at_call 33; ((with_reducible refine (zA _ (by assumption)).mono ?_); rintro e wX ⟨rfl, hbX⟩; have Bz := bel_trans (a := W) (by assumption) hbX; obtain ⟨a0, a1, a2, a3, a4⟩ := (CBox.b HSA.out Bz).five; obtain ⟨b0, b1, b2, b3⟩ := (TBox.b HSB.out Bz).four))
        | (go_at_call 15; ((with_reducible refine (zB _ (by assumption)).mono ?_); rintro e wX ⟨rfl, hbX⟩; have Bz := bel_trans (a := W) (by assumption) hbX; obtain ⟨a0, a1, a2, a3, a4⟩ := (CBox.b HSA.out Bz).five; obtain ⟨b0, b1, b2, b3⟩ := (TBox.b HSB.out Bz).four)))
      go_ret
      exact ⟨rfl, bel_trans hB0 Bz⟩
  · go_enter Try.func8, Try.ntmps8
    go_wp2_with (first
      | (go_at_call 44; ((with_reducible refine (g0 _).mono ?_); rintro e wX ⟨rfl, hbX⟩; have Bz := bel_trans (a := W) (by assumption) hbX; obtain ⟨a0, a1, a2, a3, a4⟩ := (CBox.b HSA.out Bz).five; obtain ⟨b0, b1, b2, b3⟩ := (TBox.b HSB.out Bz).four))
      | (go_at_call 33; ((with_reducible refine (zA _ (by assumption)).mono ?_); rintro e wX ⟨rfl, hbX⟩; have Bz := bel_trans (a := W) (by assumption) hbX; obtain ⟨a0, a1, a2, a3, a4⟩ := (CBox.b HSA.out Bz).five; obtain ⟨b0, b1, b2, b3⟩ := (TBox.b HSB.out Bz).four)))
    go_ret
    exact ⟨rfl, bel_trans hB0 Bz⟩
theorem bindLess (x : ClV) (y : TmV) (w : World) (hx : ArWC w x.t x.k x.a x.n x.c) (hy : ArW w y.t y.a y.n y.c) :
    Calls Try.prog 8 #[x.val, y.val] w fun e w' => e = .returned (.bool true) ∧ Below w.heap.size w w' :=
  lessB x.t y.t x.k x.a y.a x.n x.c y.n y.c w hx hy
end Go.Proofs.Ytokkafekdaniaaa.B
