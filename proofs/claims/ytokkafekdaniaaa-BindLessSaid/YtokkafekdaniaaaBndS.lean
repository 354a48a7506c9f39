/-
  What is proved: the chapter's example holds.
-/
import Derived.Test.YtokkafekdaniaaaBndR
import Derived.Deep.RegionHeld3
namespace Go.Proofs.Ytokkafekdaniaaa.B
open Go.RowKit L T C
set_option linter.unusedVariables false
set_option linter.unusedSimpArgs false

/-- a claim is returned that reads so -/
def RvC (o : Int) (s z : ByteArray) (t : Cl) (w : World) (e : Ending) (w' : World) : Prop := ∃ (ka : Option Addr) (kn kc : Nat) (a : Option Addr) (n c : Nat), e = .returned (.agg #[.int .i64 o, .string s, .string z, .slice ka kn kc, .slice a n c]) ∧ ArWC w' t ⟨ka, kn, kc⟩ a n c ∧ Below w.heap.size w w'
theorem RtC.rv {t : Cl} {w w' : World} {e : Ending} (h : RtC t w e w') : RvC (opC t) (nmC t) (soC t) t w e w' := by
  obtain ⟨ka, kn, kc, a, n, c, e1, hA, hb⟩ := h
  exact ⟨ka, kn, kc, a, n, c, e1, ArCP.ar (fun b hb => by unfold Nw at hb; omega) t hA, hb⟩
theorem int1 (w : World) (u : Int) : NsW (w.alloc (.cells #[.int .i64 u] 3)) (some ⟨w.heap.size, 0, none⟩) 1 1 [u] := by
  refine ⟨rfl, Nat.le_refl _, by unfold maxLen; omega, (fun h => by cases h), fun _ => ⟨w.heap.size, rfl, by simp, fun k hk => ?_⟩⟩
  obtain rfl : k = 0 := by simp at hk; omega
  exact Blk.cell (Blk.new w #[.int .i64 u] 3) 0
set_option maxRecDepth 100000 in
set_option maxHeartbeats 16000000 in
theorem alive_any (w : World) : Calls Try.prog 44 #[] w fun e w' => e = .returned (.bool true) ∧ Below w.heap.size w w' := by
  obtain ⟨Z, W4, hZ, ⟨bz1, bz2, bz3⟩, hW4, ⟨bw1, bw2, bw3⟩, hb4, -⟩ := box3t w 1 ⟨#[120]⟩ 1 ⟨#[121]⟩ 3 ⟨#[99]⟩
  unfold put4 at hW4
  obtain ⟨W5, hW5⟩ : ∃ W5, W4.alloc (.cells #[.int .i64 1, .string ⟨#[120]⟩, .int .i64 0, .slice none 0 0, .int .i64 1, .string ⟨#[121]⟩, .int .i64 0, .slice none 0 0] 24) = W5 := ⟨_, rfl⟩
  have hb5 : Below W4.heap.size W4 W5 := by rw [← hW5]; exact bel_alloc (Below.refl _ _) _
  have hP5 : ArWC W5 exP ⟨some ⟨W4.heap.size, 0, none⟩, 2, 2⟩ none 0 0 := by rw [← hW5]; exact arRow2 W4 1 ⟨#[120]⟩ 0 1 ⟨#[121]⟩ 0 3 ⟨#[112]⟩ ⟨#[]⟩
  obtain ⟨W6, hW6, hb6, -, C6⟩ := cbox1 W5 3 ⟨#[112]⟩ ⟨#[]⟩ ⟨some ⟨W4.heap.size, 0, none⟩, 2, 2⟩ none 0 0
  dsimp only at hW6
  have hs6 := cbox_nil C6
  obtain ⟨-, -, -, -, fz6⟩ := C6.free
  have hP6 := ArWC.b hP5 hb6
  have B46 := bel_trans hb5 hb6
  have u1 := TBox.b bw1 B46
  have u2 := TBox.b bw2 B46
  have u3 := TBox.b bw3 B46
  have szP : wt exP ≤ 1000000 := by simp [wt, wts, exP, tX, tY, sizes, size]
  have szB : wt exB ≤ 1000000 := by simp [wt, wts, exB, tB, tY, sizes, size]
  have szC : 1 + size tC ≤ 1000000 := by simp [tC, size, sizes]
  have cClose : Calls Try.prog 48 #[.agg #[.int .i64 3, .string ⟨#[112]⟩, .string ⟨#[]⟩, .slice (some ⟨W4.heap.size, 0, none⟩) 2 2, .slice none 0 0], .string ⟨#[120]⟩] W6 fun e w' => RvC 3 ⟨#[112]⟩ ⟨#[]⟩ exB W6 e w' := (Close_any ⟨#[120]⟩ exP ⟨some ⟨W4.heap.size, 0, none⟩, 2, 2⟩ none 0 0 W6 szP hP6).mono fun e w' h => by rw [close_ex] at h; exact h.rv
  have cOpen : ∀ (K0 : Option Addr) (K1 K2 : Nat) (A : Option Addr) (N C : Nat) (W : World), ArWC W exB ⟨K0, K1, K2⟩ A N C → Calls Try.prog 47 #[.agg #[.int .i64 3, .string ⟨#[112]⟩, .string ⟨#[]⟩, .slice K0 K1 K2, .slice A N C], .agg #[.int .i64 3, .string ⟨#[99]⟩, .int .i64 0, .slice none 0 0]] W fun e w' => RvC 3 ⟨#[112]⟩ ⟨#[]⟩ exQ W e w' := fun K0 K1 K2 A N C W h => (Open_any exB ⟨K0, K1, K2⟩ A N C tC none 0 0 W szB szC h (arLeaf _ _ _ _)).mono fun e w' h => by rw [open_ex] at h; exact h.rv
  have cAll : ∀ (W : World), ArWC W exP ⟨some ⟨W4.heap.size, 0, none⟩, 2, 2⟩ none 0 0 → Calls Try.prog 102 #[.string ⟨#[120]⟩, .string ⟨#[65]⟩, .agg #[.int .i64 3, .string ⟨#[112]⟩, .string ⟨#[]⟩, .slice (some ⟨W4.heap.size, 0, none⟩) 2 2, .slice none 0 0]] W fun e w' => RvC 11 ⟨#[120]⟩ ⟨#[65]⟩ (boundC 11 ⟨#[120]⟩ ⟨#[65]⟩ exP) W e w' := fun W h => (All_any ⟨#[120]⟩ ⟨#[65]⟩ exP _ none 0 0 W szP h).mono fun e w' h => h.rv
  have szA : wt (boundC 11 ⟨#[120]⟩ ⟨#[65]⟩ exP) ≤ 1000000 := by unfold boundC; rw [close_ex]; simp [wt, wts, exB, tB, tY, sizes, size]
  have cCloA : ∀ (K0 : Option Addr) (K1 K2 : Nat) (A : Option Addr) (N C : Nat) (W : World), ArWC W (boundC 11 ⟨#[120]⟩ ⟨#[65]⟩ exP) ⟨K0, K1, K2⟩ A N C → Calls Try.prog 101 #[.agg #[.int .i64 11, .string ⟨#[120]⟩, .string ⟨#[65]⟩, .slice K0 K1 K2, .slice A N C]] W fun e w' => e = .returned (.bool true) ∧ Below W.heap.size W w' := fun K0 K1 K2 A N C W h => (Closed_any _ ⟨K0, K1, K2⟩ A N C W szA h).mono fun e w' h => by rw [all_ex] at h; exact h
  have cCloB : ∀ (K0 : Option Addr) (K1 K2 : Nat) (A : Option Addr) (N C : Nat) (W : World), ArWC W exB ⟨K0, K1, K2⟩ A N C → Calls Try.prog 101 #[.agg #[.int .i64 3, .string ⟨#[112]⟩, .string ⟨#[]⟩, .slice K0 K1 K2, .slice A N C]] W fun e w' => e = .returned (.bool false) ∧ Below W.heap.size W w' := fun K0 K1 K2 A N C W h => (Closed_any _ ⟨K0, K1, K2⟩ A N C W szB h).mono fun e w' h => by rw [loose_ex] at h; exact h
  have cLo : ∀ (K0 : Option Addr) (K1 K2 : Nat) (A : Option Addr) (N C : Nat) (W : World), ArWC W exB ⟨K0, K1, K2⟩ A N C → Calls Try.prog 54 #[.agg #[.int .i64 3, .string ⟨#[112]⟩, .string ⟨#[]⟩, .slice K0 K1 K2, .slice A N C]] W fun e w' => ∃ A' c', e = .returned (.slice A' 1 c') ∧ NsW w' A' 1 c' [0] ∧ Below W.heap.size W w' := fun K0 K1 K2 A N C W h => (Loose_any _ ⟨K0, K1, K2⟩ A N C W szB h).mono fun e w' h => by rw [loose_ex] at h; exact h
  have cInts : ∀ (A : Option Addr) (c : Nat) (A' : Option Addr) (c' : Nat) (W : World), NsW W A 1 c [0] → NsW W A' 1 c' [0] → Calls Try.prog 53 #[.slice A 1 c, .slice A' 1 c'] W fun e w' => e = .returned (.bool true) ∧ Below W.heap.size W w' := fun A c A' c' W h1 h2 => Ints_any A 1 c [0] A' 1 c' [0] W h1 h2
  have cCl : ∀ (K0 : Option Addr) (K1 K2 : Nat) (A : Option Addr) (N C : Nat) (K0' : Option Addr) (K1' K2' : Nat) (W : World), ArWC W exB ⟨K0, K1, K2⟩ A N C → ArWC W exB ⟨K0', K1', K2'⟩ none 0 0 → Calls Try.prog 74 #[.agg #[.int .i64 3, .string ⟨#[112]⟩, .string ⟨#[]⟩, .slice K0 K1 K2, .slice A N C], .agg #[.int .i64 3, .string ⟨#[112]⟩, .string ⟨#[]⟩, .slice K0' K1' K2', .slice none 0 0]] W fun e w' => e = .returned (.bool true) ∧ Below W.heap.size W w' := fun K0 K1 K2 A N C K0' K1' K2' W h h' => (Claim_any exB exB ⟨K0, K1, K2⟩ A N C ⟨K0', K1', K2'⟩ none 0 0 W h h').mono fun e w' h => by rw [eqC_self] at h; exact h
  have cTm : ∀ (A : Option Addr) (N C : Nat) (W : World), ArW W tC A N C → Calls Try.prog 64 #[.agg #[.int .i64 3, .string ⟨#[99]⟩, .int .i64 0, .slice A N C], .agg #[.int .i64 3, .string ⟨#[99]⟩, .int .i64 0, .slice none 0 0]] W fun e w' => e = .returned (.bool true) ∧ Below W.heap.size W w' := fun A N C W h => (Term_any tC tC A N C none 0 0 W h (arLeaf _ _ _ _)).mono fun e w' h => by rw [eqT_self] at h; exact h
  have HB6 := Lib.hid (bel_trans hb4 B46)
  have HP6 := Lib.hid hP6
  have Hu2 := Lib.hid u2
  have Hu3 := Lib.hid u3
  have HC6 := Lib.hid C6
  obtain ⟨v0, v1, v2, v3⟩ := bz1.four
  obtain ⟨f0, f1, f2, f3⟩ := bz1.free
  obtain ⟨v0', v1', v2', v3'⟩ := bz2.four
  obtain ⟨f0', f1', f2', f3'⟩ := bz2.free
  obtain ⟨v0'', v1'', v2'', v3''⟩ := bz3.four
  obtain ⟨f0'', f1'', f2'', f3''⟩ := bz3.free
  obtain ⟨a0, a1, a2, a3⟩ := bw1.four
  obtain ⟨b0, b1, b2, b3⟩ := bw2.four
  obtain ⟨c0, c1, c2, c3, c4⟩ := C6.five
  clear bz1 bz2 bz3 bw1 bw2 bw3 u1 u2 u3 C6 hP5 hP6 hb4 hb5 hb6 B46 szP szB szC szA
  go_enter Try.func44, Try.ntmps44
  go_wp2_with (first
    | (go_at_call 48; ((with_reducible refine cClose.mono ?_); rintro e w7 ⟨K0, K1, K2, A, N, C, rfl, hA7, hb7⟩; obtain ⟨W8, hW8, hb8, -, C8⟩ := cbox1 w7 3 ⟨#[112]⟩ ⟨#[]⟩ ⟨K0, K1, K2⟩ A N C; dsimp only at hW8; obtain ⟨W9, hW9⟩ : ∃ W9, W8.alloc (.cells #[.int .i64 2, .string ⟨#[]⟩, .int .i64 0, .slice none 0 0, .int .i64 1, .string ⟨#[121]⟩, .int .i64 0, .slice none 0 0] 24) = W9 := ⟨_, rfl⟩; have hb9 : Below W8.heap.size W8 W9 := (by rw [← hW9]; exact bel_alloc (Below.refl _ _) _); have hP9 : ArWC W9 exB ⟨some ⟨W8.heap.size, 0, none⟩, 2, 2⟩ none 0 0 := (by rw [← hW9]; exact arRow2 W8 2 ⟨#[]⟩ 0 1 ⟨#[121]⟩ 0 3 ⟨#[112]⟩ ⟨#[]⟩); obtain ⟨W10, hW10, hb10, -, C10⟩ := cbox1 W9 3 ⟨#[112]⟩ ⟨#[]⟩ ⟨some ⟨W8.heap.size, 0, none⟩, 2, 2⟩ none 0 0; dsimp only at hW10; have hs10 := cbox_nil C10; obtain ⟨-, -, -, -, fz10⟩ := C10.free; obtain ⟨-, -, -, -, ez4⟩ := C10.five; have B8 := bel_trans hb7 hb8; have B10 := bel_trans hb9 hb10; have x2 := (TBox.b Hu2.out B8).four; obtain ⟨b0, b1, b2, b3⟩ := x2; have x3 := (TBox.b Hu3.out (bel_trans B8 B10)).four; obtain ⟨g0, g1, g2, g3⟩ := x3; have D8 := CBox.b C8 B10; obtain ⟨d0, d1, d2, d3, d4⟩ := D8.five; have B6t := Lib.hid (bel_trans B8 B10); have cO := cOpen K0 K1 K2 A N C W10 (ArWC.b hA7 (bel_trans hb8 B10)); have HA10 := Lib.hid (ArWC.b hA7 (bel_trans hb8 B10)); have HP10 := Lib.hid (ArWC.b hP9 hb10); have HD8 := Lib.hid D8; have HC10 := Lib.hid C10; clear C8 hP9 C10 D8 hA7 hb9 hb10))
    | (go_at_call 47; ((with_reducible refine cO.mono ?_); rintro e w11 ⟨Q0, Q1, Q2, QA, QN, QC, rfl, hA11, hb11⟩; obtain ⟨W12, hW12, hb12, -, C12⟩ := cbox1 w11 3 ⟨#[112]⟩ ⟨#[]⟩ ⟨Q0, Q1, Q2⟩ QA QN QC; dsimp only at hW12; have B12 := Lib.hid (bel_trans hb11 hb12); have HA12 := Lib.hid (ArWC.b hA11 hb12); have HC12 := Lib.hid C12; clear hA11 C12 hb11 hb12)))
  have hq : ∃ b o, Q0 = some ⟨b, o, none⟩ ∧ Q1 = 2 ∧ 2 ≤ Q2 ∧ b < W12.heap.size ∧ ∃ A1 N1 C1, W12.cell? ⟨b, o, none⟩ = some (.int .i64 3) ∧ W12.cell? ⟨b, o + 1, none⟩ = some (.string ⟨#[99]⟩) ∧ W12.cell? ⟨b, o + 1 + 1, none⟩ = some (.int .i64 0) ∧ W12.cell? ⟨b, o + 1 + 1 + 1, none⟩ = some (.slice A1 N1 C1) ∧ ArW W12 tC A1 N1 C1 := by
    have h := HA12.out
    unfold ArWC exQ at h
    rw [ArC] at h
    obtain ⟨h1, h2, h3, h4, h5⟩ := h.1
    dsimp only at h1 h2 h3 h4 h5
    have h6 : Q1 = 2 := h1
    obtain ⟨b, o, e, hb, hr⟩ := h5 (by omega)
    rw [Rw] at hr
    obtain ⟨⟨A1, N1, C1, r0, r1, r2, r3, r4⟩, _⟩ := hr
    exact ⟨b, o, e, h6, by omega, hb, A1, N1, C1, r0, r1, r2, r3, r4⟩
  obtain ⟨b, o, rfl, rfl, hq2, lb, A1, N1, C1, r0, r1, r2, r3, hC1⟩ := hq
  have T5 := CBox.b HD8.out B12.out
  have T6 := CBox.b HC10.out B12.out
  have T4 := CBox.b (CBox.b HC6.out B6t.out) B12.out
  have T3 := TBox.b (TBox.b Hu3.out B6t.out) B12.out
  have T7 := HC12.out
  have l5 := Blk.lt T5
  have l6 := Blk.lt T6
  have l4 := Blk.lt T4
  have l3 := Blk.lt T3
  have l7 := Blk.lt T7
  obtain ⟨d0, d1, d2, d3, d4⟩ := T5.five
  obtain ⟨e0, e1, e2, e3, e4⟩ := T6.five
  obtain ⟨c0, c1, c2, c3, c4⟩ := T4.five
  obtain ⟨g0, g1, g2, g3⟩ := T3.four
  obtain ⟨k0, k1, k2, k3, k4⟩ := T7.five
  have HX5 := Lib.hid (ArWC.b HA10.out B12.out)
  have HX6 := Lib.hid (ArWC.b HP10.out B12.out)
  have HX4 := Lib.hid (ArWC.b (ArWC.b HP6.out B6t.out) B12.out)
  have HX1 := Lib.hid hC1
  have HBW := Lib.hid (bel_trans (bel_trans HB6.out B6t.out) B12.out)
  have hBd : Below W12.heap.size W12 W12.drew := (Below.refl _ _).drew
  clear T5 T6 T4 T3 T7 hC1 HA10 HP10 HP6 HB6 B6t B12 HC12 HC10 HD8 HC6 Hu2 Hu3 HA12 cO cOpen cClose hb7 hb8 B8 B10
  go_wp2_with fail
  go_region_held3 (fun w' => w'.cell? ⟨w7.heap.size, 0, none⟩ = some (.int .i64 3) ∧ w'.cell? ⟨w7.heap.size, 1, none⟩ = some (.string ⟨#[112]⟩) ∧ w'.cell? ⟨w7.heap.size, 2, none⟩ = some (.string ⟨#[]⟩) ∧ w'.cell? ⟨w7.heap.size, 3, none⟩ = some (.slice K0 K1 K2) ∧ w'.cell? ⟨w7.heap.size, 4, none⟩ = some (.slice A N C) ∧
      w'.cell? ⟨W9.heap.size, 0, none⟩ = some (.int .i64 3) ∧ w'.cell? ⟨W9.heap.size, 1, none⟩ = some (.string ⟨#[112]⟩) ∧ w'.cell? ⟨W9.heap.size, 2, none⟩ = some (.string ⟨#[]⟩) ∧ w'.cell? ⟨W9.heap.size, 3, none⟩ = some (.slice (some ⟨W8.heap.size, 0, none⟩) 2 2) ∧ w'.cell? ⟨W9.heap.size, 4, none⟩ = some (.slice none 0 0) ∧
      w'.cell? ⟨W5.heap.size, 0, none⟩ = some (.int .i64 3) ∧ w'.cell? ⟨W5.heap.size, 1, none⟩ = some (.string ⟨#[112]⟩) ∧ w'.cell? ⟨W5.heap.size, 2, none⟩ = some (.string ⟨#[]⟩) ∧ w'.cell? ⟨W5.heap.size, 3, none⟩ = some (.slice (some ⟨W4.heap.size, 0, none⟩) 2 2) ∧ w'.cell? ⟨W5.heap.size, 4, none⟩ = some (.slice none 0 0) ∧
      w'.cell? ⟨w.heap.size + 1 + 1, 0, none⟩ = some (.int .i64 3) ∧ w'.cell? ⟨w.heap.size + 1 + 1, 1, none⟩ = some (.string ⟨#[99]⟩) ∧ w'.cell? ⟨w.heap.size + 1 + 1, 2, none⟩ = some (.int .i64 0) ∧ w'.cell? ⟨w.heap.size + 1 + 1, 3, none⟩ = some (.slice none 0 0) ∧
      w'.cell? ⟨w11.heap.size, 3, none⟩ = some (.slice (some ⟨b, o, none⟩) 2 Q2) ∧
      w'.cell? ⟨b, o, none⟩ = some (.int .i64 3) ∧ w'.cell? ⟨b, o + 1, none⟩ = some (.string ⟨#[99]⟩) ∧ w'.cell? ⟨b, o + 1 + 1, none⟩ = some (.int .i64 0) ∧ w'.cell? ⟨b, o + 1 + 1 + 1, none⟩ = some (.slice A1 N1 C1))
    (first | (exact ⟨(Bz.cell l5).trans d0, (Bz.cell l5).trans d1, (Bz.cell l5).trans d2, (Bz.cell l5).trans d3, (Bz.cell l5).trans d4, (Bz.cell l6).trans e0, (Bz.cell l6).trans e1, (Bz.cell l6).trans e2, (Bz.cell l6).trans e3, (Bz.cell l6).trans e4, (Bz.cell l4).trans c0, (Bz.cell l4).trans c1, (Bz.cell l4).trans c2, (Bz.cell l4).trans c3, (Bz.cell l4).trans c4, (Bz.cell l3).trans g0, (Bz.cell l3).trans g1, (Bz.cell l3).trans g2, (Bz.cell l3).trans g3, (Bz.cell l7).trans k3, (Bz.cell lb).trans r0, (Bz.cell lb).trans r1, (Bz.cell lb).trans r2, (Bz.cell lb).trans r3⟩) | go_keep)
    (first
      | (go_at_call 74; ((with_reducible refine (cCl _ _ _ _ _ _ _ _ _ _ (ArWC.b HX5.out (by first | assumption | exact Below.drew (by assumption) | exact bel_alloc (by assumption) _ | exact (bel_alloc (by assumption) _).drew | exact bel_alloc (Below.drew (by assumption)) _)) (ArWC.b HX6.out (by first | assumption | exact Below.drew (by assumption) | exact bel_alloc (by assumption) _ | exact (bel_alloc (by assumption) _).drew | exact bel_alloc (Below.drew (by assumption)) _))).mono ?_); rintro e w13 ⟨rfl, hb13⟩; have Bz := bel_trans (a := W12) (by first | assumption | exact Below.drew (by assumption) | exact bel_alloc (by assumption) _ | exact (bel_alloc (by assumption) _).drew | exact bel_alloc (Below.drew (by assumption)) _) hb13))
      | (go_at_call 54; ((with_reducible refine (cLo _ _ _ _ _ _ _ (ArWC.b HX5.out (by first | assumption | exact Below.drew (by assumption) | exact bel_alloc (by assumption) _ | exact (bel_alloc (by assumption) _).drew | exact bel_alloc (Below.drew (by assumption)) _))).mono ?_); rintro e w14 ⟨A14, C14, rfl, hN14, hb14⟩; have Bz := bel_trans (a := W12) (by first | assumption | exact Below.drew (by assumption) | exact bel_alloc (by assumption) _ | exact (bel_alloc (by assumption) _).drew | exact bel_alloc (Below.drew (by assumption)) _) hb14; have HN14 := Lib.hid hN14; clear hN14))
      | (go_at_call 53; ((with_reducible refine (cInts _ _ _ _ _ (by first | exact HN14.out | exact NsW.b HN14.out (bel_alloc (Below.refl _ _) _) | exact NsW.b HN14.out (bel_alloc (Below.refl _ _) _).drew) (by first | exact int1 _ _ | exact NsW.b (int1 _ _) (Below.refl _ _).drew | exact NsW.b (int1 _ _) hb14 | exact NsW.b (NsW.b (int1 _ _) (Below.refl _ _).drew) hb14)).mono ?_); rintro e w15 ⟨rfl, hb15⟩; have Bz := bel_trans (a := W12) (by first | assumption | exact Below.drew (by assumption) | exact bel_alloc (by assumption) _ | exact (bel_alloc (by assumption) _).drew | exact bel_alloc (Below.drew (by assumption)) _) hb15))
      | (go_at_call 101; ((with_reducible refine (cCloB _ _ _ _ _ _ _ (ArWC.b HX5.out (by first | assumption | exact Below.drew (by assumption) | exact bel_alloc (by assumption) _ | exact (bel_alloc (by assumption) _).drew | exact bel_alloc (Below.drew (by assumption)) _))).mono ?_); rintro e w16 ⟨rfl, hb16⟩; have Bz := bel_trans (a := W12) (by first | assumption | exact Below.drew (by assumption) | exact bel_alloc (by assumption) _ | exact (bel_alloc (by assumption) _).drew | exact bel_alloc (Below.drew (by assumption)) _) hb16))
      | (go_at_call 64; ((with_reducible refine (cTm _ _ _ _ (ArW.b HX1.out (by first | assumption | exact Below.drew (by assumption) | exact bel_alloc (by assumption) _ | exact (bel_alloc (by assumption) _).drew | exact bel_alloc (Below.drew (by assumption)) _))).mono ?_); rintro e w17 ⟨rfl, hb17⟩; have Bz := bel_trans (a := W12) (by first | assumption | exact Below.drew (by assumption) | exact bel_alloc (by assumption) _ | exact (bel_alloc (by assumption) _).drew | exact bel_alloc (Below.drew (by assumption)) _) hb17))
      | (go_at_call 102; ((with_reducible refine (cAll _ (ArWC.b HX4.out (by first | assumption | exact Below.drew (by assumption) | exact bel_alloc (by assumption) _ | exact (bel_alloc (by assumption) _).drew | exact bel_alloc (Below.drew (by assumption)) _))).mono ?_); rintro e w18 ⟨R0, R1, R2, RA, RN, RC, rfl, hA18, hb18⟩; have Bz := bel_trans (a := W12) (by first | assumption | exact Below.drew (by assumption) | exact bel_alloc (by assumption) _ | exact (bel_alloc (by assumption) _).drew | exact bel_alloc (Below.drew (by assumption)) _) hb18; have HA18 := Lib.hid hA18; clear hA18))
      | (go_at_call 101; ((with_reducible refine (cCloA _ _ _ _ _ _ _ HA18.out).mono ?_); rintro e w19 ⟨rfl, hb19⟩; have Bz := bel_trans (a := W12) (by first | assumption | exact Below.drew (by assumption) | exact bel_alloc (by assumption) _ | exact (bel_alloc (by assumption) _).drew | exact bel_alloc (Below.drew (by assumption)) _) hb19)))
  all_goals go_wp2
  all_goals go_ret
  all_goals exact ⟨rfl, bel_trans HBW.out Bz⟩
end Go.Proofs.Ytokkafekdaniaaa.B
