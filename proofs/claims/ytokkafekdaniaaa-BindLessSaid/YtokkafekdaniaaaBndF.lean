/-
  What is proved: package bind's changed, with any function that changes one part: the claim so changed, in new memory; LiftClaim, Close.
-/
import Derived.Test.YtokkafekdaniaaaBndE
import Derived.Test.YtokkafekdaniaaaClmK
namespace Go.Proofs.Ytokkafekdaniaaa.B
open Go.RowKit L T C
set_option linter.unusedVariables false
set_option linter.unusedSimpArgs false

/-- a claim is returned that reads so, in new memory -/
def RtC (t : Cl) (w : World) (e : Ending) (w' : World) : Prop := ∃ (ka : Option Addr) (kn kc : Nat) (a : Option Addr) (n c : Nat), e = .returned (.agg #[.int .i64 (opC t), .string (nmC t), .string (soC t), .slice ka kn kc, .slice a n c]) ∧ ArCP (Nw 0 0 w.heap.size w'.heap.size) w' t ⟨ka, kn, kc⟩ a n c ∧ Below w.heap.size w w'
theorem NewC.five {t : Cl} {w w' : World} {e : Ending} (h : NewC t w e w') : ∃ (ka : Option Addr) (kn kc : Nat) (a : Option Addr) (n c : Nat), e = .returned (.agg #[.int .i64 (opC t), .string (nmC t), .string (soC t), .slice ka kn kc, .slice a n c]) ∧ FrC w' t w.heap.size w'.heap.size ⟨opC t, nmC t, soC t, ⟨ka, kn, kc⟩, a, n, c⟩ ∧ Below w.heap.size w w' := by
  obtain ⟨⟨o, s, z, ⟨K0, K1, K2⟩, A, N, C⟩, e1, hf, hb⟩ := h
  obtain ⟨q1, q2, q3⟩ := FrC.hd hf
  dsimp only at q1 q2 q3 e1
  subst q1 q2 q3
  exact ⟨K0, K1, K2, A, N, C, e1, hf, hb⟩
set_option maxRecDepth 100000 in
set_option maxHeartbeats 4000000 in
theorem changed_any (F : Nat) (caps : Array Value) (hE : ∀ (args : Array Value) (w : World), (callFunc F args).run Try.prog w = .ok (.enter F args) w) (f : Fn) (t : Cl) (k : SS) (a : Option Addr) (n c : Nat) (w : World) (hF : ClosOk F caps f (1000000 : Nat) w.heap.size w) (hsz : wt t ≤ 1000000) (hA : ArWC w t k a n c) :
    Calls Try.prog 107 #[.agg #[.int .i64 (opC t), .string (nmC t), .string (soC t), .slice k.a k.n k.c, .slice a n c], .func (.func F) #[] caps] w fun e w' => RtC (wkC f 0 t) w e w' := by
  obtain ⟨W2, hW2, hB2, hs2, S2, R2⟩ := cbox2 w (opC t) (nmC t) (soC t) k a n c 0 ⟨#[]⟩ ⟨#[]⟩ SS.nil none 0 0
  dsimp only [SS.nil] at hW2
  have cC := (CopyC_any t k a n c W2 hsz (ArWC.b hA hB2)).mono (fun e w1 h => NewC.five h)
  have HV := Lib.hid (show ∀ (h : Hc) (w3 w4 : World), FrC w3 t W2.heap.size w3.heap.size h → Below W2.heap.size W2 w3 → Below w.heap.size w w4 → w4.heap.size = w3.heap.size → (∀ b, W2.heap.size ≤ b → w4.heap[b]? = w3.heap[b]?) →
      Calls Try.prog 115 #[.agg #[.int .i64 h.op, .string h.nm, .string h.so, .slice h.k.a h.k.n h.k.c, .slice h.a h.n h.c], .int .i64 0, .func (.func F) #[] caps] w4 fun e w' => e = .returned (.tuple #[]) ∧ Ch w4 w' W2.heap.size w3.heap.size ∧ ArCP (Nw W2.heap.size w3.heap.size w4.heap.size w'.heap.size) w' (wkC f 0 t) h.k h.a h.n h.c from fun h w3 w4 hf b3 b4 hs hb =>
    vs_any F caps hE f (1000000 : Nat) w.heap.size w hF t h W2.heap.size w3.heap.size w4 0 (FrC.same t (fun b u v => hb b u) hf) (by omega) hB2.size b4 (Int.le_refl _) (by omega) (by omega))
  have HFin := Lib.hid (show ∀ (w3 w4 w5 w6 : World) (K0 : Option Addr) (K1 K2 : Nat) (A : Option Addr) (N C : Nat), w4.heap.size = w3.heap.size → w.heap.size + 2 ≤ w3.heap.size → ArCP (Nw W2.heap.size w3.heap.size w4.heap.size w5.heap.size) w5 (wkC f 0 t) ⟨K0, K1, K2⟩ A N C → Ch w4 w5 W2.heap.size w3.heap.size → w6.heap.size = w5.heap.size → (∀ b, w.heap.size + 2 ≤ b → w6.heap[b]? = w5.heap[b]?) → Below w.heap.size w w6 → RtC (wkC f 0 t) w (.returned (.agg #[.int .i64 (opC t), .string (nmC t), .string (soC t), .slice K0 K1 K2, .slice A N C])) w6 from fun w3 w4 w5 w6 K0 K1 K2 A N C e1 e2 hA c5 e3 e4 b6 => by
    have q := c5.1.size
    refine ⟨K0, K1, K2, A, N, C, by rw [wkC_mk]; rfl, ArCP.to (fun b hb => e4 b (by unfold Nw at hb; omega)) (fun b hb => by unfold Nw at hb ⊢; omega) _ hA, b6⟩)
  have HS := Lib.hid S2
  have HR := Lib.hid R2
  obtain ⟨s0, s1, s2, s3, s4⟩ := S2.five
  obtain ⟨ka, kn, kc⟩ := k
  dsimp only at *
  clear hA S2 R2 hF
  generalize hr : wkC f 0 t = r at *
  have Hr := Lib.hid hr
  clear hr
  generalize opC t = op at *
  generalize nmC t = nm at *
  generalize soC t = so at *
  go_enter Try.func107, Try.ntmps107
  go_wp2_with (first
    | (go_at_call 96; ((with_reducible refine cC.mono ?_); rintro e w3 ⟨K0, K1, K2, A, N, C, rfl, hFr, hb3⟩; have S3 := CBox.b HS.out hb3; have R3 := CBox.b HR.out hb3; obtain ⟨u0, u1, u2, u3, u4⟩ := S3.five; obtain ⟨p0, p1, p2, p3, p4⟩ := S3.free; have S4 := CBox.put S3 op nm so ⟨K0, K1, K2⟩ A N C; have hs3 : w.heap.size + 2 ≤ w3.heap.size := (by have := hb3.size; omega); have B4 := put5_below (bel_trans hB2 hb3) (Nat.le_refl w.heap.size) (.int .i64 op) (.string nm) (.string so) (.slice K0 K1 K2) (.slice A N C); have Z4 := put5_size w3 w.heap.size (.int .i64 op) (.string nm) (.string so) (.slice K0 K1 K2) (.slice A N C); have O4 := fun b (hb : b ≠ w.heap.size) => put5_other w3 w.heap.size b (.int .i64 op) (.string nm) (.string so) (.slice K0 K1 K2) (.slice A N C) hb; have R4 : CBox (put5 w3 w.heap.size (.int .i64 op) (.string nm) (.string so) (.slice K0 K1 K2) (.slice A N C)) (w.heap.size + 1) 0 ⟨#[]⟩ ⟨#[]⟩ SS.nil none 0 0 := (O4 (w.heap.size + 1) (by omega)).trans R3; obtain ⟨W4, hW4⟩ : ∃ W4, put5 w3 w.heap.size (.int .i64 op) (.string nm) (.string so) (.slice K0 K1 K2) (.slice A N C) = W4 := ⟨_, rfl⟩; rw [hW4] at S4 R4 B4 Z4 O4; unfold put5 at hW4; obtain ⟨v0, v1, v2, v3, v4⟩ := S4.five; have cV := HV.out ⟨op, nm, so, ⟨K0, K1, K2⟩, A, N, C⟩ w3 W4 hFr hb3 B4 Z4 (fun b hb => O4 b (by omega)); have HS4 := Lib.hid S4; have HR4 := Lib.hid R4; have HZ4 := Lib.hid Z4; clear S3 R3 S4 R4 O4 Z4 hFr))
    | (go_at_call 115; ((with_reducible refine cV.mono ?_); rintro e w5 ⟨rfl, c5, hA5⟩; have HA5 := Lib.hid hA5; have HC5 := Lib.hid c5; have S5 : CBox w5 w.heap.size op nm so ⟨K0, K1, K2⟩ A N C := (c5.out (by have := HZ4.out; omega) (Or.inl (by omega))).trans HS4.out; have R5 : CBox w5 (w.heap.size + 1) 0 ⟨#[]⟩ ⟨#[]⟩ SS.nil none 0 0 := (c5.out (by have := HZ4.out; omega) (Or.inl (by omega))).trans HR4.out; obtain ⟨y0, y1, y2, y3, y4⟩ := S5.five; obtain ⟨r0, r1, r2, r3, r4⟩ := R5.free; obtain ⟨t0, t1, t2, t3, t4⟩ := R5.five; have F5 := CBox.put R5 op nm so ⟨K0, K1, K2⟩ A N C; unfold put5 at F5; obtain ⟨x0, x1, x2, x3, x4⟩ := F5.five; have B5 : Below w.heap.size w w5 := B4.trans (c5.1.mono (by omega)); clear hA5 c5 S5 R5 F5)))
  simp [bodyPost, results, Try.results107, go_sem, x0, x1, x2, x3, x4]
  refine HFin.out w3 W4 w5 _ K0 K1 K2 A N C HZ4.out hs3 HA5.out HC5.out ?_ (fun b hb => ?_) ?_
  · exact put5_size _ _ _ _ _ _ _
  · exact put5_other _ (w.heap.size + 1) b _ _ _ _ _ (by omega)
  · exact put5_below B5 (by omega) _ _ _ _ _
end Go.Proofs.Ytokkafekdaniaaa.B
