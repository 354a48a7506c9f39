/-
  What is proved: what package bind's All and Ex return.
-/
import Derived.Test.YtokkafekdaniaaaBndI
namespace Go.Proofs.Ytokkafekdaniaaa.B
open Go.RowKit L T C
set_option linter.unusedVariables false
set_option linter.unusedSimpArgs false

def boundC (o : Int) (name s : ByteArray) (t : Cl) : Cl := .mk o name s [] [wkC (fClose name) 0 t]
set_option maxRecDepth 100000 in
set_option maxHeartbeats 4000000 in
theorem bound_any (o0 : Int) (name s0 : ByteArray) (t : Cl) (k : SS) (a : Option Addr) (n c : Nat) (w : World) (hsz : wt t ≤ 1000000) (hA : ArWC w t k a n c) :
    Calls Try.prog 164 #[.int .i64 o0, .string name, .string s0, .agg #[.int .i64 (opC t), .string (nmC t), .string (soC t), .slice k.a k.n k.c, .slice a n c]] w fun e w' => RtC (boundC o0 name s0 t) w e w' := by
  obtain ⟨W, hW, hB, hs, S, R⟩ := cbox2 w (opC t) (nmC t) (soC t) k a n c 0 ⟨#[]⟩ ⟨#[]⟩ SS.nil none 0 0
  dsimp only [SS.nil] at hW
  have cC := Close_any name t k a n c W hsz (ArWC.b hA hB)
  unfold boundC
  generalize hr : wkC (fClose name) 0 t = r at *
  clear hr
  have HFin := Lib.hid (show ∀ (w3 W4 : World) (K0 : Option Addr) (K1 K2 : Nat) (A : Option Addr) (N C : Nat), ArCP (Nw 0 0 W.heap.size w3.heap.size) w3 r ⟨K0, K1, K2⟩ A N C → Below W.heap.size W w3 → Below w3.heap.size w3 W4 → W4.heap.size = w3.heap.size + 1 → CBox W4 w3.heap.size (opC r) (nmC r) (soC r) ⟨K0, K1, K2⟩ A N C → ∀ v0 v1 v2 v3 v4, RtC (.mk o0 name s0 [] [r]) w (.returned (.agg #[.int .i64 o0, .string name, .string s0, .slice none 0 0, .slice (some ⟨w3.heap.size, 0, none⟩) 1 1])) (put5 W4 (w.heap.size + 1) v0 v1 v2 v3 v4) from fun w3 W4 K0 K1 K2 A N C hA b3 b4 z4 S4 v0 v1 v2 v3 v4 => by
    have q3 := b3.size
    obtain ⟨y0, y1, y2, y3, y4⟩ := S4.five
    refine ⟨none, 0, 0, some ⟨w3.heap.size, 0, none⟩, 1, 1, rfl, ?_, put5_below (bel_trans hB (bel_trans b3 b4)) (by omega) _ _ _ _ _⟩
    refine ArCP.to (P := fun b => w.heap.size + 2 ≤ b ∧ b < W4.heap.size) (fun x hx => put5_other W4 _ x _ _ _ _ _ (by omega)) (fun x hx => by rw [put5_size]; unfold Nw; omega) _ ?_
    rw [ArCP]
    refine ⟨?_, rfl, Nat.le_refl _, by unfold maxLen; omega, (fun h => by cases h), fun _ => ⟨w3.heap.size, 0, rfl, ⟨by omega, by omega⟩, ?_⟩⟩
    · unfold IsTP
      rw [ArP]
      exact ⟨rfl, Nat.le_refl _, Nat.zero_le _, fun _ => rfl, fun h => absurd h (by simp)⟩
    rw [RwCP]
    exact ⟨⟨⟨K0, K1, K2⟩, A, N, C, y0, y1, y2, y3, y4, ArCP.to (fun x hx => b4.block x (by unfold Nw at hx; omega)) (fun x hx => by unfold Nw at hx; omega) _ hA⟩, by rw [RwCP]; trivial⟩)
  have HR := Lib.hid R
  obtain ⟨s0', s1, s2, s3, s4⟩ := S.five
  obtain ⟨ka, kn, kc⟩ := k
  dsimp only at *
  clear hA S R
  unfold put5 at HFin
  generalize opC t = op at *
  generalize nmC t = nm at *
  generalize soC t = so at *
  go_enter Try.func164, Try.ntmps164
  go_wp2_with (go_at_call 48; ((with_reducible refine cC.mono ?_); rintro e w3 ⟨K0, K1, K2, A, N, C, rfl, hA3, hb3⟩; obtain ⟨W4, hW4, hB4, hs4, S4⟩ := cbox1 w3 (opC r) (nmC r) (soC r) ⟨K0, K1, K2⟩ A N C; dsimp only at hW4; have HF := Lib.hid (HFin.out w3 W4 K0 K1 K2 A N C hA3 hb3 hB4 hs4 S4); have R3 := CBox.b HR.out (bel_trans hb3 hB4); obtain ⟨r0, r1, r2, r3, r4⟩ := R3.free; obtain ⟨t0, t1, t2, t3, t4⟩ := R3.five; have F5 := CBox.put R3 o0 name s0 SS.nil (some ⟨w3.heap.size, 0, none⟩) 1 1; unfold put5 at F5; obtain ⟨x0, x1, x2, x3, x4⟩ := F5.five; clear hA3 R3 F5 S4 hs4; dsimp only [SS.nil] at t3 x0 x1 x2 x3 x4))
  simp [bodyPost, results, Try.results164, go_sem, x0, x1, x2, x3, x4]
  exact HF.out _ _ _ _ _
set_option maxRecDepth 100000 in
set_option maxHeartbeats 4000000 in
theorem All_any (name s0 : ByteArray) (t : Cl) (k : SS) (a : Option Addr) (n c : Nat) (w : World) (hsz : wt t ≤ 1000000) (hA : ArWC w t k a n c) :
    Calls Try.prog 102 #[.string name, .string s0, .agg #[.int .i64 (opC t), .string (nmC t), .string (soC t), .slice k.a k.n k.c, .slice a n c]] w fun e w' => RtC (boundC 11 name s0 t) w e w' := by
  obtain ⟨W, hW, hB, hs, S, R⟩ := cbox2 w (opC t) (nmC t) (soC t) k a n c 0 ⟨#[]⟩ ⟨#[]⟩ SS.nil none 0 0
  dsimp only [SS.nil] at hW
  have cC := bound_any 11 name s0 t k a n c W hsz (ArWC.b hA hB)
  have HFin := Lib.hid (show ∀ e w', RtC (boundC 11 name s0 t) W e w' → ∀ v0 v1 v2 v3 v4, RtC (boundC 11 name s0 t) w e (put5 w' (w.heap.size + 1) v0 v1 v2 v3 v4) from fun e w' h v0 v1 v2 v3 v4 => rtC_put h hB (by omega) (by omega) v0 v1 v2 v3 v4)
  have HR := Lib.hid R
  obtain ⟨s0', s1, s2, s3, s4⟩ := S.five
  obtain ⟨ka, kn, kc⟩ := k
  dsimp only at *
  clear hA S R
  generalize hr : boundC 11 name s0 t = r at *
  clear hr
  unfold put5 at HFin
  generalize opC t = op at *
  generalize nmC t = nm at *
  generalize soC t = so at *
  go_enter Try.func102, Try.ntmps102
  go_wp2_with (go_at_call 164; ((with_reducible refine cC.mono ?_); rintro e w3 h3; have HF := Lib.hid (HFin.out e w3 h3); obtain ⟨K0, K1, K2, A, N, C, rfl, hA3, hb3⟩ := h3; have R3 := CBox.b HR.out hb3; obtain ⟨r0, r1, r2, r3, r4⟩ := R3.free; obtain ⟨t0, t1, t2, t3, t4⟩ := R3.five; have F5 := CBox.put R3 (opC r) (nmC r) (soC r) ⟨K0, K1, K2⟩ A N C; unfold put5 at F5; obtain ⟨x0, x1, x2, x3, x4⟩ := F5.five; clear hA3 R3 F5))
  simp [bodyPost, results, Try.results102, go_sem, x0, x1, x2, x3, x4]
  exact HF.out _ _ _ _ _
end Go.Proofs.Ytokkafekdaniaaa.B
