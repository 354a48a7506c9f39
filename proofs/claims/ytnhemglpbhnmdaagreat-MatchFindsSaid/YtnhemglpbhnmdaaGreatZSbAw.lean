/-
  What is proved: what the document's Apply and ApplyClaim return.
-/
import Derived.Test.YtnhemglpbhnmdaaGreatZSbRc
namespace Go.Proofs.YtnhemglpbhnmdaaGreat.U
open Go.RowKit L T C B Go.Deep
set_option linter.unusedVariables false
set_option linter.unusedSimpArgs false

/-- a term is returned, wherever it lies -/
def AnyT (r : Tm) (w : World) (e : Ending) (w' : World) : Prop := ∃ A5 N5 C5, e = .returned (.agg #[.int .i64 (opT r), .string (nameT r), .int .i64 (numT r), .slice A5 N5 C5]) ∧ ArW w' r A5 N5 C5 ∧ Below w.heap.size w w'
/-- a claim is returned, wherever it lies -/
def AnyC (r : Cl) (w : World) (e : Ending) (w' : World) : Prop := ∃ K5 K6 K7 A5 N5 C5, e = .returned (.agg #[.int .i64 (opC r), .string (nmC r), .string (soC r), .slice K5 K6 K7, .slice A5 N5 C5]) ∧ ArWC w' r ⟨K5, K6, K7⟩ A5 N5 C5 ∧ Below w.heap.size w w'
set_option maxRecDepth 100000 in
set_option maxHeartbeats 8000000 in
theorem ApplyClaim10_any (l : List Pr) (hls : ∀ p ∈ l, size p.t ≤ 1000000) (t : Cl) (hsz : wt t ≤ 1000000) (A0 : Option Addr) (m0 d0 : Nat) (k : SS) (a : Option Addr) (n c : Nat) (w : World) (hU : UsW w A0 m0 d0 l) (hA : ArWC w t k a n c) :
    Calls Tryz.prog 11 #[.slice A0 m0 d0, .agg #[.int .i64 (opC t), .string (nmC t), .string (soC t), .slice k.a k.n k.c, .slice a n c]] w fun e w' => AnyC (sbRl l 0 t) w e w' := by
  obtain ⟨W2, hW2, hB2, hs2, S2, R2⟩ := cbox2 w (opC t) (nmC t) (soC t) k a n c 0 ⟨#[]⟩ ⟨#[]⟩ SS.nil none 0 0
  have cA := RefCl_any l hls t 0 w.heap.size A0 m0 d0 k a n c W2 (Int.le_refl _) (by omega) (by omega) hsz (IsU.bel hU hB2) (ArC.bel hB2 t hA)
  have HR := Lib.hid R2
  have HFin := Lib.hid (show ∀ (r : Cl) (e : Ending) (w3 : World), MixCU w.heap.size r W2 e w3 → ∀ v0 v1 v2 v3 v4, AnyC r w e (put5 w3 (w.heap.size + 1) v0 v1 v2 v3 v4) from fun r e w3 h v0 v1 v2 v3 v4 => by
    obtain ⟨⟨K5, K6, K7⟩, A, N, C, e1, h1, h2⟩ := h
    exact ⟨K5, K6, K7, A, N, C, e1, ArCP.ar (fun b hb => by rw [put5_size]; exact hb.1) r (ArCP.to (Q := NewB w.heap.size W2.heap.size w3.heap.size) (fun b hb => put5_other w3 _ b _ _ _ _ _ (by rcases hb.2 with h | h <;> omega)) (fun b hb => hb) r h1), put5_below (bel_trans hB2 h2) (by omega) _ _ _ _ _⟩)
  obtain ⟨s0, s1, s2, s3, s4⟩ := S2.five
  obtain ⟨ka, kn, kc⟩ := k
  dsimp only [SS.nil] at *
  clear hA S2 R2 hU hls
  unfold put5 at HFin
  generalize sbRl l 0 t = r at *
  generalize opC t = op at *
  generalize nmC t = nm at *
  generalize soC t = so at *
  go_enter Tryz.func11, Tryz.ntmps11
  go_wp2_with (go_at_call 37; ((with_reducible refine cA.mono ?_); rintro e w3 h3; have HF := Lib.hid (HFin.out r e w3 h3); obtain ⟨⟨K0, K1, K2⟩, A, N, C, rfl, hA3, hb3⟩ := h3; have R3 := CBox.b HR.out hb3; obtain ⟨r0, r1, r2, r3, r4⟩ := R3.free; obtain ⟨t0, t1, t2, t3, t4⟩ := R3.five; have F5 := CBox.put R3 (opC r) (nmC r) (soC r) ⟨K0, K1, K2⟩ A N C; unfold put5 at F5; obtain ⟨x0, x1, x2, x3, x4⟩ := F5.five; clear hA3 R3 F5))
  simp [bodyPost, results, Tryz.results11, go_sem, x0, x1, x2, x3, x4]
  exact HF.out _ _ _ _ _
end Go.Proofs.YtnhemglpbhnmdaaGreat.U
