/-
  What is proved: what package bind's LiftClaim, Close and Lift return.
-/
import Derived.Test.YtokkafekdaniaaaBndF
namespace Go.Proofs.Ytokkafekdaniaaa.B
open Go.RowKit L T C
set_option linter.unusedVariables false
set_option linter.unusedSimpArgs false

theorem rtC_put {t : Cl} {w W w' : World} {e : Ending} {g : Nat} (h : RtC t W e w') (hW : Below w.heap.size w W) (hg : w.heap.size ≤ g) (hgW : g < W.heap.size) (v0 v1 v2 v3 v4 : Value) : RtC t w e (put5 w' g v0 v1 v2 v3 v4) := by
  obtain ⟨ka, kn, kc, a, n, c, e1, hA, hb⟩ := h
  have := hW.size
  refine ⟨ka, kn, kc, a, n, c, e1, ArCP.to (fun b hb => put5_other w' g b _ _ _ _ _ (by unfold Nw at hb; omega)) (fun b hb => by rw [put5_size]; unfold Nw at hb ⊢; omega) _ hA, put5_below (bel_trans hW hb) hg _ _ _ _ _⟩
/-- a value of one cell, in a block -/
theorem cell1_new (w : World) (v : Value) (t : TypeId) : (w.alloc (.cells #[v] t)).cell? ⟨w.heap.size, 0, none⟩ = some v := Blk.cell (Blk.new w #[v] t) 0
theorem liftBoxes (w : World) (o : Int) (s z : ByteArray) (k : SS) (a : Option Addr) (n c : Nat) (by_ fr : Int) :
    ∃ W, (((w.alloc (.cells #[.int .i64 o, .string s, .string z, .slice k.a k.n k.c, .slice a n c] 43)).alloc (.cells #[.int .i64 by_] 3)).alloc (.cells #[.int .i64 fr] 3)).alloc (.cells #[.int .i64 0, .string ⟨#[]⟩, .string ⟨#[]⟩, .slice none 0 0, .slice none 0 0] 43) = W ∧ Below w.heap.size w W ∧ W.heap.size = w.heap.size + 4 ∧ CBox W w.heap.size o s z k a n c ∧ W.cell? ⟨w.heap.size + 1, 0, none⟩ = some (.int .i64 by_) ∧ W.cell? ⟨w.heap.size + 1 + 1, 0, none⟩ = some (.int .i64 fr) ∧ CBox W (w.heap.size + 1 + 1 + 1) 0 ⟨#[]⟩ ⟨#[]⟩ SS.nil none 0 0 := by
  have b1 : CBox _ _ o s z k a n c := CBox.new w o s z k a n c
  have b2 := Blk.new (w.alloc (.cells #[.int .i64 o, .string s, .string z, .slice k.a k.n k.c, .slice a n c] 43)) #[.int .i64 by_] 3
  have b3 := Blk.new ((w.alloc (.cells #[.int .i64 o, .string s, .string z, .slice k.a k.n k.c, .slice a n c] 43)).alloc (.cells #[.int .i64 by_] 3)) #[.int .i64 fr] 3
  have b4 := CBox.new (((w.alloc (.cells #[.int .i64 o, .string s, .string z, .slice k.a k.n k.c, .slice a n c] 43)).alloc (.cells #[.int .i64 by_] 3)).alloc (.cells #[.int .i64 fr] 3)) 0 ⟨#[]⟩ ⟨#[]⟩ SS.nil none 0 0
  simp only [World.size_alloc] at b2 b3 b4
  exact ⟨_, rfl, bel_alloc (bel_alloc (bel_alloc (bel_alloc (Below.refl _ _) _) _) _) _, by simp, Blk.alloc (Blk.alloc (Blk.alloc b1 _) _) _, Blk.cell (Blk.alloc (Blk.alloc b2 _) _) 0, Blk.cell (Blk.alloc b3 _) 0, b4⟩
set_option maxRecDepth 100000 in
set_option maxHeartbeats 4000000 in
theorem LiftClaim_any (by_ fr : Int) (t : Cl) (k : SS) (a : Option Addr) (n c : Nat) (w : World) (hsz : wt t ≤ 1000000) (hA : ArWC w t k a n c) :
    Calls Try.prog 169 #[.agg #[.int .i64 (opC t), .string (nmC t), .string (soC t), .slice k.a k.n k.c, .slice a n c], .int .i64 by_, .int .i64 fr] w fun e w' => RtC (wkC (fLift by_ fr) 0 t) w e w' := by
  obtain ⟨W, hW, hB, hs, S, d1, d2, R⟩ := liftBoxes w (opC t) (nmC t) (soC t) k a n c by_ fr
  have cC := changed_any 226 #[.pointer (some ⟨w.heap.size + 1 + 1, 0, none⟩), .pointer (some ⟨w.heap.size + 1, 0, none⟩)] (fun _ _ => rfl) (fLift by_ fr) t k a n c W (lift_clos by_ fr _ _ 1000000 W.heap.size W (by omega) (by omega) d2 d1 (by omega)) hsz (ArWC.b hA hB)
  have HFin := Lib.hid (show ∀ e w', RtC (wkC (fLift by_ fr) 0 t) W e w' → ∀ v0 v1 v2 v3 v4, RtC (wkC (fLift by_ fr) 0 t) w e (put5 w' (w.heap.size + 1 + 1 + 1) v0 v1 v2 v3 v4) from fun e w' h v0 v1 v2 v3 v4 => rtC_put h hB (by omega) (by omega) v0 v1 v2 v3 v4)
  have HR := Lib.hid R
  obtain ⟨s0, s1, s2, s3, s4⟩ := S.five
  obtain ⟨ka, kn, kc⟩ := k
  dsimp only at *
  clear hA S R
  generalize hr : wkC (fLift by_ fr) 0 t = r at *
  clear hr
  unfold put5 at HFin
  generalize opC t = op at *
  generalize nmC t = nm at *
  generalize soC t = so at *
  go_enter Try.func169, Try.ntmps169
  go_wp2_with (go_at_call 107; ((with_reducible refine cC.mono ?_); rintro e w3 h3; have HF := Lib.hid (HFin.out e w3 h3); obtain ⟨K0, K1, K2, A, N, C, rfl, hA3, hb3⟩ := h3; have R3 := CBox.b HR.out hb3; obtain ⟨r0, r1, r2, r3, r4⟩ := R3.free; obtain ⟨t0, t1, t2, t3, t4⟩ := R3.five; have F5 := CBox.put R3 (opC r) (nmC r) (soC r) ⟨K0, K1, K2⟩ A N C; unfold put5 at F5; obtain ⟨x0, x1, x2, x3, x4⟩ := F5.five; clear hA3 R3 F5))
  simp [bodyPost, results, Try.results169, go_sem, x0, x1, x2, x3, x4]
  exact HF.out _ _ _ _ _
end Go.Proofs.Ytokkafekdaniaaa.B
