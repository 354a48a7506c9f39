/-
  What is proved: what the document's LiftClaim, Lift, Open and Close return.
-/
import Derived.Test.YtceijoggoniaoaaBndCl
import Derived.Test.YtceijoggoniaoaaBndT3
import Derived.Test.YtceijoggoniaoaaBndT2
namespace Go.Proofs.Ytceijoggoniaoaa.B
open Go.RowKit L T C
set_option linter.unusedVariables false
set_option linter.unusedSimpArgs false

theorem MixWC.rt {t : Cl} {w w' : World} {e : Ending} (h : MixWC t w e w') : RtC t w e w' := by
  obtain ⟨⟨ka, kn, kc⟩, A, N, C, e1, hA, hb⟩ := h
  exact ⟨ka, kn, kc, A, N, C, e1, ArCP.to (fun _ _ => rfl) (fun b hb => by unfold Nw; rcases hb.2 with h | h <;> have := hb.1 <;> omega) t hA, hb⟩
theorem MixW.rt {t : Tm} {w w' : World} {e : Ending} (h : MixW t w e w') : RtT t w e w' := by
  obtain ⟨A, N, C, e1, hA, hb⟩ := h
  exact ⟨A, N, C, e1, ArP.to (fun _ _ => rfl) (fun b hb => by unfold Nw; rcases hb.2 with h | h <;> have := hb.1 <;> omega) t hA, hb⟩
set_option maxRecDepth 100000 in
set_option maxHeartbeats 4000000 in
theorem refLiftClaim_any (by_ fr : Int) (t : Cl) (k : SS) (a : Option Addr) (n c : Nat) (w : World) (hsz : wt t ≤ 1000000) (hA : ArWC w t k a n c) :
    Calls Try.prog 20 #[.agg #[.int .i64 (opC t), .string (nmC t), .string (soC t), .slice k.a k.n k.c, .slice a n c], .int .i64 by_, .int .i64 fr] w fun e w' => RtC (wkC (fLift by_ fr) 0 t) w e w' := by
  obtain ⟨W, hW, hB, hs, S, R⟩ := cbox2 w (opC t) (nmC t) (soC t) k a n c 0 ⟨#[]⟩ ⟨#[]⟩ SS.nil none 0 0
  have cC := (claimW_any 1 by_ fr 0 ⟨#[]⟩ 0 none 0 0 ⟨#[]⟩ (fLift by_ fr) (fun _ => True) (fun _ _ _ h => h) (fun t a m c k w h1 h2 _ => term1_any by_ fr t a m c k w h1 h2) t k a n c 0 W hsz (ArWC.b hA hB) trivial (Int.le_refl _) (by omega)).mono fun e w1 h => MixWC.rt h
  have HFin := Lib.hid (show ∀ e w', RtC (wkC (fLift by_ fr) 0 t) W e w' → ∀ v0 v1 v2 v3 v4, RtC (wkC (fLift by_ fr) 0 t) w e (put5 w' (w.heap.size + 1) v0 v1 v2 v3 v4) from fun e w' h v0 v1 v2 v3 v4 => rtC_put h hB (by omega) (by omega) v0 v1 v2 v3 v4)
  have HR := Lib.hid R
  obtain ⟨s0, s1, s2, s3, s4⟩ := S.five
  obtain ⟨ka, kn, kc⟩ := k
  dsimp only [SS.nil] at *
  clear hA S R
  generalize hr : wkC (fLift by_ fr) 0 t = r at *
  clear hr
  unfold put5 at HFin
  generalize opC t = op at *
  generalize nmC t = nm at *
  generalize soC t = so at *
  go_enter Try.func20, Try.ntmps20
  go_wp2_with (go_at_call 48; ((with_reducible refine cC.mono ?_); rintro e w3 h3; have HF := Lib.hid (HFin.out e w3 h3); obtain ⟨K0, K1, K2, A, N, C, rfl, hA3, hb3⟩ := h3; have R3 := CBox.b HR.out hb3; obtain ⟨r0, r1, r2, r3, r4⟩ := R3.free; obtain ⟨t0, t1, t2, t3, t4⟩ := R3.five; have F5 := CBox.put R3 (opC r) (nmC r) (soC r) ⟨K0, K1, K2⟩ A N C; unfold put5 at F5; obtain ⟨x0, x1, x2, x3, x4⟩ := F5.five; clear hA3 R3 F5))
  simp [bodyPost, results, Try.results20, go_sem, x0, x1, x2, x3, x4]
  exact HF.out _ _ _ _ _
set_option maxRecDepth 100000 in
set_option maxHeartbeats 4000000 in
theorem refClose_any (name : ByteArray) (t : Cl) (k : SS) (a : Option Addr) (n c : Nat) (w : World) (hsz : wt t ≤ 1000000) (hA : ArWC w t k a n c) :
    Calls Try.prog 26 #[.agg #[.int .i64 (opC t), .string (nmC t), .string (soC t), .slice k.a k.n k.c, .slice a n c], .string name] w fun e w' => RtC (wkC (fClose name) 0 t) w e w' := by
  obtain ⟨W, hW, hB, hs, S, R⟩ := cbox2 w (opC t) (nmC t) (soC t) k a n c 0 ⟨#[]⟩ ⟨#[]⟩ SS.nil none 0 0
  have cC := (claimW_any 3 0 0 0 ⟨#[]⟩ 0 none 0 0 name (fClose name) (fun _ => True) (fun _ _ _ h => h) (fun t a m c k w h1 h2 _ => term3_any name t a m c k w h1 h2) t k a n c 0 W hsz (ArWC.b hA hB) trivial (Int.le_refl _) (by omega)).mono fun e w1 h => MixWC.rt h
  have HFin := Lib.hid (show ∀ e w', RtC (wkC (fClose name) 0 t) W e w' → ∀ v0 v1 v2 v3 v4, RtC (wkC (fClose name) 0 t) w e (put5 w' (w.heap.size + 1) v0 v1 v2 v3 v4) from fun e w' h v0 v1 v2 v3 v4 => rtC_put h hB (by omega) (by omega) v0 v1 v2 v3 v4)
  have HR := Lib.hid R
  obtain ⟨s0, s1, s2, s3, s4⟩ := S.five
  obtain ⟨ka, kn, kc⟩ := k
  dsimp only [SS.nil] at *
  clear hA S R
  generalize hr : wkC (fClose name) 0 t = r at *
  clear hr
  unfold put5 at HFin
  generalize opC t = op at *
  generalize nmC t = nm at *
  generalize soC t = so at *
  go_enter Try.func26, Try.ntmps26
  go_wp2_with (go_at_call 48; ((with_reducible refine cC.mono ?_); rintro e w3 h3; have HF := Lib.hid (HFin.out e w3 h3); obtain ⟨K0, K1, K2, A, N, C, rfl, hA3, hb3⟩ := h3; have R3 := CBox.b HR.out hb3; obtain ⟨r0, r1, r2, r3, r4⟩ := R3.free; obtain ⟨t0, t1, t2, t3, t4⟩ := R3.five; have F5 := CBox.put R3 (opC r) (nmC r) (soC r) ⟨K0, K1, K2⟩ A N C; unfold put5 at F5; obtain ⟨x0, x1, x2, x3, x4⟩ := F5.five; clear hA3 R3 F5))
  simp [bodyPost, results, Try.results26, go_sem, x0, x1, x2, x3, x4]
  exact HF.out _ _ _ _ _
set_option maxRecDepth 100000 in
set_option maxHeartbeats 4000000 in
theorem refOpen_any (t : Cl) (k : SS) (a : Option Addr) (n c : Nat) (u : Tm) (a' : Option Addr) (n' c' : Nat) (w : World) (hsz : wt t ≤ 1000000) (hA : ArWC w t k a n c) (hszu : 1 + size u ≤ 1000000) (hAu : ArW w u a' n' c') :
    Calls Try.prog 25 #[.agg #[.int .i64 (opC t), .string (nmC t), .string (soC t), .slice k.a k.n k.c, .slice a n c], .agg #[.int .i64 (opT u), .string (nameT u), .int .i64 (numT u), .slice a' n' c']] w fun e w' => RtC (wkC (fOpen u) 0 t) w e w' := by
  obtain ⟨W, hW, hB, hs, S, U, R⟩ := openBoxes w (opC t) (nmC t) (soC t) k a n c (opT u) (nameT u) (numT u) a' n' c'
  have cC := (claimW_any 2 0 0 (opT u) (nameT u) (numT u) a' n' c' ⟨#[]⟩ (fOpen u) (fun w' => ArW w' u a' n' c') (fun _ _ hb h => ArW.b h hb) (fun t a m c k w h1 h2 h3 => term2_any u a' n' c' (by omega) t a m c k w h1 h2 h3) t k a n c 0 W hsz (ArWC.b hA hB) (ArW.b hAu hB) (Int.le_refl _) (by omega)).mono fun e w1 h => MixWC.rt h
  have HFin := Lib.hid (show ∀ e w', RtC (wkC (fOpen u) 0 t) W e w' → ∀ v0 v1 v2 v3 v4, RtC (wkC (fOpen u) 0 t) w e (put5 w' (w.heap.size + 1 + 1) v0 v1 v2 v3 v4) from fun e w' h v0 v1 v2 v3 v4 => rtC_put h hB (by omega) (by omega) v0 v1 v2 v3 v4)
  have HR := Lib.hid R
  obtain ⟨s0, s1, s2, s3, s4⟩ := S.five
  obtain ⟨ka, kn, kc⟩ := k
  dsimp only [SS.nil] at *
  clear hA S R
  generalize hr : wkC (fOpen u) 0 t = r at *
  clear hr
  unfold put5 at HFin
  generalize opC t = op at *
  generalize nmC t = nm at *
  generalize soC t = so at *
  obtain ⟨u0, u1, u2, u3⟩ := U.four
  clear U hAu
  generalize opT u = op' at *
  generalize nameT u = nm' at *
  generalize numT u = nu' at *
  go_enter Try.func25, Try.ntmps25
  go_wp2_with (go_at_call 48; ((with_reducible refine cC.mono ?_); rintro e w3 h3; have HF := Lib.hid (HFin.out e w3 h3); obtain ⟨K0, K1, K2, A, N, C, rfl, hA3, hb3⟩ := h3; have R3 := CBox.b HR.out hb3; obtain ⟨r0, r1, r2, r3, r4⟩ := R3.free; obtain ⟨t0, t1, t2, t3, t4⟩ := R3.five; have F5 := CBox.put R3 (opC r) (nmC r) (soC r) ⟨K0, K1, K2⟩ A N C; unfold put5 at F5; obtain ⟨x0, x1, x2, x3, x4⟩ := F5.five; clear hA3 R3 F5))
  simp [bodyPost, results, Try.results25, go_sem, x0, x1, x2, x3, x4]
  exact HF.out _ _ _ _ _
set_option maxRecDepth 100000 in
set_option maxHeartbeats 4000000 in
theorem refLift_any (by_ : Int) (t : Tm) (a : Option Addr) (n c : Nat) (w : World) (hsz : size t ≤ 1000000) (hA : ArW w t a n c) :
    Calls Try.prog 23 #[.agg #[.int .i64 (opT t), .string (nameT t), .int .i64 (numT t), .slice a n c], .int .i64 by_] w fun e w' => RtT (wk (fLift by_ 0) 0 t) w e w' := by
  obtain ⟨W, hW, hB, hs, S, R⟩ := liftBox w (opT t) (nameT t) (numT t) a n c
  have cC := (term1_any by_ 0 t a n c 0 W hsz (ArW.b hA hB)).mono fun e w1 h => MixW.rt h
  have HFin := Lib.hid (show ∀ (r : Tm) e w', RtT r W e w' → ∀ v0 v1 v2 v3, RtT r w e ((((w'.setCell ⟨w.heap.size + 1, 0, none⟩ v0).setCell ⟨w.heap.size + 1, 1, none⟩ v1).setCell ⟨w.heap.size + 1, 2, none⟩ v2).setCell ⟨w.heap.size + 1, 3, none⟩ v3) from fun r e w' h v0 v1 v2 v3 => by
    obtain ⟨A, N, C, e1, hA, hb⟩ := h
    exact ⟨A, N, C, e1, ArP.to (fun x hx => put_other w' _ x _ _ _ _ (by unfold Nw at hx; omega)) (fun x hx => by rw [put_size]; unfold Nw at hx ⊢; omega) r hA, put_below (bel_trans hB hb) (by omega) _ _ _ _⟩)
  have HR := Lib.hid R
  obtain ⟨s0, s1, s2, s3⟩ := S.four
  clear hA S R
  generalize wk (fLift by_ 0) 0 t = r at *
  generalize opT t = op at *
  generalize nameT t = nm at *
  generalize numT t = nu at *
  go_enter Try.func23, Try.ntmps23
  go_wp2_with (go_at_call 49; ((with_reducible refine cC.mono ?_); rintro e w3 h3; have HF := Lib.hid (HFin.out r e w3 h3); obtain ⟨A, N, C, rfl, hA3, hb3⟩ := h3; have R3 := TBox.b HR.out hb3; obtain ⟨r0, r1, r2, r3⟩ := R3.free; obtain ⟨t0, t1, t2, t3⟩ := R3.four; have F5 := TBox.put R3 (opT r) (nameT r) (numT r) A N C; obtain ⟨x0, x1, x2, x3⟩ := F5.four; clear hA3 R3 F5))
  simp [bodyPost, results, Try.results23, go_sem, x0, x1, x2, x3]
  exact HF.out _ _ _ _
end Go.Proofs.Ytceijoggoniaoaa.B
