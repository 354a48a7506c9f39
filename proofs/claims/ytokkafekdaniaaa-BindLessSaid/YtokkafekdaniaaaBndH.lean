/-
  What is proved: what package bind's Close, alone, Lift and Open return.
-/
import Derived.Test.YtokkafekdaniaaaBndG
namespace Go.Proofs.Ytokkafekdaniaaa.B
open Go.RowKit L T C
set_option linter.unusedVariables false
set_option linter.unusedSimpArgs false

theorem closeBoxes (w : World) (o : Int) (s z : ByteArray) (k : SS) (a : Option Addr) (n c : Nat) (name : ByteArray) :
    ∃ W, ((w.alloc (.cells #[.int .i64 o, .string s, .string z, .slice k.a k.n k.c, .slice a n c] 43)).alloc (.cells #[.string name] 9)).alloc (.cells #[.int .i64 0, .string ⟨#[]⟩, .string ⟨#[]⟩, .slice none 0 0, .slice none 0 0] 43) = W ∧ Below w.heap.size w W ∧ W.heap.size = w.heap.size + 3 ∧ CBox W w.heap.size o s z k a n c ∧ W.cell? ⟨w.heap.size + 1, 0, none⟩ = some (.string name) ∧ CBox W (w.heap.size + 1 + 1) 0 ⟨#[]⟩ ⟨#[]⟩ SS.nil none 0 0 := by
  have b1 : CBox _ _ o s z k a n c := CBox.new w o s z k a n c
  have b2 := Blk.new (w.alloc (.cells #[.int .i64 o, .string s, .string z, .slice k.a k.n k.c, .slice a n c] 43)) #[.string name] 9
  have b3 := CBox.new ((w.alloc (.cells #[.int .i64 o, .string s, .string z, .slice k.a k.n k.c, .slice a n c] 43)).alloc (.cells #[.string name] 9)) 0 ⟨#[]⟩ ⟨#[]⟩ SS.nil none 0 0
  simp only [World.size_alloc] at b2 b3
  exact ⟨_, rfl, bel_alloc (bel_alloc (bel_alloc (Below.refl _ _) _) _) _, by simp, Blk.alloc (Blk.alloc b1 _) _, Blk.cell (Blk.alloc b2 _) 0, b3⟩
set_option maxRecDepth 100000 in
set_option maxHeartbeats 4000000 in
theorem Close_any (name : ByteArray) (t : Cl) (k : SS) (a : Option Addr) (n c : Nat) (w : World) (hsz : wt t ≤ 1000000) (hA : ArWC w t k a n c) :
    Calls Try.prog 48 #[.agg #[.int .i64 (opC t), .string (nmC t), .string (soC t), .slice k.a k.n k.c, .slice a n c], .string name] w fun e w' => RtC (wkC (fClose name) 0 t) w e w' := by
  obtain ⟨W, hW, hB, hs, S, d1, R⟩ := closeBoxes w (opC t) (nmC t) (soC t) k a n c name
  have cC := changed_any 111 #[.pointer (some ⟨w.heap.size + 1, 0, none⟩)] (fun _ _ => rfl) (fClose name) t k a n c W (close_clos name _ 1000000 W.heap.size W (by omega) d1 (by omega)) hsz (ArWC.b hA hB)
  have HFin := Lib.hid (show ∀ e w', RtC (wkC (fClose name) 0 t) W e w' → ∀ v0 v1 v2 v3 v4, RtC (wkC (fClose name) 0 t) w e (put5 w' (w.heap.size + 1 + 1) v0 v1 v2 v3 v4) from fun e w' h v0 v1 v2 v3 v4 => rtC_put h hB (by omega) (by omega) v0 v1 v2 v3 v4)
  have HR := Lib.hid R
  obtain ⟨s0, s1, s2, s3, s4⟩ := S.five
  obtain ⟨ka, kn, kc⟩ := k
  dsimp only at *
  clear hA S R
  generalize hr : wkC (fClose name) 0 t = r at *
  clear hr
  unfold put5 at HFin
  generalize opC t = op at *
  generalize nmC t = nm at *
  generalize soC t = so at *
  go_enter Try.func48, Try.ntmps48
  go_wp2_with (go_at_call 107; ((with_reducible refine cC.mono ?_); rintro e w3 h3; have HF := Lib.hid (HFin.out e w3 h3); obtain ⟨K0, K1, K2, A, N, C, rfl, hA3, hb3⟩ := h3; have R3 := CBox.b HR.out hb3; obtain ⟨r0, r1, r2, r3, r4⟩ := R3.free; obtain ⟨t0, t1, t2, t3, t4⟩ := R3.five; have F5 := CBox.put R3 (opC r) (nmC r) (soC r) ⟨K0, K1, K2⟩ A N C; unfold put5 at F5; obtain ⟨x0, x1, x2, x3, x4⟩ := F5.five; clear hA3 R3 F5))
  simp [bodyPost, results, Try.results48, go_sem, x0, x1, x2, x3, x4]
  exact HF.out _ _ _ _ _

/-- a term is returned that reads so, in new memory -/
def RtT (t : Tm) (w : World) (e : Ending) (w' : World) : Prop := ∃ (a : Option Addr) (n c : Nat), e = .returned (.agg #[.int .i64 (opT t), .string (nameT t), .int .i64 (numT t), .slice a n c]) ∧ ArP (Nw 0 0 w.heap.size w'.heap.size) w' t a n c ∧ Below w.heap.size w w'
def lone (t : Tm) : Cl := .mk 0 ⟨#[]⟩ ⟨#[]⟩ [t] []
theorem tbox_ts {w : World} {g : Nat} {t : Tm} {a : Option Addr} {n c : Nat} (h : TBox w g (opT t) (nameT t) (numT t) a n c) (hA : ArW w t a n c) : TsW w (some ⟨g, 0, none⟩) 1 1 [t] := by
  obtain ⟨c0, c1, c2, c3⟩ := h.four
  refine ⟨rfl, Nat.le_refl _, by unfold maxLen; omega, (fun h => by cases h), fun _ => ⟨g, 0, rfl, Blk.lt h, ?_⟩⟩
  rw [Rw]
  exact ⟨⟨a, n, c, c0, c1, c2, c3, hA⟩, by rw [Rw]; trivial⟩
theorem loneBoxes (w : World) (o : Int) (s : ByteArray) (z : Int) (a : Option Addr) (n c : Nat) :
    ∃ W, (w.alloc (.cells #[.int .i64 o, .string s, .int .i64 z, .slice a n c] 24)).alloc (.cells #[.int .i64 0, .string ⟨#[]⟩, .string ⟨#[]⟩, .slice none 0 0, .slice none 0 0] 43) = W ∧ Below w.heap.size w W ∧ W.heap.size = w.heap.size + 2 ∧ TBox W w.heap.size o s z a n c ∧ CBox W (w.heap.size + 1) 0 ⟨#[]⟩ ⟨#[]⟩ SS.nil none 0 0 := by
  have b1 := TBox.new w o s z a n c
  have b3 := CBox.new (w.alloc (.cells #[.int .i64 o, .string s, .int .i64 z, .slice a n c] 24)) 0 ⟨#[]⟩ ⟨#[]⟩ SS.nil none 0 0
  simp only [World.size_alloc] at b3
  exact ⟨_, rfl, bel_alloc (bel_alloc (Below.refl _ _) _) _, by simp, Blk.alloc b1 _, b3⟩
def LoneOk (t : Tm) (w : World) (e : Ending) (w' : World) : Prop := ∃ g, e = .returned (.agg #[.int .i64 0, .string ⟨#[]⟩, .string ⟨#[]⟩, .slice (some ⟨g, 0, none⟩) 1 1, .slice none 0 0]) ∧ ArWC w' (lone t) ⟨some ⟨g, 0, none⟩, 1, 1⟩ none 0 0 ∧ Below w.heap.size w w'
set_option maxRecDepth 100000 in
set_option maxHeartbeats 4000000 in
theorem alone_any (t : Tm) (a : Option Addr) (n c : Nat) (w : World) (hA : ArW w t a n c) :
    Calls Try.prog 170 #[.agg #[.int .i64 (opT t), .string (nameT t), .int .i64 (numT t), .slice a n c]] w fun e w' => LoneOk t w e w' := by
  obtain ⟨W, hW, hB, hs, S, R⟩ := loneBoxes w (opT t) (nameT t) (numT t) a n c
  obtain ⟨W3, hW3, hB3, hs3, S3⟩ := box1 W (opT t) (nameT t) (numT t) a n c
  rw [hs] at S3
  have hT := tbox_ts S3 (ArW.b hA (bel_trans hB hB3))
  have R3 := CBox.b R hB3
  have F5 := CBox.put R3 0 ⟨#[]⟩ ⟨#[]⟩ ⟨some ⟨w.heap.size + 2, 0, none⟩, 1, 1⟩ none 0 0
  have HFin := Lib.hid (show ∀ v0 v1 v2 v3 v4, ArWC (put5 W3 (w.heap.size + 1) v0 v1 v2 v3 v4) (lone t) ⟨some ⟨w.heap.size + 2, 0, none⟩, 1, 1⟩ none 0 0 ∧ Below w.heap.size w (put5 W3 (w.heap.size + 1) v0 v1 v2 v3 v4) from fun v0 v1 v2 v3 v4 => by
    have hArP : ArP (fun b => b ≠ w.heap.size + 1 ∧ b < W3.heap.size) W3 (.mk 0 ⟨#[]⟩ 0 [t]) (some ⟨w.heap.size + 2, 0, none⟩) 1 1 := by
      obtain ⟨c0, c1, c2, c3⟩ := S3.four
      rw [ArP]
      refine ⟨rfl, Nat.le_refl _, by unfold maxLen; omega, (fun h => by cases h), fun _ => ⟨w.heap.size + 2, 0, rfl, ⟨by omega, by omega⟩, ?_⟩⟩
      rw [RwP]
      exact ⟨⟨a, n, c, c0, c1, c2, c3, ArP.to (fun b hb => (bel_trans hB hB3).block b hb) (fun b hb => ⟨by omega, by omega⟩) t (Ar.p t hA)⟩, by rw [RwP]; trivial⟩
    refine ⟨?_, put5_below (bel_trans hB hB3) (by omega) _ _ _ _ _⟩
    unfold ArWC lone
    rw [ArC]
    refine ⟨?_, rfl, Nat.le_refl _, Nat.zero_le _, fun _ => rfl, fun h => absurd h (by omega)⟩
    refine ar_isT.1 (ArP.ar (P := fun b => b ≠ w.heap.size + 1 ∧ b < W3.heap.size) (fun b hb => by rw [put5_size]; exact hb.2) _ (ArP.to (fun b hb => put5_other W3 _ b _ _ _ _ _ hb.1) (fun b hb => hb) _ hArP)))
  unfold put5 at HFin F5
  obtain ⟨s0, s1, s2, s3⟩ := S.four
  obtain ⟨r0, r1, r2, r3, r4⟩ := R3.free
  obtain ⟨t0, t1, t2, t3, t4⟩ := R3.five
  obtain ⟨x0, x1, x2, x3, x4⟩ := F5.five
  dsimp only [SS.nil] at t3 x3
  clear hA S R S3 R3 F5 hT
  generalize opT t = op at *
  generalize nameT t = nm at *
  generalize numT t = nu at *
  go_enter Try.func170, Try.ntmps170
  go_wp2
  simp [bodyPost, results, Try.results170, go_sem, x0, x1, x2, x3, x4]
  exact ⟨w.heap.size + 2, rfl, HFin.out _ _ _ _ _⟩
theorem wkC_lone (f : Fn) (k : Int) (t : Tm) : wkC f k (lone t) = lone (wk f k t) := by
  unfold lone; rw [wkC, wks, wks, wkCs]
theorem wt_lone (t : Tm) : wt (lone t) = 1 + size t := by unfold lone; rw [wt, wts, sizes, sizes]; omega
theorem liftBox (w : World) (o : Int) (s : ByteArray) (z : Int) (a : Option Addr) (n c : Nat) :
    ∃ W, (w.alloc (.cells #[.int .i64 o, .string s, .int .i64 z, .slice a n c] 24)).alloc (.cells #[.int .i64 0, .string ⟨#[]⟩, .int .i64 0, .slice none 0 0] 24) = W ∧ Below w.heap.size w W ∧ W.heap.size = w.heap.size + 2 ∧ TBox W w.heap.size o s z a n c ∧ TBox W (w.heap.size + 1) 0 ⟨#[]⟩ 0 none 0 0 := box2 w o s z a n c 0 ⟨#[]⟩ 0 none 0 0
set_option maxRecDepth 100000 in
set_option maxHeartbeats 4000000 in
theorem Lift_any (by_ : Int) (t : Tm) (a : Option Addr) (n c : Nat) (w : World) (hsz : 1 + size t ≤ 1000000) (hA : ArW w t a n c) :
    Calls Try.prog 110 #[.agg #[.int .i64 (opT t), .string (nameT t), .int .i64 (numT t), .slice a n c], .int .i64 by_] w fun e w' => RtT (wk (fLift by_ 0) 0 t) w e w' := by
  obtain ⟨W, hW, hB, hs, S, R⟩ := liftBox w (opT t) (nameT t) (numT t) a n c
  have cA := alone_any t a n c W (ArW.b hA hB)
  have cL := fun (g : Nat) (w' : World) (h : ArWC w' (lone t) ⟨some ⟨g, 0, none⟩, 1, 1⟩ none 0 0) => LiftClaim_any by_ 0 (lone t) ⟨some ⟨g, 0, none⟩, 1, 1⟩ none 0 0 w' (by rw [wt_lone]; exact hsz) h
  rw [wkC_lone] at cL
  have cL2 : ∀ (g : Nat) (w' : World) (h : ArWC w' (lone t) ⟨some ⟨g, 0, none⟩, 1, 1⟩ none 0 0), Calls Try.prog 169 #[.agg #[.int .i64 0, .string ⟨#[]⟩, .string ⟨#[]⟩, .slice (some ⟨g, 0, none⟩) 1 1, .slice none 0 0], .int .i64 by_, .int .i64 0] w' fun e w1 => RtC (lone (wk (fLift by_ 0) 0 t)) w' e w1 := cL
  clear cL
  obtain ⟨s0, s1, s2, s3⟩ := S.four
  have HR := Lib.hid R
  clear hA S R
  have HOpen := Lib.hid (show ∀ (w3 w4 : World) (r : Tm) (e : Ending), RtC (lone r) w3 e w4 → Below W.heap.size W w3 → ∃ (b o c' : Nat) (ka : Option Addr) (kn : Nat) (a' : Option Addr) (n' k' : Nat) (a1 : Option Addr) (n1 c1 : Nat), e = .returned (.agg #[.int .i64 0, .string ⟨#[]⟩, .string ⟨#[]⟩, .slice ka kn c', .slice a' n' k']) ∧ ka = some ⟨b, o, none⟩ ∧ kn = 1 ∧ (w4.cell? ⟨b, o, none⟩ = some (.int .i64 (opT r)) ∧ w4.cell? ⟨b, o + 1, none⟩ = some (.string (nameT r)) ∧ w4.cell? ⟨b, o + 2, none⟩ = some (.int .i64 (numT r)) ∧ w4.cell? ⟨b, o + 3, none⟩ = some (.slice a1 n1 c1)) ∧ 1 ≤ c' ∧ TBox w4 (w.heap.size + 1) 0 ⟨#[]⟩ 0 none 0 0 ∧ ∀ v0 v1 v2 v3, RtT r w (.returned (.agg #[.int .i64 (opT r), .string (nameT r), .int .i64 (numT r), .slice a1 n1 c1])) ((((w4.setCell ⟨w.heap.size + 1, 0, none⟩ v0).setCell ⟨w.heap.size + 1, 1, none⟩ v1).setCell ⟨w.heap.size + 1, 2, none⟩ v2).setCell ⟨w.heap.size + 1, 3, none⟩ v3) from fun w3 w4 r e h b3 => by
    obtain ⟨ka, kn, kc, a', n', c', e1, hA, b4⟩ := h
    unfold lone at hA e1
    rw [ArCP] at hA
    obtain ⟨hT, _⟩ := hA
    unfold IsTP at hT
    rw [ArP] at hT
    obtain ⟨h1, h2, h3, h4, h5⟩ := hT
    dsimp only at h1 h2 h3 h4 h5
    obtain ⟨b, o, e2, hb, hr⟩ := h5 (by rw [h1]; simp)
    rw [RwP] at hr
    obtain ⟨⟨a1, n1, c1, y0, y1, y2, y3, hA1⟩, _⟩ := hr
    have q3 := b3.size
    have q4 := b4.size
    refine ⟨b, o, kc, ka, kn, a', n', c', a1, n1, c1, e1, e2, by simpa using h1, ⟨y0, y1, y2, y3⟩, by have : kn = 1 := (by simpa using h1); omega, TBox.b HR.out (bel_trans b3 b4), fun v0 v1 v2 v3 => ⟨a1, n1, c1, rfl, ?_, put_below (bel_trans hB (bel_trans b3 b4)) (by omega) _ _ _ _⟩⟩
    exact ArP.to (fun x hx => put_other w4 _ x _ _ _ _ (by unfold Nw at hx; omega)) (fun x hx => by rw [put_size]; unfold Nw at hx ⊢; omega) _ hA1)
  generalize wk (fLift by_ 0) 0 t = r at *
  generalize opT t = op at *
  generalize nameT t = nm at *
  generalize numT t = nu at *
  have qF : ∀ (x y : Option Addr) (n1 c1 n2 c2 : Nat) (w' : World), (Instr.field 43 (.agg #[.int .i64 0, .string ⟨#[]⟩, .string ⟨#[]⟩, .slice x n1 c1, .slice y n2 c2]) 3).run Try.prog w' = .ok (.slice x n1 c1) w' := fun _ _ _ _ _ _ _ => by kernel_rfl
  go_enter Try.func110, Try.ntmps110
  go_wp2_with (first
    | (go_at_call 170; ((with_reducible refine cA.mono ?_); rintro e w3 ⟨g, rfl, hA3, hb3⟩; have cL := cL2 g w3 hA3; have Hb3 := Lib.hid hb3; clear hA3 hb3))
    | (go_at_call 169; ((with_reducible refine cL.mono ?_); rintro e w4 h4; obtain ⟨b, o, c', ka, kn, a', n', k', a1, n1, c1, rfl, rfl, rfl, ⟨y0, y1, y2, y3⟩, hc', T4, hf4⟩ := HOpen.out w3 w4 r e h4 Hb3.out; have HF := Lib.hid hf4; obtain ⟨r0, r1, r2, r3⟩ := T4.free; obtain ⟨t0, t1, t2, t3⟩ := T4.four; have F5 := TBox.put T4 (opT r) (nameT r) (numT r) a1 n1 c1; obtain ⟨x0, x1, x2, x3⟩ := F5.four; clear h4 hf4 T4 F5)))
  simp [bodyPost, results, Try.results110, go_sem, x0, x1, x2, x3]
  exact HF.out _ _ _ _
end Go.Proofs.Ytokkafekdaniaaa.B
