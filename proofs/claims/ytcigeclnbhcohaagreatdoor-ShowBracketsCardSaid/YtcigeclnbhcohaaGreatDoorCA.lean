/-
  What is proved: the texts of claims without binders, by a scope.
  What is proved: the texts of claims of a binder, by a scope.
-/
import Derived.Test.YtcigeclnbhcohaaGreatDoorZShCa
import Derived.Deep.Cut
import Derived.Deep.CutRange
namespace Go.Proofs.YtcigeclnbhcohaaGreatDoor.Sh
open Go.RowKit L T C
set_option linter.unusedVariables false
set_option linter.unusedSimpArgs false
set_option maxRecDepth 100000

/-- the text of this claim, by a scope, in every world that has grown since W -/
def ClaimOk (W : World) (fr : List ByteArray) (t : Cl) : Prop :=
  ∀ (z : Sv) (bs : List ByteArray) (m : Int) (fol : Bool) (ks : SS) (a : Option Addr) (n c : Nat) (w : World), Below W.heap.size W w → z.ok w fr bs → shB bs → bs.length + wt t ≤ 10000 → ArWC w t ks a n c → 0 ≤ m → m ≤ 5 →
    Calls Tryz.prog 39 #[z.val, .agg #[.int .i64 (opC t), .string (nmC t), .string (soC t), .slice ks.a ks.n ks.c, .slice a n c], .int .i64 m, .bool fol] w fun e w' => e = .returned (.string (cT fr t bs m fol)) ∧ Below w.heap.size w w'
set_option maxHeartbeats 8000000 in
theorem claim_true {W : World} (E : Env W) {fr bs : List ByteArray}  (s so : ByteArray)
    (z : Sv) (m : Int) (fol : Bool) (ks : SS) (a : Option Addr) (n c : Nat) (w : World) (hw : Below W.heap.size W w) (hz : z.ok w fr bs) (m0 : decide ((0 : Int) > m) = false) :
    Calls Tryz.prog 39 #[z.val, .agg #[.int .i64 1, .string s, .string so, .slice ks.a ks.n ks.c, .slice a n c], .int .i64 m, .bool fol] w fun e w' => e = .returned (.string (⟨#[116, 114, 117, 101]⟩)) ∧ Below w.heap.size w w' := by
  obtain ⟨W1, hW1, hB1, hs1, S1, T1⟩ := scbox w z.a z.n z.c z.b z.m z.d 1 s so ks a n c
  obtain ⟨W2, hW2, hB2, hs2, p0, p1, i0, i1, f0, f1⟩ := obox2 W1 ⟨#[]⟩ 0
  have hB12 : Below w.heap.size w W2 := bel_trans hB1 hB2
  have hw1 : Below W.heap.size W W1 := hw.trans (hB1.mono hw.size)
  have hww : Below W.heap.size W W2 := hw.trans (hB12.mono hw.size)
  obtain ⟨g0, g1⟩ : W1.cell? ⟨1, 2, none⟩ = some (.string ⟨#[]⟩) ∧ W1.cell? ⟨1, 3, none⟩ = some (.int .i64 0) := E.cop W1 hw1 1 (by decide)
  obtain ⟨s0, s1⟩ := (S1.bl hB2).two
  obtain ⟨t0, t1, t2, t3, t4⟩ := (CBox.b T1 hB2).five
  obtain ⟨u0, u1, u2, u3, u4⟩ := T1.five
  rw [hs1] at p0 p1 i0 i1 f0 f1
  unfold Sv.val
  clear hz S1 T1 E hw hww hB1 hB2
  obtain ⟨za, zn, zc, zb, zm, zd⟩ := z
  obtain ⟨ka, kn, kc⟩ := ks
  dsimp only at *
  go_enter Tryz.func39, Tryz.ntmps39
  go_wp2
  go_ret
  exact ⟨rfl, hB12⟩

set_option maxHeartbeats 8000000 in
theorem claim_false {W : World} (E : Env W) {fr bs : List ByteArray}  (s so : ByteArray)
    (z : Sv) (m : Int) (fol : Bool) (ks : SS) (a : Option Addr) (n c : Nat) (w : World) (hw : Below W.heap.size W w) (hz : z.ok w fr bs) (m0 : decide ((0 : Int) > m) = false) :
    Calls Tryz.prog 39 #[z.val, .agg #[.int .i64 2, .string s, .string so, .slice ks.a ks.n ks.c, .slice a n c], .int .i64 m, .bool fol] w fun e w' => e = .returned (.string (⟨#[102, 97, 108, 115, 101]⟩)) ∧ Below w.heap.size w w' := by
  obtain ⟨W1, hW1, hB1, hs1, S1, T1⟩ := scbox w z.a z.n z.c z.b z.m z.d 2 s so ks a n c
  obtain ⟨W2, hW2, hB2, hs2, p0, p1, i0, i1, f0, f1⟩ := obox2 W1 ⟨#[]⟩ 0
  have hB12 : Below w.heap.size w W2 := bel_trans hB1 hB2
  have hw1 : Below W.heap.size W W1 := hw.trans (hB1.mono hw.size)
  have hww : Below W.heap.size W W2 := hw.trans (hB12.mono hw.size)
  obtain ⟨g0, g1⟩ : W1.cell? ⟨1, 4, none⟩ = some (.string ⟨#[]⟩) ∧ W1.cell? ⟨1, 5, none⟩ = some (.int .i64 0) := E.cop W1 hw1 2 (by decide)
  obtain ⟨s0, s1⟩ := (S1.bl hB2).two
  obtain ⟨t0, t1, t2, t3, t4⟩ := (CBox.b T1 hB2).five
  obtain ⟨u0, u1, u2, u3, u4⟩ := T1.five
  rw [hs1] at p0 p1 i0 i1 f0 f1
  unfold Sv.val
  clear hz S1 T1 E hw hww hB1 hB2
  obtain ⟨za, zn, zc, zb, zm, zd⟩ := z
  obtain ⟨ka, kn, kc⟩ := ks
  dsimp only at *
  go_enter Tryz.func39, Tryz.ntmps39
  go_wp2
  go_ret
  exact ⟨rfl, hB12⟩

set_option maxHeartbeats 8000000 in
theorem claim_pred {W : World} (E : Env W) {fr bs : List ByteArray} (ts : List Tm) (hok : ∀ x ∈ ts, TermOk W bs x) (ht : tot (tXs bs ts) ≤ 1000000000) (s so : ByteArray)
    (z : Sv) (m : Int) (fol : Bool) (ks : SS) (a : Option Addr) (n c : Nat) (w : World) (hw : Below W.heap.size W w) (hz : z.ok w fr bs) (hs : s.size ≤ 100) (hT : KsW w ks ts) (hn : ks.n ≤ 1000000) (m0 : decide ((0 : Int) > m) = false) :
    Calls Tryz.prog 39 #[z.val, .agg #[.int .i64 3, .string s, .string so, .slice ks.a ks.n ks.c, .slice a n c], .int .i64 m, .bool fol] w fun e w' => e = .returned (.string (apX s (tXs bs ts))) ∧ Below w.heap.size w w' := by
  obtain ⟨W1, hW1, hB1, hs1, S1, T1⟩ := scbox w z.a z.n z.c z.b z.m z.d 3 s so ks a n c
  obtain ⟨W2, hW2, hB2, hs2, p0, p1, i0, i1, f0, f1⟩ := obox2 W1 ⟨#[]⟩ 0
  have hB12 : Below w.heap.size w W2 := bel_trans hB1 hB2
  have hw1 : Below W.heap.size W W1 := hw.trans (hB1.mono hw.size)
  have hww : Below W.heap.size W W2 := hw.trans (hB12.mono hw.size)
  obtain ⟨g0, g1⟩ : W1.cell? ⟨1, 6, none⟩ = some (.string ⟨#[]⟩) ∧ W1.cell? ⟨1, 7, none⟩ = some (.int .i64 0) := E.cop W1 hw1 3 (by decide)
  obtain ⟨s0, s1⟩ := (S1.bl hB2).two
  obtain ⟨t0, t1, t2, t3, t4⟩ := (CBox.b T1 hB2).five
  obtain ⟨u0, u1, u2, u3, u4⟩ := T1.five
  rw [hs1] at p0 p1 i0 i1 f0 f1
  have cb := applied_any E ts hok s hs ht z fr ks.a ks.n ks.c W2 hww (hz.bl hB12) (TsW.b hT hB12) hn
  unfold Sv.val at cb ⊢
  clear hz S1 T1 E hw hww hB1 hB2 hok hT ht
  generalize apX s (tXs bs ts) = R at *
  obtain ⟨za, zn, zc, zb, zm, zd⟩ := z
  obtain ⟨ka, kn, kc⟩ := ks
  dsimp only at *
  go_enter Tryz.func39, Tryz.ntmps39
  go_wp2_with (go_at_call 60; ((with_reducible refine cb.mono ?_); rintro e w8 ⟨rfl, hb8⟩))
  go_ret
  exact ⟨rfl, bel_trans hB12 hb8⟩

set_option maxHeartbeats 8000000 in
theorem claim_eq {W : World} (E : Env W) {fr bs : List ByteArray} (x y : Tm) (hx : TermOk W bs x) (hy : TermOk W bs y) (hsx : (tX bs x).size ≤ 1000000000) (hsy : (tX bs y).size ≤ 1000000000) (s so : ByteArray)
    (z : Sv) (m : Int) (fol : Bool) (ks : SS) (a : Option Addr) (n c : Nat) (w : World) (hw : Below W.heap.size W w) (hz : z.ok w fr bs) (hT : KsW w ks [x, y]) (m0 : decide ((0 : Int) > m) = false) :
    Calls Tryz.prog 39 #[z.val, .agg #[.int .i64 4, .string s, .string so, .slice ks.a ks.n ks.c, .slice a n c], .int .i64 m, .bool fol] w fun e w' => e = .returned (.string (tX bs x ++ (⟨#[32, 61, 32]⟩ ++ tX bs y))) ∧ Below w.heap.size w w' := by
  obtain ⟨W1, hW1, hB1, hs1, S1, T1⟩ := scbox w z.a z.n z.c z.b z.m z.d 4 s so ks a n c
  obtain ⟨W2, hW2, hB2, hs2, p0, p1, i0, i1, f0, f1⟩ := obox2 W1 ⟨#[61]⟩ 0
  have hB12 : Below w.heap.size w W2 := bel_trans hB1 hB2
  have hw1 : Below W.heap.size W W1 := hw.trans (hB1.mono hw.size)
  have hww : Below W.heap.size W W2 := hw.trans (hB12.mono hw.size)
  obtain ⟨g0, g1⟩ : W1.cell? ⟨1, 8, none⟩ = some (.string ⟨#[61]⟩) ∧ W1.cell? ⟨1, 9, none⟩ = some (.int .i64 0) := E.cop W1 hw1 4 (by decide)
  obtain ⟨s0, s1⟩ := (S1.bl hB2).two
  obtain ⟨t0, t1, t2, t3, t4⟩ := (CBox.b T1 hB2).five
  obtain ⟨u0, u1, u2, u3, u4⟩ := T1.five
  rw [hs1] at p0 p1 i0 i1 f0 f1
  obtain ⟨sg, hsg⟩ : ∃ v : ByteArray, ⟨#[61]⟩ = v := ⟨_, rfl⟩
  have hsgz : sg.size ≤ 2 := by rw [← hsg]; decide
  have hsgn : ⟨#[32, 61, 32]⟩ = ⟨#[32]⟩ ++ (sg ++ ⟨#[32]⟩) := by rw [← hsg]; rfl
  rw [hsg] at p0 i0 g0 hW2
  obtain ⟨ka, kn, kc⟩ := ks
  dsimp only at *
  obtain ⟨bb, oo, a', n', c', a2, n2, c2, rfl, rfl, hbb, ⟨y0, y1, y2, y3, hAx⟩, ⟨x0, x1, x2, x3, hAy⟩⟩ := args2 (TsW.b hT hB12)
  have cx := fun (w' : World) (h : Below W2.heap.size W2 w') => hx z fr 5 a' n' c' w' (hww.trans (h.mono hww.size)) (hz.bl (bel_trans hB12 h)) (ArW.b hAx h) (by omega) (by omega)
  have cy := fun (w' : World) (h : Below W2.heap.size W2 w') => hy z fr 5 a2 n2 c2 w' (hww.trans (h.mono hww.size)) (hz.bl (bel_trans hB12 h)) (ArW.b hAy h) (by omega) (by omega)
  simp only [tP5] at cx cy
  have hsp : (⟨#[32]⟩ : ByteArray).size = 1 := rfl
  obtain ⟨X1, e1⟩ : ∃ v, tX bs x ++ (⟨#[32]⟩ : ByteArray) = v := ⟨_, rfl⟩
  obtain ⟨X2, e2⟩ : ∃ v, X1 ++ sg = v := ⟨_, rfl⟩
  obtain ⟨X3, e3⟩ : ∃ v, X2 ++ (⟨#[32]⟩ : ByteArray) = v := ⟨_, rfl⟩
  have e4 : X3 ++ tX bs y = tX bs x ++ (⟨#[32, 61, 32]⟩ ++ tX bs y) := by
    rw [← e3, ← e2, ← e1, hsgn]; simp only [ByteArray.append_assoc]
  have z1 : X1.size ≤ 1000000001 := by rw [← e1, ByteArray.size_append, hsp]; omega
  have z2 : X2.size ≤ 1000000003 := by rw [← e2, ByteArray.size_append]; omega
  have z3 : X3.size ≤ 1000000004 := by rw [← e3, ByteArray.size_append, hsp]; omega
  have r1 : ∀ w, (Op.stringOp .add (tX bs x) ⟨#[32]⟩).run Tryz.prog w = .ok (.string X1) w := fun w => by rw [run_string_add_sum w _ _ (by omega), e1]
  have r2 : ∀ w, (Op.stringOp .add X1 sg).run Tryz.prog w = .ok (.string X2) w := fun w => by rw [run_string_add_sum w _ _ (by omega), e2]
  have r3 : ∀ w, (Op.stringOp .add X2 ⟨#[32]⟩).run Tryz.prog w = .ok (.string X3) w := fun w => by rw [run_string_add_sum w _ _ (by omega), e3]
  have r4 : ∀ w, (Op.stringOp .add X3 (tX bs y)).run Tryz.prog w = .ok (.string (tX bs x ++ (⟨#[32, 61, 32]⟩ ++ tX bs y))) w := fun w => by rw [run_string_add_sum w _ _ (by omega), e4]
  unfold Sv.val at cx cy ⊢
  clear hx hy hz hT S1 T1 hAx hAy E hw hw1 hww e1 e2 e3 e4 z1 z2 z3 hsp hsx hsy hsgz hsgn
  generalize (tX bs x ++ (⟨#[32, 61, 32]⟩ ++ tX bs y)) = R at *
  generalize tX bs x = X at *
  generalize tX bs y = Y at *
  generalize opT x = xo at *
  generalize nameT x = xs at *
  generalize numT x = xz at *
  generalize opT y = yo at *
  generalize nameT y = ys at *
  generalize numT y = yz at *
  obtain ⟨za, zn, zc, zb, zm, zd⟩ := z
  dsimp only at *
  have l1 : w.heap.size < W2.heap.size := by omega
  have l2 : w.heap.size + 1 < W2.heap.size := by omega
  have l3 : w.heap.size + 2 < W2.heap.size := by omega
  have HS := Lib.hid (show ∀ w', Below W2.heap.size W2 w' → (w'.cell? ⟨w.heap.size, 0, none⟩ = some (.slice za zn zc) ∧ w'.cell? ⟨w.heap.size, 1, none⟩ = some (.slice zb zm zd) ∧ w'.cell? ⟨w.heap.size + 1, 3, none⟩ = some (.slice (some ⟨bb, oo, none⟩) 2 kc) ∧ w'.cell? ⟨w.heap.size + 2, 0, none⟩ = some (.string sg) ∧ w'.cell? ⟨bb, oo, none⟩ = some (.int .i64 xo) ∧ w'.cell? ⟨bb, oo + 1, none⟩ = some (.string xs) ∧ w'.cell? ⟨bb, oo + 1 + 1, none⟩ = some (.int .i64 xz) ∧ w'.cell? ⟨bb, oo + 1 + 1 + 1, none⟩ = some (.slice a' n' c') ∧ w'.cell? ⟨bb, oo + 4, none⟩ = some (.int .i64 yo) ∧ w'.cell? ⟨bb, oo + 4 + 1, none⟩ = some (.string ys) ∧ w'.cell? ⟨bb, oo + 4 + 1 + 1, none⟩ = some (.int .i64 yz) ∧ w'.cell? ⟨bb, oo + 4 + 1 + 1 + 1, none⟩ = some (.slice a2 n2 c2)) from fun w' h =>
    ⟨(h.cell (p := ⟨w.heap.size, 0, none⟩) l1).trans s0, (h.cell (p := ⟨w.heap.size, 1, none⟩) l1).trans s1, (h.cell (p := ⟨w.heap.size + 1, 3, none⟩) l2).trans t3, (h.cell (p := ⟨w.heap.size + 2, 0, none⟩) l3).trans p0,
      (h.cell (p := ⟨bb, _, none⟩) hbb).trans y0, (h.cell (p := ⟨bb, _, none⟩) hbb).trans y1, (h.cell (p := ⟨bb, _, none⟩) hbb).trans y2, (h.cell (p := ⟨bb, _, none⟩) hbb).trans y3, (h.cell (p := ⟨bb, _, none⟩) hbb).trans x0, (h.cell (p := ⟨bb, _, none⟩) hbb).trans x1, (h.cell (p := ⟨bb, _, none⟩) hbb).trans x2, (h.cell (p := ⟨bb, _, none⟩) hbb).trans x3⟩)
  have B2d : Below W2.heap.size W2 W2.drew := (Below.refl _ _).drew
  have c1 := cx W2.drew B2d
  have HB := Lib.hid hB12
  clear cx hB12 hB1 hB2
  go_enter Tryz.func39, Tryz.ntmps39
  go_wp2
  go_region_held3 (fun w' => w'.cell? ⟨w.heap.size, 0, none⟩ = some (.slice za zn zc) ∧ w'.cell? ⟨w.heap.size, 1, none⟩ = some (.slice zb zm zd) ∧ w'.cell? ⟨w.heap.size + 1, 3, none⟩ = some (.slice (some ⟨bb, oo, none⟩) 2 kc) ∧ w'.cell? ⟨w.heap.size + 2, 0, none⟩ = some (.string sg) ∧ w'.cell? ⟨bb, oo, none⟩ = some (.int .i64 xo) ∧ w'.cell? ⟨bb, oo + 1, none⟩ = some (.string xs) ∧ w'.cell? ⟨bb, oo + 1 + 1, none⟩ = some (.int .i64 xz) ∧ w'.cell? ⟨bb, oo + 1 + 1 + 1, none⟩ = some (.slice a' n' c') ∧ w'.cell? ⟨bb, oo + 4, none⟩ = some (.int .i64 yo) ∧ w'.cell? ⟨bb, oo + 4 + 1, none⟩ = some (.string ys) ∧ w'.cell? ⟨bb, oo + 4 + 1 + 1, none⟩ = some (.int .i64 yz) ∧ w'.cell? ⟨bb, oo + 4 + 1 + 1 + 1, none⟩ = some (.slice a2 n2 c2))
    (first | exact HS.out _ B7 | exact HS.out _ B6 | exact HS.out _ B2d | go_keep)
    (first
      | (go_at_call 33; ((with_reducible refine c1.mono ?_); rintro e w6 ⟨rfl, hb6⟩; clear c1; have B6 := bel_trans B2d hb6))
      | (go_at_call 33; ((with_reducible refine (cy _ B6).mono ?_); rintro e w7 ⟨rfl, hb7⟩; have B7 := bel_trans B6 hb7)))
  go_wp2
  go_ret
  exact ⟨rfl, bel_trans HB.out B7⟩

set_option maxHeartbeats 8000000 in
theorem claim_le {W : World} (E : Env W) {fr bs : List ByteArray} (x y : Tm) (hx : TermOk W bs x) (hy : TermOk W bs y) (hsx : (tX bs x).size ≤ 1000000000) (hsy : (tX bs y).size ≤ 1000000000) (s so : ByteArray)
    (z : Sv) (m : Int) (fol : Bool) (ks : SS) (a : Option Addr) (n c : Nat) (w : World) (hw : Below W.heap.size W w) (hz : z.ok w fr bs) (hT : KsW w ks [x, y]) (m0 : decide ((0 : Int) > m) = false) :
    Calls Tryz.prog 39 #[z.val, .agg #[.int .i64 5, .string s, .string so, .slice ks.a ks.n ks.c, .slice a n c], .int .i64 m, .bool fol] w fun e w' => e = .returned (.string (tX bs x ++ (⟨#[32, 60, 61, 32]⟩ ++ tX bs y))) ∧ Below w.heap.size w w' := by
  obtain ⟨W1, hW1, hB1, hs1, S1, T1⟩ := scbox w z.a z.n z.c z.b z.m z.d 5 s so ks a n c
  obtain ⟨W2, hW2, hB2, hs2, p0, p1, i0, i1, f0, f1⟩ := obox2 W1 ⟨#[60, 61]⟩ 0
  have hB12 : Below w.heap.size w W2 := bel_trans hB1 hB2
  have hw1 : Below W.heap.size W W1 := hw.trans (hB1.mono hw.size)
  have hww : Below W.heap.size W W2 := hw.trans (hB12.mono hw.size)
  obtain ⟨g0, g1⟩ : W1.cell? ⟨1, 10, none⟩ = some (.string ⟨#[60, 61]⟩) ∧ W1.cell? ⟨1, 11, none⟩ = some (.int .i64 0) := E.cop W1 hw1 5 (by decide)
  obtain ⟨s0, s1⟩ := (S1.bl hB2).two
  obtain ⟨t0, t1, t2, t3, t4⟩ := (CBox.b T1 hB2).five
  obtain ⟨u0, u1, u2, u3, u4⟩ := T1.five
  rw [hs1] at p0 p1 i0 i1 f0 f1
  obtain ⟨sg, hsg⟩ : ∃ v : ByteArray, ⟨#[60, 61]⟩ = v := ⟨_, rfl⟩
  have hsgz : sg.size ≤ 2 := by rw [← hsg]; decide
  have hsgn : ⟨#[32, 60, 61, 32]⟩ = ⟨#[32]⟩ ++ (sg ++ ⟨#[32]⟩) := by rw [← hsg]; rfl
  rw [hsg] at p0 i0 g0 hW2
  obtain ⟨ka, kn, kc⟩ := ks
  dsimp only at *
  obtain ⟨bb, oo, a', n', c', a2, n2, c2, rfl, rfl, hbb, ⟨y0, y1, y2, y3, hAx⟩, ⟨x0, x1, x2, x3, hAy⟩⟩ := args2 (TsW.b hT hB12)
  have cx := fun (w' : World) (h : Below W2.heap.size W2 w') => hx z fr 5 a' n' c' w' (hww.trans (h.mono hww.size)) (hz.bl (bel_trans hB12 h)) (ArW.b hAx h) (by omega) (by omega)
  have cy := fun (w' : World) (h : Below W2.heap.size W2 w') => hy z fr 5 a2 n2 c2 w' (hww.trans (h.mono hww.size)) (hz.bl (bel_trans hB12 h)) (ArW.b hAy h) (by omega) (by omega)
  simp only [tP5] at cx cy
  have hsp : (⟨#[32]⟩ : ByteArray).size = 1 := rfl
  obtain ⟨X1, e1⟩ : ∃ v, tX bs x ++ (⟨#[32]⟩ : ByteArray) = v := ⟨_, rfl⟩
  obtain ⟨X2, e2⟩ : ∃ v, X1 ++ sg = v := ⟨_, rfl⟩
  obtain ⟨X3, e3⟩ : ∃ v, X2 ++ (⟨#[32]⟩ : ByteArray) = v := ⟨_, rfl⟩
  have e4 : X3 ++ tX bs y = tX bs x ++ (⟨#[32, 60, 61, 32]⟩ ++ tX bs y) := by
    rw [← e3, ← e2, ← e1, hsgn]; simp only [ByteArray.append_assoc]
  have z1 : X1.size ≤ 1000000001 := by rw [← e1, ByteArray.size_append, hsp]; omega
  have z2 : X2.size ≤ 1000000003 := by rw [← e2, ByteArray.size_append]; omega
  have z3 : X3.size ≤ 1000000004 := by rw [← e3, ByteArray.size_append, hsp]; omega
  have r1 : ∀ w, (Op.stringOp .add (tX bs x) ⟨#[32]⟩).run Tryz.prog w = .ok (.string X1) w := fun w => by rw [run_string_add_sum w _ _ (by omega), e1]
  have r2 : ∀ w, (Op.stringOp .add X1 sg).run Tryz.prog w = .ok (.string X2) w := fun w => by rw [run_string_add_sum w _ _ (by omega), e2]
  have r3 : ∀ w, (Op.stringOp .add X2 ⟨#[32]⟩).run Tryz.prog w = .ok (.string X3) w := fun w => by rw [run_string_add_sum w _ _ (by omega), e3]
  have r4 : ∀ w, (Op.stringOp .add X3 (tX bs y)).run Tryz.prog w = .ok (.string (tX bs x ++ (⟨#[32, 60, 61, 32]⟩ ++ tX bs y))) w := fun w => by rw [run_string_add_sum w _ _ (by omega), e4]
  unfold Sv.val at cx cy ⊢
  clear hx hy hz hT S1 T1 hAx hAy E hw hw1 hww e1 e2 e3 e4 z1 z2 z3 hsp hsx hsy hsgz hsgn
  generalize (tX bs x ++ (⟨#[32, 60, 61, 32]⟩ ++ tX bs y)) = R at *
  generalize tX bs x = X at *
  generalize tX bs y = Y at *
  generalize opT x = xo at *
  generalize nameT x = xs at *
  generalize numT x = xz at *
  generalize opT y = yo at *
  generalize nameT y = ys at *
  generalize numT y = yz at *
  obtain ⟨za, zn, zc, zb, zm, zd⟩ := z
  dsimp only at *
  have l1 : w.heap.size < W2.heap.size := by omega
  have l2 : w.heap.size + 1 < W2.heap.size := by omega
  have l3 : w.heap.size + 2 < W2.heap.size := by omega
  have HS := Lib.hid (show ∀ w', Below W2.heap.size W2 w' → (w'.cell? ⟨w.heap.size, 0, none⟩ = some (.slice za zn zc) ∧ w'.cell? ⟨w.heap.size, 1, none⟩ = some (.slice zb zm zd) ∧ w'.cell? ⟨w.heap.size + 1, 3, none⟩ = some (.slice (some ⟨bb, oo, none⟩) 2 kc) ∧ w'.cell? ⟨w.heap.size + 2, 0, none⟩ = some (.string sg) ∧ w'.cell? ⟨bb, oo, none⟩ = some (.int .i64 xo) ∧ w'.cell? ⟨bb, oo + 1, none⟩ = some (.string xs) ∧ w'.cell? ⟨bb, oo + 1 + 1, none⟩ = some (.int .i64 xz) ∧ w'.cell? ⟨bb, oo + 1 + 1 + 1, none⟩ = some (.slice a' n' c') ∧ w'.cell? ⟨bb, oo + 4, none⟩ = some (.int .i64 yo) ∧ w'.cell? ⟨bb, oo + 4 + 1, none⟩ = some (.string ys) ∧ w'.cell? ⟨bb, oo + 4 + 1 + 1, none⟩ = some (.int .i64 yz) ∧ w'.cell? ⟨bb, oo + 4 + 1 + 1 + 1, none⟩ = some (.slice a2 n2 c2)) from fun w' h =>
    ⟨(h.cell (p := ⟨w.heap.size, 0, none⟩) l1).trans s0, (h.cell (p := ⟨w.heap.size, 1, none⟩) l1).trans s1, (h.cell (p := ⟨w.heap.size + 1, 3, none⟩) l2).trans t3, (h.cell (p := ⟨w.heap.size + 2, 0, none⟩) l3).trans p0,
      (h.cell (p := ⟨bb, _, none⟩) hbb).trans y0, (h.cell (p := ⟨bb, _, none⟩) hbb).trans y1, (h.cell (p := ⟨bb, _, none⟩) hbb).trans y2, (h.cell (p := ⟨bb, _, none⟩) hbb).trans y3, (h.cell (p := ⟨bb, _, none⟩) hbb).trans x0, (h.cell (p := ⟨bb, _, none⟩) hbb).trans x1, (h.cell (p := ⟨bb, _, none⟩) hbb).trans x2, (h.cell (p := ⟨bb, _, none⟩) hbb).trans x3⟩)
  have B2d : Below W2.heap.size W2 W2.drew := (Below.refl _ _).drew
  have c1 := cx W2.drew B2d
  have HB := Lib.hid hB12
  clear cx hB12 hB1 hB2
  go_enter Tryz.func39, Tryz.ntmps39
  go_wp2
  go_region_held3 (fun w' => w'.cell? ⟨w.heap.size, 0, none⟩ = some (.slice za zn zc) ∧ w'.cell? ⟨w.heap.size, 1, none⟩ = some (.slice zb zm zd) ∧ w'.cell? ⟨w.heap.size + 1, 3, none⟩ = some (.slice (some ⟨bb, oo, none⟩) 2 kc) ∧ w'.cell? ⟨w.heap.size + 2, 0, none⟩ = some (.string sg) ∧ w'.cell? ⟨bb, oo, none⟩ = some (.int .i64 xo) ∧ w'.cell? ⟨bb, oo + 1, none⟩ = some (.string xs) ∧ w'.cell? ⟨bb, oo + 1 + 1, none⟩ = some (.int .i64 xz) ∧ w'.cell? ⟨bb, oo + 1 + 1 + 1, none⟩ = some (.slice a' n' c') ∧ w'.cell? ⟨bb, oo + 4, none⟩ = some (.int .i64 yo) ∧ w'.cell? ⟨bb, oo + 4 + 1, none⟩ = some (.string ys) ∧ w'.cell? ⟨bb, oo + 4 + 1 + 1, none⟩ = some (.int .i64 yz) ∧ w'.cell? ⟨bb, oo + 4 + 1 + 1 + 1, none⟩ = some (.slice a2 n2 c2))
    (first | exact HS.out _ B7 | exact HS.out _ B6 | exact HS.out _ B2d | go_keep)
    (first
      | (go_at_call 33; ((with_reducible refine c1.mono ?_); rintro e w6 ⟨rfl, hb6⟩; clear c1; have B6 := bel_trans B2d hb6))
      | (go_at_call 33; ((with_reducible refine (cy _ B6).mono ?_); rintro e w7 ⟨rfl, hb7⟩; have B7 := bel_trans B6 hb7)))
  go_wp2
  go_ret
  exact ⟨rfl, bel_trans HB.out B7⟩

set_option maxHeartbeats 8000000 in
theorem claim_not {W : World} (E : Env W) {fr bs : List ByteArray} (hb : shB bs) (x : Cl) (hx : ClaimOk W fr x) (hl : bs.length + wt x ≤ 10000) (s so : ByteArray)
    (z : Sv) (m : Int) (fol : Bool) (ks : SS) (a : Option Addr) (n c : Nat) (w : World) (hw : Below W.heap.size W w) (hz : z.ok w fr bs) (hC : CsW w a n c [x]) (hsx : (cT fr x bs 0 fol).size ≤ 1000000000) (m0 : decide ((0 : Int) > m) = false) :
    Calls Tryz.prog 39 #[z.val, .agg #[.int .i64 6, .string s, .string so, .slice ks.a ks.n ks.c, .slice a n c], .int .i64 m, .bool fol] w fun e w' => e = .returned (.string (⟨#[126]⟩ ++ cT fr x bs 0 fol)) ∧ Below w.heap.size w w' := by
  obtain ⟨W1, hW1, hB1, hs1, S1, T1⟩ := scbox w z.a z.n z.c z.b z.m z.d 6 s so ks a n c
  obtain ⟨W2, hW2, hB2, hs2, p0, p1, i0, i1, f0, f1⟩ := obox2 W1 ⟨#[126]⟩ 0
  have hB12 : Below w.heap.size w W2 := bel_trans hB1 hB2
  have hw1 : Below W.heap.size W W1 := hw.trans (hB1.mono hw.size)
  have hww : Below W.heap.size W W2 := hw.trans (hB12.mono hw.size)
  obtain ⟨g0, g1⟩ : W1.cell? ⟨1, 12, none⟩ = some (.string ⟨#[126]⟩) ∧ W1.cell? ⟨1, 13, none⟩ = some (.int .i64 0) := E.cop W1 hw1 6 (by decide)
  obtain ⟨s0, s1⟩ := (S1.bl hB2).two
  obtain ⟨t0, t1, t2, t3, t4⟩ := (CBox.b T1 hB2).five
  obtain ⟨u0, u1, u2, u3, u4⟩ := T1.five
  rw [hs1] at p0 p1 i0 i1 f0 f1
  obtain ⟨bb, oo, ⟨qa, qn, qc⟩, a', n', c', rfl, rfl, hbb, ⟨y0, y1, y2, y3, y4⟩, hAx⟩ := subs1 (CsW.b hC hB12)
  have B2d : Below W2.heap.size W2 W2.drew := (Below.refl _ _).drew
  have cx := hx z bs 0 fol ⟨qa, qn, qc⟩ a' n' c' W2.drew (hww.trans (B2d.mono hww.size)) (hz.bl (bel_trans hB12 B2d)) hb hl (ArWC.b hAx B2d) (by omega) (by omega)
  have r1 : ∀ w, (Op.stringOp .add ⟨#[126]⟩ (cT fr x bs 0 fol)).run Tryz.prog w = .ok (.string (⟨#[126]⟩ ++ cT fr x bs 0 fol)) w := fun w => by rw [run_string_add_sum w _ _ (by have : (⟨#[126]⟩ : ByteArray).size = 1 := rfl; omega)]
  unfold Sv.val at cx ⊢
  clear hz S1 T1 E hw hww hB1 hB2 hx hC hAx hsx hw1 hl hb
  generalize (⟨#[126]⟩ ++ cT fr x bs 0 fol) = R at *
  generalize cT fr x bs 0 fol = X at *
  generalize opC x = xo at *
  generalize nmC x = xs at *
  generalize soC x = xz at *
  obtain ⟨za, zn, zc, zb, zm, zd⟩ := z
  obtain ⟨ka, kn, kc⟩ := ks
  dsimp only at *
  have l1 : w.heap.size < W2.heap.size := by omega
  have l2 : w.heap.size + 1 < W2.heap.size := by omega
  have l3 : w.heap.size + 2 < W2.heap.size := by omega
  have HS := Lib.hid (show ∀ w', Below W2.heap.size W2 w' → (w'.cell? ⟨w.heap.size, 0, none⟩ = some (.slice za zn zc) ∧ w'.cell? ⟨w.heap.size, 1, none⟩ = some (.slice zb zm zd) ∧ w'.cell? ⟨w.heap.size + 1, 4, none⟩ = some (.slice (some ⟨bb, oo, none⟩) 1 c) ∧ w'.cell? ⟨w.heap.size + 2, 0, none⟩ = some (.string ⟨#[126]⟩) ∧ w'.cell? ⟨bb, oo, none⟩ = some (.int .i64 xo) ∧ w'.cell? ⟨bb, oo + 1, none⟩ = some (.string xs) ∧ w'.cell? ⟨bb, oo + 1 + 1, none⟩ = some (.string xz) ∧ w'.cell? ⟨bb, oo + 1 + 1 + 1, none⟩ = some (.slice qa qn qc) ∧ w'.cell? ⟨bb, oo + 1 + 1 + 1 + 1, none⟩ = some (.slice a' n' c')) from fun w' h =>
    ⟨(h.cell (p := ⟨w.heap.size, 0, none⟩) l1).trans s0, (h.cell (p := ⟨w.heap.size, 1, none⟩) l1).trans s1, (h.cell (p := ⟨w.heap.size + 1, 4, none⟩) l2).trans t4, (h.cell (p := ⟨w.heap.size + 2, 0, none⟩) l3).trans p0,
      (h.cell (p := ⟨bb, _, none⟩) hbb).trans y0, (h.cell (p := ⟨bb, _, none⟩) hbb).trans y1, (h.cell (p := ⟨bb, _, none⟩) hbb).trans y2, (h.cell (p := ⟨bb, _, none⟩) hbb).trans y3, (h.cell (p := ⟨bb, _, none⟩) hbb).trans y4⟩)
  have HB := Lib.hid hB12
  go_enter Tryz.func39, Tryz.ntmps39
  go_wp2
  go_region_held3 (fun w' => w'.cell? ⟨w.heap.size, 0, none⟩ = some (.slice za zn zc) ∧ w'.cell? ⟨w.heap.size, 1, none⟩ = some (.slice zb zm zd) ∧ w'.cell? ⟨w.heap.size + 1, 4, none⟩ = some (.slice (some ⟨bb, oo, none⟩) 1 c) ∧ w'.cell? ⟨w.heap.size + 2, 0, none⟩ = some (.string ⟨#[126]⟩) ∧ w'.cell? ⟨bb, oo, none⟩ = some (.int .i64 xo) ∧ w'.cell? ⟨bb, oo + 1, none⟩ = some (.string xs) ∧ w'.cell? ⟨bb, oo + 1 + 1, none⟩ = some (.string xz) ∧ w'.cell? ⟨bb, oo + 1 + 1 + 1, none⟩ = some (.slice qa qn qc) ∧ w'.cell? ⟨bb, oo + 1 + 1 + 1 + 1, none⟩ = some (.slice a' n' c'))
    (first | exact HS.out _ B6 | exact HS.out _ B2d | go_keep)
    (first | (go_at_call 39; ((with_reducible refine cx.mono ?_); rintro e w6 ⟨rfl, hb6⟩; clear cx; have B6 := bel_trans B2d hb6)))
  go_wp2
  go_ret
  exact ⟨rfl, bel_trans HB.out B6⟩

set_option maxHeartbeats 8000000 in
theorem claim_wrap7 {W : World} (E : Env W) {fr bs : List ByteArray} (SUBS : List Cl) (TS : List Tm) (R : ByteArray) (hsx : R.size ≤ 1000000000) (s so : ByteArray)
    (z : Sv) (m : Int) (fol : Bool) (ks : SS) (a : Option Addr) (n c : Nat) (w : World) (hw : Below W.heap.size W w) (hz : z.ok w fr bs) (hcore : ∀ (w : World), Below W.heap.size W w → z.ok w fr bs → CsW w a n c SUBS → KsW w ks TS → Calls Tryz.prog 39 #[z.val, .agg #[.int .i64 7, .string s, .string so, .slice ks.a ks.n ks.c, .slice a n c], .int .i64 5, .bool false] w fun e w' => e = .returned (.string R) ∧ Below w.heap.size w w') (hd : decide ((1 : Int) > m) = true) (hS : CsW w a n c SUBS) (hK : KsW w ks TS) :
    Calls Tryz.prog 39 #[z.val, .agg #[.int .i64 7, .string s, .string so, .slice ks.a ks.n ks.c, .slice a n c], .int .i64 m, .bool fol] w fun e w' => e = .returned (.string (par true R)) ∧ Below w.heap.size w w' := by
  obtain ⟨W1, hW1, hB1, hs1, S1, T1⟩ := scbox w z.a z.n z.c z.b z.m z.d 7 s so ks a n c
  obtain ⟨W2, hW2, hB2, hs2, p0, p1, i0, i1, f0, f1⟩ := obox2 W1 ⟨#[38]⟩ 1
  have hB12 : Below w.heap.size w W2 := bel_trans hB1 hB2
  have hw1 : Below W.heap.size W W1 := hw.trans (hB1.mono hw.size)
  have hww : Below W.heap.size W W2 := hw.trans (hB12.mono hw.size)
  obtain ⟨g0, g1⟩ : W1.cell? ⟨1, 14, none⟩ = some (.string ⟨#[38]⟩) ∧ W1.cell? ⟨1, 15, none⟩ = some (.int .i64 1) := E.cop W1 hw1 7 (by decide)
  obtain ⟨s0, s1⟩ := (S1.bl hB2).two
  obtain ⟨t0, t1, t2, t3, t4⟩ := (CBox.b T1 hB2).five
  obtain ⟨u0, u1, u2, u3, u4⟩ := T1.five
  rw [hs1] at p0 p1 i0 i1 f0 f1
  have cx := hcore W2 hww (hz.bl hB12) (CsW.b hS hB12) (TsW.b hK hB12)
  have cP := fun w => par_any R true (by omega) w
  unfold Sv.val at cx ⊢
  clear hz T1 E hw hww hB1 hB2 hcore hS hK hw1 S1
  obtain ⟨za, zn, zc, zb, zm, zd⟩ := z
  obtain ⟨ka, kn, kc⟩ := ks
  dsimp only at *
  go_enter Tryz.func39, Tryz.ntmps39
  go_wp2_with (first
    | (go_at_call 39; ((with_reducible refine cx.mono ?_); rintro e w6 ⟨rfl, hb6⟩))
    | (go_at_call 57; ((with_reducible refine (cP _).mono ?_); rintro e w9 ⟨rfl, hb9⟩)))
  go_ret
  exact ⟨rfl, bel_trans (bel_trans hB12 hb6) hb9⟩

set_option maxHeartbeats 8000000 in
theorem claim_wrap8 {W : World} (E : Env W) {fr bs : List ByteArray} (SUBS : List Cl) (TS : List Tm) (R : ByteArray) (hsx : R.size ≤ 1000000000) (s so : ByteArray)
    (z : Sv) (m : Int) (fol : Bool) (ks : SS) (a : Option Addr) (n c : Nat) (w : World) (hw : Below W.heap.size W w) (hz : z.ok w fr bs) (hcore : ∀ (w : World), Below W.heap.size W w → z.ok w fr bs → CsW w a n c SUBS → KsW w ks TS → Calls Tryz.prog 39 #[z.val, .agg #[.int .i64 8, .string s, .string so, .slice ks.a ks.n ks.c, .slice a n c], .int .i64 5, .bool false] w fun e w' => e = .returned (.string R) ∧ Below w.heap.size w w') (hd : decide ((2 : Int) > m) = true) (hS : CsW w a n c SUBS) (hK : KsW w ks TS) :
    Calls Tryz.prog 39 #[z.val, .agg #[.int .i64 8, .string s, .string so, .slice ks.a ks.n ks.c, .slice a n c], .int .i64 m, .bool fol] w fun e w' => e = .returned (.string (par true R)) ∧ Below w.heap.size w w' := by
  obtain ⟨W1, hW1, hB1, hs1, S1, T1⟩ := scbox w z.a z.n z.c z.b z.m z.d 8 s so ks a n c
  obtain ⟨W2, hW2, hB2, hs2, p0, p1, i0, i1, f0, f1⟩ := obox2 W1 ⟨#[124]⟩ 2
  have hB12 : Below w.heap.size w W2 := bel_trans hB1 hB2
  have hw1 : Below W.heap.size W W1 := hw.trans (hB1.mono hw.size)
  have hww : Below W.heap.size W W2 := hw.trans (hB12.mono hw.size)
  obtain ⟨g0, g1⟩ : W1.cell? ⟨1, 16, none⟩ = some (.string ⟨#[124]⟩) ∧ W1.cell? ⟨1, 17, none⟩ = some (.int .i64 2) := E.cop W1 hw1 8 (by decide)
  obtain ⟨s0, s1⟩ := (S1.bl hB2).two
  obtain ⟨t0, t1, t2, t3, t4⟩ := (CBox.b T1 hB2).five
  obtain ⟨u0, u1, u2, u3, u4⟩ := T1.five
  rw [hs1] at p0 p1 i0 i1 f0 f1
  have cx := hcore W2 hww (hz.bl hB12) (CsW.b hS hB12) (TsW.b hK hB12)
  have cP := fun w => par_any R true (by omega) w
  unfold Sv.val at cx ⊢
  clear hz T1 E hw hww hB1 hB2 hcore hS hK hw1 S1
  obtain ⟨za, zn, zc, zb, zm, zd⟩ := z
  obtain ⟨ka, kn, kc⟩ := ks
  dsimp only at *
  go_enter Tryz.func39, Tryz.ntmps39
  go_wp2_with (first
    | (go_at_call 39; ((with_reducible refine cx.mono ?_); rintro e w6 ⟨rfl, hb6⟩))
    | (go_at_call 57; ((with_reducible refine (cP _).mono ?_); rintro e w9 ⟨rfl, hb9⟩)))
  go_ret
  exact ⟨rfl, bel_trans (bel_trans hB12 hb6) hb9⟩

set_option maxHeartbeats 8000000 in
theorem claim_wrap9 {W : World} (E : Env W) {fr bs : List ByteArray} (SUBS : List Cl) (TS : List Tm) (R : ByteArray) (hsx : R.size ≤ 1000000000) (s so : ByteArray)
    (z : Sv) (m : Int) (fol : Bool) (ks : SS) (a : Option Addr) (n c : Nat) (w : World) (hw : Below W.heap.size W w) (hz : z.ok w fr bs) (hcore : ∀ (w : World), Below W.heap.size W w → z.ok w fr bs → CsW w a n c SUBS → KsW w ks TS → Calls Tryz.prog 39 #[z.val, .agg #[.int .i64 9, .string s, .string so, .slice ks.a ks.n ks.c, .slice a n c], .int .i64 5, .bool false] w fun e w' => e = .returned (.string R) ∧ Below w.heap.size w w') (hd : decide ((3 : Int) > m) = true) (hS : CsW w a n c SUBS) (hK : KsW w ks TS) :
    Calls Tryz.prog 39 #[z.val, .agg #[.int .i64 9, .string s, .string so, .slice ks.a ks.n ks.c, .slice a n c], .int .i64 m, .bool fol] w fun e w' => e = .returned (.string (par true R)) ∧ Below w.heap.size w w' := by
  obtain ⟨W1, hW1, hB1, hs1, S1, T1⟩ := scbox w z.a z.n z.c z.b z.m z.d 9 s so ks a n c
  obtain ⟨W2, hW2, hB2, hs2, p0, p1, i0, i1, f0, f1⟩ := obox2 W1 ⟨#[45, 62]⟩ 3
  have hB12 : Below w.heap.size w W2 := bel_trans hB1 hB2
  have hw1 : Below W.heap.size W W1 := hw.trans (hB1.mono hw.size)
  have hww : Below W.heap.size W W2 := hw.trans (hB12.mono hw.size)
  obtain ⟨g0, g1⟩ : W1.cell? ⟨1, 18, none⟩ = some (.string ⟨#[45, 62]⟩) ∧ W1.cell? ⟨1, 19, none⟩ = some (.int .i64 3) := E.cop W1 hw1 9 (by decide)
  obtain ⟨s0, s1⟩ := (S1.bl hB2).two
  obtain ⟨t0, t1, t2, t3, t4⟩ := (CBox.b T1 hB2).five
  obtain ⟨u0, u1, u2, u3, u4⟩ := T1.five
  rw [hs1] at p0 p1 i0 i1 f0 f1
  have cx := hcore W2 hww (hz.bl hB12) (CsW.b hS hB12) (TsW.b hK hB12)
  have cP := fun w => par_any R true (by omega) w
  unfold Sv.val at cx ⊢
  clear hz T1 E hw hww hB1 hB2 hcore hS hK hw1 S1
  obtain ⟨za, zn, zc, zb, zm, zd⟩ := z
  obtain ⟨ka, kn, kc⟩ := ks
  dsimp only at *
  go_enter Tryz.func39, Tryz.ntmps39
  go_wp2_with (first
    | (go_at_call 39; ((with_reducible refine cx.mono ?_); rintro e w6 ⟨rfl, hb6⟩))
    | (go_at_call 57; ((with_reducible refine (cP _).mono ?_); rintro e w9 ⟨rfl, hb9⟩)))
  go_ret
  exact ⟨rfl, bel_trans (bel_trans hB12 hb6) hb9⟩

set_option maxHeartbeats 8000000 in
theorem claim_wrap10 {W : World} (E : Env W) {fr bs : List ByteArray} (SUBS : List Cl) (TS : List Tm) (R : ByteArray) (hsx : R.size ≤ 1000000000) (s so : ByteArray)
    (z : Sv) (m : Int) (fol : Bool) (ks : SS) (a : Option Addr) (n c : Nat) (w : World) (hw : Below W.heap.size W w) (hz : z.ok w fr bs) (hcore : ∀ (w : World), Below W.heap.size W w → z.ok w fr bs → CsW w a n c SUBS → KsW w ks TS → Calls Tryz.prog 39 #[z.val, .agg #[.int .i64 10, .string s, .string so, .slice ks.a ks.n ks.c, .slice a n c], .int .i64 5, .bool false] w fun e w' => e = .returned (.string R) ∧ Below w.heap.size w w') (hd : decide ((4 : Int) > m) = true) (hS : CsW w a n c SUBS) (hK : KsW w ks TS) :
    Calls Tryz.prog 39 #[z.val, .agg #[.int .i64 10, .string s, .string so, .slice ks.a ks.n ks.c, .slice a n c], .int .i64 m, .bool fol] w fun e w' => e = .returned (.string (par true R)) ∧ Below w.heap.size w w' := by
  obtain ⟨W1, hW1, hB1, hs1, S1, T1⟩ := scbox w z.a z.n z.c z.b z.m z.d 10 s so ks a n c
  obtain ⟨W2, hW2, hB2, hs2, p0, p1, i0, i1, f0, f1⟩ := obox2 W1 ⟨#[60, 45, 62]⟩ 4
  have hB12 : Below w.heap.size w W2 := bel_trans hB1 hB2
  have hw1 : Below W.heap.size W W1 := hw.trans (hB1.mono hw.size)
  have hww : Below W.heap.size W W2 := hw.trans (hB12.mono hw.size)
  obtain ⟨g0, g1⟩ : W1.cell? ⟨1, 20, none⟩ = some (.string ⟨#[60, 45, 62]⟩) ∧ W1.cell? ⟨1, 21, none⟩ = some (.int .i64 4) := E.cop W1 hw1 10 (by decide)
  obtain ⟨s0, s1⟩ := (S1.bl hB2).two
  obtain ⟨t0, t1, t2, t3, t4⟩ := (CBox.b T1 hB2).five
  obtain ⟨u0, u1, u2, u3, u4⟩ := T1.five
  rw [hs1] at p0 p1 i0 i1 f0 f1
  have cx := hcore W2 hww (hz.bl hB12) (CsW.b hS hB12) (TsW.b hK hB12)
  have cP := fun w => par_any R true (by omega) w
  unfold Sv.val at cx ⊢
  clear hz T1 E hw hww hB1 hB2 hcore hS hK hw1 S1
  obtain ⟨za, zn, zc, zb, zm, zd⟩ := z
  obtain ⟨ka, kn, kc⟩ := ks
  dsimp only at *
  go_enter Tryz.func39, Tryz.ntmps39
  go_wp2_with (first
    | (go_at_call 39; ((with_reducible refine cx.mono ?_); rintro e w6 ⟨rfl, hb6⟩))
    | (go_at_call 57; ((with_reducible refine (cP _).mono ?_); rintro e w9 ⟨rfl, hb9⟩)))
  go_ret
  exact ⟨rfl, bel_trans (bel_trans hB12 hb6) hb9⟩

set_option maxHeartbeats 8000000 in
theorem claim_wrap11 {W : World} (E : Env W) {fr bs : List ByteArray} (SUBS : List Cl) (TS : List Tm) (R : ByteArray) (hsx : R.size ≤ 1000000000) (s so : ByteArray)
    (z : Sv) (m : Int) (ks : SS) (a : Option Addr) (n c : Nat) (w : World) (hw : Below W.heap.size W w) (hz : z.ok w fr bs) (hcore : ∀ (w : World), Below W.heap.size W w → z.ok w fr bs → CsW w a n c SUBS → KsW w ks TS → Calls Tryz.prog 39 #[z.val, .agg #[.int .i64 11, .string s, .string so, .slice ks.a ks.n ks.c, .slice a n c], .int .i64 5, .bool false] w fun e w' => e = .returned (.string R) ∧ Below w.heap.size w w') (hd : decide ((0 : Int) > m) = false) (hS : CsW w a n c SUBS) (hK : KsW w ks TS) :
    Calls Tryz.prog 39 #[z.val, .agg #[.int .i64 11, .string s, .string so, .slice ks.a ks.n ks.c, .slice a n c], .int .i64 m, .bool true] w fun e w' => e = .returned (.string (par true R)) ∧ Below w.heap.size w w' := by
  obtain ⟨W1, hW1, hB1, hs1, S1, T1⟩ := scbox w z.a z.n z.c z.b z.m z.d 11 s so ks a n c
  obtain ⟨W2, hW2, hB2, hs2, p0, p1, i0, i1, f0, f1⟩ := obox2 W1 ⟨#[33]⟩ 0
  have hB12 : Below w.heap.size w W2 := bel_trans hB1 hB2
  have hw1 : Below W.heap.size W W1 := hw.trans (hB1.mono hw.size)
  have hww : Below W.heap.size W W2 := hw.trans (hB12.mono hw.size)
  obtain ⟨g0, g1⟩ : W1.cell? ⟨1, 22, none⟩ = some (.string ⟨#[33]⟩) ∧ W1.cell? ⟨1, 23, none⟩ = some (.int .i64 0) := E.cop W1 hw1 11 (by decide)
  obtain ⟨s0, s1⟩ := (S1.bl hB2).two
  obtain ⟨t0, t1, t2, t3, t4⟩ := (CBox.b T1 hB2).five
  obtain ⟨u0, u1, u2, u3, u4⟩ := T1.five
  rw [hs1] at p0 p1 i0 i1 f0 f1
  have cx := hcore W2 hww (hz.bl hB12) (CsW.b hS hB12) (TsW.b hK hB12)
  have cP := fun w => par_any R true (by omega) w
  unfold Sv.val at cx ⊢
  clear hz T1 E hw hww hB1 hB2 hcore hS hK hw1 S1
  obtain ⟨za, zn, zc, zb, zm, zd⟩ := z
  obtain ⟨ka, kn, kc⟩ := ks
  dsimp only at *
  go_enter Tryz.func39, Tryz.ntmps39
  go_wp2_with (first
    | (go_at_call 39; ((with_reducible refine cx.mono ?_); rintro e w6 ⟨rfl, hb6⟩))
    | (go_at_call 57; ((with_reducible refine (cP _).mono ?_); rintro e w9 ⟨rfl, hb9⟩)))
  go_ret
  exact ⟨rfl, bel_trans (bel_trans hB12 hb6) hb9⟩

set_option maxHeartbeats 8000000 in
theorem claim_wrap12 {W : World} (E : Env W) {fr bs : List ByteArray} (SUBS : List Cl) (TS : List Tm) (R : ByteArray) (hsx : R.size ≤ 1000000000) (s so : ByteArray)
    (z : Sv) (m : Int) (ks : SS) (a : Option Addr) (n c : Nat) (w : World) (hw : Below W.heap.size W w) (hz : z.ok w fr bs) (hcore : ∀ (w : World), Below W.heap.size W w → z.ok w fr bs → CsW w a n c SUBS → KsW w ks TS → Calls Tryz.prog 39 #[z.val, .agg #[.int .i64 12, .string s, .string so, .slice ks.a ks.n ks.c, .slice a n c], .int .i64 5, .bool false] w fun e w' => e = .returned (.string R) ∧ Below w.heap.size w w') (hd : decide ((0 : Int) > m) = false) (hS : CsW w a n c SUBS) (hK : KsW w ks TS) :
    Calls Tryz.prog 39 #[z.val, .agg #[.int .i64 12, .string s, .string so, .slice ks.a ks.n ks.c, .slice a n c], .int .i64 m, .bool true] w fun e w' => e = .returned (.string (par true R)) ∧ Below w.heap.size w w' := by
  obtain ⟨W1, hW1, hB1, hs1, S1, T1⟩ := scbox w z.a z.n z.c z.b z.m z.d 12 s so ks a n c
  obtain ⟨W2, hW2, hB2, hs2, p0, p1, i0, i1, f0, f1⟩ := obox2 W1 ⟨#[63]⟩ 0
  have hB12 : Below w.heap.size w W2 := bel_trans hB1 hB2
  have hw1 : Below W.heap.size W W1 := hw.trans (hB1.mono hw.size)
  have hww : Below W.heap.size W W2 := hw.trans (hB12.mono hw.size)
  obtain ⟨g0, g1⟩ : W1.cell? ⟨1, 24, none⟩ = some (.string ⟨#[63]⟩) ∧ W1.cell? ⟨1, 25, none⟩ = some (.int .i64 0) := E.cop W1 hw1 12 (by decide)
  obtain ⟨s0, s1⟩ := (S1.bl hB2).two
  obtain ⟨t0, t1, t2, t3, t4⟩ := (CBox.b T1 hB2).five
  obtain ⟨u0, u1, u2, u3, u4⟩ := T1.five
  rw [hs1] at p0 p1 i0 i1 f0 f1
  have cx := hcore W2 hww (hz.bl hB12) (CsW.b hS hB12) (TsW.b hK hB12)
  have cP := fun w => par_any R true (by omega) w
  unfold Sv.val at cx ⊢
  clear hz T1 E hw hww hB1 hB2 hcore hS hK hw1 S1
  obtain ⟨za, zn, zc, zb, zm, zd⟩ := z
  obtain ⟨ka, kn, kc⟩ := ks
  dsimp only at *
  go_enter Tryz.func39, Tryz.ntmps39
  go_wp2_with (first
    | (go_at_call 39; ((with_reducible refine cx.mono ?_); rintro e w6 ⟨rfl, hb6⟩))
    | (go_at_call 57; ((with_reducible refine (cP _).mono ?_); rintro e w9 ⟨rfl, hb9⟩)))
  go_ret
  exact ⟨rfl, bel_trans (bel_trans hB12 hb6) hb9⟩

end Go.Proofs.YtcigeclnbhcohaaGreatDoor.Sh
namespace Go.Proofs.YtcigeclnbhcohaaGreatDoor.Sh
open Go.RowKit L T C
set_option linter.unusedVariables false
set_option linter.unusedSimpArgs false
set_option maxRecDepth 100000

set_option maxHeartbeats 8000000 in
theorem claim_bind11 {W : World} (E : Env W) {fr bs : List ByteArray} (hb : shB bs) (hf : ∀ x ∈ fr ++ bs, x.size ≤ maxLen) (hfl : (fr ++ bs).length ≤ 1000000) (x : Cl) (hx : ClaimOk W fr x) (hl : bs.length + 1 + wt x ≤ 10000) (s so : ByteArray)
    (z : Sv) (m : Int) (ks : SS) (a : Option Addr) (n c : Nat) (w : World) (hw : Below W.heap.size W w) (hz : z.ok w fr bs) (hs : s.size ≤ 100) (hso : so.size ≤ 100) (hC : CsW w a n c [x]) (hsx : (cT fr x (bs ++ [(bname (fr ++ bs) s)]) 5 false).size ≤ 1000000000) (m0 : decide ((0 : Int) > m) = false) :
    Calls Tryz.prog 39 #[z.val, .agg #[.int .i64 11, .string s, .string so, .slice ks.a ks.n ks.c, .slice a n c], .int .i64 m, .bool false] w fun e w' => e = .returned (.string (⟨#[33]⟩ ++ (((bname (fr ++ bs) s) ++ (⟨#[58, 32]⟩ ++ so)) ++ (⟨#[46, 32]⟩ ++ cT fr x (bs ++ [(bname (fr ++ bs) s)]) 5 false)))) ∧ Below w.heap.size w w' := by
  obtain ⟨W1, hW1, hB1, hs1, S1, T1⟩ := scbox w z.a z.n z.c z.b z.m z.d 11 s so ks a n c
  obtain ⟨W2, hW2, hB2, hs2, p0, p1, i0, i1, f0, f1⟩ := obox2 W1 ⟨#[33]⟩ 0
  have hB12 : Below w.heap.size w W2 := bel_trans hB1 hB2
  have hw1 : Below W.heap.size W W1 := hw.trans (hB1.mono hw.size)
  have hww : Below W.heap.size W W2 := hw.trans (hB12.mono hw.size)
  obtain ⟨g0, g1⟩ : W1.cell? ⟨1, 22, none⟩ = some (.string ⟨#[33]⟩) ∧ W1.cell? ⟨1, 23, none⟩ = some (.int .i64 0) := E.cop W1 hw1 11 (by decide)
  obtain ⟨s0, s1⟩ := (S1.bl hB2).two
  obtain ⟨t0, t1, t2, t3, t4⟩ := (CBox.b T1 hB2).five
  obtain ⟨u0, u1, u2, u3, u4⟩ := T1.five
  rw [hs1] at p0 p1 i0 i1 f0 f1
  have hml : z.m ≤ 1000000 := by have := hz.2.1.1.1; have := hb.1; omega
  have hcl : z.m ≤ z.d := hz.2.1.2.1
  have hnl : z.b = none → z.d = 0 := hz.2.1.2.2
  have hnl2 : z.b = none → z.m = 0 := fun h => by have := hnl h; omega
  have hzc : z.c ≤ maxLen := hz.2.2.1
  have cF := fresh_any E z fr bs s hs hf hfl W2 hww (hz.bl hB12)
  have hNs : (bname (fr ++ bs) s).size ≤ 32 := bname_size (by omega) s
  have hb2 := shB_snoc (K := 0) hb (by omega) (show (bname (fr ++ bs) s).size ≤ 40 by omega)
  have HI := Lib.hid (show ∀ w', Below W2.heap.size W2 w' → IsS w' z.b z.m bs from fun w' h => (hz.bl (bel_trans hB12 h)).2.1.1)
  have HFr := Lib.hid (show ∀ w', Below W2.heap.size W2 w' → SlS w' z.a z.n z.c fr from fun w' h => (hz.bl (bel_trans hB12 h)).1)
  have cV := fun w => Var_any (bname (fr ++ bs) s) so (by omega) (by omega) w
  obtain ⟨bb, oo, ⟨qa, qn, qc⟩, a', n', c', rfl, rfl, hbb, ⟨y0, y1, y2, y3, y4⟩, hAx⟩ := subs1 (CsW.b hC hB12)
  have HX := Lib.hid (show ∀ (P : Sv) (w' : World), Below W2.heap.size W2 w' → P.ok w' fr (bs ++ [bname (fr ++ bs) s]) → _ from fun P w' h hp => hx P (bs ++ [bname (fr ++ bs) s]) 5 false ⟨qa, qn, qc⟩ a' n' c' w' (hww.trans (h.mono hww.size)) hp hb2 (by rw [List.length_append, List.length_singleton]; exact hl) (ArWC.b hAx h) (by omega) (by omega))
  have hvs : (bname (fr ++ bs) s ++ (⟨#[58, 32]⟩ ++ so)).size ≤ 200 := by
    rw [ByteArray.size_append, ByteArray.size_append]
    have : (⟨#[58, 32]⟩ : ByteArray).size = 2 := rfl
    omega
  unfold Sv.val at cF ⊢
  obtain ⟨NMv, hNM⟩ : ∃ v, bname (fr ++ bs) s = v := ⟨_, rfl⟩
  rw [hNM] at cF hNs hb2 cV HX hvs hsx ⊢
  clear hNM hx hl hC hAx hb2 hb hf hfl hz S1 T1 E hw hww hw1 hs hB1 hB2
  have hd : (⟨#[46, 32]⟩ : ByteArray).size = 2 := rfl
  obtain ⟨V, hV⟩ : ∃ v, NMv ++ (⟨#[58, 32]⟩ ++ so) = v := ⟨_, rfl⟩
  obtain ⟨Y, hY⟩ : ∃ v, cT fr x (bs ++ [NMv]) 5 false = v := ⟨_, rfl⟩
  rw [hV] at cV hvs
  rw [hY] at hsx HX
  obtain ⟨sg, hsg⟩ : ∃ v : ByteArray, ⟨#[33]⟩ = v := ⟨_, rfl⟩
  have hsgz : sg.size = 1 := by rw [← hsg]; rfl
  obtain ⟨X1, e1⟩ : ∃ v, sg ++ V = v := ⟨_, rfl⟩
  obtain ⟨X2, e2⟩ : ∃ v, X1 ++ (⟨#[46, 32]⟩ : ByteArray) = v := ⟨_, rfl⟩
  have e3 : X2 ++ Y = ⟨#[33]⟩ ++ ((NMv ++ (⟨#[58, 32]⟩ ++ so)) ++ (⟨#[46, 32]⟩ ++ cT fr x (bs ++ [NMv]) 5 false)) := by
    rw [hV, hY, ← e2, ← e1, hsg]; simp only [ByteArray.append_assoc]
  have z1 : X1.size ≤ 201 := by rw [← e1, ByteArray.size_append]; omega
  have z2 : X2.size ≤ 203 := by rw [← e2, ByteArray.size_append]; omega
  have r1 : ∀ w, (Op.stringOp .add sg V).run Tryz.prog w = .ok (.string X1) w := fun w => by rw [run_string_add_sum w _ _ (by omega), e1]
  have r2 : ∀ w, (Op.stringOp .add X1 ⟨#[46, 32]⟩).run Tryz.prog w = .ok (.string X2) w := fun w => by rw [run_string_add_sum w _ _ (by omega), e2]
  have r3 : ∀ w, (Op.stringOp .add X2 Y).run Tryz.prog w = .ok (.string (X2 ++ Y)) w := fun w => by rw [run_string_add_sum w _ _ (by omega)]
  rw [← e3]
  clear e1 e2 e3 z1 z2 hd hV hsgz hsx
  generalize X2 ++ Y = R at *
  rw [hsg] at p0 i0 g0 hW2
  clear hsg hY
  generalize opC x = xo at *
  generalize nmC x = xs at *
  generalize soC x = xz at *
  obtain ⟨za, zn, zc, zb, zm, zd⟩ := z
  obtain ⟨ka, kn, kc⟩ := ks
  dsimp only at *
  have l1 : w.heap.size < W2.heap.size := by omega
  have l2 : w.heap.size + 1 < W2.heap.size := by omega
  have l3 : w.heap.size + 2 < W2.heap.size := by omega
  have HS := Lib.hid (show ∀ w', Below W2.heap.size W2 w' → (w'.cell? ⟨w.heap.size, 0, none⟩ = some (.slice za zn zc) ∧ w'.cell? ⟨w.heap.size, 1, none⟩ = some (.slice zb zm zd)) from fun w' h =>
    ⟨(h.cell (p := ⟨w.heap.size, 0, none⟩) l1).trans s0, (h.cell (p := ⟨w.heap.size, 1, none⟩) l1).trans s1⟩)
  have HQ := Lib.hid (show ∀ w', Below W2.heap.size W2 w' → (w'.cell? ⟨w.heap.size + 1, 2, none⟩ = some (.string so) ∧ w'.cell? ⟨w.heap.size + 1, 4, none⟩ = some (.slice (some ⟨bb, oo, none⟩) 1 c) ∧ w'.cell? ⟨w.heap.size + 2, 0, none⟩ = some (.string sg) ∧ w'.cell? ⟨bb, oo, none⟩ = some (.int .i64 xo) ∧ w'.cell? ⟨bb, oo + 1, none⟩ = some (.string xs) ∧ w'.cell? ⟨bb, oo + 1 + 1, none⟩ = some (.string xz) ∧ w'.cell? ⟨bb, oo + 1 + 1 + 1, none⟩ = some (.slice qa qn qc) ∧ w'.cell? ⟨bb, oo + 1 + 1 + 1 + 1, none⟩ = some (.slice a' n' c')) from fun w' h =>
    ⟨(h.cell (p := ⟨w.heap.size + 1, 2, none⟩) l2).trans t2, (h.cell (p := ⟨w.heap.size + 1, 4, none⟩) l2).trans t4, (h.cell (p := ⟨w.heap.size + 2, 0, none⟩) l3).trans p0,
      (h.cell (p := ⟨bb, _, none⟩) hbb).trans y0, (h.cell (p := ⟨bb, _, none⟩) hbb).trans y1, (h.cell (p := ⟨bb, _, none⟩) hbb).trans y2, (h.cell (p := ⟨bb, _, none⟩) hbb).trans y3, (h.cell (p := ⟨bb, _, none⟩) hbb).trans y4⟩)
  have HB := Lib.hid hB12
  go_enter Tryz.func39, Tryz.ntmps39
  go_upto_region 20 with (go_at_call 75; ((with_reducible refine cF.mono ?_); rintro e w4 ⟨rfl, B4⟩; clear cF; have k4 := HS.out w4 B4; obtain ⟨s40, s41⟩ := k4))
  go_cut [12] from 12 to 101 (fun v wc => ∃ P A9 C9, v = .pointer (some ⟨P, 0, none⟩) ∧ Hid (ScB wc P za zn zc A9 (zm + 1) C9 ∧ Below w4.heap.size w4 wc ∧ SlS wc A9 (zm + 1) C9 (bs ++ [NMv]) ∧ C9 ≤ maxLen))
  case first =>
    refine wp_region_noPanic ?_
    refine wp_region_held_drew (S := fun w' => w'.cell? ⟨w.heap.size, 0, none⟩ = some (.slice za zn zc) ∧ w'.cell? ⟨w.heap.size, 1, none⟩ = some (.slice zb zm zd)) (by kernel_rfl) (by exact HS.out _ (bel_trans B4 (Below.refl _ _).drew)) (fun hHeld => ?_)
    refine wpAnyH_take (i := 0) (v := ?_) rfl (by kernel_rfl) (by kernel_rfl) (by kernel_rfl) (fun _ _ _ h => h) (Or.inl ⟨by rfl, ?hy⟩) (by assumption) ?_
    case hy => (intro w hSw; (try dsimp only at hSw); go_simp; try (with_reducible rfl))
    (try simp only [List.getElem_toArray, List.getElem_cons_succ, List.getElem_cons_zero, Act.put, List.setIfInBounds_toArray, List.set_cons_zero, List.set_cons_succ])
    refine wpAnyH_take (i := 1) (v := ?_) rfl (by kernel_rfl) (by kernel_rfl) (by kernel_rfl) (fun _ _ _ h => h) (Or.inl ⟨by rfl, ?hy⟩) (by assumption) ?_
    case hy => (intro w hSw; (try dsimp only at hSw); go_simp; try (with_reducible rfl))
    (try simp only [List.getElem_toArray, List.getElem_cons_succ, List.getElem_cons_zero, Act.put, List.setIfInBounds_toArray, List.set_cons_zero, List.set_cons_succ])
    refine wpAnyH_take (i := 2) (v := ?_) rfl (by kernel_rfl) (by kernel_rfl) (by kernel_rfl) (fun _ _ _ h => h) (Or.inl ⟨by rfl, ?hy⟩) (by assumption) ?_
    case hy => (intro w hSw; (try dsimp only at hSw); go_simp; try (with_reducible rfl))
    (try simp only [List.getElem_toArray, List.getElem_cons_succ, List.getElem_cons_zero, Act.put, List.setIfInBounds_toArray, List.set_cons_zero, List.set_cons_succ])
    refine wpAnyH_take (i := 3) (v := ?_) rfl (by kernel_rfl) (by kernel_rfl) (by kernel_rfl) (fun _ _ _ h => h) (Or.inl ⟨by rfl, ?hy⟩) (by assumption) ?_
    case hy => (intro w hSw; (try dsimp only at hSw); go_simp; try (with_reducible rfl))
    (try simp only [List.getElem_toArray, List.getElem_cons_succ, List.getElem_cons_zero, Act.put, List.setIfInBounds_toArray, List.set_cons_zero, List.set_cons_succ])
    refine wpAnyH_take (i := 5) (v := ?_) rfl (by kernel_rfl) (by kernel_rfl) (by kernel_rfl) (fun _ _ _ h => h) (Or.inl ⟨by rfl, ?hy⟩) (by assumption) ?_
    case hy => (intro w hSw; (try dsimp only at hSw); go_simp; try (with_reducible rfl))
    (try simp only [List.getElem_toArray, List.getElem_cons_succ, List.getElem_cons_zero, Act.put, List.setIfInBounds_toArray, List.set_cons_zero, List.set_cons_succ])
    refine wpAnyH_ready (rs := [4, 6, 9]) (by kernel_rfl) (by simp) ?_
    refine AllReadyH.cons rfl (fun KK hKK => ?_) (AllReadyH.cons rfl (fun KK hKK => ?_) (AllReadyH.cons rfl (fun KK hKK => ?_) (AllReadyH.nil)))
    · go_simp
      (go_at_call 76; ((with_reducible refine (Clip_any zb zm zd _ hcl hnl).mono ?_); rintro e wK ⟨rfl, hwK⟩; subst hwK))
      refine hKK.out _ _ (by exact HS.out _ (bel_trans B4 ((Below.refl w4.heap.size w4).drew))) (fun hHeld => ?_)
      clear hKK KK
      (try simp only [List.getElem_toArray, List.getElem_cons_succ, List.getElem_cons_zero, Act.put, List.setIfInBounds_toArray, List.set_cons_zero, List.set_cons_succ])
      refine wpAnyH_ready (rs := [6, 9]) (by kernel_rfl) (by simp) ?_
      refine AllReadyH.cons rfl (fun KK hKK => ?_) (AllReadyH.cons rfl (fun KK hKK => ?_) (AllReadyH.nil))
      · go_simp
        refine hKK.out _ _ (by exact HS.out _ (bel_trans B4 (bel_alloc ((Below.refl w4.heap.size w4).drew) _))) (fun hHeld => ?_)
        clear hKK KK
        (try simp only [List.getElem_toArray, List.getElem_cons_succ, List.getElem_cons_zero, Act.put, List.setIfInBounds_toArray, List.set_cons_zero, List.set_cons_succ])
        refine wpAnyH_ready (rs := [7, 9]) (by kernel_rfl) (by simp) ?_
        refine AllReadyH.cons rfl (fun KK hKK => ?_) (AllReadyH.cons rfl (fun KK hKK => ?_) (AllReadyH.nil))
        · (refine push_step rfl (.tmp 97) (.tmp 99) rfl zb zm bs NMv (w4.heap.size) rfl (HI.out _ (bel_trans B4 (bel_alloc ((Below.refl w4.heap.size w4).drew) _))) hnl2 hml rfl (Blk.cell (show Blk (w4.drew.alloc (.cells #[.string NMv] 9)) (w4.heap.size) #[.string NMv] 9 from blkAt (by simp) _ _) 0) ?_; intro A9 C9 w9 hO9 hc9 hb9)
          refine hKK.out _ _ (by exact HS.out _ (bel_trans B4 (bel_trans (bel_alloc ((Below.refl w4.heap.size w4).drew) _) hb9))) (fun hHeld => ?_)
          clear hKK KK
          (try simp only [List.getElem_toArray, List.getElem_cons_succ, List.getElem_cons_zero, Act.put, List.setIfInBounds_toArray, List.set_cons_zero, List.set_cons_succ])
          refine wpAnyH_take (i := 8) (v := ?_) rfl (by kernel_rfl) (by kernel_rfl) (by kernel_rfl) (fun _ _ _ h => h) (Or.inl ⟨by rfl, ?hy⟩) (by assumption) ?_
          case hy => (intro w hSw; (try dsimp only at hSw); go_simp; try (with_reducible rfl))
          (try simp only [List.getElem_toArray, List.getElem_cons_succ, List.getElem_cons_zero, Act.put, List.setIfInBounds_toArray, List.set_cons_zero, List.set_cons_succ])
          refine wpAnyH_ready (rs := [9]) (by kernel_rfl) (by simp) ?_
          refine AllReadyH.cons rfl (fun KK hKK => ?_) (AllReadyH.nil)
          go_simp
          refine hKK.out _ _ (by exact HS.out _ (bel_trans B4 (bel_alloc (bel_trans (bel_alloc ((Below.refl w4.heap.size w4).drew) _) hb9) _))) (fun hHeld => ?_)
          clear hKK KK
          (try simp only [List.getElem_toArray, List.getElem_cons_succ, List.getElem_cons_zero, Act.put, List.setIfInBounds_toArray, List.set_cons_zero, List.set_cons_succ])
          refine wpAnyH_ready (rs := [10]) (by kernel_rfl) (by simp) ?_
          refine AllReadyH.cons rfl (fun KK hKK => ?_) (AllReadyH.nil)
          go_simp
          refine hKK.out _ _ (by exact HS.out _ (bel_trans B4 (inner_b (bel_trans (bel_alloc ((Below.refl w4.heap.size w4).drew) _) hb9) hO9).2.1)) (fun hHeld => ?_)
          clear hKK KK
          (try simp only [List.getElem_toArray, List.getElem_cons_succ, List.getElem_cons_zero, Act.put, List.setIfInBounds_toArray, List.set_cons_zero, List.set_cons_succ])
          refine wpAnyH_done (by kernel_rfl) ?_ _
          refine NoPanic.normal ?_
          all_goals (try go_wp2_with fail)
          go_meet
          exact ⟨_, A9, C9, rfl, Lib.hid ⟨(inner_b (bel_trans (bel_alloc ((Below.refl w4.heap.size w4).drew) _) hb9) hO9).1, (inner_b (bel_trans (bel_alloc ((Below.refl w4.heap.size w4).drew) _) hb9) hO9).2.1, (inner_b (bel_trans (bel_alloc ((Below.refl w4.heap.size w4).drew) _) hb9) hO9).2.2, hc9⟩⟩
        · go_simp
          refine hKK.out _ _ (by exact HS.out _ (bel_trans B4 (bel_alloc (bel_alloc ((Below.refl w4.heap.size w4).drew) _) _))) (fun hHeld => ?_)
          clear hKK KK
          (try simp only [List.getElem_toArray, List.getElem_cons_succ, List.getElem_cons_zero, Act.put, List.setIfInBounds_toArray, List.set_cons_zero, List.set_cons_succ])
          refine wpAnyH_ready (rs := [7]) (by kernel_rfl) (by simp) ?_
          refine AllReadyH.cons rfl (fun KK hKK => ?_) (AllReadyH.nil)
          (refine push_step rfl (.tmp 97) (.tmp 99) rfl zb zm bs NMv (w4.heap.size) rfl (HI.out _ (bel_trans B4 (bel_alloc (bel_alloc ((Below.refl w4.heap.size w4).drew) _) _))) hnl2 hml rfl (Blk.cell (show Blk ((w4.drew.alloc (.cells #[.string NMv] 9)).alloc (.cells #[.slice none 0 0, .slice none 0 0] 59)) (w4.heap.size) #[.string NMv] 9 from Blk.alloc (blkAt (by simp) _ _) _) 0) ?_; intro A9 C9 w9 hO9 hc9 hb9; have hp8 : Blk ((w4.drew.alloc (.cells #[.string NMv] 9)).alloc (.cells #[.slice none 0 0, .slice none 0 0] 59)) (w4.heap.size + 1) #[.slice none 0 0, .slice none 0 0] 59 := blkAt (by simp) _ _; have hp9 := Blk.below hp8 hb9; have p0 := Blk.cell hp9 0; have p1 := Blk.cell hp9 1; have q0 := Blk.free hp9 0; have q1 := Blk.free hp9 1; have HP8 := Lib.hid hp8; clear hp8 hp9)
          refine hKK.out _ _ (by exact HS.out _ (bel_trans B4 (bel_trans (bel_alloc (bel_alloc ((Below.refl w4.heap.size w4).drew) _) _) hb9))) (fun hHeld => ?_)
          clear hKK KK
          (try simp only [List.getElem_toArray, List.getElem_cons_succ, List.getElem_cons_zero, Act.put, List.setIfInBounds_toArray, List.set_cons_zero, List.set_cons_succ])
          refine wpAnyH_take (i := 8) (v := ?_) rfl (by kernel_rfl) (by kernel_rfl) (by kernel_rfl) (fun _ _ _ h => h) (Or.inl ⟨by rfl, ?hy⟩) (by assumption) ?_
          case hy => (intro w hSw; (try dsimp only at hSw); go_simp; try (with_reducible rfl))
          (try simp only [List.getElem_toArray, List.getElem_cons_succ, List.getElem_cons_zero, Act.put, List.setIfInBounds_toArray, List.set_cons_zero, List.set_cons_succ])
          refine wpAnyH_ready (rs := [10]) (by kernel_rfl) (by simp) ?_
          refine AllReadyH.cons rfl (fun KK hKK => ?_) (AllReadyH.nil)
          go_simp
          refine hKK.out _ _ (by exact HS.out _ (bel_trans B4 (inner_a (bel_alloc (bel_alloc ((Below.refl w4.heap.size w4).drew) _) _) HP8.out (by omega) hb9 hO9).2.1)) (fun hHeld => ?_)
          clear hKK KK
          (try simp only [List.getElem_toArray, List.getElem_cons_succ, List.getElem_cons_zero, Act.put, List.setIfInBounds_toArray, List.set_cons_zero, List.set_cons_succ])
          refine wpAnyH_done (by kernel_rfl) ?_ _
          refine NoPanic.normal ?_
          all_goals (try go_wp2_with fail)
          go_meet
          exact ⟨_, A9, C9, rfl, Lib.hid ⟨(inner_a (bel_alloc (bel_alloc ((Below.refl w4.heap.size w4).drew) _) _) HP8.out (by omega) hb9 hO9).1, (inner_a (bel_alloc (bel_alloc ((Below.refl w4.heap.size w4).drew) _) _) HP8.out (by omega) hb9 hO9).2.1, (inner_a (bel_alloc (bel_alloc ((Below.refl w4.heap.size w4).drew) _) _) HP8.out (by omega) hb9 hO9).2.2, hc9⟩⟩
      · go_simp
        refine hKK.out _ _ (by exact HS.out _ (bel_trans B4 (bel_alloc ((Below.refl w4.heap.size w4).drew) _))) (fun hHeld => ?_)
        clear hKK KK
        (try simp only [List.getElem_toArray, List.getElem_cons_succ, List.getElem_cons_zero, Act.put, List.setIfInBounds_toArray, List.set_cons_zero, List.set_cons_succ])
        refine wpAnyH_ready (rs := [6]) (by kernel_rfl) (by simp) ?_
        refine AllReadyH.cons rfl (fun KK hKK => ?_) (AllReadyH.nil)
        go_simp
        refine hKK.out _ _ (by exact HS.out _ (bel_trans B4 (bel_alloc (bel_alloc ((Below.refl w4.heap.size w4).drew) _) _))) (fun hHeld => ?_)
        clear hKK KK
        (try simp only [List.getElem_toArray, List.getElem_cons_succ, List.getElem_cons_zero, Act.put, List.setIfInBounds_toArray, List.set_cons_zero, List.set_cons_succ])
        refine wpAnyH_ready (rs := [7]) (by kernel_rfl) (by simp) ?_
        refine AllReadyH.cons rfl (fun KK hKK => ?_) (AllReadyH.nil)
        (refine push_step rfl (.tmp 97) (.tmp 99) rfl zb zm bs NMv (w4.heap.size + 1) rfl (HI.out _ (bel_trans B4 (bel_alloc (bel_alloc ((Below.refl w4.heap.size w4).drew) _) _))) hnl2 hml rfl (Blk.cell (show Blk ((w4.drew.alloc (.cells #[.slice none 0 0, .slice none 0 0] 59)).alloc (.cells #[.string NMv] 9)) (w4.heap.size + 1) #[.string NMv] 9 from blkAt (by simp) _ _) 0) ?_; intro A9 C9 w9 hO9 hc9 hb9; have hp8 : Blk ((w4.drew.alloc (.cells #[.slice none 0 0, .slice none 0 0] 59)).alloc (.cells #[.string NMv] 9)) (w4.heap.size) #[.slice none 0 0, .slice none 0 0] 59 := Blk.alloc (blkAt (by simp) _ _) _; have hp9 := Blk.below hp8 hb9; have p0 := Blk.cell hp9 0; have p1 := Blk.cell hp9 1; have q0 := Blk.free hp9 0; have q1 := Blk.free hp9 1; have HP8 := Lib.hid hp8; clear hp8 hp9)
        refine hKK.out _ _ (by exact HS.out _ (bel_trans B4 (bel_trans (bel_alloc (bel_alloc ((Below.refl w4.heap.size w4).drew) _) _) hb9))) (fun hHeld => ?_)
        clear hKK KK
        (try simp only [List.getElem_toArray, List.getElem_cons_succ, List.getElem_cons_zero, Act.put, List.setIfInBounds_toArray, List.set_cons_zero, List.set_cons_succ])
        refine wpAnyH_take (i := 8) (v := ?_) rfl (by kernel_rfl) (by kernel_rfl) (by kernel_rfl) (fun _ _ _ h => h) (Or.inl ⟨by rfl, ?hy⟩) (by assumption) ?_
        case hy => (intro w hSw; (try dsimp only at hSw); go_simp; try (with_reducible rfl))
        (try simp only [List.getElem_toArray, List.getElem_cons_succ, List.getElem_cons_zero, Act.put, List.setIfInBounds_toArray, List.set_cons_zero, List.set_cons_succ])
        refine wpAnyH_ready (rs := [10]) (by kernel_rfl) (by simp) ?_
        refine AllReadyH.cons rfl (fun KK hKK => ?_) (AllReadyH.nil)
        go_simp
        refine hKK.out _ _ (by exact HS.out _ (bel_trans B4 (inner_a (bel_alloc (bel_alloc ((Below.refl w4.heap.size w4).drew) _) _) HP8.out (by omega) hb9 hO9).2.1)) (fun hHeld => ?_)
        clear hKK KK
        (try simp only [List.getElem_toArray, List.getElem_cons_succ, List.getElem_cons_zero, Act.put, List.setIfInBounds_toArray, List.set_cons_zero, List.set_cons_succ])
        refine wpAnyH_done (by kernel_rfl) ?_ _
        refine NoPanic.normal ?_
        all_goals (try go_wp2_with fail)
        go_meet
        exact ⟨_, A9, C9, rfl, Lib.hid ⟨(inner_a (bel_alloc (bel_alloc ((Below.refl w4.heap.size w4).drew) _) _) HP8.out (by omega) hb9 hO9).1, (inner_a (bel_alloc (bel_alloc ((Below.refl w4.heap.size w4).drew) _) _) HP8.out (by omega) hb9 hO9).2.1, (inner_a (bel_alloc (bel_alloc ((Below.refl w4.heap.size w4).drew) _) _) HP8.out (by omega) hb9 hO9).2.2, hc9⟩⟩
    · go_simp
      refine hKK.out _ _ (by exact HS.out _ (bel_trans B4 (bel_alloc ((Below.refl w4.heap.size w4).drew) _))) (fun hHeld => ?_)
      clear hKK KK
      (try simp only [List.getElem_toArray, List.getElem_cons_succ, List.getElem_cons_zero, Act.put, List.setIfInBounds_toArray, List.set_cons_zero, List.set_cons_succ])
      refine wpAnyH_ready (rs := [4, 9]) (by kernel_rfl) (by simp) ?_
      refine AllReadyH.cons rfl (fun KK hKK => ?_) (AllReadyH.cons rfl (fun KK hKK => ?_) (AllReadyH.nil))
      · go_simp
        (go_at_call 76; ((with_reducible refine (Clip_any zb zm zd _ hcl hnl).mono ?_); rintro e wK ⟨rfl, hwK⟩; subst hwK))
        refine hKK.out _ _ (by exact HS.out _ (bel_trans B4 (bel_alloc ((Below.refl w4.heap.size w4).drew) _))) (fun hHeld => ?_)
        clear hKK KK
        (try simp only [List.getElem_toArray, List.getElem_cons_succ, List.getElem_cons_zero, Act.put, List.setIfInBounds_toArray, List.set_cons_zero, List.set_cons_succ])
        refine wpAnyH_ready (rs := [7, 9]) (by kernel_rfl) (by simp) ?_
        refine AllReadyH.cons rfl (fun KK hKK => ?_) (AllReadyH.cons rfl (fun KK hKK => ?_) (AllReadyH.nil))
        · (refine push_step rfl (.tmp 97) (.tmp 99) rfl zb zm bs NMv (w4.heap.size) rfl (HI.out _ (bel_trans B4 (bel_alloc ((Below.refl w4.heap.size w4).drew) _))) hnl2 hml rfl (Blk.cell (show Blk (w4.drew.alloc (.cells #[.string NMv] 9)) (w4.heap.size) #[.string NMv] 9 from blkAt (by simp) _ _) 0) ?_; intro A9 C9 w9 hO9 hc9 hb9)
          refine hKK.out _ _ (by exact HS.out _ (bel_trans B4 (bel_trans (bel_alloc ((Below.refl w4.heap.size w4).drew) _) hb9))) (fun hHeld => ?_)
          clear hKK KK
          (try simp only [List.getElem_toArray, List.getElem_cons_succ, List.getElem_cons_zero, Act.put, List.setIfInBounds_toArray, List.set_cons_zero, List.set_cons_succ])
          refine wpAnyH_take (i := 8) (v := ?_) rfl (by kernel_rfl) (by kernel_rfl) (by kernel_rfl) (fun _ _ _ h => h) (Or.inl ⟨by rfl, ?hy⟩) (by assumption) ?_
          case hy => (intro w hSw; (try dsimp only at hSw); go_simp; try (with_reducible rfl))
          (try simp only [List.getElem_toArray, List.getElem_cons_succ, List.getElem_cons_zero, Act.put, List.setIfInBounds_toArray, List.set_cons_zero, List.set_cons_succ])
          refine wpAnyH_ready (rs := [9]) (by kernel_rfl) (by simp) ?_
          refine AllReadyH.cons rfl (fun KK hKK => ?_) (AllReadyH.nil)
          go_simp
          refine hKK.out _ _ (by exact HS.out _ (bel_trans B4 (bel_alloc (bel_trans (bel_alloc ((Below.refl w4.heap.size w4).drew) _) hb9) _))) (fun hHeld => ?_)
          clear hKK KK
          (try simp only [List.getElem_toArray, List.getElem_cons_succ, List.getElem_cons_zero, Act.put, List.setIfInBounds_toArray, List.set_cons_zero, List.set_cons_succ])
          refine wpAnyH_ready (rs := [10]) (by kernel_rfl) (by simp) ?_
          refine AllReadyH.cons rfl (fun KK hKK => ?_) (AllReadyH.nil)
          go_simp
          refine hKK.out _ _ (by exact HS.out _ (bel_trans B4 (inner_b (bel_trans (bel_alloc ((Below.refl w4.heap.size w4).drew) _) hb9) hO9).2.1)) (fun hHeld => ?_)
          clear hKK KK
          (try simp only [List.getElem_toArray, List.getElem_cons_succ, List.getElem_cons_zero, Act.put, List.setIfInBounds_toArray, List.set_cons_zero, List.set_cons_succ])
          refine wpAnyH_done (by kernel_rfl) ?_ _
          refine NoPanic.normal ?_
          all_goals (try go_wp2_with fail)
          go_meet
          exact ⟨_, A9, C9, rfl, Lib.hid ⟨(inner_b (bel_trans (bel_alloc ((Below.refl w4.heap.size w4).drew) _) hb9) hO9).1, (inner_b (bel_trans (bel_alloc ((Below.refl w4.heap.size w4).drew) _) hb9) hO9).2.1, (inner_b (bel_trans (bel_alloc ((Below.refl w4.heap.size w4).drew) _) hb9) hO9).2.2, hc9⟩⟩
        · go_simp
          refine hKK.out _ _ (by exact HS.out _ (bel_trans B4 (bel_alloc (bel_alloc ((Below.refl w4.heap.size w4).drew) _) _))) (fun hHeld => ?_)
          clear hKK KK
          (try simp only [List.getElem_toArray, List.getElem_cons_succ, List.getElem_cons_zero, Act.put, List.setIfInBounds_toArray, List.set_cons_zero, List.set_cons_succ])
          refine wpAnyH_ready (rs := [7]) (by kernel_rfl) (by simp) ?_
          refine AllReadyH.cons rfl (fun KK hKK => ?_) (AllReadyH.nil)
          (refine push_step rfl (.tmp 97) (.tmp 99) rfl zb zm bs NMv (w4.heap.size) rfl (HI.out _ (bel_trans B4 (bel_alloc (bel_alloc ((Below.refl w4.heap.size w4).drew) _) _))) hnl2 hml rfl (Blk.cell (show Blk ((w4.drew.alloc (.cells #[.string NMv] 9)).alloc (.cells #[.slice none 0 0, .slice none 0 0] 59)) (w4.heap.size) #[.string NMv] 9 from Blk.alloc (blkAt (by simp) _ _) _) 0) ?_; intro A9 C9 w9 hO9 hc9 hb9; have hp8 : Blk ((w4.drew.alloc (.cells #[.string NMv] 9)).alloc (.cells #[.slice none 0 0, .slice none 0 0] 59)) (w4.heap.size + 1) #[.slice none 0 0, .slice none 0 0] 59 := blkAt (by simp) _ _; have hp9 := Blk.below hp8 hb9; have p0 := Blk.cell hp9 0; have p1 := Blk.cell hp9 1; have q0 := Blk.free hp9 0; have q1 := Blk.free hp9 1; have HP8 := Lib.hid hp8; clear hp8 hp9)
          refine hKK.out _ _ (by exact HS.out _ (bel_trans B4 (bel_trans (bel_alloc (bel_alloc ((Below.refl w4.heap.size w4).drew) _) _) hb9))) (fun hHeld => ?_)
          clear hKK KK
          (try simp only [List.getElem_toArray, List.getElem_cons_succ, List.getElem_cons_zero, Act.put, List.setIfInBounds_toArray, List.set_cons_zero, List.set_cons_succ])
          refine wpAnyH_take (i := 8) (v := ?_) rfl (by kernel_rfl) (by kernel_rfl) (by kernel_rfl) (fun _ _ _ h => h) (Or.inl ⟨by rfl, ?hy⟩) (by assumption) ?_
          case hy => (intro w hSw; (try dsimp only at hSw); go_simp; try (with_reducible rfl))
          (try simp only [List.getElem_toArray, List.getElem_cons_succ, List.getElem_cons_zero, Act.put, List.setIfInBounds_toArray, List.set_cons_zero, List.set_cons_succ])
          refine wpAnyH_ready (rs := [10]) (by kernel_rfl) (by simp) ?_
          refine AllReadyH.cons rfl (fun KK hKK => ?_) (AllReadyH.nil)
          go_simp
          refine hKK.out _ _ (by exact HS.out _ (bel_trans B4 (inner_a (bel_alloc (bel_alloc ((Below.refl w4.heap.size w4).drew) _) _) HP8.out (by omega) hb9 hO9).2.1)) (fun hHeld => ?_)
          clear hKK KK
          (try simp only [List.getElem_toArray, List.getElem_cons_succ, List.getElem_cons_zero, Act.put, List.setIfInBounds_toArray, List.set_cons_zero, List.set_cons_succ])
          refine wpAnyH_done (by kernel_rfl) ?_ _
          refine NoPanic.normal ?_
          all_goals (try go_wp2_with fail)
          go_meet
          exact ⟨_, A9, C9, rfl, Lib.hid ⟨(inner_a (bel_alloc (bel_alloc ((Below.refl w4.heap.size w4).drew) _) _) HP8.out (by omega) hb9 hO9).1, (inner_a (bel_alloc (bel_alloc ((Below.refl w4.heap.size w4).drew) _) _) HP8.out (by omega) hb9 hO9).2.1, (inner_a (bel_alloc (bel_alloc ((Below.refl w4.heap.size w4).drew) _) _) HP8.out (by omega) hb9 hO9).2.2, hc9⟩⟩
      · go_simp
        refine hKK.out _ _ (by exact HS.out _ (bel_trans B4 (bel_alloc (bel_alloc ((Below.refl w4.heap.size w4).drew) _) _))) (fun hHeld => ?_)
        clear hKK KK
        (try simp only [List.getElem_toArray, List.getElem_cons_succ, List.getElem_cons_zero, Act.put, List.setIfInBounds_toArray, List.set_cons_zero, List.set_cons_succ])
        refine wpAnyH_ready (rs := [4]) (by kernel_rfl) (by simp) ?_
        refine AllReadyH.cons rfl (fun KK hKK => ?_) (AllReadyH.nil)
        go_simp
        (go_at_call 76; ((with_reducible refine (Clip_any zb zm zd _ hcl hnl).mono ?_); rintro e wK ⟨rfl, hwK⟩; subst hwK))
        refine hKK.out _ _ (by exact HS.out _ (bel_trans B4 (bel_alloc (bel_alloc ((Below.refl w4.heap.size w4).drew) _) _))) (fun hHeld => ?_)
        clear hKK KK
        (try simp only [List.getElem_toArray, List.getElem_cons_succ, List.getElem_cons_zero, Act.put, List.setIfInBounds_toArray, List.set_cons_zero, List.set_cons_succ])
        refine wpAnyH_ready (rs := [7]) (by kernel_rfl) (by simp) ?_
        refine AllReadyH.cons rfl (fun KK hKK => ?_) (AllReadyH.nil)
        (refine push_step rfl (.tmp 97) (.tmp 99) rfl zb zm bs NMv (w4.heap.size) rfl (HI.out _ (bel_trans B4 (bel_alloc (bel_alloc ((Below.refl w4.heap.size w4).drew) _) _))) hnl2 hml rfl (Blk.cell (show Blk ((w4.drew.alloc (.cells #[.string NMv] 9)).alloc (.cells #[.slice none 0 0, .slice none 0 0] 59)) (w4.heap.size) #[.string NMv] 9 from Blk.alloc (blkAt (by simp) _ _) _) 0) ?_; intro A9 C9 w9 hO9 hc9 hb9; have hp8 : Blk ((w4.drew.alloc (.cells #[.string NMv] 9)).alloc (.cells #[.slice none 0 0, .slice none 0 0] 59)) (w4.heap.size + 1) #[.slice none 0 0, .slice none 0 0] 59 := blkAt (by simp) _ _; have hp9 := Blk.below hp8 hb9; have p0 := Blk.cell hp9 0; have p1 := Blk.cell hp9 1; have q0 := Blk.free hp9 0; have q1 := Blk.free hp9 1; have HP8 := Lib.hid hp8; clear hp8 hp9)
        refine hKK.out _ _ (by exact HS.out _ (bel_trans B4 (bel_trans (bel_alloc (bel_alloc ((Below.refl w4.heap.size w4).drew) _) _) hb9))) (fun hHeld => ?_)
        clear hKK KK
        (try simp only [List.getElem_toArray, List.getElem_cons_succ, List.getElem_cons_zero, Act.put, List.setIfInBounds_toArray, List.set_cons_zero, List.set_cons_succ])
        refine wpAnyH_take (i := 8) (v := ?_) rfl (by kernel_rfl) (by kernel_rfl) (by kernel_rfl) (fun _ _ _ h => h) (Or.inl ⟨by rfl, ?hy⟩) (by assumption) ?_
        case hy => (intro w hSw; (try dsimp only at hSw); go_simp; try (with_reducible rfl))
        (try simp only [List.getElem_toArray, List.getElem_cons_succ, List.getElem_cons_zero, Act.put, List.setIfInBounds_toArray, List.set_cons_zero, List.set_cons_succ])
        refine wpAnyH_ready (rs := [10]) (by kernel_rfl) (by simp) ?_
        refine AllReadyH.cons rfl (fun KK hKK => ?_) (AllReadyH.nil)
        go_simp
        refine hKK.out _ _ (by exact HS.out _ (bel_trans B4 (inner_a (bel_alloc (bel_alloc ((Below.refl w4.heap.size w4).drew) _) _) HP8.out (by omega) hb9 hO9).2.1)) (fun hHeld => ?_)
        clear hKK KK
        (try simp only [List.getElem_toArray, List.getElem_cons_succ, List.getElem_cons_zero, Act.put, List.setIfInBounds_toArray, List.set_cons_zero, List.set_cons_succ])
        refine wpAnyH_done (by kernel_rfl) ?_ _
        refine NoPanic.normal ?_
        all_goals (try go_wp2_with fail)
        go_meet
        exact ⟨_, A9, C9, rfl, Lib.hid ⟨(inner_a (bel_alloc (bel_alloc ((Below.refl w4.heap.size w4).drew) _) _) HP8.out (by omega) hb9 hO9).1, (inner_a (bel_alloc (bel_alloc ((Below.refl w4.heap.size w4).drew) _) _) HP8.out (by omega) hb9 hO9).2.1, (inner_a (bel_alloc (bel_alloc ((Below.refl w4.heap.size w4).drew) _) _) HP8.out (by omega) hb9 hO9).2.2, hc9⟩⟩
    · go_simp
      refine hKK.out _ _ (by exact HS.out _ (bel_trans B4 (bel_alloc ((Below.refl w4.heap.size w4).drew) _))) (fun hHeld => ?_)
      clear hKK KK
      (try simp only [List.getElem_toArray, List.getElem_cons_succ, List.getElem_cons_zero, Act.put, List.setIfInBounds_toArray, List.set_cons_zero, List.set_cons_succ])
      refine wpAnyH_ready (rs := [4, 6]) (by kernel_rfl) (by simp) ?_
      refine AllReadyH.cons rfl (fun KK hKK => ?_) (AllReadyH.cons rfl (fun KK hKK => ?_) (AllReadyH.nil))
      · go_simp
        (go_at_call 76; ((with_reducible refine (Clip_any zb zm zd _ hcl hnl).mono ?_); rintro e wK ⟨rfl, hwK⟩; subst hwK))
        refine hKK.out _ _ (by exact HS.out _ (bel_trans B4 (bel_alloc ((Below.refl w4.heap.size w4).drew) _))) (fun hHeld => ?_)
        clear hKK KK
        (try simp only [List.getElem_toArray, List.getElem_cons_succ, List.getElem_cons_zero, Act.put, List.setIfInBounds_toArray, List.set_cons_zero, List.set_cons_succ])
        refine wpAnyH_ready (rs := [6]) (by kernel_rfl) (by simp) ?_
        refine AllReadyH.cons rfl (fun KK hKK => ?_) (AllReadyH.nil)
        go_simp
        refine hKK.out _ _ (by exact HS.out _ (bel_trans B4 (bel_alloc (bel_alloc ((Below.refl w4.heap.size w4).drew) _) _))) (fun hHeld => ?_)
        clear hKK KK
        (try simp only [List.getElem_toArray, List.getElem_cons_succ, List.getElem_cons_zero, Act.put, List.setIfInBounds_toArray, List.set_cons_zero, List.set_cons_succ])
        refine wpAnyH_ready (rs := [7]) (by kernel_rfl) (by simp) ?_
        refine AllReadyH.cons rfl (fun KK hKK => ?_) (AllReadyH.nil)
        (refine push_step rfl (.tmp 97) (.tmp 99) rfl zb zm bs NMv (w4.heap.size + 1) rfl (HI.out _ (bel_trans B4 (bel_alloc (bel_alloc ((Below.refl w4.heap.size w4).drew) _) _))) hnl2 hml rfl (Blk.cell (show Blk ((w4.drew.alloc (.cells #[.slice none 0 0, .slice none 0 0] 59)).alloc (.cells #[.string NMv] 9)) (w4.heap.size + 1) #[.string NMv] 9 from blkAt (by simp) _ _) 0) ?_; intro A9 C9 w9 hO9 hc9 hb9; have hp8 : Blk ((w4.drew.alloc (.cells #[.slice none 0 0, .slice none 0 0] 59)).alloc (.cells #[.string NMv] 9)) (w4.heap.size) #[.slice none 0 0, .slice none 0 0] 59 := Blk.alloc (blkAt (by simp) _ _) _; have hp9 := Blk.below hp8 hb9; have p0 := Blk.cell hp9 0; have p1 := Blk.cell hp9 1; have q0 := Blk.free hp9 0; have q1 := Blk.free hp9 1; have HP8 := Lib.hid hp8; clear hp8 hp9)
        refine hKK.out _ _ (by exact HS.out _ (bel_trans B4 (bel_trans (bel_alloc (bel_alloc ((Below.refl w4.heap.size w4).drew) _) _) hb9))) (fun hHeld => ?_)
        clear hKK KK
        (try simp only [List.getElem_toArray, List.getElem_cons_succ, List.getElem_cons_zero, Act.put, List.setIfInBounds_toArray, List.set_cons_zero, List.set_cons_succ])
        refine wpAnyH_take (i := 8) (v := ?_) rfl (by kernel_rfl) (by kernel_rfl) (by kernel_rfl) (fun _ _ _ h => h) (Or.inl ⟨by rfl, ?hy⟩) (by assumption) ?_
        case hy => (intro w hSw; (try dsimp only at hSw); go_simp; try (with_reducible rfl))
        (try simp only [List.getElem_toArray, List.getElem_cons_succ, List.getElem_cons_zero, Act.put, List.setIfInBounds_toArray, List.set_cons_zero, List.set_cons_succ])
        refine wpAnyH_ready (rs := [10]) (by kernel_rfl) (by simp) ?_
        refine AllReadyH.cons rfl (fun KK hKK => ?_) (AllReadyH.nil)
        go_simp
        refine hKK.out _ _ (by exact HS.out _ (bel_trans B4 (inner_a (bel_alloc (bel_alloc ((Below.refl w4.heap.size w4).drew) _) _) HP8.out (by omega) hb9 hO9).2.1)) (fun hHeld => ?_)
        clear hKK KK
        (try simp only [List.getElem_toArray, List.getElem_cons_succ, List.getElem_cons_zero, Act.put, List.setIfInBounds_toArray, List.set_cons_zero, List.set_cons_succ])
        refine wpAnyH_done (by kernel_rfl) ?_ _
        refine NoPanic.normal ?_
        all_goals (try go_wp2_with fail)
        go_meet
        exact ⟨_, A9, C9, rfl, Lib.hid ⟨(inner_a (bel_alloc (bel_alloc ((Below.refl w4.heap.size w4).drew) _) _) HP8.out (by omega) hb9 hO9).1, (inner_a (bel_alloc (bel_alloc ((Below.refl w4.heap.size w4).drew) _) _) HP8.out (by omega) hb9 hO9).2.1, (inner_a (bel_alloc (bel_alloc ((Below.refl w4.heap.size w4).drew) _) _) HP8.out (by omega) hb9 hO9).2.2, hc9⟩⟩
      · go_simp
        refine hKK.out _ _ (by exact HS.out _ (bel_trans B4 (bel_alloc (bel_alloc ((Below.refl w4.heap.size w4).drew) _) _))) (fun hHeld => ?_)
        clear hKK KK
        (try simp only [List.getElem_toArray, List.getElem_cons_succ, List.getElem_cons_zero, Act.put, List.setIfInBounds_toArray, List.set_cons_zero, List.set_cons_succ])
        refine wpAnyH_ready (rs := [4]) (by kernel_rfl) (by simp) ?_
        refine AllReadyH.cons rfl (fun KK hKK => ?_) (AllReadyH.nil)
        go_simp
        (go_at_call 76; ((with_reducible refine (Clip_any zb zm zd _ hcl hnl).mono ?_); rintro e wK ⟨rfl, hwK⟩; subst hwK))
        refine hKK.out _ _ (by exact HS.out _ (bel_trans B4 (bel_alloc (bel_alloc ((Below.refl w4.heap.size w4).drew) _) _))) (fun hHeld => ?_)
        clear hKK KK
        (try simp only [List.getElem_toArray, List.getElem_cons_succ, List.getElem_cons_zero, Act.put, List.setIfInBounds_toArray, List.set_cons_zero, List.set_cons_succ])
        refine wpAnyH_ready (rs := [7]) (by kernel_rfl) (by simp) ?_
        refine AllReadyH.cons rfl (fun KK hKK => ?_) (AllReadyH.nil)
        (refine push_step rfl (.tmp 97) (.tmp 99) rfl zb zm bs NMv (w4.heap.size + 1) rfl (HI.out _ (bel_trans B4 (bel_alloc (bel_alloc ((Below.refl w4.heap.size w4).drew) _) _))) hnl2 hml rfl (Blk.cell (show Blk ((w4.drew.alloc (.cells #[.slice none 0 0, .slice none 0 0] 59)).alloc (.cells #[.string NMv] 9)) (w4.heap.size + 1) #[.string NMv] 9 from blkAt (by simp) _ _) 0) ?_; intro A9 C9 w9 hO9 hc9 hb9; have hp8 : Blk ((w4.drew.alloc (.cells #[.slice none 0 0, .slice none 0 0] 59)).alloc (.cells #[.string NMv] 9)) (w4.heap.size) #[.slice none 0 0, .slice none 0 0] 59 := Blk.alloc (blkAt (by simp) _ _) _; have hp9 := Blk.below hp8 hb9; have p0 := Blk.cell hp9 0; have p1 := Blk.cell hp9 1; have q0 := Blk.free hp9 0; have q1 := Blk.free hp9 1; have HP8 := Lib.hid hp8; clear hp8 hp9)
        refine hKK.out _ _ (by exact HS.out _ (bel_trans B4 (bel_trans (bel_alloc (bel_alloc ((Below.refl w4.heap.size w4).drew) _) _) hb9))) (fun hHeld => ?_)
        clear hKK KK
        (try simp only [List.getElem_toArray, List.getElem_cons_succ, List.getElem_cons_zero, Act.put, List.setIfInBounds_toArray, List.set_cons_zero, List.set_cons_succ])
        refine wpAnyH_take (i := 8) (v := ?_) rfl (by kernel_rfl) (by kernel_rfl) (by kernel_rfl) (fun _ _ _ h => h) (Or.inl ⟨by rfl, ?hy⟩) (by assumption) ?_
        case hy => (intro w hSw; (try dsimp only at hSw); go_simp; try (with_reducible rfl))
        (try simp only [List.getElem_toArray, List.getElem_cons_succ, List.getElem_cons_zero, Act.put, List.setIfInBounds_toArray, List.set_cons_zero, List.set_cons_succ])
        refine wpAnyH_ready (rs := [10]) (by kernel_rfl) (by simp) ?_
        refine AllReadyH.cons rfl (fun KK hKK => ?_) (AllReadyH.nil)
        go_simp
        refine hKK.out _ _ (by exact HS.out _ (bel_trans B4 (inner_a (bel_alloc (bel_alloc ((Below.refl w4.heap.size w4).drew) _) _) HP8.out (by omega) hb9 hO9).2.1)) (fun hHeld => ?_)
        clear hKK KK
        (try simp only [List.getElem_toArray, List.getElem_cons_succ, List.getElem_cons_zero, Act.put, List.setIfInBounds_toArray, List.set_cons_zero, List.set_cons_succ])
        refine wpAnyH_done (by kernel_rfl) ?_ _
        refine NoPanic.normal ?_
        all_goals (try go_wp2_with fail)
        go_meet
        exact ⟨_, A9, C9, rfl, Lib.hid ⟨(inner_a (bel_alloc (bel_alloc ((Below.refl w4.heap.size w4).drew) _) _) HP8.out (by omega) hb9 hO9).1, (inner_a (bel_alloc (bel_alloc ((Below.refl w4.heap.size w4).drew) _) _) HP8.out (by omega) hb9 hO9).2.1, (inner_a (bel_alloc (bel_alloc ((Below.refl w4.heap.size w4).drew) _) _) HP8.out (by omega) hb9 hO9).2.2, hc9⟩⟩
  case rest =>
    obtain ⟨P, A9, C9, rfl, hcut⟩ := hcut
    obtain ⟨hP, hBc, hSc, hC9⟩ := hcut.out
    have Bc : Below W2.heap.size W2 wc := bel_trans B4 hBc
    have cX := HX.out ⟨za, zn, zc, A9, zm + 1, C9⟩
    have HX2 := Lib.hid (show ∀ w', Below wc.heap.size wc w' → _ from fun w' h => cX w' (bel_trans Bc h) ⟨HFr.out w' (bel_trans Bc h), hSc.below h, hzc, hC9⟩)
    have HPc := Lib.hid (show ∀ w', Below wc.heap.size wc w' → (w'.cell? ⟨P, 0, none⟩ = some (.slice za zn zc) ∧ w'.cell? ⟨P, 1, none⟩ = some (.slice A9 (zm + 1) C9)) from fun w' h => (ScB.bl hP h).two)
    have HK := Lib.hid (show ∀ w', Below wc.heap.size wc w' → (w'.cell? ⟨w.heap.size + 1, 2, none⟩ = some (.string so) ∧ w'.cell? ⟨w.heap.size + 1, 4, none⟩ = some (.slice (some ⟨bb, oo, none⟩) 1 c) ∧ w'.cell? ⟨w.heap.size + 2, 0, none⟩ = some (.string sg) ∧ w'.cell? ⟨bb, oo, none⟩ = some (.int .i64 xo) ∧ w'.cell? ⟨bb, oo + 1, none⟩ = some (.string xs) ∧ w'.cell? ⟨bb, oo + 1 + 1, none⟩ = some (.string xz) ∧ w'.cell? ⟨bb, oo + 1 + 1 + 1, none⟩ = some (.slice qa qn qc) ∧ w'.cell? ⟨bb, oo + 1 + 1 + 1 + 1, none⟩ = some (.slice a' n' c') ∧ w'.cell? ⟨P, 0, none⟩ = some (.slice za zn zc) ∧ w'.cell? ⟨P, 1, none⟩ = some (.slice A9 (zm + 1) C9)) from fun w' h => by
      obtain ⟨k0, k1, k2, k3, k4, k5, k6, k7⟩ := HQ.out w' (bel_trans Bc h)
      exact ⟨k0, k1, k2, k3, k4, k5, k6, k7, HPc.out w' h⟩)
    have Bd : Below wc.heap.size wc wc.drew := (Below.refl _ _).drew
    have HBc := Lib.hid Bc
    clear cX HX HFr HS HI hP hBc hSc hcut HPc HQ s40 s41
    unfold Sv.val at HX2
    dsimp only at HX2
    go_wp2
    go_region_held3 (fun w' => w'.cell? ⟨w.heap.size + 1, 2, none⟩ = some (.string so) ∧ w'.cell? ⟨w.heap.size + 1, 4, none⟩ = some (.slice (some ⟨bb, oo, none⟩) 1 c) ∧ w'.cell? ⟨w.heap.size + 2, 0, none⟩ = some (.string sg) ∧ w'.cell? ⟨bb, oo, none⟩ = some (.int .i64 xo) ∧ w'.cell? ⟨bb, oo + 1, none⟩ = some (.string xs) ∧ w'.cell? ⟨bb, oo + 1 + 1, none⟩ = some (.string xz) ∧ w'.cell? ⟨bb, oo + 1 + 1 + 1, none⟩ = some (.slice qa qn qc) ∧ w'.cell? ⟨bb, oo + 1 + 1 + 1 + 1, none⟩ = some (.slice a' n' c') ∧ w'.cell? ⟨P, 0, none⟩ = some (.slice za zn zc) ∧ w'.cell? ⟨P, 1, none⟩ = some (.slice A9 (zm + 1) C9))
      (first | exact HK.out _ B7 | exact HK.out _ B6 | exact HK.out _ Bd | go_keep)
      (first
        | (go_at_call 18; ((with_reducible refine (cV _).mono ?_); rintro e w6 ⟨rfl, hb6⟩; have B6 := bel_trans Bd hb6))
        | (go_at_call 39; ((with_reducible refine (HX2.out _ B6).mono ?_); rintro e w7 ⟨rfl, hb7⟩; have B7 := bel_trans B6 hb7)))
    go_wp2
    go_ret
    exact ⟨rfl, bel_trans (bel_trans HB.out HBc.out) B7⟩

set_option maxHeartbeats 8000000 in
theorem claim_bind12 {W : World} (E : Env W) {fr bs : List ByteArray} (hb : shB bs) (hf : ∀ x ∈ fr ++ bs, x.size ≤ maxLen) (hfl : (fr ++ bs).length ≤ 1000000) (x : Cl) (hx : ClaimOk W fr x) (hl : bs.length + 1 + wt x ≤ 10000) (s so : ByteArray)
    (z : Sv) (m : Int) (ks : SS) (a : Option Addr) (n c : Nat) (w : World) (hw : Below W.heap.size W w) (hz : z.ok w fr bs) (hs : s.size ≤ 100) (hso : so.size ≤ 100) (hC : CsW w a n c [x]) (hsx : (cT fr x (bs ++ [(bname (fr ++ bs) s)]) 5 false).size ≤ 1000000000) (m0 : decide ((0 : Int) > m) = false) :
    Calls Tryz.prog 39 #[z.val, .agg #[.int .i64 12, .string s, .string so, .slice ks.a ks.n ks.c, .slice a n c], .int .i64 m, .bool false] w fun e w' => e = .returned (.string (⟨#[63]⟩ ++ (((bname (fr ++ bs) s) ++ (⟨#[58, 32]⟩ ++ so)) ++ (⟨#[46, 32]⟩ ++ cT fr x (bs ++ [(bname (fr ++ bs) s)]) 5 false)))) ∧ Below w.heap.size w w' := by
  obtain ⟨W1, hW1, hB1, hs1, S1, T1⟩ := scbox w z.a z.n z.c z.b z.m z.d 12 s so ks a n c
  obtain ⟨W2, hW2, hB2, hs2, p0, p1, i0, i1, f0, f1⟩ := obox2 W1 ⟨#[63]⟩ 0
  have hB12 : Below w.heap.size w W2 := bel_trans hB1 hB2
  have hw1 : Below W.heap.size W W1 := hw.trans (hB1.mono hw.size)
  have hww : Below W.heap.size W W2 := hw.trans (hB12.mono hw.size)
  obtain ⟨g0, g1⟩ : W1.cell? ⟨1, 24, none⟩ = some (.string ⟨#[63]⟩) ∧ W1.cell? ⟨1, 25, none⟩ = some (.int .i64 0) := E.cop W1 hw1 12 (by decide)
  obtain ⟨s0, s1⟩ := (S1.bl hB2).two
  obtain ⟨t0, t1, t2, t3, t4⟩ := (CBox.b T1 hB2).five
  obtain ⟨u0, u1, u2, u3, u4⟩ := T1.five
  rw [hs1] at p0 p1 i0 i1 f0 f1
  have hml : z.m ≤ 1000000 := by have := hz.2.1.1.1; have := hb.1; omega
  have hcl : z.m ≤ z.d := hz.2.1.2.1
  have hnl : z.b = none → z.d = 0 := hz.2.1.2.2
  have hnl2 : z.b = none → z.m = 0 := fun h => by have := hnl h; omega
  have hzc : z.c ≤ maxLen := hz.2.2.1
  have cF := fresh_any E z fr bs s hs hf hfl W2 hww (hz.bl hB12)
  have hNs : (bname (fr ++ bs) s).size ≤ 32 := bname_size (by omega) s
  have hb2 := shB_snoc (K := 0) hb (by omega) (show (bname (fr ++ bs) s).size ≤ 40 by omega)
  have HI := Lib.hid (show ∀ w', Below W2.heap.size W2 w' → IsS w' z.b z.m bs from fun w' h => (hz.bl (bel_trans hB12 h)).2.1.1)
  have HFr := Lib.hid (show ∀ w', Below W2.heap.size W2 w' → SlS w' z.a z.n z.c fr from fun w' h => (hz.bl (bel_trans hB12 h)).1)
  have cV := fun w => Var_any (bname (fr ++ bs) s) so (by omega) (by omega) w
  obtain ⟨bb, oo, ⟨qa, qn, qc⟩, a', n', c', rfl, rfl, hbb, ⟨y0, y1, y2, y3, y4⟩, hAx⟩ := subs1 (CsW.b hC hB12)
  have HX := Lib.hid (show ∀ (P : Sv) (w' : World), Below W2.heap.size W2 w' → P.ok w' fr (bs ++ [bname (fr ++ bs) s]) → _ from fun P w' h hp => hx P (bs ++ [bname (fr ++ bs) s]) 5 false ⟨qa, qn, qc⟩ a' n' c' w' (hww.trans (h.mono hww.size)) hp hb2 (by rw [List.length_append, List.length_singleton]; exact hl) (ArWC.b hAx h) (by omega) (by omega))
  have hvs : (bname (fr ++ bs) s ++ (⟨#[58, 32]⟩ ++ so)).size ≤ 200 := by
    rw [ByteArray.size_append, ByteArray.size_append]
    have : (⟨#[58, 32]⟩ : ByteArray).size = 2 := rfl
    omega
  unfold Sv.val at cF ⊢
  obtain ⟨NMv, hNM⟩ : ∃ v, bname (fr ++ bs) s = v := ⟨_, rfl⟩
  rw [hNM] at cF hNs hb2 cV HX hvs hsx ⊢
  clear hNM hx hl hC hAx hb2 hb hf hfl hz S1 T1 E hw hww hw1 hs hB1 hB2
  have hd : (⟨#[46, 32]⟩ : ByteArray).size = 2 := rfl
  obtain ⟨V, hV⟩ : ∃ v, NMv ++ (⟨#[58, 32]⟩ ++ so) = v := ⟨_, rfl⟩
  obtain ⟨Y, hY⟩ : ∃ v, cT fr x (bs ++ [NMv]) 5 false = v := ⟨_, rfl⟩
  rw [hV] at cV hvs
  rw [hY] at hsx HX
  obtain ⟨sg, hsg⟩ : ∃ v : ByteArray, ⟨#[63]⟩ = v := ⟨_, rfl⟩
  have hsgz : sg.size = 1 := by rw [← hsg]; rfl
  obtain ⟨X1, e1⟩ : ∃ v, sg ++ V = v := ⟨_, rfl⟩
  obtain ⟨X2, e2⟩ : ∃ v, X1 ++ (⟨#[46, 32]⟩ : ByteArray) = v := ⟨_, rfl⟩
  have e3 : X2 ++ Y = ⟨#[63]⟩ ++ ((NMv ++ (⟨#[58, 32]⟩ ++ so)) ++ (⟨#[46, 32]⟩ ++ cT fr x (bs ++ [NMv]) 5 false)) := by
    rw [hV, hY, ← e2, ← e1, hsg]; simp only [ByteArray.append_assoc]
  have z1 : X1.size ≤ 201 := by rw [← e1, ByteArray.size_append]; omega
  have z2 : X2.size ≤ 203 := by rw [← e2, ByteArray.size_append]; omega
  have r1 : ∀ w, (Op.stringOp .add sg V).run Tryz.prog w = .ok (.string X1) w := fun w => by rw [run_string_add_sum w _ _ (by omega), e1]
  have r2 : ∀ w, (Op.stringOp .add X1 ⟨#[46, 32]⟩).run Tryz.prog w = .ok (.string X2) w := fun w => by rw [run_string_add_sum w _ _ (by omega), e2]
  have r3 : ∀ w, (Op.stringOp .add X2 Y).run Tryz.prog w = .ok (.string (X2 ++ Y)) w := fun w => by rw [run_string_add_sum w _ _ (by omega)]
  rw [← e3]
  clear e1 e2 e3 z1 z2 hd hV hsgz hsx
  generalize X2 ++ Y = R at *
  rw [hsg] at p0 i0 g0 hW2
  clear hsg hY
  generalize opC x = xo at *
  generalize nmC x = xs at *
  generalize soC x = xz at *
  obtain ⟨za, zn, zc, zb, zm, zd⟩ := z
  obtain ⟨ka, kn, kc⟩ := ks
  dsimp only at *
  have l1 : w.heap.size < W2.heap.size := by omega
  have l2 : w.heap.size + 1 < W2.heap.size := by omega
  have l3 : w.heap.size + 2 < W2.heap.size := by omega
  have HS := Lib.hid (show ∀ w', Below W2.heap.size W2 w' → (w'.cell? ⟨w.heap.size, 0, none⟩ = some (.slice za zn zc) ∧ w'.cell? ⟨w.heap.size, 1, none⟩ = some (.slice zb zm zd)) from fun w' h =>
    ⟨(h.cell (p := ⟨w.heap.size, 0, none⟩) l1).trans s0, (h.cell (p := ⟨w.heap.size, 1, none⟩) l1).trans s1⟩)
  have HQ := Lib.hid (show ∀ w', Below W2.heap.size W2 w' → (w'.cell? ⟨w.heap.size + 1, 2, none⟩ = some (.string so) ∧ w'.cell? ⟨w.heap.size + 1, 4, none⟩ = some (.slice (some ⟨bb, oo, none⟩) 1 c) ∧ w'.cell? ⟨w.heap.size + 2, 0, none⟩ = some (.string sg) ∧ w'.cell? ⟨bb, oo, none⟩ = some (.int .i64 xo) ∧ w'.cell? ⟨bb, oo + 1, none⟩ = some (.string xs) ∧ w'.cell? ⟨bb, oo + 1 + 1, none⟩ = some (.string xz) ∧ w'.cell? ⟨bb, oo + 1 + 1 + 1, none⟩ = some (.slice qa qn qc) ∧ w'.cell? ⟨bb, oo + 1 + 1 + 1 + 1, none⟩ = some (.slice a' n' c')) from fun w' h =>
    ⟨(h.cell (p := ⟨w.heap.size + 1, 2, none⟩) l2).trans t2, (h.cell (p := ⟨w.heap.size + 1, 4, none⟩) l2).trans t4, (h.cell (p := ⟨w.heap.size + 2, 0, none⟩) l3).trans p0,
      (h.cell (p := ⟨bb, _, none⟩) hbb).trans y0, (h.cell (p := ⟨bb, _, none⟩) hbb).trans y1, (h.cell (p := ⟨bb, _, none⟩) hbb).trans y2, (h.cell (p := ⟨bb, _, none⟩) hbb).trans y3, (h.cell (p := ⟨bb, _, none⟩) hbb).trans y4⟩)
  have HB := Lib.hid hB12
  go_enter Tryz.func39, Tryz.ntmps39
  go_upto_region 20 with (go_at_call 75; ((with_reducible refine cF.mono ?_); rintro e w4 ⟨rfl, B4⟩; clear cF; have k4 := HS.out w4 B4; obtain ⟨s40, s41⟩ := k4))
  go_cut [12] from 12 to 101 (fun v wc => ∃ P A9 C9, v = .pointer (some ⟨P, 0, none⟩) ∧ Hid (ScB wc P za zn zc A9 (zm + 1) C9 ∧ Below w4.heap.size w4 wc ∧ SlS wc A9 (zm + 1) C9 (bs ++ [NMv]) ∧ C9 ≤ maxLen))
  case first =>
    refine wp_region_noPanic ?_
    refine wp_region_held_drew (S := fun w' => w'.cell? ⟨w.heap.size, 0, none⟩ = some (.slice za zn zc) ∧ w'.cell? ⟨w.heap.size, 1, none⟩ = some (.slice zb zm zd)) (by kernel_rfl) (by exact HS.out _ (bel_trans B4 (Below.refl _ _).drew)) (fun hHeld => ?_)
    refine wpAnyH_take (i := 0) (v := ?_) rfl (by kernel_rfl) (by kernel_rfl) (by kernel_rfl) (fun _ _ _ h => h) (Or.inl ⟨by rfl, ?hy⟩) (by assumption) ?_
    case hy => (intro w hSw; (try dsimp only at hSw); go_simp; try (with_reducible rfl))
    (try simp only [List.getElem_toArray, List.getElem_cons_succ, List.getElem_cons_zero, Act.put, List.setIfInBounds_toArray, List.set_cons_zero, List.set_cons_succ])
    refine wpAnyH_take (i := 1) (v := ?_) rfl (by kernel_rfl) (by kernel_rfl) (by kernel_rfl) (fun _ _ _ h => h) (Or.inl ⟨by rfl, ?hy⟩) (by assumption) ?_
    case hy => (intro w hSw; (try dsimp only at hSw); go_simp; try (with_reducible rfl))
    (try simp only [List.getElem_toArray, List.getElem_cons_succ, List.getElem_cons_zero, Act.put, List.setIfInBounds_toArray, List.set_cons_zero, List.set_cons_succ])
    refine wpAnyH_take (i := 2) (v := ?_) rfl (by kernel_rfl) (by kernel_rfl) (by kernel_rfl) (fun _ _ _ h => h) (Or.inl ⟨by rfl, ?hy⟩) (by assumption) ?_
    case hy => (intro w hSw; (try dsimp only at hSw); go_simp; try (with_reducible rfl))
    (try simp only [List.getElem_toArray, List.getElem_cons_succ, List.getElem_cons_zero, Act.put, List.setIfInBounds_toArray, List.set_cons_zero, List.set_cons_succ])
    refine wpAnyH_take (i := 3) (v := ?_) rfl (by kernel_rfl) (by kernel_rfl) (by kernel_rfl) (fun _ _ _ h => h) (Or.inl ⟨by rfl, ?hy⟩) (by assumption) ?_
    case hy => (intro w hSw; (try dsimp only at hSw); go_simp; try (with_reducible rfl))
    (try simp only [List.getElem_toArray, List.getElem_cons_succ, List.getElem_cons_zero, Act.put, List.setIfInBounds_toArray, List.set_cons_zero, List.set_cons_succ])
    refine wpAnyH_take (i := 5) (v := ?_) rfl (by kernel_rfl) (by kernel_rfl) (by kernel_rfl) (fun _ _ _ h => h) (Or.inl ⟨by rfl, ?hy⟩) (by assumption) ?_
    case hy => (intro w hSw; (try dsimp only at hSw); go_simp; try (with_reducible rfl))
    (try simp only [List.getElem_toArray, List.getElem_cons_succ, List.getElem_cons_zero, Act.put, List.setIfInBounds_toArray, List.set_cons_zero, List.set_cons_succ])
    refine wpAnyH_ready (rs := [4, 6, 9]) (by kernel_rfl) (by simp) ?_
    refine AllReadyH.cons rfl (fun KK hKK => ?_) (AllReadyH.cons rfl (fun KK hKK => ?_) (AllReadyH.cons rfl (fun KK hKK => ?_) (AllReadyH.nil)))
    · go_simp
      (go_at_call 76; ((with_reducible refine (Clip_any zb zm zd _ hcl hnl).mono ?_); rintro e wK ⟨rfl, hwK⟩; subst hwK))
      refine hKK.out _ _ (by exact HS.out _ (bel_trans B4 ((Below.refl w4.heap.size w4).drew))) (fun hHeld => ?_)
      clear hKK KK
      (try simp only [List.getElem_toArray, List.getElem_cons_succ, List.getElem_cons_zero, Act.put, List.setIfInBounds_toArray, List.set_cons_zero, List.set_cons_succ])
      refine wpAnyH_ready (rs := [6, 9]) (by kernel_rfl) (by simp) ?_
      refine AllReadyH.cons rfl (fun KK hKK => ?_) (AllReadyH.cons rfl (fun KK hKK => ?_) (AllReadyH.nil))
      · go_simp
        refine hKK.out _ _ (by exact HS.out _ (bel_trans B4 (bel_alloc ((Below.refl w4.heap.size w4).drew) _))) (fun hHeld => ?_)
        clear hKK KK
        (try simp only [List.getElem_toArray, List.getElem_cons_succ, List.getElem_cons_zero, Act.put, List.setIfInBounds_toArray, List.set_cons_zero, List.set_cons_succ])
        refine wpAnyH_ready (rs := [7, 9]) (by kernel_rfl) (by simp) ?_
        refine AllReadyH.cons rfl (fun KK hKK => ?_) (AllReadyH.cons rfl (fun KK hKK => ?_) (AllReadyH.nil))
        · (refine push_step rfl (.tmp 97) (.tmp 99) rfl zb zm bs NMv (w4.heap.size) rfl (HI.out _ (bel_trans B4 (bel_alloc ((Below.refl w4.heap.size w4).drew) _))) hnl2 hml rfl (Blk.cell (show Blk (w4.drew.alloc (.cells #[.string NMv] 9)) (w4.heap.size) #[.string NMv] 9 from blkAt (by simp) _ _) 0) ?_; intro A9 C9 w9 hO9 hc9 hb9)
          refine hKK.out _ _ (by exact HS.out _ (bel_trans B4 (bel_trans (bel_alloc ((Below.refl w4.heap.size w4).drew) _) hb9))) (fun hHeld => ?_)
          clear hKK KK
          (try simp only [List.getElem_toArray, List.getElem_cons_succ, List.getElem_cons_zero, Act.put, List.setIfInBounds_toArray, List.set_cons_zero, List.set_cons_succ])
          refine wpAnyH_take (i := 8) (v := ?_) rfl (by kernel_rfl) (by kernel_rfl) (by kernel_rfl) (fun _ _ _ h => h) (Or.inl ⟨by rfl, ?hy⟩) (by assumption) ?_
          case hy => (intro w hSw; (try dsimp only at hSw); go_simp; try (with_reducible rfl))
          (try simp only [List.getElem_toArray, List.getElem_cons_succ, List.getElem_cons_zero, Act.put, List.setIfInBounds_toArray, List.set_cons_zero, List.set_cons_succ])
          refine wpAnyH_ready (rs := [9]) (by kernel_rfl) (by simp) ?_
          refine AllReadyH.cons rfl (fun KK hKK => ?_) (AllReadyH.nil)
          go_simp
          refine hKK.out _ _ (by exact HS.out _ (bel_trans B4 (bel_alloc (bel_trans (bel_alloc ((Below.refl w4.heap.size w4).drew) _) hb9) _))) (fun hHeld => ?_)
          clear hKK KK
          (try simp only [List.getElem_toArray, List.getElem_cons_succ, List.getElem_cons_zero, Act.put, List.setIfInBounds_toArray, List.set_cons_zero, List.set_cons_succ])
          refine wpAnyH_ready (rs := [10]) (by kernel_rfl) (by simp) ?_
          refine AllReadyH.cons rfl (fun KK hKK => ?_) (AllReadyH.nil)
          go_simp
          refine hKK.out _ _ (by exact HS.out _ (bel_trans B4 (inner_b (bel_trans (bel_alloc ((Below.refl w4.heap.size w4).drew) _) hb9) hO9).2.1)) (fun hHeld => ?_)
          clear hKK KK
          (try simp only [List.getElem_toArray, List.getElem_cons_succ, List.getElem_cons_zero, Act.put, List.setIfInBounds_toArray, List.set_cons_zero, List.set_cons_succ])
          refine wpAnyH_done (by kernel_rfl) ?_ _
          refine NoPanic.normal ?_
          all_goals (try go_wp2_with fail)
          go_meet
          exact ⟨_, A9, C9, rfl, Lib.hid ⟨(inner_b (bel_trans (bel_alloc ((Below.refl w4.heap.size w4).drew) _) hb9) hO9).1, (inner_b (bel_trans (bel_alloc ((Below.refl w4.heap.size w4).drew) _) hb9) hO9).2.1, (inner_b (bel_trans (bel_alloc ((Below.refl w4.heap.size w4).drew) _) hb9) hO9).2.2, hc9⟩⟩
        · go_simp
          refine hKK.out _ _ (by exact HS.out _ (bel_trans B4 (bel_alloc (bel_alloc ((Below.refl w4.heap.size w4).drew) _) _))) (fun hHeld => ?_)
          clear hKK KK
          (try simp only [List.getElem_toArray, List.getElem_cons_succ, List.getElem_cons_zero, Act.put, List.setIfInBounds_toArray, List.set_cons_zero, List.set_cons_succ])
          refine wpAnyH_ready (rs := [7]) (by kernel_rfl) (by simp) ?_
          refine AllReadyH.cons rfl (fun KK hKK => ?_) (AllReadyH.nil)
          (refine push_step rfl (.tmp 97) (.tmp 99) rfl zb zm bs NMv (w4.heap.size) rfl (HI.out _ (bel_trans B4 (bel_alloc (bel_alloc ((Below.refl w4.heap.size w4).drew) _) _))) hnl2 hml rfl (Blk.cell (show Blk ((w4.drew.alloc (.cells #[.string NMv] 9)).alloc (.cells #[.slice none 0 0, .slice none 0 0] 59)) (w4.heap.size) #[.string NMv] 9 from Blk.alloc (blkAt (by simp) _ _) _) 0) ?_; intro A9 C9 w9 hO9 hc9 hb9; have hp8 : Blk ((w4.drew.alloc (.cells #[.string NMv] 9)).alloc (.cells #[.slice none 0 0, .slice none 0 0] 59)) (w4.heap.size + 1) #[.slice none 0 0, .slice none 0 0] 59 := blkAt (by simp) _ _; have hp9 := Blk.below hp8 hb9; have p0 := Blk.cell hp9 0; have p1 := Blk.cell hp9 1; have q0 := Blk.free hp9 0; have q1 := Blk.free hp9 1; have HP8 := Lib.hid hp8; clear hp8 hp9)
          refine hKK.out _ _ (by exact HS.out _ (bel_trans B4 (bel_trans (bel_alloc (bel_alloc ((Below.refl w4.heap.size w4).drew) _) _) hb9))) (fun hHeld => ?_)
          clear hKK KK
          (try simp only [List.getElem_toArray, List.getElem_cons_succ, List.getElem_cons_zero, Act.put, List.setIfInBounds_toArray, List.set_cons_zero, List.set_cons_succ])
          refine wpAnyH_take (i := 8) (v := ?_) rfl (by kernel_rfl) (by kernel_rfl) (by kernel_rfl) (fun _ _ _ h => h) (Or.inl ⟨by rfl, ?hy⟩) (by assumption) ?_
          case hy => (intro w hSw; (try dsimp only at hSw); go_simp; try (with_reducible rfl))
          (try simp only [List.getElem_toArray, List.getElem_cons_succ, List.getElem_cons_zero, Act.put, List.setIfInBounds_toArray, List.set_cons_zero, List.set_cons_succ])
          refine wpAnyH_ready (rs := [10]) (by kernel_rfl) (by simp) ?_
          refine AllReadyH.cons rfl (fun KK hKK => ?_) (AllReadyH.nil)
          go_simp
          refine hKK.out _ _ (by exact HS.out _ (bel_trans B4 (inner_a (bel_alloc (bel_alloc ((Below.refl w4.heap.size w4).drew) _) _) HP8.out (by omega) hb9 hO9).2.1)) (fun hHeld => ?_)
          clear hKK KK
          (try simp only [List.getElem_toArray, List.getElem_cons_succ, List.getElem_cons_zero, Act.put, List.setIfInBounds_toArray, List.set_cons_zero, List.set_cons_succ])
          refine wpAnyH_done (by kernel_rfl) ?_ _
          refine NoPanic.normal ?_
          all_goals (try go_wp2_with fail)
          go_meet
          exact ⟨_, A9, C9, rfl, Lib.hid ⟨(inner_a (bel_alloc (bel_alloc ((Below.refl w4.heap.size w4).drew) _) _) HP8.out (by omega) hb9 hO9).1, (inner_a (bel_alloc (bel_alloc ((Below.refl w4.heap.size w4).drew) _) _) HP8.out (by omega) hb9 hO9).2.1, (inner_a (bel_alloc (bel_alloc ((Below.refl w4.heap.size w4).drew) _) _) HP8.out (by omega) hb9 hO9).2.2, hc9⟩⟩
      · go_simp
        refine hKK.out _ _ (by exact HS.out _ (bel_trans B4 (bel_alloc ((Below.refl w4.heap.size w4).drew) _))) (fun hHeld => ?_)
        clear hKK KK
        (try simp only [List.getElem_toArray, List.getElem_cons_succ, List.getElem_cons_zero, Act.put, List.setIfInBounds_toArray, List.set_cons_zero, List.set_cons_succ])
        refine wpAnyH_ready (rs := [6]) (by kernel_rfl) (by simp) ?_
        refine AllReadyH.cons rfl (fun KK hKK => ?_) (AllReadyH.nil)
        go_simp
        refine hKK.out _ _ (by exact HS.out _ (bel_trans B4 (bel_alloc (bel_alloc ((Below.refl w4.heap.size w4).drew) _) _))) (fun hHeld => ?_)
        clear hKK KK
        (try simp only [List.getElem_toArray, List.getElem_cons_succ, List.getElem_cons_zero, Act.put, List.setIfInBounds_toArray, List.set_cons_zero, List.set_cons_succ])
        refine wpAnyH_ready (rs := [7]) (by kernel_rfl) (by simp) ?_
        refine AllReadyH.cons rfl (fun KK hKK => ?_) (AllReadyH.nil)
        (refine push_step rfl (.tmp 97) (.tmp 99) rfl zb zm bs NMv (w4.heap.size + 1) rfl (HI.out _ (bel_trans B4 (bel_alloc (bel_alloc ((Below.refl w4.heap.size w4).drew) _) _))) hnl2 hml rfl (Blk.cell (show Blk ((w4.drew.alloc (.cells #[.slice none 0 0, .slice none 0 0] 59)).alloc (.cells #[.string NMv] 9)) (w4.heap.size + 1) #[.string NMv] 9 from blkAt (by simp) _ _) 0) ?_; intro A9 C9 w9 hO9 hc9 hb9; have hp8 : Blk ((w4.drew.alloc (.cells #[.slice none 0 0, .slice none 0 0] 59)).alloc (.cells #[.string NMv] 9)) (w4.heap.size) #[.slice none 0 0, .slice none 0 0] 59 := Blk.alloc (blkAt (by simp) _ _) _; have hp9 := Blk.below hp8 hb9; have p0 := Blk.cell hp9 0; have p1 := Blk.cell hp9 1; have q0 := Blk.free hp9 0; have q1 := Blk.free hp9 1; have HP8 := Lib.hid hp8; clear hp8 hp9)
        refine hKK.out _ _ (by exact HS.out _ (bel_trans B4 (bel_trans (bel_alloc (bel_alloc ((Below.refl w4.heap.size w4).drew) _) _) hb9))) (fun hHeld => ?_)
        clear hKK KK
        (try simp only [List.getElem_toArray, List.getElem_cons_succ, List.getElem_cons_zero, Act.put, List.setIfInBounds_toArray, List.set_cons_zero, List.set_cons_succ])
        refine wpAnyH_take (i := 8) (v := ?_) rfl (by kernel_rfl) (by kernel_rfl) (by kernel_rfl) (fun _ _ _ h => h) (Or.inl ⟨by rfl, ?hy⟩) (by assumption) ?_
        case hy => (intro w hSw; (try dsimp only at hSw); go_simp; try (with_reducible rfl))
        (try simp only [List.getElem_toArray, List.getElem_cons_succ, List.getElem_cons_zero, Act.put, List.setIfInBounds_toArray, List.set_cons_zero, List.set_cons_succ])
        refine wpAnyH_ready (rs := [10]) (by kernel_rfl) (by simp) ?_
        refine AllReadyH.cons rfl (fun KK hKK => ?_) (AllReadyH.nil)
        go_simp
        refine hKK.out _ _ (by exact HS.out _ (bel_trans B4 (inner_a (bel_alloc (bel_alloc ((Below.refl w4.heap.size w4).drew) _) _) HP8.out (by omega) hb9 hO9).2.1)) (fun hHeld => ?_)
        clear hKK KK
        (try simp only [List.getElem_toArray, List.getElem_cons_succ, List.getElem_cons_zero, Act.put, List.setIfInBounds_toArray, List.set_cons_zero, List.set_cons_succ])
        refine wpAnyH_done (by kernel_rfl) ?_ _
        refine NoPanic.normal ?_
        all_goals (try go_wp2_with fail)
        go_meet
        exact ⟨_, A9, C9, rfl, Lib.hid ⟨(inner_a (bel_alloc (bel_alloc ((Below.refl w4.heap.size w4).drew) _) _) HP8.out (by omega) hb9 hO9).1, (inner_a (bel_alloc (bel_alloc ((Below.refl w4.heap.size w4).drew) _) _) HP8.out (by omega) hb9 hO9).2.1, (inner_a (bel_alloc (bel_alloc ((Below.refl w4.heap.size w4).drew) _) _) HP8.out (by omega) hb9 hO9).2.2, hc9⟩⟩
    · go_simp
      refine hKK.out _ _ (by exact HS.out _ (bel_trans B4 (bel_alloc ((Below.refl w4.heap.size w4).drew) _))) (fun hHeld => ?_)
      clear hKK KK
      (try simp only [List.getElem_toArray, List.getElem_cons_succ, List.getElem_cons_zero, Act.put, List.setIfInBounds_toArray, List.set_cons_zero, List.set_cons_succ])
      refine wpAnyH_ready (rs := [4, 9]) (by kernel_rfl) (by simp) ?_
      refine AllReadyH.cons rfl (fun KK hKK => ?_) (AllReadyH.cons rfl (fun KK hKK => ?_) (AllReadyH.nil))
      · go_simp
        (go_at_call 76; ((with_reducible refine (Clip_any zb zm zd _ hcl hnl).mono ?_); rintro e wK ⟨rfl, hwK⟩; subst hwK))
        refine hKK.out _ _ (by exact HS.out _ (bel_trans B4 (bel_alloc ((Below.refl w4.heap.size w4).drew) _))) (fun hHeld => ?_)
        clear hKK KK
        (try simp only [List.getElem_toArray, List.getElem_cons_succ, List.getElem_cons_zero, Act.put, List.setIfInBounds_toArray, List.set_cons_zero, List.set_cons_succ])
        refine wpAnyH_ready (rs := [7, 9]) (by kernel_rfl) (by simp) ?_
        refine AllReadyH.cons rfl (fun KK hKK => ?_) (AllReadyH.cons rfl (fun KK hKK => ?_) (AllReadyH.nil))
        · (refine push_step rfl (.tmp 97) (.tmp 99) rfl zb zm bs NMv (w4.heap.size) rfl (HI.out _ (bel_trans B4 (bel_alloc ((Below.refl w4.heap.size w4).drew) _))) hnl2 hml rfl (Blk.cell (show Blk (w4.drew.alloc (.cells #[.string NMv] 9)) (w4.heap.size) #[.string NMv] 9 from blkAt (by simp) _ _) 0) ?_; intro A9 C9 w9 hO9 hc9 hb9)
          refine hKK.out _ _ (by exact HS.out _ (bel_trans B4 (bel_trans (bel_alloc ((Below.refl w4.heap.size w4).drew) _) hb9))) (fun hHeld => ?_)
          clear hKK KK
          (try simp only [List.getElem_toArray, List.getElem_cons_succ, List.getElem_cons_zero, Act.put, List.setIfInBounds_toArray, List.set_cons_zero, List.set_cons_succ])
          refine wpAnyH_take (i := 8) (v := ?_) rfl (by kernel_rfl) (by kernel_rfl) (by kernel_rfl) (fun _ _ _ h => h) (Or.inl ⟨by rfl, ?hy⟩) (by assumption) ?_
          case hy => (intro w hSw; (try dsimp only at hSw); go_simp; try (with_reducible rfl))
          (try simp only [List.getElem_toArray, List.getElem_cons_succ, List.getElem_cons_zero, Act.put, List.setIfInBounds_toArray, List.set_cons_zero, List.set_cons_succ])
          refine wpAnyH_ready (rs := [9]) (by kernel_rfl) (by simp) ?_
          refine AllReadyH.cons rfl (fun KK hKK => ?_) (AllReadyH.nil)
          go_simp
          refine hKK.out _ _ (by exact HS.out _ (bel_trans B4 (bel_alloc (bel_trans (bel_alloc ((Below.refl w4.heap.size w4).drew) _) hb9) _))) (fun hHeld => ?_)
          clear hKK KK
          (try simp only [List.getElem_toArray, List.getElem_cons_succ, List.getElem_cons_zero, Act.put, List.setIfInBounds_toArray, List.set_cons_zero, List.set_cons_succ])
          refine wpAnyH_ready (rs := [10]) (by kernel_rfl) (by simp) ?_
          refine AllReadyH.cons rfl (fun KK hKK => ?_) (AllReadyH.nil)
          go_simp
          refine hKK.out _ _ (by exact HS.out _ (bel_trans B4 (inner_b (bel_trans (bel_alloc ((Below.refl w4.heap.size w4).drew) _) hb9) hO9).2.1)) (fun hHeld => ?_)
          clear hKK KK
          (try simp only [List.getElem_toArray, List.getElem_cons_succ, List.getElem_cons_zero, Act.put, List.setIfInBounds_toArray, List.set_cons_zero, List.set_cons_succ])
          refine wpAnyH_done (by kernel_rfl) ?_ _
          refine NoPanic.normal ?_
          all_goals (try go_wp2_with fail)
          go_meet
          exact ⟨_, A9, C9, rfl, Lib.hid ⟨(inner_b (bel_trans (bel_alloc ((Below.refl w4.heap.size w4).drew) _) hb9) hO9).1, (inner_b (bel_trans (bel_alloc ((Below.refl w4.heap.size w4).drew) _) hb9) hO9).2.1, (inner_b (bel_trans (bel_alloc ((Below.refl w4.heap.size w4).drew) _) hb9) hO9).2.2, hc9⟩⟩
        · go_simp
          refine hKK.out _ _ (by exact HS.out _ (bel_trans B4 (bel_alloc (bel_alloc ((Below.refl w4.heap.size w4).drew) _) _))) (fun hHeld => ?_)
          clear hKK KK
          (try simp only [List.getElem_toArray, List.getElem_cons_succ, List.getElem_cons_zero, Act.put, List.setIfInBounds_toArray, List.set_cons_zero, List.set_cons_succ])
          refine wpAnyH_ready (rs := [7]) (by kernel_rfl) (by simp) ?_
          refine AllReadyH.cons rfl (fun KK hKK => ?_) (AllReadyH.nil)
          (refine push_step rfl (.tmp 97) (.tmp 99) rfl zb zm bs NMv (w4.heap.size) rfl (HI.out _ (bel_trans B4 (bel_alloc (bel_alloc ((Below.refl w4.heap.size w4).drew) _) _))) hnl2 hml rfl (Blk.cell (show Blk ((w4.drew.alloc (.cells #[.string NMv] 9)).alloc (.cells #[.slice none 0 0, .slice none 0 0] 59)) (w4.heap.size) #[.string NMv] 9 from Blk.alloc (blkAt (by simp) _ _) _) 0) ?_; intro A9 C9 w9 hO9 hc9 hb9; have hp8 : Blk ((w4.drew.alloc (.cells #[.string NMv] 9)).alloc (.cells #[.slice none 0 0, .slice none 0 0] 59)) (w4.heap.size + 1) #[.slice none 0 0, .slice none 0 0] 59 := blkAt (by simp) _ _; have hp9 := Blk.below hp8 hb9; have p0 := Blk.cell hp9 0; have p1 := Blk.cell hp9 1; have q0 := Blk.free hp9 0; have q1 := Blk.free hp9 1; have HP8 := Lib.hid hp8; clear hp8 hp9)
          refine hKK.out _ _ (by exact HS.out _ (bel_trans B4 (bel_trans (bel_alloc (bel_alloc ((Below.refl w4.heap.size w4).drew) _) _) hb9))) (fun hHeld => ?_)
          clear hKK KK
          (try simp only [List.getElem_toArray, List.getElem_cons_succ, List.getElem_cons_zero, Act.put, List.setIfInBounds_toArray, List.set_cons_zero, List.set_cons_succ])
          refine wpAnyH_take (i := 8) (v := ?_) rfl (by kernel_rfl) (by kernel_rfl) (by kernel_rfl) (fun _ _ _ h => h) (Or.inl ⟨by rfl, ?hy⟩) (by assumption) ?_
          case hy => (intro w hSw; (try dsimp only at hSw); go_simp; try (with_reducible rfl))
          (try simp only [List.getElem_toArray, List.getElem_cons_succ, List.getElem_cons_zero, Act.put, List.setIfInBounds_toArray, List.set_cons_zero, List.set_cons_succ])
          refine wpAnyH_ready (rs := [10]) (by kernel_rfl) (by simp) ?_
          refine AllReadyH.cons rfl (fun KK hKK => ?_) (AllReadyH.nil)
          go_simp
          refine hKK.out _ _ (by exact HS.out _ (bel_trans B4 (inner_a (bel_alloc (bel_alloc ((Below.refl w4.heap.size w4).drew) _) _) HP8.out (by omega) hb9 hO9).2.1)) (fun hHeld => ?_)
          clear hKK KK
          (try simp only [List.getElem_toArray, List.getElem_cons_succ, List.getElem_cons_zero, Act.put, List.setIfInBounds_toArray, List.set_cons_zero, List.set_cons_succ])
          refine wpAnyH_done (by kernel_rfl) ?_ _
          refine NoPanic.normal ?_
          all_goals (try go_wp2_with fail)
          go_meet
          exact ⟨_, A9, C9, rfl, Lib.hid ⟨(inner_a (bel_alloc (bel_alloc ((Below.refl w4.heap.size w4).drew) _) _) HP8.out (by omega) hb9 hO9).1, (inner_a (bel_alloc (bel_alloc ((Below.refl w4.heap.size w4).drew) _) _) HP8.out (by omega) hb9 hO9).2.1, (inner_a (bel_alloc (bel_alloc ((Below.refl w4.heap.size w4).drew) _) _) HP8.out (by omega) hb9 hO9).2.2, hc9⟩⟩
      · go_simp
        refine hKK.out _ _ (by exact HS.out _ (bel_trans B4 (bel_alloc (bel_alloc ((Below.refl w4.heap.size w4).drew) _) _))) (fun hHeld => ?_)
        clear hKK KK
        (try simp only [List.getElem_toArray, List.getElem_cons_succ, List.getElem_cons_zero, Act.put, List.setIfInBounds_toArray, List.set_cons_zero, List.set_cons_succ])
        refine wpAnyH_ready (rs := [4]) (by kernel_rfl) (by simp) ?_
        refine AllReadyH.cons rfl (fun KK hKK => ?_) (AllReadyH.nil)
        go_simp
        (go_at_call 76; ((with_reducible refine (Clip_any zb zm zd _ hcl hnl).mono ?_); rintro e wK ⟨rfl, hwK⟩; subst hwK))
        refine hKK.out _ _ (by exact HS.out _ (bel_trans B4 (bel_alloc (bel_alloc ((Below.refl w4.heap.size w4).drew) _) _))) (fun hHeld => ?_)
        clear hKK KK
        (try simp only [List.getElem_toArray, List.getElem_cons_succ, List.getElem_cons_zero, Act.put, List.setIfInBounds_toArray, List.set_cons_zero, List.set_cons_succ])
        refine wpAnyH_ready (rs := [7]) (by kernel_rfl) (by simp) ?_
        refine AllReadyH.cons rfl (fun KK hKK => ?_) (AllReadyH.nil)
        (refine push_step rfl (.tmp 97) (.tmp 99) rfl zb zm bs NMv (w4.heap.size) rfl (HI.out _ (bel_trans B4 (bel_alloc (bel_alloc ((Below.refl w4.heap.size w4).drew) _) _))) hnl2 hml rfl (Blk.cell (show Blk ((w4.drew.alloc (.cells #[.string NMv] 9)).alloc (.cells #[.slice none 0 0, .slice none 0 0] 59)) (w4.heap.size) #[.string NMv] 9 from Blk.alloc (blkAt (by simp) _ _) _) 0) ?_; intro A9 C9 w9 hO9 hc9 hb9; have hp8 : Blk ((w4.drew.alloc (.cells #[.string NMv] 9)).alloc (.cells #[.slice none 0 0, .slice none 0 0] 59)) (w4.heap.size + 1) #[.slice none 0 0, .slice none 0 0] 59 := blkAt (by simp) _ _; have hp9 := Blk.below hp8 hb9; have p0 := Blk.cell hp9 0; have p1 := Blk.cell hp9 1; have q0 := Blk.free hp9 0; have q1 := Blk.free hp9 1; have HP8 := Lib.hid hp8; clear hp8 hp9)
        refine hKK.out _ _ (by exact HS.out _ (bel_trans B4 (bel_trans (bel_alloc (bel_alloc ((Below.refl w4.heap.size w4).drew) _) _) hb9))) (fun hHeld => ?_)
        clear hKK KK
        (try simp only [List.getElem_toArray, List.getElem_cons_succ, List.getElem_cons_zero, Act.put, List.setIfInBounds_toArray, List.set_cons_zero, List.set_cons_succ])
        refine wpAnyH_take (i := 8) (v := ?_) rfl (by kernel_rfl) (by kernel_rfl) (by kernel_rfl) (fun _ _ _ h => h) (Or.inl ⟨by rfl, ?hy⟩) (by assumption) ?_
        case hy => (intro w hSw; (try dsimp only at hSw); go_simp; try (with_reducible rfl))
        (try simp only [List.getElem_toArray, List.getElem_cons_succ, List.getElem_cons_zero, Act.put, List.setIfInBounds_toArray, List.set_cons_zero, List.set_cons_succ])
        refine wpAnyH_ready (rs := [10]) (by kernel_rfl) (by simp) ?_
        refine AllReadyH.cons rfl (fun KK hKK => ?_) (AllReadyH.nil)
        go_simp
        refine hKK.out _ _ (by exact HS.out _ (bel_trans B4 (inner_a (bel_alloc (bel_alloc ((Below.refl w4.heap.size w4).drew) _) _) HP8.out (by omega) hb9 hO9).2.1)) (fun hHeld => ?_)
        clear hKK KK
        (try simp only [List.getElem_toArray, List.getElem_cons_succ, List.getElem_cons_zero, Act.put, List.setIfInBounds_toArray, List.set_cons_zero, List.set_cons_succ])
        refine wpAnyH_done (by kernel_rfl) ?_ _
        refine NoPanic.normal ?_
        all_goals (try go_wp2_with fail)
        go_meet
        exact ⟨_, A9, C9, rfl, Lib.hid ⟨(inner_a (bel_alloc (bel_alloc ((Below.refl w4.heap.size w4).drew) _) _) HP8.out (by omega) hb9 hO9).1, (inner_a (bel_alloc (bel_alloc ((Below.refl w4.heap.size w4).drew) _) _) HP8.out (by omega) hb9 hO9).2.1, (inner_a (bel_alloc (bel_alloc ((Below.refl w4.heap.size w4).drew) _) _) HP8.out (by omega) hb9 hO9).2.2, hc9⟩⟩
    · go_simp
      refine hKK.out _ _ (by exact HS.out _ (bel_trans B4 (bel_alloc ((Below.refl w4.heap.size w4).drew) _))) (fun hHeld => ?_)
      clear hKK KK
      (try simp only [List.getElem_toArray, List.getElem_cons_succ, List.getElem_cons_zero, Act.put, List.setIfInBounds_toArray, List.set_cons_zero, List.set_cons_succ])
      refine wpAnyH_ready (rs := [4, 6]) (by kernel_rfl) (by simp) ?_
      refine AllReadyH.cons rfl (fun KK hKK => ?_) (AllReadyH.cons rfl (fun KK hKK => ?_) (AllReadyH.nil))
      · go_simp
        (go_at_call 76; ((with_reducible refine (Clip_any zb zm zd _ hcl hnl).mono ?_); rintro e wK ⟨rfl, hwK⟩; subst hwK))
        refine hKK.out _ _ (by exact HS.out _ (bel_trans B4 (bel_alloc ((Below.refl w4.heap.size w4).drew) _))) (fun hHeld => ?_)
        clear hKK KK
        (try simp only [List.getElem_toArray, List.getElem_cons_succ, List.getElem_cons_zero, Act.put, List.setIfInBounds_toArray, List.set_cons_zero, List.set_cons_succ])
        refine wpAnyH_ready (rs := [6]) (by kernel_rfl) (by simp) ?_
        refine AllReadyH.cons rfl (fun KK hKK => ?_) (AllReadyH.nil)
        go_simp
        refine hKK.out _ _ (by exact HS.out _ (bel_trans B4 (bel_alloc (bel_alloc ((Below.refl w4.heap.size w4).drew) _) _))) (fun hHeld => ?_)
        clear hKK KK
        (try simp only [List.getElem_toArray, List.getElem_cons_succ, List.getElem_cons_zero, Act.put, List.setIfInBounds_toArray, List.set_cons_zero, List.set_cons_succ])
        refine wpAnyH_ready (rs := [7]) (by kernel_rfl) (by simp) ?_
        refine AllReadyH.cons rfl (fun KK hKK => ?_) (AllReadyH.nil)
        (refine push_step rfl (.tmp 97) (.tmp 99) rfl zb zm bs NMv (w4.heap.size + 1) rfl (HI.out _ (bel_trans B4 (bel_alloc (bel_alloc ((Below.refl w4.heap.size w4).drew) _) _))) hnl2 hml rfl (Blk.cell (show Blk ((w4.drew.alloc (.cells #[.slice none 0 0, .slice none 0 0] 59)).alloc (.cells #[.string NMv] 9)) (w4.heap.size + 1) #[.string NMv] 9 from blkAt (by simp) _ _) 0) ?_; intro A9 C9 w9 hO9 hc9 hb9; have hp8 : Blk ((w4.drew.alloc (.cells #[.slice none 0 0, .slice none 0 0] 59)).alloc (.cells #[.string NMv] 9)) (w4.heap.size) #[.slice none 0 0, .slice none 0 0] 59 := Blk.alloc (blkAt (by simp) _ _) _; have hp9 := Blk.below hp8 hb9; have p0 := Blk.cell hp9 0; have p1 := Blk.cell hp9 1; have q0 := Blk.free hp9 0; have q1 := Blk.free hp9 1; have HP8 := Lib.hid hp8; clear hp8 hp9)
        refine hKK.out _ _ (by exact HS.out _ (bel_trans B4 (bel_trans (bel_alloc (bel_alloc ((Below.refl w4.heap.size w4).drew) _) _) hb9))) (fun hHeld => ?_)
        clear hKK KK
        (try simp only [List.getElem_toArray, List.getElem_cons_succ, List.getElem_cons_zero, Act.put, List.setIfInBounds_toArray, List.set_cons_zero, List.set_cons_succ])
        refine wpAnyH_take (i := 8) (v := ?_) rfl (by kernel_rfl) (by kernel_rfl) (by kernel_rfl) (fun _ _ _ h => h) (Or.inl ⟨by rfl, ?hy⟩) (by assumption) ?_
        case hy => (intro w hSw; (try dsimp only at hSw); go_simp; try (with_reducible rfl))
        (try simp only [List.getElem_toArray, List.getElem_cons_succ, List.getElem_cons_zero, Act.put, List.setIfInBounds_toArray, List.set_cons_zero, List.set_cons_succ])
        refine wpAnyH_ready (rs := [10]) (by kernel_rfl) (by simp) ?_
        refine AllReadyH.cons rfl (fun KK hKK => ?_) (AllReadyH.nil)
        go_simp
        refine hKK.out _ _ (by exact HS.out _ (bel_trans B4 (inner_a (bel_alloc (bel_alloc ((Below.refl w4.heap.size w4).drew) _) _) HP8.out (by omega) hb9 hO9).2.1)) (fun hHeld => ?_)
        clear hKK KK
        (try simp only [List.getElem_toArray, List.getElem_cons_succ, List.getElem_cons_zero, Act.put, List.setIfInBounds_toArray, List.set_cons_zero, List.set_cons_succ])
        refine wpAnyH_done (by kernel_rfl) ?_ _
        refine NoPanic.normal ?_
        all_goals (try go_wp2_with fail)
        go_meet
        exact ⟨_, A9, C9, rfl, Lib.hid ⟨(inner_a (bel_alloc (bel_alloc ((Below.refl w4.heap.size w4).drew) _) _) HP8.out (by omega) hb9 hO9).1, (inner_a (bel_alloc (bel_alloc ((Below.refl w4.heap.size w4).drew) _) _) HP8.out (by omega) hb9 hO9).2.1, (inner_a (bel_alloc (bel_alloc ((Below.refl w4.heap.size w4).drew) _) _) HP8.out (by omega) hb9 hO9).2.2, hc9⟩⟩
      · go_simp
        refine hKK.out _ _ (by exact HS.out _ (bel_trans B4 (bel_alloc (bel_alloc ((Below.refl w4.heap.size w4).drew) _) _))) (fun hHeld => ?_)
        clear hKK KK
        (try simp only [List.getElem_toArray, List.getElem_cons_succ, List.getElem_cons_zero, Act.put, List.setIfInBounds_toArray, List.set_cons_zero, List.set_cons_succ])
        refine wpAnyH_ready (rs := [4]) (by kernel_rfl) (by simp) ?_
        refine AllReadyH.cons rfl (fun KK hKK => ?_) (AllReadyH.nil)
        go_simp
        (go_at_call 76; ((with_reducible refine (Clip_any zb zm zd _ hcl hnl).mono ?_); rintro e wK ⟨rfl, hwK⟩; subst hwK))
        refine hKK.out _ _ (by exact HS.out _ (bel_trans B4 (bel_alloc (bel_alloc ((Below.refl w4.heap.size w4).drew) _) _))) (fun hHeld => ?_)
        clear hKK KK
        (try simp only [List.getElem_toArray, List.getElem_cons_succ, List.getElem_cons_zero, Act.put, List.setIfInBounds_toArray, List.set_cons_zero, List.set_cons_succ])
        refine wpAnyH_ready (rs := [7]) (by kernel_rfl) (by simp) ?_
        refine AllReadyH.cons rfl (fun KK hKK => ?_) (AllReadyH.nil)
        (refine push_step rfl (.tmp 97) (.tmp 99) rfl zb zm bs NMv (w4.heap.size + 1) rfl (HI.out _ (bel_trans B4 (bel_alloc (bel_alloc ((Below.refl w4.heap.size w4).drew) _) _))) hnl2 hml rfl (Blk.cell (show Blk ((w4.drew.alloc (.cells #[.slice none 0 0, .slice none 0 0] 59)).alloc (.cells #[.string NMv] 9)) (w4.heap.size + 1) #[.string NMv] 9 from blkAt (by simp) _ _) 0) ?_; intro A9 C9 w9 hO9 hc9 hb9; have hp8 : Blk ((w4.drew.alloc (.cells #[.slice none 0 0, .slice none 0 0] 59)).alloc (.cells #[.string NMv] 9)) (w4.heap.size) #[.slice none 0 0, .slice none 0 0] 59 := Blk.alloc (blkAt (by simp) _ _) _; have hp9 := Blk.below hp8 hb9; have p0 := Blk.cell hp9 0; have p1 := Blk.cell hp9 1; have q0 := Blk.free hp9 0; have q1 := Blk.free hp9 1; have HP8 := Lib.hid hp8; clear hp8 hp9)
        refine hKK.out _ _ (by exact HS.out _ (bel_trans B4 (bel_trans (bel_alloc (bel_alloc ((Below.refl w4.heap.size w4).drew) _) _) hb9))) (fun hHeld => ?_)
        clear hKK KK
        (try simp only [List.getElem_toArray, List.getElem_cons_succ, List.getElem_cons_zero, Act.put, List.setIfInBounds_toArray, List.set_cons_zero, List.set_cons_succ])
        refine wpAnyH_take (i := 8) (v := ?_) rfl (by kernel_rfl) (by kernel_rfl) (by kernel_rfl) (fun _ _ _ h => h) (Or.inl ⟨by rfl, ?hy⟩) (by assumption) ?_
        case hy => (intro w hSw; (try dsimp only at hSw); go_simp; try (with_reducible rfl))
        (try simp only [List.getElem_toArray, List.getElem_cons_succ, List.getElem_cons_zero, Act.put, List.setIfInBounds_toArray, List.set_cons_zero, List.set_cons_succ])
        refine wpAnyH_ready (rs := [10]) (by kernel_rfl) (by simp) ?_
        refine AllReadyH.cons rfl (fun KK hKK => ?_) (AllReadyH.nil)
        go_simp
        refine hKK.out _ _ (by exact HS.out _ (bel_trans B4 (inner_a (bel_alloc (bel_alloc ((Below.refl w4.heap.size w4).drew) _) _) HP8.out (by omega) hb9 hO9).2.1)) (fun hHeld => ?_)
        clear hKK KK
        (try simp only [List.getElem_toArray, List.getElem_cons_succ, List.getElem_cons_zero, Act.put, List.setIfInBounds_toArray, List.set_cons_zero, List.set_cons_succ])
        refine wpAnyH_done (by kernel_rfl) ?_ _
        refine NoPanic.normal ?_
        all_goals (try go_wp2_with fail)
        go_meet
        exact ⟨_, A9, C9, rfl, Lib.hid ⟨(inner_a (bel_alloc (bel_alloc ((Below.refl w4.heap.size w4).drew) _) _) HP8.out (by omega) hb9 hO9).1, (inner_a (bel_alloc (bel_alloc ((Below.refl w4.heap.size w4).drew) _) _) HP8.out (by omega) hb9 hO9).2.1, (inner_a (bel_alloc (bel_alloc ((Below.refl w4.heap.size w4).drew) _) _) HP8.out (by omega) hb9 hO9).2.2, hc9⟩⟩
  case rest =>
    obtain ⟨P, A9, C9, rfl, hcut⟩ := hcut
    obtain ⟨hP, hBc, hSc, hC9⟩ := hcut.out
    have Bc : Below W2.heap.size W2 wc := bel_trans B4 hBc
    have cX := HX.out ⟨za, zn, zc, A9, zm + 1, C9⟩
    have HX2 := Lib.hid (show ∀ w', Below wc.heap.size wc w' → _ from fun w' h => cX w' (bel_trans Bc h) ⟨HFr.out w' (bel_trans Bc h), hSc.below h, hzc, hC9⟩)
    have HPc := Lib.hid (show ∀ w', Below wc.heap.size wc w' → (w'.cell? ⟨P, 0, none⟩ = some (.slice za zn zc) ∧ w'.cell? ⟨P, 1, none⟩ = some (.slice A9 (zm + 1) C9)) from fun w' h => (ScB.bl hP h).two)
    have HK := Lib.hid (show ∀ w', Below wc.heap.size wc w' → (w'.cell? ⟨w.heap.size + 1, 2, none⟩ = some (.string so) ∧ w'.cell? ⟨w.heap.size + 1, 4, none⟩ = some (.slice (some ⟨bb, oo, none⟩) 1 c) ∧ w'.cell? ⟨w.heap.size + 2, 0, none⟩ = some (.string sg) ∧ w'.cell? ⟨bb, oo, none⟩ = some (.int .i64 xo) ∧ w'.cell? ⟨bb, oo + 1, none⟩ = some (.string xs) ∧ w'.cell? ⟨bb, oo + 1 + 1, none⟩ = some (.string xz) ∧ w'.cell? ⟨bb, oo + 1 + 1 + 1, none⟩ = some (.slice qa qn qc) ∧ w'.cell? ⟨bb, oo + 1 + 1 + 1 + 1, none⟩ = some (.slice a' n' c') ∧ w'.cell? ⟨P, 0, none⟩ = some (.slice za zn zc) ∧ w'.cell? ⟨P, 1, none⟩ = some (.slice A9 (zm + 1) C9)) from fun w' h => by
      obtain ⟨k0, k1, k2, k3, k4, k5, k6, k7⟩ := HQ.out w' (bel_trans Bc h)
      exact ⟨k0, k1, k2, k3, k4, k5, k6, k7, HPc.out w' h⟩)
    have Bd : Below wc.heap.size wc wc.drew := (Below.refl _ _).drew
    have HBc := Lib.hid Bc
    clear cX HX HFr HS HI hP hBc hSc hcut HPc HQ s40 s41
    unfold Sv.val at HX2
    dsimp only at HX2
    go_wp2
    go_region_held3 (fun w' => w'.cell? ⟨w.heap.size + 1, 2, none⟩ = some (.string so) ∧ w'.cell? ⟨w.heap.size + 1, 4, none⟩ = some (.slice (some ⟨bb, oo, none⟩) 1 c) ∧ w'.cell? ⟨w.heap.size + 2, 0, none⟩ = some (.string sg) ∧ w'.cell? ⟨bb, oo, none⟩ = some (.int .i64 xo) ∧ w'.cell? ⟨bb, oo + 1, none⟩ = some (.string xs) ∧ w'.cell? ⟨bb, oo + 1 + 1, none⟩ = some (.string xz) ∧ w'.cell? ⟨bb, oo + 1 + 1 + 1, none⟩ = some (.slice qa qn qc) ∧ w'.cell? ⟨bb, oo + 1 + 1 + 1 + 1, none⟩ = some (.slice a' n' c') ∧ w'.cell? ⟨P, 0, none⟩ = some (.slice za zn zc) ∧ w'.cell? ⟨P, 1, none⟩ = some (.slice A9 (zm + 1) C9))
      (first | exact HK.out _ B7 | exact HK.out _ B6 | exact HK.out _ Bd | go_keep)
      (first
        | (go_at_call 18; ((with_reducible refine (cV _).mono ?_); rintro e w6 ⟨rfl, hb6⟩; have B6 := bel_trans Bd hb6))
        | (go_at_call 39; ((with_reducible refine (HX2.out _ B6).mono ?_); rintro e w7 ⟨rfl, hb7⟩; have B7 := bel_trans B6 hb7)))
    go_wp2
    go_ret
    exact ⟨rfl, bel_trans (bel_trans HB.out HBc.out) B7⟩

end Go.Proofs.YtcigeclnbhcohaaGreatDoor.Sh
