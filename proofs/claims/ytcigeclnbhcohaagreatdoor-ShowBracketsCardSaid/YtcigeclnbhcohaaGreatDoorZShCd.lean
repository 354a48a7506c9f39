/-
  What is proved: the texts of claims of two parts, by a scope.
-/
import Derived.Test.YtcigeclnbhcohaaGreatDoorCA
namespace Go.Proofs.YtcigeclnbhcohaaGreatDoor.Sh
open Go.RowKit L T C
set_option linter.unusedVariables false
set_option linter.unusedSimpArgs false
set_option maxRecDepth 100000

set_option maxHeartbeats 8000000 in
theorem claim_two7 {W : World} (E : Env W) {fr bs : List ByteArray} (hb : shB bs) (x y : Cl) (hx : ClaimOk W fr x) (hy : ClaimOk W fr y) (hlx : bs.length + wt x ≤ 10000) (hly : bs.length + wt y ≤ 10000) (s so : ByteArray)
    (z : Sv) (m : Int) (fol : Bool) (ks : SS) (a : Option Addr) (n c : Nat) (w : World) (hw : Below W.heap.size W w) (hz : z.ok w fr bs) (hC : CsW w a n c [x, y]) (hsx : (cT fr x bs 0 true).size ≤ 1000000000) (hsy : (cT fr y bs 1 fol).size ≤ 1000000000) (m0 : decide ((1 : Int) > m) = false) :
    Calls Tryz.prog 39 #[z.val, .agg #[.int .i64 7, .string s, .string so, .slice ks.a ks.n ks.c, .slice a n c], .int .i64 m, .bool fol] w fun e w' => e = .returned (.string (cT fr x bs 0 true ++ (⟨#[32, 38, 32]⟩ ++ cT fr y bs 1 fol))) ∧ Below w.heap.size w w' := by
  obtain ⟨W1, hW1, hB1, hs1, S1, T1⟩ := scbox w z.a z.n z.c z.b z.m z.d 7 s so ks a n c
  obtain ⟨W2, hW2, hB2, hs2, p0, p1, i0, i1, f0, f1⟩ := obox2 W1 ⟨#[38]⟩ 1
  have hB12 : Below w.heap.size w W2 := bel_trans hB1 hB2
  have hw1 : Below W.heap.size W W1 := hw.trans (hB1.mono hw.size)
  have hww : Below W.heap.size W W2 := hw.trans (hB12.mono hw.size)
  obtain ⟨g0, g1⟩ : W1.cell? ⟨1, 14, none⟩ = some (.string ⟨#[38]⟩) ∧ W1.cell? ⟨1, 15, none⟩ = some (.int .i64 1) := E.cop W1 hw1 7 (by decide)
  obtain ⟨s0, s1⟩ := (S1.bl hB2).two
  obtain ⟨t0, t1, t2, t3, t4⟩ := (CBox.b T1 hB2).five
  obtain ⟨u0, u1, u2, u3, u4⟩ := T1.five
  rw [hs1] at p0 p1 i0 i1 f0 f1
  obtain ⟨sg, hsg⟩ : ∃ v : ByteArray, ⟨#[38]⟩ = v := ⟨_, rfl⟩
  have hsgz : sg.size ≤ 3 := by rw [← hsg]; decide
  have hsgn : ⟨#[32, 38, 32]⟩ = ⟨#[32]⟩ ++ (sg ++ ⟨#[32]⟩) := by rw [← hsg]; rfl
  rw [hsg] at p0 i0 g0 hW2
  obtain ⟨bb, oo, ⟨qa, qn, qc⟩, a', n', c', ⟨pa, pn, pc⟩, a2, n2, c2, rfl, rfl, hbb, ⟨⟨y0, y1, y2, y3, y4⟩, hAx⟩, ⟨⟨x0, x1, x2, x3, x4⟩, hAy⟩⟩ := subs2 (CsW.b hC hB12)
  have cx := fun (w' : World) (h : Below W2.heap.size W2 w') => hx z bs 0 true ⟨qa, qn, qc⟩ a' n' c' w' (hww.trans (h.mono hww.size)) (hz.bl (bel_trans hB12 h)) hb hlx (ArWC.b hAx h) (by omega) (by omega)
  have cy := fun (w' : World) (h : Below W2.heap.size W2 w') => hy z bs 1 fol ⟨pa, pn, pc⟩ a2 n2 c2 w' (hww.trans (h.mono hww.size)) (hz.bl (bel_trans hB12 h)) hb hly (ArWC.b hAy h) (by omega) (by omega)
  have hsp : (⟨#[32]⟩ : ByteArray).size = 1 := rfl
  obtain ⟨X1, e1⟩ : ∃ v, cT fr x bs 0 true ++ (⟨#[32]⟩ : ByteArray) = v := ⟨_, rfl⟩
  obtain ⟨X2, e2⟩ : ∃ v, X1 ++ sg = v := ⟨_, rfl⟩
  obtain ⟨X3, e3⟩ : ∃ v, X2 ++ (⟨#[32]⟩ : ByteArray) = v := ⟨_, rfl⟩
  have e4 : X3 ++ cT fr y bs 1 fol = cT fr x bs 0 true ++ (⟨#[32, 38, 32]⟩ ++ cT fr y bs 1 fol) := by
    rw [← e3, ← e2, ← e1, hsgn]; simp only [ByteArray.append_assoc]
  have z1 : X1.size ≤ 1000000001 := by rw [← e1, ByteArray.size_append, hsp]; omega
  have z2 : X2.size ≤ 1000000004 := by rw [← e2, ByteArray.size_append]; omega
  have z3 : X3.size ≤ 1000000005 := by rw [← e3, ByteArray.size_append, hsp]; omega
  have r1 : ∀ w, (Op.stringOp .add (cT fr x bs 0 true) ⟨#[32]⟩).run Tryz.prog w = .ok (.string X1) w := fun w => by rw [run_string_add_sum w _ _ (by omega), e1]
  have r2 : ∀ w, (Op.stringOp .add X1 sg).run Tryz.prog w = .ok (.string X2) w := fun w => by rw [run_string_add_sum w _ _ (by omega), e2]
  have r3 : ∀ w, (Op.stringOp .add X2 ⟨#[32]⟩).run Tryz.prog w = .ok (.string X3) w := fun w => by rw [run_string_add_sum w _ _ (by omega), e3]
  have r4 : ∀ w, (Op.stringOp .add X3 (cT fr y bs 1 fol)).run Tryz.prog w = .ok (.string (cT fr x bs 0 true ++ (⟨#[32, 38, 32]⟩ ++ cT fr y bs 1 fol))) w := fun w => by rw [run_string_add_sum w _ _ (by omega), e4]
  unfold Sv.val at cx cy ⊢
  clear hx hy hz hC S1 T1 hAx hAy E hw hw1 hww e1 e2 e3 e4 z1 z2 z3 hsp hsx hsy hsgz hsgn hb hlx hly
  generalize (cT fr x bs 0 true ++ (⟨#[32, 38, 32]⟩ ++ cT fr y bs 1 fol)) = R at *
  generalize cT fr x bs 0 true = X at *
  generalize cT fr y bs 1 fol = Y at *
  generalize opC x = xo at *
  generalize nmC x = xs at *
  generalize soC x = xz at *
  generalize opC y = yo at *
  generalize nmC y = ys at *
  generalize soC y = yz at *
  obtain ⟨za, zn, zc, zb, zm, zd⟩ := z
  obtain ⟨ka, kn, kc⟩ := ks
  dsimp only at *
  have l1 : w.heap.size < W2.heap.size := by omega
  have l2 : w.heap.size + 1 < W2.heap.size := by omega
  have l3 : w.heap.size + 2 < W2.heap.size := by omega
  have HS := Lib.hid (show ∀ w', Below W2.heap.size W2 w' → (w'.cell? ⟨w.heap.size, 0, none⟩ = some (.slice za zn zc) ∧ w'.cell? ⟨w.heap.size, 1, none⟩ = some (.slice zb zm zd) ∧ w'.cell? ⟨w.heap.size + 1, 4, none⟩ = some (.slice (some ⟨bb, oo, none⟩) 2 c) ∧ w'.cell? ⟨w.heap.size + 2, 0, none⟩ = some (.string sg) ∧ w'.cell? ⟨w.heap.size + 2, 1, none⟩ = some (.int .i64 1) ∧ w'.cell? ⟨bb, oo, none⟩ = some (.int .i64 xo) ∧ w'.cell? ⟨bb, oo + 1, none⟩ = some (.string xs) ∧ w'.cell? ⟨bb, oo + 1 + 1, none⟩ = some (.string xz) ∧ w'.cell? ⟨bb, oo + 1 + 1 + 1, none⟩ = some (.slice qa qn qc) ∧ w'.cell? ⟨bb, oo + 1 + 1 + 1 + 1, none⟩ = some (.slice a' n' c') ∧ w'.cell? ⟨bb, oo + 5, none⟩ = some (.int .i64 yo) ∧ w'.cell? ⟨bb, oo + 5 + 1, none⟩ = some (.string ys) ∧ w'.cell? ⟨bb, oo + 5 + 1 + 1, none⟩ = some (.string yz) ∧ w'.cell? ⟨bb, oo + 5 + 1 + 1 + 1, none⟩ = some (.slice pa pn pc) ∧ w'.cell? ⟨bb, oo + 5 + 1 + 1 + 1 + 1, none⟩ = some (.slice a2 n2 c2)) from fun w' h =>
    ⟨(h.cell (p := ⟨w.heap.size, 0, none⟩) l1).trans s0, (h.cell (p := ⟨w.heap.size, 1, none⟩) l1).trans s1, (h.cell (p := ⟨w.heap.size + 1, 4, none⟩) l2).trans t4, (h.cell (p := ⟨w.heap.size + 2, 0, none⟩) l3).trans p0, (h.cell (p := ⟨w.heap.size + 2, 1, none⟩) l3).trans p1,
      (h.cell (p := ⟨bb, _, none⟩) hbb).trans y0, (h.cell (p := ⟨bb, _, none⟩) hbb).trans y1, (h.cell (p := ⟨bb, _, none⟩) hbb).trans y2, (h.cell (p := ⟨bb, _, none⟩) hbb).trans y3, (h.cell (p := ⟨bb, _, none⟩) hbb).trans y4, (h.cell (p := ⟨bb, _, none⟩) hbb).trans x0, (h.cell (p := ⟨bb, _, none⟩) hbb).trans x1, (h.cell (p := ⟨bb, _, none⟩) hbb).trans x2, (h.cell (p := ⟨bb, _, none⟩) hbb).trans x3, (h.cell (p := ⟨bb, _, none⟩) hbb).trans x4⟩)
  have B2d : Below W2.heap.size W2 W2.drew := (Below.refl _ _).drew
  have c1 := cx W2.drew B2d
  have HB := Lib.hid hB12
  have hwr : IntKind.i64.wrap 0 = 0 := by decide
  clear cx hB12 hB1 hB2
  go_enter Tryz.func39, Tryz.ntmps39
  go_wp2
  go_region_held3 (fun w' => w'.cell? ⟨w.heap.size, 0, none⟩ = some (.slice za zn zc) ∧ w'.cell? ⟨w.heap.size, 1, none⟩ = some (.slice zb zm zd) ∧ w'.cell? ⟨w.heap.size + 1, 4, none⟩ = some (.slice (some ⟨bb, oo, none⟩) 2 c) ∧ w'.cell? ⟨w.heap.size + 2, 0, none⟩ = some (.string sg) ∧ w'.cell? ⟨w.heap.size + 2, 1, none⟩ = some (.int .i64 1) ∧ w'.cell? ⟨bb, oo, none⟩ = some (.int .i64 xo) ∧ w'.cell? ⟨bb, oo + 1, none⟩ = some (.string xs) ∧ w'.cell? ⟨bb, oo + 1 + 1, none⟩ = some (.string xz) ∧ w'.cell? ⟨bb, oo + 1 + 1 + 1, none⟩ = some (.slice qa qn qc) ∧ w'.cell? ⟨bb, oo + 1 + 1 + 1 + 1, none⟩ = some (.slice a' n' c') ∧ w'.cell? ⟨bb, oo + 5, none⟩ = some (.int .i64 yo) ∧ w'.cell? ⟨bb, oo + 5 + 1, none⟩ = some (.string ys) ∧ w'.cell? ⟨bb, oo + 5 + 1 + 1, none⟩ = some (.string yz) ∧ w'.cell? ⟨bb, oo + 5 + 1 + 1 + 1, none⟩ = some (.slice pa pn pc) ∧ w'.cell? ⟨bb, oo + 5 + 1 + 1 + 1 + 1, none⟩ = some (.slice a2 n2 c2))
    (first | exact HS.out _ B7 | exact HS.out _ B6 | exact HS.out _ B2d | go_keep)
    (first
      | (go_at_call 39; ((with_reducible refine c1.mono ?_); rintro e w6 ⟨rfl, hb6⟩; clear c1; have B6 := bel_trans B2d hb6))
      | (go_at_call 39; ((with_reducible refine (cy _ B6).mono ?_); rintro e w7 ⟨rfl, hb7⟩; have B7 := bel_trans B6 hb7)))
  go_wp2
  go_ret
  exact ⟨rfl, bel_trans HB.out B7⟩

set_option maxHeartbeats 8000000 in
theorem claim_two8 {W : World} (E : Env W) {fr bs : List ByteArray} (hb : shB bs) (x y : Cl) (hx : ClaimOk W fr x) (hy : ClaimOk W fr y) (hlx : bs.length + wt x ≤ 10000) (hly : bs.length + wt y ≤ 10000) (s so : ByteArray)
    (z : Sv) (m : Int) (fol : Bool) (ks : SS) (a : Option Addr) (n c : Nat) (w : World) (hw : Below W.heap.size W w) (hz : z.ok w fr bs) (hC : CsW w a n c [x, y]) (hsx : (cT fr x bs 1 true).size ≤ 1000000000) (hsy : (cT fr y bs 2 fol).size ≤ 1000000000) (m0 : decide ((2 : Int) > m) = false) :
    Calls Tryz.prog 39 #[z.val, .agg #[.int .i64 8, .string s, .string so, .slice ks.a ks.n ks.c, .slice a n c], .int .i64 m, .bool fol] w fun e w' => e = .returned (.string (cT fr x bs 1 true ++ (⟨#[32, 124, 32]⟩ ++ cT fr y bs 2 fol))) ∧ Below w.heap.size w w' := by
  obtain ⟨W1, hW1, hB1, hs1, S1, T1⟩ := scbox w z.a z.n z.c z.b z.m z.d 8 s so ks a n c
  obtain ⟨W2, hW2, hB2, hs2, p0, p1, i0, i1, f0, f1⟩ := obox2 W1 ⟨#[124]⟩ 2
  have hB12 : Below w.heap.size w W2 := bel_trans hB1 hB2
  have hw1 : Below W.heap.size W W1 := hw.trans (hB1.mono hw.size)
  have hww : Below W.heap.size W W2 := hw.trans (hB12.mono hw.size)
  obtain ⟨g0, g1⟩ : W1.cell? ⟨1, 16, none⟩ = some (.string ⟨#[124]⟩) ∧ W1.cell? ⟨1, 17, none⟩ = some (.int .i64 2) := E.cop W1 hw1 8 (by decide)
  obtain ⟨s0, s1⟩ := (S1.bl hB2).two
  obtain ⟨t0, t1, t2, t3, t4⟩ := (CBox.b T1 hB2).five
  obtain ⟨u0, u1, u2, u3, u4⟩ := T1.five
  rw [hs1] at p0 p1 i0 i1 f0 f1
  obtain ⟨sg, hsg⟩ : ∃ v : ByteArray, ⟨#[124]⟩ = v := ⟨_, rfl⟩
  have hsgz : sg.size ≤ 3 := by rw [← hsg]; decide
  have hsgn : ⟨#[32, 124, 32]⟩ = ⟨#[32]⟩ ++ (sg ++ ⟨#[32]⟩) := by rw [← hsg]; rfl
  rw [hsg] at p0 i0 g0 hW2
  obtain ⟨bb, oo, ⟨qa, qn, qc⟩, a', n', c', ⟨pa, pn, pc⟩, a2, n2, c2, rfl, rfl, hbb, ⟨⟨y0, y1, y2, y3, y4⟩, hAx⟩, ⟨⟨x0, x1, x2, x3, x4⟩, hAy⟩⟩ := subs2 (CsW.b hC hB12)
  have cx := fun (w' : World) (h : Below W2.heap.size W2 w') => hx z bs 1 true ⟨qa, qn, qc⟩ a' n' c' w' (hww.trans (h.mono hww.size)) (hz.bl (bel_trans hB12 h)) hb hlx (ArWC.b hAx h) (by omega) (by omega)
  have cy := fun (w' : World) (h : Below W2.heap.size W2 w') => hy z bs 2 fol ⟨pa, pn, pc⟩ a2 n2 c2 w' (hww.trans (h.mono hww.size)) (hz.bl (bel_trans hB12 h)) hb hly (ArWC.b hAy h) (by omega) (by omega)
  have hsp : (⟨#[32]⟩ : ByteArray).size = 1 := rfl
  obtain ⟨X1, e1⟩ : ∃ v, cT fr x bs 1 true ++ (⟨#[32]⟩ : ByteArray) = v := ⟨_, rfl⟩
  obtain ⟨X2, e2⟩ : ∃ v, X1 ++ sg = v := ⟨_, rfl⟩
  obtain ⟨X3, e3⟩ : ∃ v, X2 ++ (⟨#[32]⟩ : ByteArray) = v := ⟨_, rfl⟩
  have e4 : X3 ++ cT fr y bs 2 fol = cT fr x bs 1 true ++ (⟨#[32, 124, 32]⟩ ++ cT fr y bs 2 fol) := by
    rw [← e3, ← e2, ← e1, hsgn]; simp only [ByteArray.append_assoc]
  have z1 : X1.size ≤ 1000000001 := by rw [← e1, ByteArray.size_append, hsp]; omega
  have z2 : X2.size ≤ 1000000004 := by rw [← e2, ByteArray.size_append]; omega
  have z3 : X3.size ≤ 1000000005 := by rw [← e3, ByteArray.size_append, hsp]; omega
  have r1 : ∀ w, (Op.stringOp .add (cT fr x bs 1 true) ⟨#[32]⟩).run Tryz.prog w = .ok (.string X1) w := fun w => by rw [run_string_add_sum w _ _ (by omega), e1]
  have r2 : ∀ w, (Op.stringOp .add X1 sg).run Tryz.prog w = .ok (.string X2) w := fun w => by rw [run_string_add_sum w _ _ (by omega), e2]
  have r3 : ∀ w, (Op.stringOp .add X2 ⟨#[32]⟩).run Tryz.prog w = .ok (.string X3) w := fun w => by rw [run_string_add_sum w _ _ (by omega), e3]
  have r4 : ∀ w, (Op.stringOp .add X3 (cT fr y bs 2 fol)).run Tryz.prog w = .ok (.string (cT fr x bs 1 true ++ (⟨#[32, 124, 32]⟩ ++ cT fr y bs 2 fol))) w := fun w => by rw [run_string_add_sum w _ _ (by omega), e4]
  unfold Sv.val at cx cy ⊢
  clear hx hy hz hC S1 T1 hAx hAy E hw hw1 hww e1 e2 e3 e4 z1 z2 z3 hsp hsx hsy hsgz hsgn hb hlx hly
  generalize (cT fr x bs 1 true ++ (⟨#[32, 124, 32]⟩ ++ cT fr y bs 2 fol)) = R at *
  generalize cT fr x bs 1 true = X at *
  generalize cT fr y bs 2 fol = Y at *
  generalize opC x = xo at *
  generalize nmC x = xs at *
  generalize soC x = xz at *
  generalize opC y = yo at *
  generalize nmC y = ys at *
  generalize soC y = yz at *
  obtain ⟨za, zn, zc, zb, zm, zd⟩ := z
  obtain ⟨ka, kn, kc⟩ := ks
  dsimp only at *
  have l1 : w.heap.size < W2.heap.size := by omega
  have l2 : w.heap.size + 1 < W2.heap.size := by omega
  have l3 : w.heap.size + 2 < W2.heap.size := by omega
  have HS := Lib.hid (show ∀ w', Below W2.heap.size W2 w' → (w'.cell? ⟨w.heap.size, 0, none⟩ = some (.slice za zn zc) ∧ w'.cell? ⟨w.heap.size, 1, none⟩ = some (.slice zb zm zd) ∧ w'.cell? ⟨w.heap.size + 1, 4, none⟩ = some (.slice (some ⟨bb, oo, none⟩) 2 c) ∧ w'.cell? ⟨w.heap.size + 2, 0, none⟩ = some (.string sg) ∧ w'.cell? ⟨w.heap.size + 2, 1, none⟩ = some (.int .i64 2) ∧ w'.cell? ⟨bb, oo, none⟩ = some (.int .i64 xo) ∧ w'.cell? ⟨bb, oo + 1, none⟩ = some (.string xs) ∧ w'.cell? ⟨bb, oo + 1 + 1, none⟩ = some (.string xz) ∧ w'.cell? ⟨bb, oo + 1 + 1 + 1, none⟩ = some (.slice qa qn qc) ∧ w'.cell? ⟨bb, oo + 1 + 1 + 1 + 1, none⟩ = some (.slice a' n' c') ∧ w'.cell? ⟨bb, oo + 5, none⟩ = some (.int .i64 yo) ∧ w'.cell? ⟨bb, oo + 5 + 1, none⟩ = some (.string ys) ∧ w'.cell? ⟨bb, oo + 5 + 1 + 1, none⟩ = some (.string yz) ∧ w'.cell? ⟨bb, oo + 5 + 1 + 1 + 1, none⟩ = some (.slice pa pn pc) ∧ w'.cell? ⟨bb, oo + 5 + 1 + 1 + 1 + 1, none⟩ = some (.slice a2 n2 c2)) from fun w' h =>
    ⟨(h.cell (p := ⟨w.heap.size, 0, none⟩) l1).trans s0, (h.cell (p := ⟨w.heap.size, 1, none⟩) l1).trans s1, (h.cell (p := ⟨w.heap.size + 1, 4, none⟩) l2).trans t4, (h.cell (p := ⟨w.heap.size + 2, 0, none⟩) l3).trans p0, (h.cell (p := ⟨w.heap.size + 2, 1, none⟩) l3).trans p1,
      (h.cell (p := ⟨bb, _, none⟩) hbb).trans y0, (h.cell (p := ⟨bb, _, none⟩) hbb).trans y1, (h.cell (p := ⟨bb, _, none⟩) hbb).trans y2, (h.cell (p := ⟨bb, _, none⟩) hbb).trans y3, (h.cell (p := ⟨bb, _, none⟩) hbb).trans y4, (h.cell (p := ⟨bb, _, none⟩) hbb).trans x0, (h.cell (p := ⟨bb, _, none⟩) hbb).trans x1, (h.cell (p := ⟨bb, _, none⟩) hbb).trans x2, (h.cell (p := ⟨bb, _, none⟩) hbb).trans x3, (h.cell (p := ⟨bb, _, none⟩) hbb).trans x4⟩)
  have B2d : Below W2.heap.size W2 W2.drew := (Below.refl _ _).drew
  have c1 := cx W2.drew B2d
  have HB := Lib.hid hB12
  have hwr : IntKind.i64.wrap 1 = 1 := by decide
  clear cx hB12 hB1 hB2
  go_enter Tryz.func39, Tryz.ntmps39
  go_wp2
  go_region_held3 (fun w' => w'.cell? ⟨w.heap.size, 0, none⟩ = some (.slice za zn zc) ∧ w'.cell? ⟨w.heap.size, 1, none⟩ = some (.slice zb zm zd) ∧ w'.cell? ⟨w.heap.size + 1, 4, none⟩ = some (.slice (some ⟨bb, oo, none⟩) 2 c) ∧ w'.cell? ⟨w.heap.size + 2, 0, none⟩ = some (.string sg) ∧ w'.cell? ⟨w.heap.size + 2, 1, none⟩ = some (.int .i64 2) ∧ w'.cell? ⟨bb, oo, none⟩ = some (.int .i64 xo) ∧ w'.cell? ⟨bb, oo + 1, none⟩ = some (.string xs) ∧ w'.cell? ⟨bb, oo + 1 + 1, none⟩ = some (.string xz) ∧ w'.cell? ⟨bb, oo + 1 + 1 + 1, none⟩ = some (.slice qa qn qc) ∧ w'.cell? ⟨bb, oo + 1 + 1 + 1 + 1, none⟩ = some (.slice a' n' c') ∧ w'.cell? ⟨bb, oo + 5, none⟩ = some (.int .i64 yo) ∧ w'.cell? ⟨bb, oo + 5 + 1, none⟩ = some (.string ys) ∧ w'.cell? ⟨bb, oo + 5 + 1 + 1, none⟩ = some (.string yz) ∧ w'.cell? ⟨bb, oo + 5 + 1 + 1 + 1, none⟩ = some (.slice pa pn pc) ∧ w'.cell? ⟨bb, oo + 5 + 1 + 1 + 1 + 1, none⟩ = some (.slice a2 n2 c2))
    (first | exact HS.out _ B7 | exact HS.out _ B6 | exact HS.out _ B2d | go_keep)
    (first
      | (go_at_call 39; ((with_reducible refine c1.mono ?_); rintro e w6 ⟨rfl, hb6⟩; clear c1; have B6 := bel_trans B2d hb6))
      | (go_at_call 39; ((with_reducible refine (cy _ B6).mono ?_); rintro e w7 ⟨rfl, hb7⟩; have B7 := bel_trans B6 hb7)))
  go_wp2
  go_ret
  exact ⟨rfl, bel_trans HB.out B7⟩

set_option maxHeartbeats 8000000 in
theorem claim_two9 {W : World} (E : Env W) {fr bs : List ByteArray} (hb : shB bs) (x y : Cl) (hx : ClaimOk W fr x) (hy : ClaimOk W fr y) (hlx : bs.length + wt x ≤ 10000) (hly : bs.length + wt y ≤ 10000) (s so : ByteArray)
    (z : Sv) (m : Int) (fol : Bool) (ks : SS) (a : Option Addr) (n c : Nat) (w : World) (hw : Below W.heap.size W w) (hz : z.ok w fr bs) (hC : CsW w a n c [x, y]) (hsx : (cT fr x bs 2 true).size ≤ 1000000000) (hsy : (cT fr y bs 3 fol).size ≤ 1000000000) (m0 : decide ((3 : Int) > m) = false) :
    Calls Tryz.prog 39 #[z.val, .agg #[.int .i64 9, .string s, .string so, .slice ks.a ks.n ks.c, .slice a n c], .int .i64 m, .bool fol] w fun e w' => e = .returned (.string (cT fr x bs 2 true ++ (⟨#[32, 45, 62, 32]⟩ ++ cT fr y bs 3 fol))) ∧ Below w.heap.size w w' := by
  obtain ⟨W1, hW1, hB1, hs1, S1, T1⟩ := scbox w z.a z.n z.c z.b z.m z.d 9 s so ks a n c
  obtain ⟨W2, hW2, hB2, hs2, p0, p1, i0, i1, f0, f1⟩ := obox2 W1 ⟨#[45, 62]⟩ 3
  have hB12 : Below w.heap.size w W2 := bel_trans hB1 hB2
  have hw1 : Below W.heap.size W W1 := hw.trans (hB1.mono hw.size)
  have hww : Below W.heap.size W W2 := hw.trans (hB12.mono hw.size)
  obtain ⟨g0, g1⟩ : W1.cell? ⟨1, 18, none⟩ = some (.string ⟨#[45, 62]⟩) ∧ W1.cell? ⟨1, 19, none⟩ = some (.int .i64 3) := E.cop W1 hw1 9 (by decide)
  obtain ⟨s0, s1⟩ := (S1.bl hB2).two
  obtain ⟨t0, t1, t2, t3, t4⟩ := (CBox.b T1 hB2).five
  obtain ⟨u0, u1, u2, u3, u4⟩ := T1.five
  rw [hs1] at p0 p1 i0 i1 f0 f1
  obtain ⟨sg, hsg⟩ : ∃ v : ByteArray, ⟨#[45, 62]⟩ = v := ⟨_, rfl⟩
  have hsgz : sg.size ≤ 3 := by rw [← hsg]; decide
  have hsgn : ⟨#[32, 45, 62, 32]⟩ = ⟨#[32]⟩ ++ (sg ++ ⟨#[32]⟩) := by rw [← hsg]; rfl
  rw [hsg] at p0 i0 g0 hW2
  obtain ⟨bb, oo, ⟨qa, qn, qc⟩, a', n', c', ⟨pa, pn, pc⟩, a2, n2, c2, rfl, rfl, hbb, ⟨⟨y0, y1, y2, y3, y4⟩, hAx⟩, ⟨⟨x0, x1, x2, x3, x4⟩, hAy⟩⟩ := subs2 (CsW.b hC hB12)
  have cx := fun (w' : World) (h : Below W2.heap.size W2 w') => hx z bs 2 true ⟨qa, qn, qc⟩ a' n' c' w' (hww.trans (h.mono hww.size)) (hz.bl (bel_trans hB12 h)) hb hlx (ArWC.b hAx h) (by omega) (by omega)
  have cy := fun (w' : World) (h : Below W2.heap.size W2 w') => hy z bs 3 fol ⟨pa, pn, pc⟩ a2 n2 c2 w' (hww.trans (h.mono hww.size)) (hz.bl (bel_trans hB12 h)) hb hly (ArWC.b hAy h) (by omega) (by omega)
  have hsp : (⟨#[32]⟩ : ByteArray).size = 1 := rfl
  obtain ⟨X1, e1⟩ : ∃ v, cT fr x bs 2 true ++ (⟨#[32]⟩ : ByteArray) = v := ⟨_, rfl⟩
  obtain ⟨X2, e2⟩ : ∃ v, X1 ++ sg = v := ⟨_, rfl⟩
  obtain ⟨X3, e3⟩ : ∃ v, X2 ++ (⟨#[32]⟩ : ByteArray) = v := ⟨_, rfl⟩
  have e4 : X3 ++ cT fr y bs 3 fol = cT fr x bs 2 true ++ (⟨#[32, 45, 62, 32]⟩ ++ cT fr y bs 3 fol) := by
    rw [← e3, ← e2, ← e1, hsgn]; simp only [ByteArray.append_assoc]
  have z1 : X1.size ≤ 1000000001 := by rw [← e1, ByteArray.size_append, hsp]; omega
  have z2 : X2.size ≤ 1000000004 := by rw [← e2, ByteArray.size_append]; omega
  have z3 : X3.size ≤ 1000000005 := by rw [← e3, ByteArray.size_append, hsp]; omega
  have r1 : ∀ w, (Op.stringOp .add (cT fr x bs 2 true) ⟨#[32]⟩).run Tryz.prog w = .ok (.string X1) w := fun w => by rw [run_string_add_sum w _ _ (by omega), e1]
  have r2 : ∀ w, (Op.stringOp .add X1 sg).run Tryz.prog w = .ok (.string X2) w := fun w => by rw [run_string_add_sum w _ _ (by omega), e2]
  have r3 : ∀ w, (Op.stringOp .add X2 ⟨#[32]⟩).run Tryz.prog w = .ok (.string X3) w := fun w => by rw [run_string_add_sum w _ _ (by omega), e3]
  have r4 : ∀ w, (Op.stringOp .add X3 (cT fr y bs 3 fol)).run Tryz.prog w = .ok (.string (cT fr x bs 2 true ++ (⟨#[32, 45, 62, 32]⟩ ++ cT fr y bs 3 fol))) w := fun w => by rw [run_string_add_sum w _ _ (by omega), e4]
  unfold Sv.val at cx cy ⊢
  clear hx hy hz hC S1 T1 hAx hAy E hw hw1 hww e1 e2 e3 e4 z1 z2 z3 hsp hsx hsy hsgz hsgn hb hlx hly
  generalize (cT fr x bs 2 true ++ (⟨#[32, 45, 62, 32]⟩ ++ cT fr y bs 3 fol)) = R at *
  generalize cT fr x bs 2 true = X at *
  generalize cT fr y bs 3 fol = Y at *
  generalize opC x = xo at *
  generalize nmC x = xs at *
  generalize soC x = xz at *
  generalize opC y = yo at *
  generalize nmC y = ys at *
  generalize soC y = yz at *
  obtain ⟨za, zn, zc, zb, zm, zd⟩ := z
  obtain ⟨ka, kn, kc⟩ := ks
  dsimp only at *
  have l1 : w.heap.size < W2.heap.size := by omega
  have l2 : w.heap.size + 1 < W2.heap.size := by omega
  have l3 : w.heap.size + 2 < W2.heap.size := by omega
  have HS := Lib.hid (show ∀ w', Below W2.heap.size W2 w' → (w'.cell? ⟨w.heap.size, 0, none⟩ = some (.slice za zn zc) ∧ w'.cell? ⟨w.heap.size, 1, none⟩ = some (.slice zb zm zd) ∧ w'.cell? ⟨w.heap.size + 1, 4, none⟩ = some (.slice (some ⟨bb, oo, none⟩) 2 c) ∧ w'.cell? ⟨w.heap.size + 2, 0, none⟩ = some (.string sg) ∧ w'.cell? ⟨w.heap.size + 2, 1, none⟩ = some (.int .i64 3) ∧ w'.cell? ⟨bb, oo, none⟩ = some (.int .i64 xo) ∧ w'.cell? ⟨bb, oo + 1, none⟩ = some (.string xs) ∧ w'.cell? ⟨bb, oo + 1 + 1, none⟩ = some (.string xz) ∧ w'.cell? ⟨bb, oo + 1 + 1 + 1, none⟩ = some (.slice qa qn qc) ∧ w'.cell? ⟨bb, oo + 1 + 1 + 1 + 1, none⟩ = some (.slice a' n' c') ∧ w'.cell? ⟨bb, oo + 5, none⟩ = some (.int .i64 yo) ∧ w'.cell? ⟨bb, oo + 5 + 1, none⟩ = some (.string ys) ∧ w'.cell? ⟨bb, oo + 5 + 1 + 1, none⟩ = some (.string yz) ∧ w'.cell? ⟨bb, oo + 5 + 1 + 1 + 1, none⟩ = some (.slice pa pn pc) ∧ w'.cell? ⟨bb, oo + 5 + 1 + 1 + 1 + 1, none⟩ = some (.slice a2 n2 c2)) from fun w' h =>
    ⟨(h.cell (p := ⟨w.heap.size, 0, none⟩) l1).trans s0, (h.cell (p := ⟨w.heap.size, 1, none⟩) l1).trans s1, (h.cell (p := ⟨w.heap.size + 1, 4, none⟩) l2).trans t4, (h.cell (p := ⟨w.heap.size + 2, 0, none⟩) l3).trans p0, (h.cell (p := ⟨w.heap.size + 2, 1, none⟩) l3).trans p1,
      (h.cell (p := ⟨bb, _, none⟩) hbb).trans y0, (h.cell (p := ⟨bb, _, none⟩) hbb).trans y1, (h.cell (p := ⟨bb, _, none⟩) hbb).trans y2, (h.cell (p := ⟨bb, _, none⟩) hbb).trans y3, (h.cell (p := ⟨bb, _, none⟩) hbb).trans y4, (h.cell (p := ⟨bb, _, none⟩) hbb).trans x0, (h.cell (p := ⟨bb, _, none⟩) hbb).trans x1, (h.cell (p := ⟨bb, _, none⟩) hbb).trans x2, (h.cell (p := ⟨bb, _, none⟩) hbb).trans x3, (h.cell (p := ⟨bb, _, none⟩) hbb).trans x4⟩)
  have B2d : Below W2.heap.size W2 W2.drew := (Below.refl _ _).drew
  have c1 := cx W2.drew B2d
  have HB := Lib.hid hB12
  have hwr : IntKind.i64.wrap 2 = 2 := by decide
  clear cx hB12 hB1 hB2
  go_enter Tryz.func39, Tryz.ntmps39
  go_wp2
  go_region_held3 (fun w' => w'.cell? ⟨w.heap.size, 0, none⟩ = some (.slice za zn zc) ∧ w'.cell? ⟨w.heap.size, 1, none⟩ = some (.slice zb zm zd) ∧ w'.cell? ⟨w.heap.size + 1, 4, none⟩ = some (.slice (some ⟨bb, oo, none⟩) 2 c) ∧ w'.cell? ⟨w.heap.size + 2, 0, none⟩ = some (.string sg) ∧ w'.cell? ⟨w.heap.size + 2, 1, none⟩ = some (.int .i64 3) ∧ w'.cell? ⟨bb, oo, none⟩ = some (.int .i64 xo) ∧ w'.cell? ⟨bb, oo + 1, none⟩ = some (.string xs) ∧ w'.cell? ⟨bb, oo + 1 + 1, none⟩ = some (.string xz) ∧ w'.cell? ⟨bb, oo + 1 + 1 + 1, none⟩ = some (.slice qa qn qc) ∧ w'.cell? ⟨bb, oo + 1 + 1 + 1 + 1, none⟩ = some (.slice a' n' c') ∧ w'.cell? ⟨bb, oo + 5, none⟩ = some (.int .i64 yo) ∧ w'.cell? ⟨bb, oo + 5 + 1, none⟩ = some (.string ys) ∧ w'.cell? ⟨bb, oo + 5 + 1 + 1, none⟩ = some (.string yz) ∧ w'.cell? ⟨bb, oo + 5 + 1 + 1 + 1, none⟩ = some (.slice pa pn pc) ∧ w'.cell? ⟨bb, oo + 5 + 1 + 1 + 1 + 1, none⟩ = some (.slice a2 n2 c2))
    (first | exact HS.out _ B7 | exact HS.out _ B6 | exact HS.out _ B2d | go_keep)
    (first
      | (go_at_call 39; ((with_reducible refine c1.mono ?_); rintro e w6 ⟨rfl, hb6⟩; clear c1; have B6 := bel_trans B2d hb6))
      | (go_at_call 39; ((with_reducible refine (cy _ B6).mono ?_); rintro e w7 ⟨rfl, hb7⟩; have B7 := bel_trans B6 hb7)))
  go_wp2
  go_ret
  exact ⟨rfl, bel_trans HB.out B7⟩

set_option maxHeartbeats 8000000 in
theorem claim_two10 {W : World} (E : Env W) {fr bs : List ByteArray} (hb : shB bs) (x y : Cl) (hx : ClaimOk W fr x) (hy : ClaimOk W fr y) (hlx : bs.length + wt x ≤ 10000) (hly : bs.length + wt y ≤ 10000) (s so : ByteArray)
    (z : Sv) (m : Int) (fol : Bool) (ks : SS) (a : Option Addr) (n c : Nat) (w : World) (hw : Below W.heap.size W w) (hz : z.ok w fr bs) (hC : CsW w a n c [x, y]) (hsx : (cT fr x bs 3 true).size ≤ 1000000000) (hsy : (cT fr y bs 4 fol).size ≤ 1000000000) (m0 : decide ((4 : Int) > m) = false) :
    Calls Tryz.prog 39 #[z.val, .agg #[.int .i64 10, .string s, .string so, .slice ks.a ks.n ks.c, .slice a n c], .int .i64 m, .bool fol] w fun e w' => e = .returned (.string (cT fr x bs 3 true ++ (⟨#[32, 60, 45, 62, 32]⟩ ++ cT fr y bs 4 fol))) ∧ Below w.heap.size w w' := by
  obtain ⟨W1, hW1, hB1, hs1, S1, T1⟩ := scbox w z.a z.n z.c z.b z.m z.d 10 s so ks a n c
  obtain ⟨W2, hW2, hB2, hs2, p0, p1, i0, i1, f0, f1⟩ := obox2 W1 ⟨#[60, 45, 62]⟩ 4
  have hB12 : Below w.heap.size w W2 := bel_trans hB1 hB2
  have hw1 : Below W.heap.size W W1 := hw.trans (hB1.mono hw.size)
  have hww : Below W.heap.size W W2 := hw.trans (hB12.mono hw.size)
  obtain ⟨g0, g1⟩ : W1.cell? ⟨1, 20, none⟩ = some (.string ⟨#[60, 45, 62]⟩) ∧ W1.cell? ⟨1, 21, none⟩ = some (.int .i64 4) := E.cop W1 hw1 10 (by decide)
  obtain ⟨s0, s1⟩ := (S1.bl hB2).two
  obtain ⟨t0, t1, t2, t3, t4⟩ := (CBox.b T1 hB2).five
  obtain ⟨u0, u1, u2, u3, u4⟩ := T1.five
  rw [hs1] at p0 p1 i0 i1 f0 f1
  obtain ⟨sg, hsg⟩ : ∃ v : ByteArray, ⟨#[60, 45, 62]⟩ = v := ⟨_, rfl⟩
  have hsgz : sg.size ≤ 3 := by rw [← hsg]; decide
  have hsgn : ⟨#[32, 60, 45, 62, 32]⟩ = ⟨#[32]⟩ ++ (sg ++ ⟨#[32]⟩) := by rw [← hsg]; rfl
  rw [hsg] at p0 i0 g0 hW2
  obtain ⟨bb, oo, ⟨qa, qn, qc⟩, a', n', c', ⟨pa, pn, pc⟩, a2, n2, c2, rfl, rfl, hbb, ⟨⟨y0, y1, y2, y3, y4⟩, hAx⟩, ⟨⟨x0, x1, x2, x3, x4⟩, hAy⟩⟩ := subs2 (CsW.b hC hB12)
  have cx := fun (w' : World) (h : Below W2.heap.size W2 w') => hx z bs 3 true ⟨qa, qn, qc⟩ a' n' c' w' (hww.trans (h.mono hww.size)) (hz.bl (bel_trans hB12 h)) hb hlx (ArWC.b hAx h) (by omega) (by omega)
  have cy := fun (w' : World) (h : Below W2.heap.size W2 w') => hy z bs 4 fol ⟨pa, pn, pc⟩ a2 n2 c2 w' (hww.trans (h.mono hww.size)) (hz.bl (bel_trans hB12 h)) hb hly (ArWC.b hAy h) (by omega) (by omega)
  have hsp : (⟨#[32]⟩ : ByteArray).size = 1 := rfl
  obtain ⟨X1, e1⟩ : ∃ v, cT fr x bs 3 true ++ (⟨#[32]⟩ : ByteArray) = v := ⟨_, rfl⟩
  obtain ⟨X2, e2⟩ : ∃ v, X1 ++ sg = v := ⟨_, rfl⟩
  obtain ⟨X3, e3⟩ : ∃ v, X2 ++ (⟨#[32]⟩ : ByteArray) = v := ⟨_, rfl⟩
  have e4 : X3 ++ cT fr y bs 4 fol = cT fr x bs 3 true ++ (⟨#[32, 60, 45, 62, 32]⟩ ++ cT fr y bs 4 fol) := by
    rw [← e3, ← e2, ← e1, hsgn]; simp only [ByteArray.append_assoc]
  have z1 : X1.size ≤ 1000000001 := by rw [← e1, ByteArray.size_append, hsp]; omega
  have z2 : X2.size ≤ 1000000004 := by rw [← e2, ByteArray.size_append]; omega
  have z3 : X3.size ≤ 1000000005 := by rw [← e3, ByteArray.size_append, hsp]; omega
  have r1 : ∀ w, (Op.stringOp .add (cT fr x bs 3 true) ⟨#[32]⟩).run Tryz.prog w = .ok (.string X1) w := fun w => by rw [run_string_add_sum w _ _ (by omega), e1]
  have r2 : ∀ w, (Op.stringOp .add X1 sg).run Tryz.prog w = .ok (.string X2) w := fun w => by rw [run_string_add_sum w _ _ (by omega), e2]
  have r3 : ∀ w, (Op.stringOp .add X2 ⟨#[32]⟩).run Tryz.prog w = .ok (.string X3) w := fun w => by rw [run_string_add_sum w _ _ (by omega), e3]
  have r4 : ∀ w, (Op.stringOp .add X3 (cT fr y bs 4 fol)).run Tryz.prog w = .ok (.string (cT fr x bs 3 true ++ (⟨#[32, 60, 45, 62, 32]⟩ ++ cT fr y bs 4 fol))) w := fun w => by rw [run_string_add_sum w _ _ (by omega), e4]
  unfold Sv.val at cx cy ⊢
  clear hx hy hz hC S1 T1 hAx hAy E hw hw1 hww e1 e2 e3 e4 z1 z2 z3 hsp hsx hsy hsgz hsgn hb hlx hly
  generalize (cT fr x bs 3 true ++ (⟨#[32, 60, 45, 62, 32]⟩ ++ cT fr y bs 4 fol)) = R at *
  generalize cT fr x bs 3 true = X at *
  generalize cT fr y bs 4 fol = Y at *
  generalize opC x = xo at *
  generalize nmC x = xs at *
  generalize soC x = xz at *
  generalize opC y = yo at *
  generalize nmC y = ys at *
  generalize soC y = yz at *
  obtain ⟨za, zn, zc, zb, zm, zd⟩ := z
  obtain ⟨ka, kn, kc⟩ := ks
  dsimp only at *
  have l1 : w.heap.size < W2.heap.size := by omega
  have l2 : w.heap.size + 1 < W2.heap.size := by omega
  have l3 : w.heap.size + 2 < W2.heap.size := by omega
  have HS := Lib.hid (show ∀ w', Below W2.heap.size W2 w' → (w'.cell? ⟨w.heap.size, 0, none⟩ = some (.slice za zn zc) ∧ w'.cell? ⟨w.heap.size, 1, none⟩ = some (.slice zb zm zd) ∧ w'.cell? ⟨w.heap.size + 1, 4, none⟩ = some (.slice (some ⟨bb, oo, none⟩) 2 c) ∧ w'.cell? ⟨w.heap.size + 2, 0, none⟩ = some (.string sg) ∧ w'.cell? ⟨w.heap.size + 2, 1, none⟩ = some (.int .i64 4) ∧ w'.cell? ⟨bb, oo, none⟩ = some (.int .i64 xo) ∧ w'.cell? ⟨bb, oo + 1, none⟩ = some (.string xs) ∧ w'.cell? ⟨bb, oo + 1 + 1, none⟩ = some (.string xz) ∧ w'.cell? ⟨bb, oo + 1 + 1 + 1, none⟩ = some (.slice qa qn qc) ∧ w'.cell? ⟨bb, oo + 1 + 1 + 1 + 1, none⟩ = some (.slice a' n' c') ∧ w'.cell? ⟨bb, oo + 5, none⟩ = some (.int .i64 yo) ∧ w'.cell? ⟨bb, oo + 5 + 1, none⟩ = some (.string ys) ∧ w'.cell? ⟨bb, oo + 5 + 1 + 1, none⟩ = some (.string yz) ∧ w'.cell? ⟨bb, oo + 5 + 1 + 1 + 1, none⟩ = some (.slice pa pn pc) ∧ w'.cell? ⟨bb, oo + 5 + 1 + 1 + 1 + 1, none⟩ = some (.slice a2 n2 c2)) from fun w' h =>
    ⟨(h.cell (p := ⟨w.heap.size, 0, none⟩) l1).trans s0, (h.cell (p := ⟨w.heap.size, 1, none⟩) l1).trans s1, (h.cell (p := ⟨w.heap.size + 1, 4, none⟩) l2).trans t4, (h.cell (p := ⟨w.heap.size + 2, 0, none⟩) l3).trans p0, (h.cell (p := ⟨w.heap.size + 2, 1, none⟩) l3).trans p1,
      (h.cell (p := ⟨bb, _, none⟩) hbb).trans y0, (h.cell (p := ⟨bb, _, none⟩) hbb).trans y1, (h.cell (p := ⟨bb, _, none⟩) hbb).trans y2, (h.cell (p := ⟨bb, _, none⟩) hbb).trans y3, (h.cell (p := ⟨bb, _, none⟩) hbb).trans y4, (h.cell (p := ⟨bb, _, none⟩) hbb).trans x0, (h.cell (p := ⟨bb, _, none⟩) hbb).trans x1, (h.cell (p := ⟨bb, _, none⟩) hbb).trans x2, (h.cell (p := ⟨bb, _, none⟩) hbb).trans x3, (h.cell (p := ⟨bb, _, none⟩) hbb).trans x4⟩)
  have B2d : Below W2.heap.size W2 W2.drew := (Below.refl _ _).drew
  have c1 := cx W2.drew B2d
  have HB := Lib.hid hB12
  have hwr : IntKind.i64.wrap 3 = 3 := by decide
  clear cx hB12 hB1 hB2
  go_enter Tryz.func39, Tryz.ntmps39
  go_wp2
  go_region_held3 (fun w' => w'.cell? ⟨w.heap.size, 0, none⟩ = some (.slice za zn zc) ∧ w'.cell? ⟨w.heap.size, 1, none⟩ = some (.slice zb zm zd) ∧ w'.cell? ⟨w.heap.size + 1, 4, none⟩ = some (.slice (some ⟨bb, oo, none⟩) 2 c) ∧ w'.cell? ⟨w.heap.size + 2, 0, none⟩ = some (.string sg) ∧ w'.cell? ⟨w.heap.size + 2, 1, none⟩ = some (.int .i64 4) ∧ w'.cell? ⟨bb, oo, none⟩ = some (.int .i64 xo) ∧ w'.cell? ⟨bb, oo + 1, none⟩ = some (.string xs) ∧ w'.cell? ⟨bb, oo + 1 + 1, none⟩ = some (.string xz) ∧ w'.cell? ⟨bb, oo + 1 + 1 + 1, none⟩ = some (.slice qa qn qc) ∧ w'.cell? ⟨bb, oo + 1 + 1 + 1 + 1, none⟩ = some (.slice a' n' c') ∧ w'.cell? ⟨bb, oo + 5, none⟩ = some (.int .i64 yo) ∧ w'.cell? ⟨bb, oo + 5 + 1, none⟩ = some (.string ys) ∧ w'.cell? ⟨bb, oo + 5 + 1 + 1, none⟩ = some (.string yz) ∧ w'.cell? ⟨bb, oo + 5 + 1 + 1 + 1, none⟩ = some (.slice pa pn pc) ∧ w'.cell? ⟨bb, oo + 5 + 1 + 1 + 1 + 1, none⟩ = some (.slice a2 n2 c2))
    (first | exact HS.out _ B7 | exact HS.out _ B6 | exact HS.out _ B2d | go_keep)
    (first
      | (go_at_call 39; ((with_reducible refine c1.mono ?_); rintro e w6 ⟨rfl, hb6⟩; clear c1; have B6 := bel_trans B2d hb6))
      | (go_at_call 39; ((with_reducible refine (cy _ B6).mono ?_); rintro e w7 ⟨rfl, hb7⟩; have B7 := bel_trans B6 hb7)))
  go_wp2
  go_ret
  exact ⟨rfl, bel_trans HB.out B7⟩

end Go.Proofs.YtcigeclnbhcohaaGreatDoor.Sh
