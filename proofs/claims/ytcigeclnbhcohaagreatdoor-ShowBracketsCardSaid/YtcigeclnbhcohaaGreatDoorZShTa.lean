/-
  What is proved: the text of a sum and of a difference, by a scope, where its sides' are known.
-/
import Derived.Test.YtcigeclnbhcohaaGreatDoorZShMp
import Derived.Deep.RegionHeld3
namespace Go.Proofs.YtcigeclnbhcohaaGreatDoor.Sh
open Go.RowKit L T C
set_option linter.unusedVariables false
set_option linter.unusedSimpArgs false
set_option maxRecDepth 100000

/-- one argument in memory, two arguments -/
theorem args1 {w : World} {x : Tm} {a : Option Addr} {n c : Nat} (h : TsW w a n c [x]) : ∃ bb o a' n' c', a = some ⟨bb, o, none⟩ ∧ n = 1 ∧ bb < w.heap.size ∧
    (w.cell? ⟨bb, o, none⟩ = some (.int .i64 (opT x)) ∧ w.cell? ⟨bb, o + 1, none⟩ = some (.string (nameT x)) ∧ w.cell? ⟨bb, o + 1 + 1, none⟩ = some (.int .i64 (numT x)) ∧ w.cell? ⟨bb, o + 1 + 1 + 1, none⟩ = some (.slice a' n' c') ∧ ArW w x a' n' c') := by
  have hn : n = 1 := h.1
  obtain ⟨bb, o, t, a', n', c', rfl, hb, y0, y1, y2, y3, ht, hA⟩ := h.at (k := 0) (by omega)
  simp only [List.getElem?_cons_zero, Option.some.injEq] at ht
  subst ht
  rw [Nat.zero_mul, Nat.add_zero] at y0 y1 y2 y3
  exact ⟨bb, o, a', n', c', rfl, hn, hb, y0, y1, y2, y3, hA⟩
theorem args2 {w : World} {x y : Tm} {a : Option Addr} {n c : Nat} (h : TsW w a n c [x, y]) : ∃ bb o a' n' c' a2 n2 c2, a = some ⟨bb, o, none⟩ ∧ n = 2 ∧ bb < w.heap.size ∧
    (w.cell? ⟨bb, o, none⟩ = some (.int .i64 (opT x)) ∧ w.cell? ⟨bb, o + 1, none⟩ = some (.string (nameT x)) ∧ w.cell? ⟨bb, o + 1 + 1, none⟩ = some (.int .i64 (numT x)) ∧ w.cell? ⟨bb, o + 1 + 1 + 1, none⟩ = some (.slice a' n' c') ∧ ArW w x a' n' c') ∧
    (w.cell? ⟨bb, o + 4, none⟩ = some (.int .i64 (opT y)) ∧ w.cell? ⟨bb, o + 4 + 1, none⟩ = some (.string (nameT y)) ∧ w.cell? ⟨bb, o + 4 + 1 + 1, none⟩ = some (.int .i64 (numT y)) ∧ w.cell? ⟨bb, o + 4 + 1 + 1 + 1, none⟩ = some (.slice a2 n2 c2) ∧ ArW w y a2 n2 c2) := by
  have hn : n = 2 := h.1
  obtain ⟨bb, o, t, a', n', c', hA1, hb, y0, y1, y2, y3, ht, hA⟩ := h.at (k := 0) (by omega)
  obtain ⟨bb2, o2, t2, a2, n2, c2, hA2, hb2, x0, x1, x2, x3, ht2, hA3⟩ := h.at (k := 1) (by omega)
  rw [hA1] at hA2
  injection hA2 with hA2; injection hA2 with e1 e2
  subst e1 e2
  simp only [List.getElem?_cons_zero, Option.some.injEq] at ht
  simp only [List.getElem?_cons_succ, List.getElem?_cons_zero, Option.some.injEq] at ht2
  subst ht ht2
  rw [Nat.zero_mul, Nat.add_zero] at y0 y1 y2 y3
  rw [Nat.one_mul] at x0 x1 x2 x3
  exact ⟨bb, o, a', n', c', a2, n2, c2, hA1, hn, hb, ⟨y0, y1, y2, y3, hA⟩, ⟨x0, x1, x2, x3, hA3⟩⟩
/-- the operator's block -/
theorem obox (w : World) (s : ByteArray) (x : Int) : ∃ W, w.alloc (.cells #[.string s, .int .i64 x] 85) = W ∧ Below w.heap.size w W ∧ W.heap.size = w.heap.size + 1 ∧ W.cell? ⟨w.heap.size, 0, none⟩ = some (.string s) ∧ W.cell? ⟨w.heap.size, 1, none⟩ = some (.int .i64 x) :=
  ⟨_, rfl, bel_alloc (Below.refl _ _) _, by simp, Blk.cell (Blk.new w _ _) 0, Blk.cell (Blk.new w _ _) 1⟩

set_option maxHeartbeats 8000000 in
theorem term_add {W : World} (E : Env W) {bs : List ByteArray} (o : Int) (sg : ByteArray) (ho : (o = 5 ∧ sg = ⟨#[43]⟩) ∨ (o = 6 ∧ sg = ⟨#[45]⟩)) (s : ByteArray) (nu : Int) (x y : Tm) (hx : TermOk W bs x) (hy : TermOk W bs y) (hsx : (tP bs 2 x).size ≤ 1000000000) (hsy : (tP bs 1 y).size ≤ 1000000000) (b : Bool)
    (z : Sv) (fr : List ByteArray) (m : Int) (a : Option Addr) (n c : Nat) (w : World) (hw : Below W.heap.size W w) (hz : z.ok w fr bs) (hA : TsW w a n c [x, y]) (m0 : 0 ≤ m) (m5 : m ≤ 5) (hb : decide ((2 : Int) > m) = b) :
    Calls Tryz.prog 33 #[z.val, .agg #[.int .i64 o, .string s, .int .i64 nu, .slice a n c], .int .i64 m] w fun e w' => e = .returned (.string (par b (tP bs 2 x ++ ((⟨#[32]⟩ ++ sg ++ ⟨#[32]⟩) ++ tP bs 1 y)))) ∧ Below w.heap.size w w' := by
  have hsg : sg.size = 1 := by rcases ho with ⟨_, rfl⟩ | ⟨_, rfl⟩ <;> rfl
  obtain ⟨W1, hW1, hB1, hs1, S1, T1⟩ := sbox2 w z.a z.n z.c z.b z.m z.d o s nu a n c
  obtain ⟨W2, hW2, hB2, hs2, p0, p1⟩ := obox W1 sg 2
  have hB12 : Below w.heap.size w W2 := bel_trans hB1 hB2
  have hw1 : Below W.heap.size W W1 := hw.trans (hB1.mono hw.size)
  obtain ⟨g0, g1⟩ : W1.cell? ⟨0, o.toNat * 2, none⟩ = some (.string sg) ∧ W1.cell? ⟨0, o.toNat * 2 + 1, none⟩ = some (.int .i64 2) := by
    rcases ho with ⟨rfl, rfl⟩ | ⟨rfl, rfl⟩
    · exact E.top W1 hw1 5 (by decide)
    · exact E.top W1 hw1 6 (by decide)
  obtain ⟨s0, s1⟩ := (S1.bl hB2).two
  obtain ⟨t0, t1, t2, t3⟩ := (TBox.b T1 hB2).four
  obtain ⟨u0, u1, u2, u3⟩ := T1.four
  obtain ⟨bb, oo, a', n', c', a2, n2, c2, rfl, rfl, hbb, ⟨y0, y1, y2, y3, hAx⟩, ⟨x0, x1, x2, x3, hAy⟩⟩ := args2 (TsW.b hA hB12)
  rw [hs1] at p0 p1
  have cx := fun (w' : World) (h : Below W2.heap.size W2 w') => hx z fr 2 a' n' c' w' ((hw.trans (hB12.mono hw.size)).trans (h.mono (Nat.le_trans hw.size hB12.size))) (hz.bl (bel_trans hB12 h)) (ArW.b hAx h) (by omega) (by omega)
  have cy := fun (w' : World) (h : Below W2.heap.size W2 w') => hy z fr 1 a2 n2 c2 w' ((hw.trans (hB12.mono hw.size)).trans (h.mono (Nat.le_trans hw.size hB12.size))) (hz.bl (bel_trans hB12 h)) (ArW.b hAy h) (by omega) (by omega)
  unfold Sv.val at cx cy ⊢
  clear hx hy hz hA S1 T1 hAx hAy
  obtain ⟨za, zn, zc, zb, zm, zd⟩ := z
  dsimp only at *
  have cP := par_any (tP bs 2 x ++ ((⟨#[32]⟩ ++ sg ++ ⟨#[32]⟩) ++ tP bs 1 y)) b (by
    rw [ByteArray.size_append, ByteArray.size_append, ByteArray.size_append, ByteArray.size_append, hsg]
    have : (⟨#[32]⟩ : ByteArray).size = 1 := rfl
    omega)
  have hsp : (⟨#[32]⟩ : ByteArray).size = 1 := rfl
  obtain ⟨X1, e1⟩ : ∃ v, tP bs 2 x ++ (⟨#[32]⟩ : ByteArray) = v := ⟨_, rfl⟩
  obtain ⟨X2, e2⟩ : ∃ v, X1 ++ sg = v := ⟨_, rfl⟩
  obtain ⟨X3, e3⟩ : ∃ v, X2 ++ (⟨#[32]⟩ : ByteArray) = v := ⟨_, rfl⟩
  have e4 : X3 ++ tP bs 1 y = tP bs 2 x ++ ((⟨#[32]⟩ ++ sg ++ ⟨#[32]⟩) ++ tP bs 1 y) := by
    rw [← e3, ← e2, ← e1]; simp only [ByteArray.append_assoc]
  have z1 : X1.size ≤ 1000000001 := by rw [← e1, ByteArray.size_append, hsp]; omega
  have z2 : X2.size ≤ 1000000002 := by rw [← e2, ByteArray.size_append, hsg]; omega
  have z3 : X3.size ≤ 1000000003 := by rw [← e3, ByteArray.size_append, hsp]; omega
  have r1 : ∀ w, (Op.stringOp .add (tP bs 2 x) ⟨#[32]⟩).run Tryz.prog w = .ok (.string X1) w := fun w => by rw [run_string_add_sum w _ _ (by omega), e1]
  have r2 : ∀ w, (Op.stringOp .add X1 sg).run Tryz.prog w = .ok (.string X2) w := fun w => by rw [run_string_add_sum w _ _ (by omega), e2]
  have r3 : ∀ w, (Op.stringOp .add X2 ⟨#[32]⟩).run Tryz.prog w = .ok (.string X3) w := fun w => by rw [run_string_add_sum w _ _ (by omega), e3]
  have r4 : ∀ w, (Op.stringOp .add X3 (tP bs 1 y)).run Tryz.prog w = .ok (.string (tP bs 2 x ++ ((⟨#[32]⟩ ++ sg ++ ⟨#[32]⟩) ++ tP bs 1 y))) w := fun w => by rw [run_string_add_sum w _ _ (by omega), e4]
  clear e1 e2 e3 e4 z1 z2 z3 hsp hsx hsy hsg
  generalize (tP bs 2 x ++ ((⟨#[32]⟩ ++ sg ++ ⟨#[32]⟩) ++ tP bs 1 y)) = R at *
  generalize tP bs 2 x = X at *
  generalize tP bs 1 y = Y at *
  generalize opT x = xo at *
  generalize nameT x = xs at *
  generalize numT x = xz at *
  generalize opT y = yo at *
  generalize nameT y = ys at *
  generalize numT y = yz at *
  have l1 : w.heap.size < W2.heap.size := by omega
  have l2 : w.heap.size + 1 < W2.heap.size := by omega
  have l3 : w.heap.size + 2 < W2.heap.size := by omega
  have hS : ∀ w', Below W2.heap.size W2 w' → (w'.cell? ⟨w.heap.size, 0, none⟩ = some (.slice za zn zc) ∧ w'.cell? ⟨w.heap.size, 1, none⟩ = some (.slice zb zm zd) ∧ w'.cell? ⟨w.heap.size + 1, 3, none⟩ = some (.slice (some ⟨bb, oo, none⟩) 2 c) ∧ w'.cell? ⟨w.heap.size + 2, 0, none⟩ = some (.string sg) ∧ w'.cell? ⟨w.heap.size + 2, 1, none⟩ = some (.int .i64 2) ∧ w'.cell? ⟨bb, oo, none⟩ = some (.int .i64 xo) ∧ w'.cell? ⟨bb, oo + 1, none⟩ = some (.string xs) ∧ w'.cell? ⟨bb, oo + 1 + 1, none⟩ = some (.int .i64 xz) ∧ w'.cell? ⟨bb, oo + 1 + 1 + 1, none⟩ = some (.slice a' n' c') ∧ w'.cell? ⟨bb, oo + 4, none⟩ = some (.int .i64 yo) ∧ w'.cell? ⟨bb, oo + 4 + 1, none⟩ = some (.string ys) ∧ w'.cell? ⟨bb, oo + 4 + 1 + 1, none⟩ = some (.int .i64 yz) ∧ w'.cell? ⟨bb, oo + 4 + 1 + 1 + 1, none⟩ = some (.slice a2 n2 c2)) := fun w' h =>
    ⟨(h.cell (p := ⟨w.heap.size, 0, none⟩) l1).trans s0, (h.cell (p := ⟨w.heap.size, 1, none⟩) l1).trans s1, (h.cell (p := ⟨w.heap.size + 1, 3, none⟩) l2).trans t3, (h.cell (p := ⟨w.heap.size + 2, 0, none⟩) l3).trans p0, (h.cell (p := ⟨w.heap.size + 2, 1, none⟩) l3).trans p1,
      (h.cell (p := ⟨bb, _, none⟩) hbb).trans y0, (h.cell (p := ⟨bb, _, none⟩) hbb).trans y1, (h.cell (p := ⟨bb, _, none⟩) hbb).trans y2, (h.cell (p := ⟨bb, _, none⟩) hbb).trans y3, (h.cell (p := ⟨bb, _, none⟩) hbb).trans x0, (h.cell (p := ⟨bb, _, none⟩) hbb).trans x1, (h.cell (p := ⟨bb, _, none⟩) hbb).trans x2, (h.cell (p := ⟨bb, _, none⟩) hbb).trans x3⟩
  have B2d : Below W2.heap.size W2 W2.drew := (Below.refl _ _).drew
  have HS := Lib.hid hS
  have c1 := cx W2.drew B2d
  clear cx hS E hw hw1
  have HB := Lib.hid hB12
  clear hB12 hB1 hB2
  have hgo : (o = 5 ∧ W1.cell? ⟨0, 10, none⟩ = some (.string sg) ∧ W1.cell? ⟨0, 11, none⟩ = some (.int .i64 2)) ∨ (o = 6 ∧ W1.cell? ⟨0, 12, none⟩ = some (.string sg) ∧ W1.cell? ⟨0, 13, none⟩ = some (.int .i64 2)) := by
    rcases ho with ⟨rfl, _⟩ | ⟨rfl, _⟩
    · exact .inl ⟨rfl, g0, g1⟩
    · exact .inr ⟨rfl, g0, g1⟩
  clear g0 g1 ho
  have hwr : IntKind.i64.wrap 1 = 1 := by decide
  have hwr2 : IntKind.i64.wrap (2 - 1) = 1 := by decide
  rcases hgo with ⟨rfl, g0, g1⟩ | ⟨rfl, g0, g1⟩
  all_goals
    go_enter Tryz.func33, Tryz.ntmps33
    go_wp2
    go_region_held3 (fun w' => w'.cell? ⟨w.heap.size, 0, none⟩ = some (.slice za zn zc) ∧ w'.cell? ⟨w.heap.size, 1, none⟩ = some (.slice zb zm zd) ∧ w'.cell? ⟨w.heap.size + 1, 3, none⟩ = some (.slice (some ⟨bb, oo, none⟩) 2 c) ∧ w'.cell? ⟨w.heap.size + 2, 0, none⟩ = some (.string sg) ∧ w'.cell? ⟨w.heap.size + 2, 1, none⟩ = some (.int .i64 2) ∧ w'.cell? ⟨bb, oo, none⟩ = some (.int .i64 xo) ∧ w'.cell? ⟨bb, oo + 1, none⟩ = some (.string xs) ∧ w'.cell? ⟨bb, oo + 1 + 1, none⟩ = some (.int .i64 xz) ∧ w'.cell? ⟨bb, oo + 1 + 1 + 1, none⟩ = some (.slice a' n' c') ∧ w'.cell? ⟨bb, oo + 4, none⟩ = some (.int .i64 yo) ∧ w'.cell? ⟨bb, oo + 4 + 1, none⟩ = some (.string ys) ∧ w'.cell? ⟨bb, oo + 4 + 1 + 1, none⟩ = some (.int .i64 yz) ∧ w'.cell? ⟨bb, oo + 4 + 1 + 1 + 1, none⟩ = some (.slice a2 n2 c2))
      (first | exact HS.out _ B7 | exact HS.out _ B6 | exact HS.out _ B2d | go_keep)
      (first
        | (go_at_call 33; ((with_reducible refine c1.mono ?_); rintro e w6 ⟨rfl, hb6⟩; clear c1; have B6 := bel_trans B2d hb6))
        | (go_at_call 33; ((with_reducible refine (cy _ B6).mono ?_); rintro e w7 ⟨rfl, hb7⟩; have B7 := bel_trans B6 hb7)))
    go_wp2_with (go_at_call 57; ((with_reducible refine (cP _).mono ?_); rintro e w8 ⟨rfl, hb8⟩))
    go_ret
    exact ⟨rfl, bel_trans (bel_trans HB.out B7) hb8⟩
end Go.Proofs.YtcigeclnbhcohaaGreatDoor.Sh
