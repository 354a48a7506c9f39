/-
  What is proved: the document's text of a claim, op by op.
-/
import Derived.Test.YtcigeclnbhcohaaGreatDoorZShRn
import Derived.Test.YtcigeclnbhcohaaGreatDoorZShCa
import Derived.Deep.Cut
import Derived.Deep.CutRange
namespace Go.Proofs.YtcigeclnbhcohaaGreatDoor.Sh
open Go.RowKit L T C Cs
set_option linter.unusedVariables false
set_option linter.unusedSimpArgs false
set_option maxRecDepth 100000

/-- the text of this claim, by the document's answer -/
def RClaimOk (fr : List ByteArray) (t : Cl) : Prop :=
  ∀ (bs : List ByteArray) (m : Int) (last : Bool) (fa : Option Addr) (fn fc : Nat) (ba : Option Addr) (bm bd : Nat) (ks : SS) (a : Option Addr) (n c : Nat) (w : World), SlS w fa fn fc fr → SlS w ba bm bd bs → shB bs → bs.length + wt t ≤ 10000 → ArWC w t ks a n c → 1 ≤ m → m ≤ 5 →
    Calls Tryz.prog 40 #[.agg #[.int .i64 (opC t), .string (nmC t), .string (soC t), .slice ks.a ks.n ks.c, .slice a n c], .slice fa fn fc, .slice ba bm bd, .int .i64 m, .bool last] w fun e w' => e = .returned (.string (cT fr t bs (5 - m) (!last))) ∧ Below w.heap.size w w'
set_option maxHeartbeats 8000000 in
theorem rclaim_true {fr bs : List ByteArray}  (s so : ByteArray) (m : Int) (last : Bool) (fa : Option Addr) (fn fc : Nat) (ba : Option Addr) (bm bd : Nat) (ks : SS) (a : Option Addr) (n c : Nat) (w : World) (hF : SlS w fa fn fc fr) (hB : SlS w ba bm bd bs) :
    Calls Tryz.prog 40 #[.agg #[.int .i64 1, .string s, .string so, .slice ks.a ks.n ks.c, .slice a n c], .slice fa fn fc, .slice ba bm bd, .int .i64 m, .bool last] w fun e w' => e = .returned (.string (⟨#[116, 114, 117, 101]⟩)) ∧ Below w.heap.size w w' := by
  obtain ⟨ka, kn, kc⟩ := ks
  obtain ⟨W1, hW1, hB1, hs1, S1⟩ := cbox1 w 1 s so ⟨ka, kn, kc⟩ a n c
  dsimp only at *
  obtain ⟨s0, s1, s2, s3, s4⟩ := S1.five
  dsimp only at s3
  clear S1 hF hB
  go_enter Tryz.func40, Tryz.ntmps40
  go_wp2
  go_ret
  exact ⟨rfl, hB1⟩
set_option maxHeartbeats 8000000 in
theorem rclaim_false {fr bs : List ByteArray}  (s so : ByteArray) (m : Int) (last : Bool) (fa : Option Addr) (fn fc : Nat) (ba : Option Addr) (bm bd : Nat) (ks : SS) (a : Option Addr) (n c : Nat) (w : World) (hF : SlS w fa fn fc fr) (hB : SlS w ba bm bd bs) :
    Calls Tryz.prog 40 #[.agg #[.int .i64 2, .string s, .string so, .slice ks.a ks.n ks.c, .slice a n c], .slice fa fn fc, .slice ba bm bd, .int .i64 m, .bool last] w fun e w' => e = .returned (.string (⟨#[102, 97, 108, 115, 101]⟩)) ∧ Below w.heap.size w w' := by
  obtain ⟨ka, kn, kc⟩ := ks
  obtain ⟨W1, hW1, hB1, hs1, S1⟩ := cbox1 w 2 s so ⟨ka, kn, kc⟩ a n c
  dsimp only at *
  obtain ⟨s0, s1, s2, s3, s4⟩ := S1.five
  dsimp only at s3
  clear S1 hF hB
  go_enter Tryz.func40, Tryz.ntmps40
  go_wp2
  go_ret
  exact ⟨rfl, hB1⟩
set_option maxHeartbeats 8000000 in
theorem rclaim_pred {fr bs : List ByteArray} (ts : List Tm) (s so : ByteArray) (m : Int) (last : Bool) (fa : Option Addr) (fn fc : Nat) (ba : Option Addr) (bm bd : Nat) (ks : SS) (a : Option Addr) (n c : Nat) (w : World) (hF : SlS w fa fn fc fr) (hB : SlS w ba bm bd bs) (hok : RTermOk bs (.mk 3 s 0 ts)) (hT : TsW w ks.a ks.n ks.c ts) :
    Calls Tryz.prog 40 #[.agg #[.int .i64 3, .string s, .string so, .slice ks.a ks.n ks.c, .slice a n c], .slice fa fn fc, .slice ba bm bd, .int .i64 m, .bool last] w fun e w' => e = .returned (.string (apX s (tXs bs ts))) ∧ Below w.heap.size w w' := by
  obtain ⟨ka, kn, kc⟩ := ks
  obtain ⟨W1, hW1, hB1, hs1, S1⟩ := cbox1 w 3 s so ⟨ka, kn, kc⟩ a n c
  dsimp only at *
  obtain ⟨s0, s1, s2, s3, s4⟩ := S1.five
  dsimp only at s3
  have hA : ArW W1 (.mk 3 s 0 ts) ka kn kc := by unfold ArW; rw [Ar]; exact (TsW.b hT hB1)
  have cb := hok ba bm bd ka kn kc W1 (hB.below hB1).1 hA
  rw [tX_app _ _ _ _ _ (Or.inr rfl)] at cb
  have cb : Calls Tryz.prog 34 #[.agg #[.int .i64 3, .string s, .int .i64 0, .slice ka kn kc], .slice ba bm bd] W1 fun e w' => e = .returned (.string (apX s (tXs bs ts))) ∧ Below W1.heap.size W1 w' := cb
  clear S1 hF hB hok hT hA
  generalize apX s (tXs bs ts) = R at *
  go_enter Tryz.func40, Tryz.ntmps40
  go_wp2_with (go_at_call 34; ((with_reducible refine cb.mono ?_); rintro e w8 ⟨rfl, hb8⟩))
  go_ret
  exact ⟨rfl, bel_trans hB1 hb8⟩
set_option maxHeartbeats 8000000 in
theorem rclaim_eq {fr bs : List ByteArray} (x y : Tm) (hx : RTermOk bs x) (hy : RTermOk bs y) (hsx : (tX bs x).size ≤ 1000000000) (hsy : (tX bs y).size ≤ 1000000000) (s so : ByteArray) (m : Int) (last : Bool) (fa : Option Addr) (fn fc : Nat) (ba : Option Addr) (bm bd : Nat) (ks : SS) (a : Option Addr) (n c : Nat) (w : World) (hF : SlS w fa fn fc fr) (hB : SlS w ba bm bd bs) (hT : TsW w ks.a ks.n ks.c [x, y]) :
    Calls Tryz.prog 40 #[.agg #[.int .i64 4, .string s, .string so, .slice ks.a ks.n ks.c, .slice a n c], .slice fa fn fc, .slice ba bm bd, .int .i64 m, .bool last] w fun e w' => e = .returned (.string (tX bs x ++ (⟨#[32, 61, 32]⟩ ++ tX bs y))) ∧ Below w.heap.size w w' := by
  obtain ⟨ka, kn, kc⟩ := ks
  obtain ⟨W1, hW1, hB1, hs1, S1⟩ := cbox1 w 4 s so ⟨ka, kn, kc⟩ a n c
  dsimp only at *
  obtain ⟨s0, s1, s2, s3, s4⟩ := S1.five
  dsimp only at s3
  obtain ⟨bb, oo, a', n', c', a2, n2, c2, rfl, rfl, hbb, ⟨y0, y1, y2, y3, hAx⟩, ⟨x0, x1, x2, x3, hAy⟩⟩ := args2 (TsW.b hT hB1)
  have B2d : Below W1.heap.size W1 W1.drew := (Below.refl _ _).drew
  have cx := hx ba bm bd a' n' c' W1.drew (hB.below (bel_trans hB1 B2d)).1 (ArW.b hAx B2d)
  have cy := fun (w' : World) (h : Below W1.heap.size W1 w') => hy ba bm bd a2 n2 c2 w' (hB.below (bel_trans hB1 h)).1 (ArW.b hAy h)
  have hd : (⟨#[32, 61, 32]⟩ : ByteArray).size = 3 := rfl
  obtain ⟨X1, e1⟩ : ∃ v, tX bs x ++ (⟨#[32, 61, 32]⟩ : ByteArray) = v := ⟨_, rfl⟩
  have z1 : X1.size ≤ 1000000005 := by rw [← e1, ByteArray.size_append, hd]; omega
  have r1 : ∀ w, (Op.stringOp .add (tX bs x) ⟨#[32, 61, 32]⟩).run Tryz.prog w = .ok (.string X1) w := fun w => by rw [run_string_add_sum w _ _ (by omega), e1]
  have r2 : ∀ w, (Op.stringOp .add X1 (tX bs y)).run Tryz.prog w = .ok (.string (tX bs x ++ (⟨#[32, 61, 32]⟩ ++ tX bs y))) w := fun w => by rw [run_string_add_sum w _ _ (by omega), ← e1, ByteArray.append_assoc]
  have l1 : w.heap.size < W1.heap.size := by omega
  clear hx hy hB hF hT S1 hAx hAy hsx hsy e1 z1 hd
  generalize (tX bs x ++ (⟨#[32, 61, 32]⟩ ++ tX bs y)) = R at *
  generalize tX bs x = X at *
  generalize tX bs y = Y at *
  generalize opT x = xo at *
  generalize nameT x = xs at *
  generalize numT x = xz at *
  generalize opT y = yo at *
  generalize nameT y = ys at *
  generalize numT y = yz at *
  have HS := Lib.hid (show ∀ w', Below W1.heap.size W1 w' → (w'.cell? ⟨w.heap.size, 3, none⟩ = some (.slice (some ⟨bb, oo, none⟩) 2 kc) ∧ w'.cell? ⟨bb, oo, none⟩ = some (.int .i64 xo) ∧ w'.cell? ⟨bb, oo + 1, none⟩ = some (.string xs) ∧ w'.cell? ⟨bb, oo + 1 + 1, none⟩ = some (.int .i64 xz) ∧ w'.cell? ⟨bb, oo + 1 + 1 + 1, none⟩ = some (.slice a' n' c') ∧ w'.cell? ⟨bb, oo + 4, none⟩ = some (.int .i64 yo) ∧ w'.cell? ⟨bb, oo + 4 + 1, none⟩ = some (.string ys) ∧ w'.cell? ⟨bb, oo + 4 + 1 + 1, none⟩ = some (.int .i64 yz) ∧ w'.cell? ⟨bb, oo + 4 + 1 + 1 + 1, none⟩ = some (.slice a2 n2 c2)) from fun w' h =>
    ⟨(h.cell (p := ⟨w.heap.size, 3, none⟩) l1).trans s3, (h.cell (p := ⟨bb, _, none⟩) hbb).trans y0, (h.cell (p := ⟨bb, _, none⟩) hbb).trans y1, (h.cell (p := ⟨bb, _, none⟩) hbb).trans y2, (h.cell (p := ⟨bb, _, none⟩) hbb).trans y3, (h.cell (p := ⟨bb, _, none⟩) hbb).trans x0, (h.cell (p := ⟨bb, _, none⟩) hbb).trans x1, (h.cell (p := ⟨bb, _, none⟩) hbb).trans x2, (h.cell (p := ⟨bb, _, none⟩) hbb).trans x3⟩)
  go_enter Tryz.func40, Tryz.ntmps40
  go_wp2
  go_region_held3 (fun w' => w'.cell? ⟨w.heap.size, 3, none⟩ = some (.slice (some ⟨bb, oo, none⟩) 2 kc) ∧ w'.cell? ⟨bb, oo, none⟩ = some (.int .i64 xo) ∧ w'.cell? ⟨bb, oo + 1, none⟩ = some (.string xs) ∧ w'.cell? ⟨bb, oo + 1 + 1, none⟩ = some (.int .i64 xz) ∧ w'.cell? ⟨bb, oo + 1 + 1 + 1, none⟩ = some (.slice a' n' c') ∧ w'.cell? ⟨bb, oo + 4, none⟩ = some (.int .i64 yo) ∧ w'.cell? ⟨bb, oo + 4 + 1, none⟩ = some (.string ys) ∧ w'.cell? ⟨bb, oo + 4 + 1 + 1, none⟩ = some (.int .i64 yz) ∧ w'.cell? ⟨bb, oo + 4 + 1 + 1 + 1, none⟩ = some (.slice a2 n2 c2))
    (first | exact HS.out _ B8 | exact HS.out _ B6 | exact HS.out _ B2d | go_keep)
    (first
      | (go_at_call 34; ((with_reducible refine cx.mono ?_); rintro e w6 ⟨rfl, hb6⟩; clear cx; have B6 := bel_trans B2d hb6))
      | (go_at_call 34; ((with_reducible refine (cy _ B6).mono ?_); rintro e w8 ⟨rfl, hb8⟩; have B8 := bel_trans B6 hb8)))
  go_wp2
  go_ret
  exact ⟨rfl, bel_trans hB1 B8⟩
set_option maxHeartbeats 8000000 in
theorem rclaim_le {fr bs : List ByteArray} (x y : Tm) (hx : RTermOk bs x) (hy : RTermOk bs y) (hsx : (tX bs x).size ≤ 1000000000) (hsy : (tX bs y).size ≤ 1000000000) (s so : ByteArray) (m : Int) (last : Bool) (fa : Option Addr) (fn fc : Nat) (ba : Option Addr) (bm bd : Nat) (ks : SS) (a : Option Addr) (n c : Nat) (w : World) (hF : SlS w fa fn fc fr) (hB : SlS w ba bm bd bs) (hT : TsW w ks.a ks.n ks.c [x, y]) :
    Calls Tryz.prog 40 #[.agg #[.int .i64 5, .string s, .string so, .slice ks.a ks.n ks.c, .slice a n c], .slice fa fn fc, .slice ba bm bd, .int .i64 m, .bool last] w fun e w' => e = .returned (.string (tX bs x ++ (⟨#[32, 60, 61, 32]⟩ ++ tX bs y))) ∧ Below w.heap.size w w' := by
  obtain ⟨ka, kn, kc⟩ := ks
  obtain ⟨W1, hW1, hB1, hs1, S1⟩ := cbox1 w 5 s so ⟨ka, kn, kc⟩ a n c
  dsimp only at *
  obtain ⟨s0, s1, s2, s3, s4⟩ := S1.five
  dsimp only at s3
  obtain ⟨bb, oo, a', n', c', a2, n2, c2, rfl, rfl, hbb, ⟨y0, y1, y2, y3, hAx⟩, ⟨x0, x1, x2, x3, hAy⟩⟩ := args2 (TsW.b hT hB1)
  have B2d : Below W1.heap.size W1 W1.drew := (Below.refl _ _).drew
  have cx := hx ba bm bd a' n' c' W1.drew (hB.below (bel_trans hB1 B2d)).1 (ArW.b hAx B2d)
  have cy := fun (w' : World) (h : Below W1.heap.size W1 w') => hy ba bm bd a2 n2 c2 w' (hB.below (bel_trans hB1 h)).1 (ArW.b hAy h)
  have hd : (⟨#[32, 60, 61, 32]⟩ : ByteArray).size = 4 := rfl
  obtain ⟨X1, e1⟩ : ∃ v, tX bs x ++ (⟨#[32, 60, 61, 32]⟩ : ByteArray) = v := ⟨_, rfl⟩
  have z1 : X1.size ≤ 1000000005 := by rw [← e1, ByteArray.size_append, hd]; omega
  have r1 : ∀ w, (Op.stringOp .add (tX bs x) ⟨#[32, 60, 61, 32]⟩).run Tryz.prog w = .ok (.string X1) w := fun w => by rw [run_string_add_sum w _ _ (by omega), e1]
  have r2 : ∀ w, (Op.stringOp .add X1 (tX bs y)).run Tryz.prog w = .ok (.string (tX bs x ++ (⟨#[32, 60, 61, 32]⟩ ++ tX bs y))) w := fun w => by rw [run_string_add_sum w _ _ (by omega), ← e1, ByteArray.append_assoc]
  have l1 : w.heap.size < W1.heap.size := by omega
  clear hx hy hB hF hT S1 hAx hAy hsx hsy e1 z1 hd
  generalize (tX bs x ++ (⟨#[32, 60, 61, 32]⟩ ++ tX bs y)) = R at *
  generalize tX bs x = X at *
  generalize tX bs y = Y at *
  generalize opT x = xo at *
  generalize nameT x = xs at *
  generalize numT x = xz at *
  generalize opT y = yo at *
  generalize nameT y = ys at *
  generalize numT y = yz at *
  have HS := Lib.hid (show ∀ w', Below W1.heap.size W1 w' → (w'.cell? ⟨w.heap.size, 3, none⟩ = some (.slice (some ⟨bb, oo, none⟩) 2 kc) ∧ w'.cell? ⟨bb, oo, none⟩ = some (.int .i64 xo) ∧ w'.cell? ⟨bb, oo + 1, none⟩ = some (.string xs) ∧ w'.cell? ⟨bb, oo + 1 + 1, none⟩ = some (.int .i64 xz) ∧ w'.cell? ⟨bb, oo + 1 + 1 + 1, none⟩ = some (.slice a' n' c') ∧ w'.cell? ⟨bb, oo + 4, none⟩ = some (.int .i64 yo) ∧ w'.cell? ⟨bb, oo + 4 + 1, none⟩ = some (.string ys) ∧ w'.cell? ⟨bb, oo + 4 + 1 + 1, none⟩ = some (.int .i64 yz) ∧ w'.cell? ⟨bb, oo + 4 + 1 + 1 + 1, none⟩ = some (.slice a2 n2 c2)) from fun w' h =>
    ⟨(h.cell (p := ⟨w.heap.size, 3, none⟩) l1).trans s3, (h.cell (p := ⟨bb, _, none⟩) hbb).trans y0, (h.cell (p := ⟨bb, _, none⟩) hbb).trans y1, (h.cell (p := ⟨bb, _, none⟩) hbb).trans y2, (h.cell (p := ⟨bb, _, none⟩) hbb).trans y3, (h.cell (p := ⟨bb, _, none⟩) hbb).trans x0, (h.cell (p := ⟨bb, _, none⟩) hbb).trans x1, (h.cell (p := ⟨bb, _, none⟩) hbb).trans x2, (h.cell (p := ⟨bb, _, none⟩) hbb).trans x3⟩)
  go_enter Tryz.func40, Tryz.ntmps40
  go_wp2
  go_region_held3 (fun w' => w'.cell? ⟨w.heap.size, 3, none⟩ = some (.slice (some ⟨bb, oo, none⟩) 2 kc) ∧ w'.cell? ⟨bb, oo, none⟩ = some (.int .i64 xo) ∧ w'.cell? ⟨bb, oo + 1, none⟩ = some (.string xs) ∧ w'.cell? ⟨bb, oo + 1 + 1, none⟩ = some (.int .i64 xz) ∧ w'.cell? ⟨bb, oo + 1 + 1 + 1, none⟩ = some (.slice a' n' c') ∧ w'.cell? ⟨bb, oo + 4, none⟩ = some (.int .i64 yo) ∧ w'.cell? ⟨bb, oo + 4 + 1, none⟩ = some (.string ys) ∧ w'.cell? ⟨bb, oo + 4 + 1 + 1, none⟩ = some (.int .i64 yz) ∧ w'.cell? ⟨bb, oo + 4 + 1 + 1 + 1, none⟩ = some (.slice a2 n2 c2))
    (first | exact HS.out _ B8 | exact HS.out _ B6 | exact HS.out _ B2d | go_keep)
    (first
      | (go_at_call 34; ((with_reducible refine cx.mono ?_); rintro e w6 ⟨rfl, hb6⟩; clear cx; have B6 := bel_trans B2d hb6))
      | (go_at_call 34; ((with_reducible refine (cy _ B6).mono ?_); rintro e w8 ⟨rfl, hb8⟩; have B8 := bel_trans B6 hb8)))
  go_wp2
  go_ret
  exact ⟨rfl, bel_trans hB1 B8⟩
set_option maxHeartbeats 8000000 in
theorem rclaim_not {fr bs : List ByteArray} (hb : shB bs) (x : Cl) (hx : RClaimOk fr x) (hl : bs.length + wt x ≤ 10000) (s so : ByteArray) (m : Int) (last : Bool) (fa : Option Addr) (fn fc : Nat) (ba : Option Addr) (bm bd : Nat) (ks : SS) (a : Option Addr) (n c : Nat) (w : World) (hF : SlS w fa fn fc fr) (hB : SlS w ba bm bd bs) (hC : CsW w a n c [x]) (hsx : (cT fr x bs 0 (!last)).size ≤ 1000000000) :
    Calls Tryz.prog 40 #[.agg #[.int .i64 6, .string s, .string so, .slice ks.a ks.n ks.c, .slice a n c], .slice fa fn fc, .slice ba bm bd, .int .i64 m, .bool last] w fun e w' => e = .returned (.string (⟨#[126]⟩ ++ cT fr x bs 0 (!last))) ∧ Below w.heap.size w w' := by
  obtain ⟨ka, kn, kc⟩ := ks
  obtain ⟨W1, hW1, hB1, hs1, S1⟩ := cbox1 w 6 s so ⟨ka, kn, kc⟩ a n c
  dsimp only at *
  obtain ⟨s0, s1, s2, s3, s4⟩ := S1.five
  dsimp only at s3
  obtain ⟨bb, oo, ⟨qa, qn, qc⟩, a', n', c', rfl, rfl, hbb, ⟨y0, y1, y2, y3, y4⟩, hAx⟩ := subs1 (CsW.b hC hB1)
  dsimp only at y3
  have cx := hx bs 5 last fa fn fc ba bm bd ⟨qa, qn, qc⟩ a' n' c' W1 (hF.below hB1) (hB.below hB1) hb hl hAx (by omega) (by omega)
  rw [show (5 : Int) - 5 = 0 from rfl] at cx
  have r1 : ∀ w, (Op.stringOp .add ⟨#[126]⟩ (cT fr x bs 0 (!last))).run Tryz.prog w = .ok (.string (⟨#[126]⟩ ++ cT fr x bs 0 (!last))) w := fun w => by rw [run_string_add_sum w _ _ (by have : (⟨#[126]⟩ : ByteArray).size = 1 := rfl; omega)]
  clear S1 hF hB hx hC hAx hsx hl hb
  generalize (⟨#[126]⟩ ++ cT fr x bs 0 (!last)) = R at *
  generalize cT fr x bs 0 (!last) = X at *
  generalize opC x = xo at *
  generalize nmC x = xs at *
  generalize soC x = xz at *
  dsimp only at cx
  go_enter Tryz.func40, Tryz.ntmps40
  go_wp2_with (go_at_call 40; ((with_reducible refine cx.mono ?_); rintro e w6 ⟨rfl, hb6⟩))
  go_ret
  exact ⟨rfl, bel_trans hB1 hb6⟩
set_option maxHeartbeats 8000000 in
theorem rclaim_two7 {fr bs : List ByteArray} (hb : shB bs) (x y : Cl) (hx : RClaimOk fr x) (hy : RClaimOk fr y) (hlx : bs.length + wt x ≤ 10000) (hly : bs.length + wt y ≤ 10000) (s so : ByteArray) (m : Int) (last : Bool) (fa : Option Addr) (fn fc : Nat) (ba : Option Addr) (bm bd : Nat) (ks : SS) (a : Option Addr) (n c : Nat) (w : World) (hF : SlS w fa fn fc fr) (hB : SlS w ba bm bd bs) (hC : CsW w a n c [x, y]) (hsx : (cT fr x bs 0 true).size ≤ 1000000000) (hsy : (cT fr y bs 1 (!last)).size ≤ 1000000000) (m0 : decide ((4 : Int) < m) = false) :
    Calls Tryz.prog 40 #[.agg #[.int .i64 7, .string s, .string so, .slice ks.a ks.n ks.c, .slice a n c], .slice fa fn fc, .slice ba bm bd, .int .i64 m, .bool last] w fun e w' => e = .returned (.string (cT fr x bs 0 true ++ (⟨#[32, 38, 32]⟩ ++ cT fr y bs 1 (!last)))) ∧ Below w.heap.size w w' := by
  obtain ⟨ka, kn, kc⟩ := ks
  obtain ⟨W1, hW1, hB1, hs1, S1⟩ := cbox1 w 7 s so ⟨ka, kn, kc⟩ a n c
  dsimp only at *
  obtain ⟨s0, s1, s2, s3, s4⟩ := S1.five
  dsimp only at s3
  obtain ⟨bb, oo, ⟨qa, qn, qc⟩, a', n', c', ⟨pa, pn, pc⟩, a2, n2, c2, rfl, rfl, hbb, ⟨⟨y0, y1, y2, y3, y4⟩, hAx⟩, ⟨⟨x0, x1, x2, x3, x4⟩, hAy⟩⟩ := subs2 (CsW.b hC hB1)
  dsimp only at y3 x3
  have HX := Lib.hid (show ∀ (w' : World), Below W1.heap.size W1 w' → _ from fun w' h => hx bs (4 + 1) false fa fn fc ba bm bd ⟨qa, qn, qc⟩ a' n' c' w' (hF.below (bel_trans hB1 h)) (hB.below (bel_trans hB1 h)) hb hlx (ArWC.b hAx h) (by omega) (by omega))
  have HY := Lib.hid (show ∀ (w' : World), Below W1.heap.size W1 w' → _ from fun w' h => hy bs 4 last fa fn fc ba bm bd ⟨pa, pn, pc⟩ a2 n2 c2 w' (hF.below (bel_trans hB1 h)) (hB.below (bel_trans hB1 h)) hb hly (ArWC.b hAy h) (by omega) (by omega))
  have hm1 : (5 : Int) - (4 + 1) = 0 := rfl
  have hm2 : (5 : Int) - 4 = 1 := rfl
  have hm3 : (!false) = true := rfl
  have hm4 : (4 : Int) + 1 = 5 := rfl
  rw [hm1, hm3, hm4] at HX
  rw [hm2] at HY
  have cG := fun w => sign_any 7 (by omega) w
  have cL := fun w => loose_any 7 w
  have hlo : looseR 7 = 4 := rfl
  have hsgc : sgC 7 = ⟨#[32, 38, 32]⟩ := rfl
  rw [hlo] at cL
  rw [hsgc] at cG
  obtain ⟨sg, hsg⟩ : ∃ v : ByteArray, ⟨#[32, 38, 32]⟩ = v := ⟨_, rfl⟩
  have hsgz : sg.size ≤ 5 := by rw [← hsg]; decide
  rw [hsg] at cG ⊢
  obtain ⟨X1, e1⟩ : ∃ v, cT fr x bs 0 true ++ sg = v := ⟨_, rfl⟩
  have z1 : X1.size ≤ 1000000005 := by rw [← e1, ByteArray.size_append]; omega
  have r1 : ∀ w, (Op.stringOp .add (cT fr x bs 0 true) sg).run Tryz.prog w = .ok (.string X1) w := fun w => by rw [run_string_add_sum w _ _ (by omega), e1]
  have r2 : ∀ w, (Op.stringOp .add X1 (cT fr y bs 1 (!last))).run Tryz.prog w = .ok (.string (cT fr x bs 0 true ++ (sg ++ cT fr y bs 1 (!last)))) w := fun w => by rw [run_string_add_sum w _ _ (by omega), ← e1, ByteArray.append_assoc]
  clear hx hy hF hB hC hAx hAy hb hlx hly hsx hsy e1 z1 hsg hsgz hm1 hm2 hm3 hm4 hlo hsgc
  generalize (cT fr x bs 0 true ++ (sg ++ cT fr y bs 1 (!last))) = R at *
  generalize cT fr x bs 0 true = X at *
  generalize cT fr y bs 1 (!last) = Y at *
  generalize opC x = xo at *
  generalize nmC x = xs at *
  generalize soC x = xz at *
  generalize opC y = yo at *
  generalize nmC y = ys at *
  generalize soC y = yz at *
  dsimp only at HX HY
  have l1 : w.heap.size < W1.heap.size := by omega
  have HS := Lib.hid (show ∀ w', Below W1.heap.size W1 w' → (w'.cell? ⟨w.heap.size, 0, none⟩ = some (.int .i64 7) ∧ w'.cell? ⟨w.heap.size, 4, none⟩ = some (.slice (some ⟨bb, oo, none⟩) 2 c) ∧ w'.cell? ⟨bb, oo, none⟩ = some (.int .i64 xo) ∧ w'.cell? ⟨bb, oo + 1, none⟩ = some (.string xs) ∧ w'.cell? ⟨bb, oo + 1 + 1, none⟩ = some (.string xz) ∧ w'.cell? ⟨bb, oo + 1 + 1 + 1, none⟩ = some (.slice qa qn qc) ∧ w'.cell? ⟨bb, oo + 1 + 1 + 1 + 1, none⟩ = some (.slice a' n' c') ∧ w'.cell? ⟨bb, oo + 5, none⟩ = some (.int .i64 yo) ∧ w'.cell? ⟨bb, oo + 5 + 1, none⟩ = some (.string ys) ∧ w'.cell? ⟨bb, oo + 5 + 1 + 1, none⟩ = some (.string yz) ∧ w'.cell? ⟨bb, oo + 5 + 1 + 1 + 1, none⟩ = some (.slice pa pn pc) ∧ w'.cell? ⟨bb, oo + 5 + 1 + 1 + 1 + 1, none⟩ = some (.slice a2 n2 c2)) from fun w' h =>
    ⟨(h.cell (p := ⟨w.heap.size, 0, none⟩) l1).trans s0, (h.cell (p := ⟨w.heap.size, 4, none⟩) l1).trans s4,
      (h.cell (p := ⟨bb, _, none⟩) hbb).trans y0, (h.cell (p := ⟨bb, _, none⟩) hbb).trans y1, (h.cell (p := ⟨bb, _, none⟩) hbb).trans y2, (h.cell (p := ⟨bb, _, none⟩) hbb).trans y3, (h.cell (p := ⟨bb, _, none⟩) hbb).trans y4, (h.cell (p := ⟨bb, _, none⟩) hbb).trans x0, (h.cell (p := ⟨bb, _, none⟩) hbb).trans x1, (h.cell (p := ⟨bb, _, none⟩) hbb).trans x2, (h.cell (p := ⟨bb, _, none⟩) hbb).trans x3, (h.cell (p := ⟨bb, _, none⟩) hbb).trans x4⟩)
  have hwr : IntKind.i64.wrap 5 = 5 := by decide
  have hwr2 : IntKind.i64.wrap (4 + 1) = 5 := by decide
  clear S1
  go_enter Tryz.func40, Tryz.ntmps40
  go_wp2_with (go_at_call 78; ((with_reducible refine (cL _).mono ?_); rintro e w2 ⟨rfl, hw2⟩; subst hw2))
  have B2d : Below W1.heap.size W1 W1.drew := (Below.refl _ _).drew
  go_region_held3 (fun w' => w'.cell? ⟨w.heap.size, 0, none⟩ = some (.int .i64 7) ∧ w'.cell? ⟨w.heap.size, 4, none⟩ = some (.slice (some ⟨bb, oo, none⟩) 2 c) ∧ w'.cell? ⟨bb, oo, none⟩ = some (.int .i64 xo) ∧ w'.cell? ⟨bb, oo + 1, none⟩ = some (.string xs) ∧ w'.cell? ⟨bb, oo + 1 + 1, none⟩ = some (.string xz) ∧ w'.cell? ⟨bb, oo + 1 + 1 + 1, none⟩ = some (.slice qa qn qc) ∧ w'.cell? ⟨bb, oo + 1 + 1 + 1 + 1, none⟩ = some (.slice a' n' c') ∧ w'.cell? ⟨bb, oo + 5, none⟩ = some (.int .i64 yo) ∧ w'.cell? ⟨bb, oo + 5 + 1, none⟩ = some (.string ys) ∧ w'.cell? ⟨bb, oo + 5 + 1 + 1, none⟩ = some (.string yz) ∧ w'.cell? ⟨bb, oo + 5 + 1 + 1 + 1, none⟩ = some (.slice pa pn pc) ∧ w'.cell? ⟨bb, oo + 5 + 1 + 1 + 1 + 1, none⟩ = some (.slice a2 n2 c2))
    (first | exact HS.out _ B8 | exact HS.out _ B7 | exact HS.out _ B6 | exact HS.out _ B2d | go_keep)
    (first
      | (go_at_call 40; ((with_reducible refine (HX.out _ B2d).mono ?_); rintro e w6 ⟨rfl, hb6⟩; have B6 := bel_trans B2d hb6))
      | (go_at_call 79; ((with_reducible refine (cG _).mono ?_); rintro e w7 ⟨rfl, hb7⟩; have B7 := bel_trans B6 hb7))
      | (go_at_call 40; ((with_reducible refine (HY.out _ B7).mono ?_); rintro e w8 ⟨rfl, hb8⟩; have B8 := bel_trans B7 hb8)))
  go_wp2
  go_ret
  exact ⟨rfl, bel_trans hB1 B8⟩
set_option maxHeartbeats 8000000 in
theorem rclaim_two8 {fr bs : List ByteArray} (hb : shB bs) (x y : Cl) (hx : RClaimOk fr x) (hy : RClaimOk fr y) (hlx : bs.length + wt x ≤ 10000) (hly : bs.length + wt y ≤ 10000) (s so : ByteArray) (m : Int) (last : Bool) (fa : Option Addr) (fn fc : Nat) (ba : Option Addr) (bm bd : Nat) (ks : SS) (a : Option Addr) (n c : Nat) (w : World) (hF : SlS w fa fn fc fr) (hB : SlS w ba bm bd bs) (hC : CsW w a n c [x, y]) (hsx : (cT fr x bs 1 true).size ≤ 1000000000) (hsy : (cT fr y bs 2 (!last)).size ≤ 1000000000) (m0 : decide ((3 : Int) < m) = false) :
    Calls Tryz.prog 40 #[.agg #[.int .i64 8, .string s, .string so, .slice ks.a ks.n ks.c, .slice a n c], .slice fa fn fc, .slice ba bm bd, .int .i64 m, .bool last] w fun e w' => e = .returned (.string (cT fr x bs 1 true ++ (⟨#[32, 124, 32]⟩ ++ cT fr y bs 2 (!last)))) ∧ Below w.heap.size w w' := by
  obtain ⟨ka, kn, kc⟩ := ks
  obtain ⟨W1, hW1, hB1, hs1, S1⟩ := cbox1 w 8 s so ⟨ka, kn, kc⟩ a n c
  dsimp only at *
  obtain ⟨s0, s1, s2, s3, s4⟩ := S1.five
  dsimp only at s3
  obtain ⟨bb, oo, ⟨qa, qn, qc⟩, a', n', c', ⟨pa, pn, pc⟩, a2, n2, c2, rfl, rfl, hbb, ⟨⟨y0, y1, y2, y3, y4⟩, hAx⟩, ⟨⟨x0, x1, x2, x3, x4⟩, hAy⟩⟩ := subs2 (CsW.b hC hB1)
  dsimp only at y3 x3
  have HX := Lib.hid (show ∀ (w' : World), Below W1.heap.size W1 w' → _ from fun w' h => hx bs (3 + 1) false fa fn fc ba bm bd ⟨qa, qn, qc⟩ a' n' c' w' (hF.below (bel_trans hB1 h)) (hB.below (bel_trans hB1 h)) hb hlx (ArWC.b hAx h) (by omega) (by omega))
  have HY := Lib.hid (show ∀ (w' : World), Below W1.heap.size W1 w' → _ from fun w' h => hy bs 3 last fa fn fc ba bm bd ⟨pa, pn, pc⟩ a2 n2 c2 w' (hF.below (bel_trans hB1 h)) (hB.below (bel_trans hB1 h)) hb hly (ArWC.b hAy h) (by omega) (by omega))
  have hm1 : (5 : Int) - (3 + 1) = 1 := rfl
  have hm2 : (5 : Int) - 3 = 2 := rfl
  have hm3 : (!false) = true := rfl
  have hm4 : (3 : Int) + 1 = 4 := rfl
  rw [hm1, hm3, hm4] at HX
  rw [hm2] at HY
  have cG := fun w => sign_any 8 (by omega) w
  have cL := fun w => loose_any 8 w
  have hlo : looseR 8 = 3 := rfl
  have hsgc : sgC 8 = ⟨#[32, 124, 32]⟩ := rfl
  rw [hlo] at cL
  rw [hsgc] at cG
  obtain ⟨sg, hsg⟩ : ∃ v : ByteArray, ⟨#[32, 124, 32]⟩ = v := ⟨_, rfl⟩
  have hsgz : sg.size ≤ 5 := by rw [← hsg]; decide
  rw [hsg] at cG ⊢
  obtain ⟨X1, e1⟩ : ∃ v, cT fr x bs 1 true ++ sg = v := ⟨_, rfl⟩
  have z1 : X1.size ≤ 1000000005 := by rw [← e1, ByteArray.size_append]; omega
  have r1 : ∀ w, (Op.stringOp .add (cT fr x bs 1 true) sg).run Tryz.prog w = .ok (.string X1) w := fun w => by rw [run_string_add_sum w _ _ (by omega), e1]
  have r2 : ∀ w, (Op.stringOp .add X1 (cT fr y bs 2 (!last))).run Tryz.prog w = .ok (.string (cT fr x bs 1 true ++ (sg ++ cT fr y bs 2 (!last)))) w := fun w => by rw [run_string_add_sum w _ _ (by omega), ← e1, ByteArray.append_assoc]
  clear hx hy hF hB hC hAx hAy hb hlx hly hsx hsy e1 z1 hsg hsgz hm1 hm2 hm3 hm4 hlo hsgc
  generalize (cT fr x bs 1 true ++ (sg ++ cT fr y bs 2 (!last))) = R at *
  generalize cT fr x bs 1 true = X at *
  generalize cT fr y bs 2 (!last) = Y at *
  generalize opC x = xo at *
  generalize nmC x = xs at *
  generalize soC x = xz at *
  generalize opC y = yo at *
  generalize nmC y = ys at *
  generalize soC y = yz at *
  dsimp only at HX HY
  have l1 : w.heap.size < W1.heap.size := by omega
  have HS := Lib.hid (show ∀ w', Below W1.heap.size W1 w' → (w'.cell? ⟨w.heap.size, 0, none⟩ = some (.int .i64 8) ∧ w'.cell? ⟨w.heap.size, 4, none⟩ = some (.slice (some ⟨bb, oo, none⟩) 2 c) ∧ w'.cell? ⟨bb, oo, none⟩ = some (.int .i64 xo) ∧ w'.cell? ⟨bb, oo + 1, none⟩ = some (.string xs) ∧ w'.cell? ⟨bb, oo + 1 + 1, none⟩ = some (.string xz) ∧ w'.cell? ⟨bb, oo + 1 + 1 + 1, none⟩ = some (.slice qa qn qc) ∧ w'.cell? ⟨bb, oo + 1 + 1 + 1 + 1, none⟩ = some (.slice a' n' c') ∧ w'.cell? ⟨bb, oo + 5, none⟩ = some (.int .i64 yo) ∧ w'.cell? ⟨bb, oo + 5 + 1, none⟩ = some (.string ys) ∧ w'.cell? ⟨bb, oo + 5 + 1 + 1, none⟩ = some (.string yz) ∧ w'.cell? ⟨bb, oo + 5 + 1 + 1 + 1, none⟩ = some (.slice pa pn pc) ∧ w'.cell? ⟨bb, oo + 5 + 1 + 1 + 1 + 1, none⟩ = some (.slice a2 n2 c2)) from fun w' h =>
    ⟨(h.cell (p := ⟨w.heap.size, 0, none⟩) l1).trans s0, (h.cell (p := ⟨w.heap.size, 4, none⟩) l1).trans s4,
      (h.cell (p := ⟨bb, _, none⟩) hbb).trans y0, (h.cell (p := ⟨bb, _, none⟩) hbb).trans y1, (h.cell (p := ⟨bb, _, none⟩) hbb).trans y2, (h.cell (p := ⟨bb, _, none⟩) hbb).trans y3, (h.cell (p := ⟨bb, _, none⟩) hbb).trans y4, (h.cell (p := ⟨bb, _, none⟩) hbb).trans x0, (h.cell (p := ⟨bb, _, none⟩) hbb).trans x1, (h.cell (p := ⟨bb, _, none⟩) hbb).trans x2, (h.cell (p := ⟨bb, _, none⟩) hbb).trans x3, (h.cell (p := ⟨bb, _, none⟩) hbb).trans x4⟩)
  have hwr : IntKind.i64.wrap 4 = 4 := by decide
  have hwr2 : IntKind.i64.wrap (3 + 1) = 4 := by decide
  clear S1
  go_enter Tryz.func40, Tryz.ntmps40
  go_wp2_with (go_at_call 78; ((with_reducible refine (cL _).mono ?_); rintro e w2 ⟨rfl, hw2⟩; subst hw2))
  have B2d : Below W1.heap.size W1 W1.drew := (Below.refl _ _).drew
  go_region_held3 (fun w' => w'.cell? ⟨w.heap.size, 0, none⟩ = some (.int .i64 8) ∧ w'.cell? ⟨w.heap.size, 4, none⟩ = some (.slice (some ⟨bb, oo, none⟩) 2 c) ∧ w'.cell? ⟨bb, oo, none⟩ = some (.int .i64 xo) ∧ w'.cell? ⟨bb, oo + 1, none⟩ = some (.string xs) ∧ w'.cell? ⟨bb, oo + 1 + 1, none⟩ = some (.string xz) ∧ w'.cell? ⟨bb, oo + 1 + 1 + 1, none⟩ = some (.slice qa qn qc) ∧ w'.cell? ⟨bb, oo + 1 + 1 + 1 + 1, none⟩ = some (.slice a' n' c') ∧ w'.cell? ⟨bb, oo + 5, none⟩ = some (.int .i64 yo) ∧ w'.cell? ⟨bb, oo + 5 + 1, none⟩ = some (.string ys) ∧ w'.cell? ⟨bb, oo + 5 + 1 + 1, none⟩ = some (.string yz) ∧ w'.cell? ⟨bb, oo + 5 + 1 + 1 + 1, none⟩ = some (.slice pa pn pc) ∧ w'.cell? ⟨bb, oo + 5 + 1 + 1 + 1 + 1, none⟩ = some (.slice a2 n2 c2))
    (first | exact HS.out _ B8 | exact HS.out _ B7 | exact HS.out _ B6 | exact HS.out _ B2d | go_keep)
    (first
      | (go_at_call 40; ((with_reducible refine (HX.out _ B2d).mono ?_); rintro e w6 ⟨rfl, hb6⟩; have B6 := bel_trans B2d hb6))
      | (go_at_call 79; ((with_reducible refine (cG _).mono ?_); rintro e w7 ⟨rfl, hb7⟩; have B7 := bel_trans B6 hb7))
      | (go_at_call 40; ((with_reducible refine (HY.out _ B7).mono ?_); rintro e w8 ⟨rfl, hb8⟩; have B8 := bel_trans B7 hb8)))
  go_wp2
  go_ret
  exact ⟨rfl, bel_trans hB1 B8⟩
set_option maxHeartbeats 8000000 in
theorem rclaim_two9 {fr bs : List ByteArray} (hb : shB bs) (x y : Cl) (hx : RClaimOk fr x) (hy : RClaimOk fr y) (hlx : bs.length + wt x ≤ 10000) (hly : bs.length + wt y ≤ 10000) (s so : ByteArray) (m : Int) (last : Bool) (fa : Option Addr) (fn fc : Nat) (ba : Option Addr) (bm bd : Nat) (ks : SS) (a : Option Addr) (n c : Nat) (w : World) (hF : SlS w fa fn fc fr) (hB : SlS w ba bm bd bs) (hC : CsW w a n c [x, y]) (hsx : (cT fr x bs 2 true).size ≤ 1000000000) (hsy : (cT fr y bs 3 (!last)).size ≤ 1000000000) (m0 : decide ((2 : Int) < m) = false) :
    Calls Tryz.prog 40 #[.agg #[.int .i64 9, .string s, .string so, .slice ks.a ks.n ks.c, .slice a n c], .slice fa fn fc, .slice ba bm bd, .int .i64 m, .bool last] w fun e w' => e = .returned (.string (cT fr x bs 2 true ++ (⟨#[32, 45, 62, 32]⟩ ++ cT fr y bs 3 (!last)))) ∧ Below w.heap.size w w' := by
  obtain ⟨ka, kn, kc⟩ := ks
  obtain ⟨W1, hW1, hB1, hs1, S1⟩ := cbox1 w 9 s so ⟨ka, kn, kc⟩ a n c
  dsimp only at *
  obtain ⟨s0, s1, s2, s3, s4⟩ := S1.five
  dsimp only at s3
  obtain ⟨bb, oo, ⟨qa, qn, qc⟩, a', n', c', ⟨pa, pn, pc⟩, a2, n2, c2, rfl, rfl, hbb, ⟨⟨y0, y1, y2, y3, y4⟩, hAx⟩, ⟨⟨x0, x1, x2, x3, x4⟩, hAy⟩⟩ := subs2 (CsW.b hC hB1)
  dsimp only at y3 x3
  have HX := Lib.hid (show ∀ (w' : World), Below W1.heap.size W1 w' → _ from fun w' h => hx bs (2 + 1) false fa fn fc ba bm bd ⟨qa, qn, qc⟩ a' n' c' w' (hF.below (bel_trans hB1 h)) (hB.below (bel_trans hB1 h)) hb hlx (ArWC.b hAx h) (by omega) (by omega))
  have HY := Lib.hid (show ∀ (w' : World), Below W1.heap.size W1 w' → _ from fun w' h => hy bs 2 last fa fn fc ba bm bd ⟨pa, pn, pc⟩ a2 n2 c2 w' (hF.below (bel_trans hB1 h)) (hB.below (bel_trans hB1 h)) hb hly (ArWC.b hAy h) (by omega) (by omega))
  have hm1 : (5 : Int) - (2 + 1) = 2 := rfl
  have hm2 : (5 : Int) - 2 = 3 := rfl
  have hm3 : (!false) = true := rfl
  have hm4 : (2 : Int) + 1 = 3 := rfl
  rw [hm1, hm3, hm4] at HX
  rw [hm2] at HY
  have cG := fun w => sign_any 9 (by omega) w
  have cL := fun w => loose_any 9 w
  have hlo : looseR 9 = 2 := rfl
  have hsgc : sgC 9 = ⟨#[32, 45, 62, 32]⟩ := rfl
  rw [hlo] at cL
  rw [hsgc] at cG
  obtain ⟨sg, hsg⟩ : ∃ v : ByteArray, ⟨#[32, 45, 62, 32]⟩ = v := ⟨_, rfl⟩
  have hsgz : sg.size ≤ 5 := by rw [← hsg]; decide
  rw [hsg] at cG ⊢
  obtain ⟨X1, e1⟩ : ∃ v, cT fr x bs 2 true ++ sg = v := ⟨_, rfl⟩
  have z1 : X1.size ≤ 1000000005 := by rw [← e1, ByteArray.size_append]; omega
  have r1 : ∀ w, (Op.stringOp .add (cT fr x bs 2 true) sg).run Tryz.prog w = .ok (.string X1) w := fun w => by rw [run_string_add_sum w _ _ (by omega), e1]
  have r2 : ∀ w, (Op.stringOp .add X1 (cT fr y bs 3 (!last))).run Tryz.prog w = .ok (.string (cT fr x bs 2 true ++ (sg ++ cT fr y bs 3 (!last)))) w := fun w => by rw [run_string_add_sum w _ _ (by omega), ← e1, ByteArray.append_assoc]
  clear hx hy hF hB hC hAx hAy hb hlx hly hsx hsy e1 z1 hsg hsgz hm1 hm2 hm3 hm4 hlo hsgc
  generalize (cT fr x bs 2 true ++ (sg ++ cT fr y bs 3 (!last))) = R at *
  generalize cT fr x bs 2 true = X at *
  generalize cT fr y bs 3 (!last) = Y at *
  generalize opC x = xo at *
  generalize nmC x = xs at *
  generalize soC x = xz at *
  generalize opC y = yo at *
  generalize nmC y = ys at *
  generalize soC y = yz at *
  dsimp only at HX HY
  have l1 : w.heap.size < W1.heap.size := by omega
  have HS := Lib.hid (show ∀ w', Below W1.heap.size W1 w' → (w'.cell? ⟨w.heap.size, 0, none⟩ = some (.int .i64 9) ∧ w'.cell? ⟨w.heap.size, 4, none⟩ = some (.slice (some ⟨bb, oo, none⟩) 2 c) ∧ w'.cell? ⟨bb, oo, none⟩ = some (.int .i64 xo) ∧ w'.cell? ⟨bb, oo + 1, none⟩ = some (.string xs) ∧ w'.cell? ⟨bb, oo + 1 + 1, none⟩ = some (.string xz) ∧ w'.cell? ⟨bb, oo + 1 + 1 + 1, none⟩ = some (.slice qa qn qc) ∧ w'.cell? ⟨bb, oo + 1 + 1 + 1 + 1, none⟩ = some (.slice a' n' c') ∧ w'.cell? ⟨bb, oo + 5, none⟩ = some (.int .i64 yo) ∧ w'.cell? ⟨bb, oo + 5 + 1, none⟩ = some (.string ys) ∧ w'.cell? ⟨bb, oo + 5 + 1 + 1, none⟩ = some (.string yz) ∧ w'.cell? ⟨bb, oo + 5 + 1 + 1 + 1, none⟩ = some (.slice pa pn pc) ∧ w'.cell? ⟨bb, oo + 5 + 1 + 1 + 1 + 1, none⟩ = some (.slice a2 n2 c2)) from fun w' h =>
    ⟨(h.cell (p := ⟨w.heap.size, 0, none⟩) l1).trans s0, (h.cell (p := ⟨w.heap.size, 4, none⟩) l1).trans s4,
      (h.cell (p := ⟨bb, _, none⟩) hbb).trans y0, (h.cell (p := ⟨bb, _, none⟩) hbb).trans y1, (h.cell (p := ⟨bb, _, none⟩) hbb).trans y2, (h.cell (p := ⟨bb, _, none⟩) hbb).trans y3, (h.cell (p := ⟨bb, _, none⟩) hbb).trans y4, (h.cell (p := ⟨bb, _, none⟩) hbb).trans x0, (h.cell (p := ⟨bb, _, none⟩) hbb).trans x1, (h.cell (p := ⟨bb, _, none⟩) hbb).trans x2, (h.cell (p := ⟨bb, _, none⟩) hbb).trans x3, (h.cell (p := ⟨bb, _, none⟩) hbb).trans x4⟩)
  have hwr : IntKind.i64.wrap 3 = 3 := by decide
  have hwr2 : IntKind.i64.wrap (2 + 1) = 3 := by decide
  clear S1
  go_enter Tryz.func40, Tryz.ntmps40
  go_wp2_with (go_at_call 78; ((with_reducible refine (cL _).mono ?_); rintro e w2 ⟨rfl, hw2⟩; subst hw2))
  have B2d : Below W1.heap.size W1 W1.drew := (Below.refl _ _).drew
  go_region_held3 (fun w' => w'.cell? ⟨w.heap.size, 0, none⟩ = some (.int .i64 9) ∧ w'.cell? ⟨w.heap.size, 4, none⟩ = some (.slice (some ⟨bb, oo, none⟩) 2 c) ∧ w'.cell? ⟨bb, oo, none⟩ = some (.int .i64 xo) ∧ w'.cell? ⟨bb, oo + 1, none⟩ = some (.string xs) ∧ w'.cell? ⟨bb, oo + 1 + 1, none⟩ = some (.string xz) ∧ w'.cell? ⟨bb, oo + 1 + 1 + 1, none⟩ = some (.slice qa qn qc) ∧ w'.cell? ⟨bb, oo + 1 + 1 + 1 + 1, none⟩ = some (.slice a' n' c') ∧ w'.cell? ⟨bb, oo + 5, none⟩ = some (.int .i64 yo) ∧ w'.cell? ⟨bb, oo + 5 + 1, none⟩ = some (.string ys) ∧ w'.cell? ⟨bb, oo + 5 + 1 + 1, none⟩ = some (.string yz) ∧ w'.cell? ⟨bb, oo + 5 + 1 + 1 + 1, none⟩ = some (.slice pa pn pc) ∧ w'.cell? ⟨bb, oo + 5 + 1 + 1 + 1 + 1, none⟩ = some (.slice a2 n2 c2))
    (first | exact HS.out _ B8 | exact HS.out _ B7 | exact HS.out _ B6 | exact HS.out _ B2d | go_keep)
    (first
      | (go_at_call 40; ((with_reducible refine (HX.out _ B2d).mono ?_); rintro e w6 ⟨rfl, hb6⟩; have B6 := bel_trans B2d hb6))
      | (go_at_call 79; ((with_reducible refine (cG _).mono ?_); rintro e w7 ⟨rfl, hb7⟩; have B7 := bel_trans B6 hb7))
      | (go_at_call 40; ((with_reducible refine (HY.out _ B7).mono ?_); rintro e w8 ⟨rfl, hb8⟩; have B8 := bel_trans B7 hb8)))
  go_wp2
  go_ret
  exact ⟨rfl, bel_trans hB1 B8⟩
set_option maxHeartbeats 8000000 in
theorem rclaim_two10 {fr bs : List ByteArray} (hb : shB bs) (x y : Cl) (hx : RClaimOk fr x) (hy : RClaimOk fr y) (hlx : bs.length + wt x ≤ 10000) (hly : bs.length + wt y ≤ 10000) (s so : ByteArray) (m : Int) (last : Bool) (fa : Option Addr) (fn fc : Nat) (ba : Option Addr) (bm bd : Nat) (ks : SS) (a : Option Addr) (n c : Nat) (w : World) (hF : SlS w fa fn fc fr) (hB : SlS w ba bm bd bs) (hC : CsW w a n c [x, y]) (hsx : (cT fr x bs 3 true).size ≤ 1000000000) (hsy : (cT fr y bs 4 (!last)).size ≤ 1000000000) (m0 : decide ((1 : Int) < m) = false) :
    Calls Tryz.prog 40 #[.agg #[.int .i64 10, .string s, .string so, .slice ks.a ks.n ks.c, .slice a n c], .slice fa fn fc, .slice ba bm bd, .int .i64 m, .bool last] w fun e w' => e = .returned (.string (cT fr x bs 3 true ++ (⟨#[32, 60, 45, 62, 32]⟩ ++ cT fr y bs 4 (!last)))) ∧ Below w.heap.size w w' := by
  obtain ⟨ka, kn, kc⟩ := ks
  obtain ⟨W1, hW1, hB1, hs1, S1⟩ := cbox1 w 10 s so ⟨ka, kn, kc⟩ a n c
  dsimp only at *
  obtain ⟨s0, s1, s2, s3, s4⟩ := S1.five
  dsimp only at s3
  obtain ⟨bb, oo, ⟨qa, qn, qc⟩, a', n', c', ⟨pa, pn, pc⟩, a2, n2, c2, rfl, rfl, hbb, ⟨⟨y0, y1, y2, y3, y4⟩, hAx⟩, ⟨⟨x0, x1, x2, x3, x4⟩, hAy⟩⟩ := subs2 (CsW.b hC hB1)
  dsimp only at y3 x3
  have HX := Lib.hid (show ∀ (w' : World), Below W1.heap.size W1 w' → _ from fun w' h => hx bs (1 + 1) false fa fn fc ba bm bd ⟨qa, qn, qc⟩ a' n' c' w' (hF.below (bel_trans hB1 h)) (hB.below (bel_trans hB1 h)) hb hlx (ArWC.b hAx h) (by omega) (by omega))
  have HY := Lib.hid (show ∀ (w' : World), Below W1.heap.size W1 w' → _ from fun w' h => hy bs 1 last fa fn fc ba bm bd ⟨pa, pn, pc⟩ a2 n2 c2 w' (hF.below (bel_trans hB1 h)) (hB.below (bel_trans hB1 h)) hb hly (ArWC.b hAy h) (by omega) (by omega))
  have hm1 : (5 : Int) - (1 + 1) = 3 := rfl
  have hm2 : (5 : Int) - 1 = 4 := rfl
  have hm3 : (!false) = true := rfl
  have hm4 : (1 : Int) + 1 = 2 := rfl
  rw [hm1, hm3, hm4] at HX
  rw [hm2] at HY
  have cG := fun w => sign_any 10 (by omega) w
  have cL := fun w => loose_any 10 w
  have hlo : looseR 10 = 1 := rfl
  have hsgc : sgC 10 = ⟨#[32, 60, 45, 62, 32]⟩ := rfl
  rw [hlo] at cL
  rw [hsgc] at cG
  obtain ⟨sg, hsg⟩ : ∃ v : ByteArray, ⟨#[32, 60, 45, 62, 32]⟩ = v := ⟨_, rfl⟩
  have hsgz : sg.size ≤ 5 := by rw [← hsg]; decide
  rw [hsg] at cG ⊢
  obtain ⟨X1, e1⟩ : ∃ v, cT fr x bs 3 true ++ sg = v := ⟨_, rfl⟩
  have z1 : X1.size ≤ 1000000005 := by rw [← e1, ByteArray.size_append]; omega
  have r1 : ∀ w, (Op.stringOp .add (cT fr x bs 3 true) sg).run Tryz.prog w = .ok (.string X1) w := fun w => by rw [run_string_add_sum w _ _ (by omega), e1]
  have r2 : ∀ w, (Op.stringOp .add X1 (cT fr y bs 4 (!last))).run Tryz.prog w = .ok (.string (cT fr x bs 3 true ++ (sg ++ cT fr y bs 4 (!last)))) w := fun w => by rw [run_string_add_sum w _ _ (by omega), ← e1, ByteArray.append_assoc]
  clear hx hy hF hB hC hAx hAy hb hlx hly hsx hsy e1 z1 hsg hsgz hm1 hm2 hm3 hm4 hlo hsgc
  generalize (cT fr x bs 3 true ++ (sg ++ cT fr y bs 4 (!last))) = R at *
  generalize cT fr x bs 3 true = X at *
  generalize cT fr y bs 4 (!last) = Y at *
  generalize opC x = xo at *
  generalize nmC x = xs at *
  generalize soC x = xz at *
  generalize opC y = yo at *
  generalize nmC y = ys at *
  generalize soC y = yz at *
  dsimp only at HX HY
  have l1 : w.heap.size < W1.heap.size := by omega
  have HS := Lib.hid (show ∀ w', Below W1.heap.size W1 w' → (w'.cell? ⟨w.heap.size, 0, none⟩ = some (.int .i64 10) ∧ w'.cell? ⟨w.heap.size, 4, none⟩ = some (.slice (some ⟨bb, oo, none⟩) 2 c) ∧ w'.cell? ⟨bb, oo, none⟩ = some (.int .i64 xo) ∧ w'.cell? ⟨bb, oo + 1, none⟩ = some (.string xs) ∧ w'.cell? ⟨bb, oo + 1 + 1, none⟩ = some (.string xz) ∧ w'.cell? ⟨bb, oo + 1 + 1 + 1, none⟩ = some (.slice qa qn qc) ∧ w'.cell? ⟨bb, oo + 1 + 1 + 1 + 1, none⟩ = some (.slice a' n' c') ∧ w'.cell? ⟨bb, oo + 5, none⟩ = some (.int .i64 yo) ∧ w'.cell? ⟨bb, oo + 5 + 1, none⟩ = some (.string ys) ∧ w'.cell? ⟨bb, oo + 5 + 1 + 1, none⟩ = some (.string yz) ∧ w'.cell? ⟨bb, oo + 5 + 1 + 1 + 1, none⟩ = some (.slice pa pn pc) ∧ w'.cell? ⟨bb, oo + 5 + 1 + 1 + 1 + 1, none⟩ = some (.slice a2 n2 c2)) from fun w' h =>
    ⟨(h.cell (p := ⟨w.heap.size, 0, none⟩) l1).trans s0, (h.cell (p := ⟨w.heap.size, 4, none⟩) l1).trans s4,
      (h.cell (p := ⟨bb, _, none⟩) hbb).trans y0, (h.cell (p := ⟨bb, _, none⟩) hbb).trans y1, (h.cell (p := ⟨bb, _, none⟩) hbb).trans y2, (h.cell (p := ⟨bb, _, none⟩) hbb).trans y3, (h.cell (p := ⟨bb, _, none⟩) hbb).trans y4, (h.cell (p := ⟨bb, _, none⟩) hbb).trans x0, (h.cell (p := ⟨bb, _, none⟩) hbb).trans x1, (h.cell (p := ⟨bb, _, none⟩) hbb).trans x2, (h.cell (p := ⟨bb, _, none⟩) hbb).trans x3, (h.cell (p := ⟨bb, _, none⟩) hbb).trans x4⟩)
  have hwr : IntKind.i64.wrap 2 = 2 := by decide
  have hwr2 : IntKind.i64.wrap (1 + 1) = 2 := by decide
  clear S1
  go_enter Tryz.func40, Tryz.ntmps40
  go_wp2_with (go_at_call 78; ((with_reducible refine (cL _).mono ?_); rintro e w2 ⟨rfl, hw2⟩; subst hw2))
  have B2d : Below W1.heap.size W1 W1.drew := (Below.refl _ _).drew
  go_region_held3 (fun w' => w'.cell? ⟨w.heap.size, 0, none⟩ = some (.int .i64 10) ∧ w'.cell? ⟨w.heap.size, 4, none⟩ = some (.slice (some ⟨bb, oo, none⟩) 2 c) ∧ w'.cell? ⟨bb, oo, none⟩ = some (.int .i64 xo) ∧ w'.cell? ⟨bb, oo + 1, none⟩ = some (.string xs) ∧ w'.cell? ⟨bb, oo + 1 + 1, none⟩ = some (.string xz) ∧ w'.cell? ⟨bb, oo + 1 + 1 + 1, none⟩ = some (.slice qa qn qc) ∧ w'.cell? ⟨bb, oo + 1 + 1 + 1 + 1, none⟩ = some (.slice a' n' c') ∧ w'.cell? ⟨bb, oo + 5, none⟩ = some (.int .i64 yo) ∧ w'.cell? ⟨bb, oo + 5 + 1, none⟩ = some (.string ys) ∧ w'.cell? ⟨bb, oo + 5 + 1 + 1, none⟩ = some (.string yz) ∧ w'.cell? ⟨bb, oo + 5 + 1 + 1 + 1, none⟩ = some (.slice pa pn pc) ∧ w'.cell? ⟨bb, oo + 5 + 1 + 1 + 1 + 1, none⟩ = some (.slice a2 n2 c2))
    (first | exact HS.out _ B8 | exact HS.out _ B7 | exact HS.out _ B6 | exact HS.out _ B2d | go_keep)
    (first
      | (go_at_call 40; ((with_reducible refine (HX.out _ B2d).mono ?_); rintro e w6 ⟨rfl, hb6⟩; have B6 := bel_trans B2d hb6))
      | (go_at_call 79; ((with_reducible refine (cG _).mono ?_); rintro e w7 ⟨rfl, hb7⟩; have B7 := bel_trans B6 hb7))
      | (go_at_call 40; ((with_reducible refine (HY.out _ B7).mono ?_); rintro e w8 ⟨rfl, hb8⟩; have B8 := bel_trans B7 hb8)))
  go_wp2
  go_ret
  exact ⟨rfl, bel_trans hB1 B8⟩
set_option maxHeartbeats 8000000 in
theorem rclaim_wrap7 {fr bs : List ByteArray} (SUBS : List Cl) (TS : List Tm) (R : ByteArray) (hsx : R.size ≤ 1000000000) (s so : ByteArray) (m : Int) (last : Bool) (fa : Option Addr) (fn fc : Nat) (ba : Option Addr) (bm bd : Nat) (ks : SS) (a : Option Addr) (n c : Nat) (w : World) (hF : SlS w fa fn fc fr) (hB : SlS w ba bm bd bs) (hcore : ∀ (w : World), SlS w fa fn fc fr → SlS w ba bm bd bs → CsW w a n c SUBS → KsW w ks TS → Calls Tryz.prog 40 #[.agg #[.int .i64 7, .string s, .string so, .slice ks.a ks.n ks.c, .slice a n c], .slice fa fn fc, .slice ba bm bd, .int .i64 1, .bool true] w fun e w' => e = .returned (.string R) ∧ Below w.heap.size w w') (hd : decide ((4 : Int) < m) = true) (hS : CsW w a n c SUBS) (hK : KsW w ks TS) :
    Calls Tryz.prog 40 #[.agg #[.int .i64 7, .string s, .string so, .slice ks.a ks.n ks.c, .slice a n c], .slice fa fn fc, .slice ba bm bd, .int .i64 m, .bool last] w fun e w' => e = .returned (.string (par true R)) ∧ Below w.heap.size w w' := by
  obtain ⟨ka, kn, kc⟩ := ks
  obtain ⟨W1, hW1, hB1, hs1, S1⟩ := cbox1 w 7 s so ⟨ka, kn, kc⟩ a n c
  dsimp only at *
  obtain ⟨s0, s1, s2, s3, s4⟩ := S1.five
  dsimp only at s3
  have cx := hcore W1 (hF.below hB1) (hB.below hB1) (CsW.b hS hB1) (TsW.b hK hB1)
  have cP := fun w => brackets_any R (by omega) w
  clear S1 hcore hS hK hF hB
  have cL := fun w => loose_any 7 w
  have hlo : looseR 7 = 4 := rfl
  rw [hlo] at cL
  clear hlo
  go_enter Tryz.func40, Tryz.ntmps40
  go_wp2_with (first
    | (go_at_call 78; ((with_reducible refine (cL _).mono ?_); rintro e w2 ⟨rfl, hw2⟩; subst hw2))
    | (go_at_call 40; ((with_reducible refine cx.mono ?_); rintro e w6 ⟨rfl, hb6⟩))
    | (go_at_call 61; ((with_reducible refine (cP _).mono ?_); rintro e w9 ⟨rfl, hb9⟩)))
  go_ret
  exact ⟨rfl, bel_trans (bel_trans hB1 hb6) hb9⟩
set_option maxHeartbeats 8000000 in
theorem rclaim_wrap8 {fr bs : List ByteArray} (SUBS : List Cl) (TS : List Tm) (R : ByteArray) (hsx : R.size ≤ 1000000000) (s so : ByteArray) (m : Int) (last : Bool) (fa : Option Addr) (fn fc : Nat) (ba : Option Addr) (bm bd : Nat) (ks : SS) (a : Option Addr) (n c : Nat) (w : World) (hF : SlS w fa fn fc fr) (hB : SlS w ba bm bd bs) (hcore : ∀ (w : World), SlS w fa fn fc fr → SlS w ba bm bd bs → CsW w a n c SUBS → KsW w ks TS → Calls Tryz.prog 40 #[.agg #[.int .i64 8, .string s, .string so, .slice ks.a ks.n ks.c, .slice a n c], .slice fa fn fc, .slice ba bm bd, .int .i64 1, .bool true] w fun e w' => e = .returned (.string R) ∧ Below w.heap.size w w') (hd : decide ((3 : Int) < m) = true) (hS : CsW w a n c SUBS) (hK : KsW w ks TS) :
    Calls Tryz.prog 40 #[.agg #[.int .i64 8, .string s, .string so, .slice ks.a ks.n ks.c, .slice a n c], .slice fa fn fc, .slice ba bm bd, .int .i64 m, .bool last] w fun e w' => e = .returned (.string (par true R)) ∧ Below w.heap.size w w' := by
  obtain ⟨ka, kn, kc⟩ := ks
  obtain ⟨W1, hW1, hB1, hs1, S1⟩ := cbox1 w 8 s so ⟨ka, kn, kc⟩ a n c
  dsimp only at *
  obtain ⟨s0, s1, s2, s3, s4⟩ := S1.five
  dsimp only at s3
  have cx := hcore W1 (hF.below hB1) (hB.below hB1) (CsW.b hS hB1) (TsW.b hK hB1)
  have cP := fun w => brackets_any R (by omega) w
  clear S1 hcore hS hK hF hB
  have cL := fun w => loose_any 8 w
  have hlo : looseR 8 = 3 := rfl
  rw [hlo] at cL
  clear hlo
  go_enter Tryz.func40, Tryz.ntmps40
  go_wp2_with (first
    | (go_at_call 78; ((with_reducible refine (cL _).mono ?_); rintro e w2 ⟨rfl, hw2⟩; subst hw2))
    | (go_at_call 40; ((with_reducible refine cx.mono ?_); rintro e w6 ⟨rfl, hb6⟩))
    | (go_at_call 61; ((with_reducible refine (cP _).mono ?_); rintro e w9 ⟨rfl, hb9⟩)))
  go_ret
  exact ⟨rfl, bel_trans (bel_trans hB1 hb6) hb9⟩
set_option maxHeartbeats 8000000 in
theorem rclaim_wrap9 {fr bs : List ByteArray} (SUBS : List Cl) (TS : List Tm) (R : ByteArray) (hsx : R.size ≤ 1000000000) (s so : ByteArray) (m : Int) (last : Bool) (fa : Option Addr) (fn fc : Nat) (ba : Option Addr) (bm bd : Nat) (ks : SS) (a : Option Addr) (n c : Nat) (w : World) (hF : SlS w fa fn fc fr) (hB : SlS w ba bm bd bs) (hcore : ∀ (w : World), SlS w fa fn fc fr → SlS w ba bm bd bs → CsW w a n c SUBS → KsW w ks TS → Calls Tryz.prog 40 #[.agg #[.int .i64 9, .string s, .string so, .slice ks.a ks.n ks.c, .slice a n c], .slice fa fn fc, .slice ba bm bd, .int .i64 1, .bool true] w fun e w' => e = .returned (.string R) ∧ Below w.heap.size w w') (hd : decide ((2 : Int) < m) = true) (hS : CsW w a n c SUBS) (hK : KsW w ks TS) :
    Calls Tryz.prog 40 #[.agg #[.int .i64 9, .string s, .string so, .slice ks.a ks.n ks.c, .slice a n c], .slice fa fn fc, .slice ba bm bd, .int .i64 m, .bool last] w fun e w' => e = .returned (.string (par true R)) ∧ Below w.heap.size w w' := by
  obtain ⟨ka, kn, kc⟩ := ks
  obtain ⟨W1, hW1, hB1, hs1, S1⟩ := cbox1 w 9 s so ⟨ka, kn, kc⟩ a n c
  dsimp only at *
  obtain ⟨s0, s1, s2, s3, s4⟩ := S1.five
  dsimp only at s3
  have cx := hcore W1 (hF.below hB1) (hB.below hB1) (CsW.b hS hB1) (TsW.b hK hB1)
  have cP := fun w => brackets_any R (by omega) w
  clear S1 hcore hS hK hF hB
  have cL := fun w => loose_any 9 w
  have hlo : looseR 9 = 2 := rfl
  rw [hlo] at cL
  clear hlo
  go_enter Tryz.func40, Tryz.ntmps40
  go_wp2_with (first
    | (go_at_call 78; ((with_reducible refine (cL _).mono ?_); rintro e w2 ⟨rfl, hw2⟩; subst hw2))
    | (go_at_call 40; ((with_reducible refine cx.mono ?_); rintro e w6 ⟨rfl, hb6⟩))
    | (go_at_call 61; ((with_reducible refine (cP _).mono ?_); rintro e w9 ⟨rfl, hb9⟩)))
  go_ret
  exact ⟨rfl, bel_trans (bel_trans hB1 hb6) hb9⟩
set_option maxHeartbeats 8000000 in
theorem rclaim_wrap10 {fr bs : List ByteArray} (SUBS : List Cl) (TS : List Tm) (R : ByteArray) (hsx : R.size ≤ 1000000000) (s so : ByteArray) (m : Int) (last : Bool) (fa : Option Addr) (fn fc : Nat) (ba : Option Addr) (bm bd : Nat) (ks : SS) (a : Option Addr) (n c : Nat) (w : World) (hF : SlS w fa fn fc fr) (hB : SlS w ba bm bd bs) (hcore : ∀ (w : World), SlS w fa fn fc fr → SlS w ba bm bd bs → CsW w a n c SUBS → KsW w ks TS → Calls Tryz.prog 40 #[.agg #[.int .i64 10, .string s, .string so, .slice ks.a ks.n ks.c, .slice a n c], .slice fa fn fc, .slice ba bm bd, .int .i64 1, .bool true] w fun e w' => e = .returned (.string R) ∧ Below w.heap.size w w') (hd : decide ((1 : Int) < m) = true) (hS : CsW w a n c SUBS) (hK : KsW w ks TS) :
    Calls Tryz.prog 40 #[.agg #[.int .i64 10, .string s, .string so, .slice ks.a ks.n ks.c, .slice a n c], .slice fa fn fc, .slice ba bm bd, .int .i64 m, .bool last] w fun e w' => e = .returned (.string (par true R)) ∧ Below w.heap.size w w' := by
  obtain ⟨ka, kn, kc⟩ := ks
  obtain ⟨W1, hW1, hB1, hs1, S1⟩ := cbox1 w 10 s so ⟨ka, kn, kc⟩ a n c
  dsimp only at *
  obtain ⟨s0, s1, s2, s3, s4⟩ := S1.five
  dsimp only at s3
  have cx := hcore W1 (hF.below hB1) (hB.below hB1) (CsW.b hS hB1) (TsW.b hK hB1)
  have cP := fun w => brackets_any R (by omega) w
  clear S1 hcore hS hK hF hB
  have cL := fun w => loose_any 10 w
  have hlo : looseR 10 = 1 := rfl
  rw [hlo] at cL
  clear hlo
  go_enter Tryz.func40, Tryz.ntmps40
  go_wp2_with (first
    | (go_at_call 78; ((with_reducible refine (cL _).mono ?_); rintro e w2 ⟨rfl, hw2⟩; subst hw2))
    | (go_at_call 40; ((with_reducible refine cx.mono ?_); rintro e w6 ⟨rfl, hb6⟩))
    | (go_at_call 61; ((with_reducible refine (cP _).mono ?_); rintro e w9 ⟨rfl, hb9⟩)))
  go_ret
  exact ⟨rfl, bel_trans (bel_trans hB1 hb6) hb9⟩
set_option maxHeartbeats 8000000 in
theorem rclaim_wrap11 {fr bs : List ByteArray} (SUBS : List Cl) (TS : List Tm) (R : ByteArray) (hsx : R.size ≤ 1000000000) (s so : ByteArray) (m : Int) (fa : Option Addr) (fn fc : Nat) (ba : Option Addr) (bm bd : Nat) (ks : SS) (a : Option Addr) (n c : Nat) (w : World) (hF : SlS w fa fn fc fr) (hB : SlS w ba bm bd bs) (hcore : ∀ (w : World), SlS w fa fn fc fr → SlS w ba bm bd bs → CsW w a n c SUBS → KsW w ks TS → Calls Tryz.prog 40 #[.agg #[.int .i64 11, .string s, .string so, .slice ks.a ks.n ks.c, .slice a n c], .slice fa fn fc, .slice ba bm bd, .int .i64 1, .bool true] w fun e w' => e = .returned (.string R) ∧ Below w.heap.size w w') (hS : CsW w a n c SUBS) (hK : KsW w ks TS) :
    Calls Tryz.prog 40 #[.agg #[.int .i64 11, .string s, .string so, .slice ks.a ks.n ks.c, .slice a n c], .slice fa fn fc, .slice ba bm bd, .int .i64 m, .bool false] w fun e w' => e = .returned (.string (par true R)) ∧ Below w.heap.size w w' := by
  obtain ⟨ka, kn, kc⟩ := ks
  obtain ⟨W1, hW1, hB1, hs1, S1⟩ := cbox1 w 11 s so ⟨ka, kn, kc⟩ a n c
  dsimp only at *
  obtain ⟨s0, s1, s2, s3, s4⟩ := S1.five
  dsimp only at s3
  have cx := hcore W1 (hF.below hB1) (hB.below hB1) (CsW.b hS hB1) (TsW.b hK hB1)
  have cP := fun w => brackets_any R (by omega) w
  clear S1 hcore hS hK hF hB
  go_enter Tryz.func40, Tryz.ntmps40
  go_wp2_with (first
    | (go_at_call 40; ((with_reducible refine cx.mono ?_); rintro e w6 ⟨rfl, hb6⟩))
    | (go_at_call 61; ((with_reducible refine (cP _).mono ?_); rintro e w9 ⟨rfl, hb9⟩)))
  go_ret
  exact ⟨rfl, bel_trans (bel_trans hB1 hb6) hb9⟩
set_option maxHeartbeats 8000000 in
theorem rclaim_wrap12 {fr bs : List ByteArray} (SUBS : List Cl) (TS : List Tm) (R : ByteArray) (hsx : R.size ≤ 1000000000) (s so : ByteArray) (m : Int) (fa : Option Addr) (fn fc : Nat) (ba : Option Addr) (bm bd : Nat) (ks : SS) (a : Option Addr) (n c : Nat) (w : World) (hF : SlS w fa fn fc fr) (hB : SlS w ba bm bd bs) (hcore : ∀ (w : World), SlS w fa fn fc fr → SlS w ba bm bd bs → CsW w a n c SUBS → KsW w ks TS → Calls Tryz.prog 40 #[.agg #[.int .i64 12, .string s, .string so, .slice ks.a ks.n ks.c, .slice a n c], .slice fa fn fc, .slice ba bm bd, .int .i64 1, .bool true] w fun e w' => e = .returned (.string R) ∧ Below w.heap.size w w') (hS : CsW w a n c SUBS) (hK : KsW w ks TS) :
    Calls Tryz.prog 40 #[.agg #[.int .i64 12, .string s, .string so, .slice ks.a ks.n ks.c, .slice a n c], .slice fa fn fc, .slice ba bm bd, .int .i64 m, .bool false] w fun e w' => e = .returned (.string (par true R)) ∧ Below w.heap.size w w' := by
  obtain ⟨ka, kn, kc⟩ := ks
  obtain ⟨W1, hW1, hB1, hs1, S1⟩ := cbox1 w 12 s so ⟨ka, kn, kc⟩ a n c
  dsimp only at *
  obtain ⟨s0, s1, s2, s3, s4⟩ := S1.five
  dsimp only at s3
  have cx := hcore W1 (hF.below hB1) (hB.below hB1) (CsW.b hS hB1) (TsW.b hK hB1)
  have cP := fun w => brackets_any R (by omega) w
  clear S1 hcore hS hK hF hB
  go_enter Tryz.func40, Tryz.ntmps40
  go_wp2_with (first
    | (go_at_call 40; ((with_reducible refine cx.mono ?_); rintro e w6 ⟨rfl, hb6⟩))
    | (go_at_call 61; ((with_reducible refine (cP _).mono ?_); rintro e w9 ⟨rfl, hb9⟩)))
  go_ret
  exact ⟨rfl, bel_trans (bel_trans hB1 hb6) hb9⟩
set_option maxHeartbeats 8000000 in
theorem rclaim_bind11 {fr bs : List ByteArray} (hb : shB bs) (hfl : (fr ++ bs).length ≤ 900000) (x : Cl) (hx : RClaimOk fr x) (hl : bs.length + 1 + wt x ≤ 10000) (s so : ByteArray) (m : Int) (fa : Option Addr) (fn fc : Nat) (ba : Option Addr) (bm bd : Nat) (ks : SS) (a : Option Addr) (n c : Nat) (w : World) (hF : SlS w fa fn fc fr) (hB : SlS w ba bm bd bs) (hs : s.size ≤ 100) (hso : so.size ≤ 100) (hC : CsW w a n c [x]) (hsx : (cT fr x (bs ++ [(bname (fr ++ bs) s)]) 4 false).size ≤ 1000000000) :
    Calls Tryz.prog 40 #[.agg #[.int .i64 11, .string s, .string so, .slice ks.a ks.n ks.c, .slice a n c], .slice fa fn fc, .slice ba bm bd, .int .i64 m, .bool true] w fun e w' => e = .returned (.string (⟨#[33]⟩ ++ (((bname (fr ++ bs) s) ++ (⟨#[58, 32]⟩ ++ so)) ++ (⟨#[46, 32]⟩ ++ cT fr x (bs ++ [(bname (fr ++ bs) s)]) 4 false)))) ∧ Below w.heap.size w w' := by
  obtain ⟨ka, kn, kc⟩ := ks
  obtain ⟨W1, hW1, hB1, hs1, S1⟩ := cbox1 w 11 s so ⟨ka, kn, kc⟩ a n c
  dsimp only at *
  obtain ⟨s0, s1, s2, s3, s4⟩ := S1.five
  dsimp only at s3
  have hNs : (bname (fr ++ bs) s).size ≤ 32 := bname_size (by omega) s
  have hb2 := shB_snoc (K := 0) hb (by omega) (show (bname (fr ++ bs) s).size ≤ 40 by omega)
  have hl1 : fr.length + bs.length ≤ 900000 := by rw [List.length_append] at hfl; exact hfl
  have hfn : fn = fr.length := hF.1.1
  have hbn : bm = bs.length := hB.1.1
  have hfn1 : fn ≤ 900000 := by omega
  have hbn1 : bm ≤ 900000 := by omega
  have HC := Lib.hid (show ∀ (A : Option Addr) (C L : Nat) (w' : World), (fr ++ bs).length = L → IsS w' A L (fr ++ bs) → _ from fun A C L w' e h => called_any s hs (fr ++ bs) A L C w' h (by omega))
  obtain ⟨bb, oo, ⟨qa, qn, qc⟩, a', n', c', rfl, rfl, hbb, ⟨y0, y1, y2, y3, y4⟩, hAx⟩ := subs1 (CsW.b hC hB1)
  dsimp only at y3
  have HX := Lib.hid (show ∀ (P : Option Addr) (C : Nat) (w' : World), Below W1.heap.size W1 w' → SlS w' P (bs ++ [bname (fr ++ bs) s]).length C (bs ++ [bname (fr ++ bs) s]) → _ from fun P C w' h hp => hx (bs ++ [bname (fr ++ bs) s]) 1 true fa fn fc P (bs ++ [bname (fr ++ bs) s]).length C ⟨qa, qn, qc⟩ a' n' c' w' (hF.below (bel_trans hB1 h)) hp hb2 (by rw [List.length_append, List.length_singleton]; exact hl) (ArWC.b hAx h) (by omega) (by omega))
  have h4 : (5 : Int) - 1 = 4 := rfl
  have hnt : (!true) = false := rfl
  rw [h4, hnt] at HX
  have HFr := Lib.hid (show ∀ w', Below W1.heap.size W1 w' → SlS w' fa fn fc fr from fun w' h => hF.below (bel_trans hB1 h))
  have HBs := Lib.hid (show ∀ w', Below W1.heap.size W1 w' → SlS w' ba bm bd bs from fun w' h => hB.below (bel_trans hB1 h))
  have hlen2 : bs.length + 1 ≤ 900001 := by omega
  have hblen : bs.length ≤ 900000 := by omega
  have hflen : fr.length ≤ 900000 := by omega
  clear hx hl hC hAx hb2 hb hF hB h4 hnt hfn hbn
  have hc2 : (⟨#[58, 32]⟩ : ByteArray).size = 2 := rfl
  have hd : (⟨#[46, 32]⟩ : ByteArray).size = 2 := rfl
  obtain ⟨NMv, hNM⟩ : ∃ v, bname (fr ++ bs) s = v := ⟨_, rfl⟩
  rw [hNM] at hNs HX HC hsx ⊢
  obtain ⟨Y, hY⟩ : ∃ v, cT fr x (bs ++ [NMv]) 4 false = v := ⟨_, rfl⟩
  rw [hY] at hsx HX
  obtain ⟨mk, hmk⟩ : ∃ v : ByteArray, ⟨#[33]⟩ = v := ⟨_, rfl⟩
  have hmkz : mk.size = 1 := by rw [← hmk]; rfl
  obtain ⟨X1, e1⟩ : ∃ v, mk ++ NMv = v := ⟨_, rfl⟩
  obtain ⟨X2, e2⟩ : ∃ v, X1 ++ (⟨#[58, 32]⟩ : ByteArray) = v := ⟨_, rfl⟩
  obtain ⟨X3, e3⟩ : ∃ v, X2 ++ so = v := ⟨_, rfl⟩
  obtain ⟨X4, e4⟩ : ∃ v, X3 ++ (⟨#[46, 32]⟩ : ByteArray) = v := ⟨_, rfl⟩
  have e5 : X4 ++ Y = ⟨#[33]⟩ ++ ((NMv ++ (⟨#[58, 32]⟩ ++ so)) ++ (⟨#[46, 32]⟩ ++ cT fr x (bs ++ [NMv]) 4 false)) := by
    rw [hY, ← e4, ← e3, ← e2, ← e1, hmk]; simp only [ByteArray.append_assoc]
  have z1 : X1.size ≤ 33 := by rw [← e1, ByteArray.size_append]; omega
  have z2 : X2.size ≤ 35 := by rw [← e2, ByteArray.size_append]; omega
  have z3 : X3.size ≤ 135 := by rw [← e3, ByteArray.size_append]; omega
  have z4 : X4.size ≤ 137 := by rw [← e4, ByteArray.size_append]; omega
  have r1 : ∀ w, (Op.stringOp .add ⟨#[33]⟩ NMv).run Tryz.prog w = .ok (.string X1) w := fun w => by rw [hmk, run_string_add_sum w _ _ (by omega), e1]
  have r2 : ∀ w, (Op.stringOp .add X1 ⟨#[58, 32]⟩).run Tryz.prog w = .ok (.string X2) w := fun w => by rw [run_string_add_sum w _ _ (by omega), e2]
  have r3 : ∀ w, (Op.stringOp .add X2 so).run Tryz.prog w = .ok (.string X3) w := fun w => by rw [run_string_add_sum w _ _ (by omega), e3]
  have r4 : ∀ w, (Op.stringOp .add X3 ⟨#[46, 32]⟩).run Tryz.prog w = .ok (.string X4) w := fun w => by rw [run_string_add_sum w _ _ (by omega), e4]
  have r5 : ∀ w, (Op.stringOp .add X4 Y).run Tryz.prog w = .ok (.string (X4 ++ Y)) w := fun w => by rw [run_string_add_sum w _ _ (by omega)]
  rw [← e5]
  clear e1 e2 e3 e4 e5 z1 z2 z3 z4 hd hc2 hmkz hsx hmk hY hNM hNs
  generalize X4 ++ Y = R at *
  generalize opC x = xo at *
  generalize nmC x = xs at *
  generalize soC x = xz at *
  dsimp only at HX
  have l1 : w.heap.size < W1.heap.size := by omega
  have HS := Lib.hid (show ∀ w', Below W1.heap.size W1 w' → (w'.cell? ⟨w.heap.size, 0, none⟩ = some (.int .i64 11) ∧ w'.cell? ⟨w.heap.size, 1, none⟩ = some (.string s) ∧ w'.cell? ⟨w.heap.size, 2, none⟩ = some (.string so) ∧ w'.cell? ⟨w.heap.size, 4, none⟩ = some (.slice (some ⟨bb, oo, none⟩) 1 c) ∧ w'.cell? ⟨bb, oo, none⟩ = some (.int .i64 xo) ∧ w'.cell? ⟨bb, oo + 1, none⟩ = some (.string xs) ∧ w'.cell? ⟨bb, oo + 1 + 1, none⟩ = some (.string xz) ∧ w'.cell? ⟨bb, oo + 1 + 1 + 1, none⟩ = some (.slice qa qn qc) ∧ w'.cell? ⟨bb, oo + 1 + 1 + 1 + 1, none⟩ = some (.slice a' n' c')) from fun w' h =>
    ⟨(h.cell (p := ⟨w.heap.size, 0, none⟩) l1).trans s0, (h.cell (p := ⟨w.heap.size, 1, none⟩) l1).trans s1, (h.cell (p := ⟨w.heap.size, 2, none⟩) l1).trans s2, (h.cell (p := ⟨w.heap.size, 4, none⟩) l1).trans s4,
      (h.cell (p := ⟨bb, _, none⟩) hbb).trans y0, (h.cell (p := ⟨bb, _, none⟩) hbb).trans y1, (h.cell (p := ⟨bb, _, none⟩) hbb).trans y2, (h.cell (p := ⟨bb, _, none⟩) hbb).trans y3, (h.cell (p := ⟨bb, _, none⟩) hbb).trans y4⟩)
  clear S1 hs1
  go_enter Tryz.func40, Tryz.ntmps40
  go_wp2_with (first
    | (at_builtin; ((refine app_strs rfl (.tmp 87) (.tmp 88) rfl W1.heap.size (.slice none 0 0) [] rfl (OwnS.nil _ _) fa fn fc fr rfl (HFr.out _ (Below.refl _ _)) (by simp; omega) (Nat.le_refl _) ?_); intro v1 w1 ho1 hg1; have B1 : Below W1.heap.size W1 w1 := (Below.refl _ _).grown hg1 (Nat.le_refl _) (fun k hk => by cases hk); clear hg1; rw [List.nil_append] at ho1))
    | (at_builtin; ((refine app_strs rfl (.tmp 90) (.tmp 91) rfl W1.heap.size v1 fr rfl ho1 ba bm bd bs rfl (HBs.out _ B1) (by omega) B1.size ?_); intro v2 w2 ho2 hg2; have B2 : Below W1.heap.size W1 w2 := B1.grown hg2 B1.size (fun q hq => (World.ownsRow.lt ho1 q hq).1); obtain ⟨A2, C2, hv2, hS2⟩ := ho2.slS; obtain ⟨L2, hL2⟩ : ∃ L, (fr ++ bs).length = L := ⟨_, rfl⟩; rw [hL2] at hv2 hS2; subst hv2; have cc := HC.out A2 C2 L2 w2 hL2 hS2.1; clear hL2 hS2; have k2 := HS.out w2 B2; obtain ⟨p0, p1, p2, p4, p5⟩ := k2; clear hg2 ho2))
    | (go_at_call 77; ((with_reducible refine cc.mono ?_); rintro e w3 ⟨rfl, hb3⟩; have B3 := bel_trans B2 hb3))
    | (at_builtin; ((refine app_strs rfl (.tmp 97) (.tmp 98) rfl w3.heap.size (.slice none 0 0) [] rfl (OwnS.nil _ _) ba bm bd bs rfl (HBs.out _ B3) (by simp; omega) (Nat.le_refl _) ?_); intro v4 w4 ho4 hg4; have B4 : Below W1.heap.size W1 w4 := B3.grown hg4 B3.size (fun k hk => by cases hk); have S34 : w3.heap.size ≤ w4.heap.size := hg4.size; clear hg4; rw [List.nil_append] at ho4))
    | (at_builtin; ((refine app_strs rfl (.tmp 100) (.tmp 102) rfl w3.heap.size v4 bs rfl (OwnS.below ho4 (bel_alloc (Below.refl _ _) _)) (some ⟨w4.heap.size, 0, none⟩) 1 1 [NMv] rfl (one_strs (by simp) (Blk.cell (Blk.new w4 #[.string NMv] 9) 0)) (by omega) (by simp; omega) ?_); intro v5 w5 ho5 hg5; have B5 : Below W1.heap.size W1 w5 := (bel_alloc B4 (.cells #[.string NMv] 9)).grown hg5 (by have := B4.size; simp; omega) (fun q hq => by have h1 := (World.ownsRow.lt (OwnS.below ho4 (bel_alloc (Below.refl _ _) (.cells #[.string NMv] 9))) q hq).1; have := B3.size; omega); obtain ⟨A5, C5, hv5, hS5⟩ := ho5.slS; obtain ⟨L5, hL5⟩ : ∃ L, (bs ++ [NMv]).length = L := ⟨_, rfl⟩; rw [hL5] at hv5 hS5; subst hv5; have HS5 := Lib.hid hS5; have HL5 := Lib.hid hL5; clear hg5 ho5 hS5 hL5)))
  have B5d : Below W1.heap.size W1 w5.drew := B5.drew
  have HB5 := Lib.hid (show Below w5.heap.size w5 w5.drew from (Below.refl _ _).drew)
  have cX := HX.out A5 C5 w5.drew B5d (by rw [HL5.out]; exact HS5.out.below HB5.out)
  rw [HL5.out] at cX
  go_region_held3 (fun w' => w'.cell? ⟨w.heap.size, 0, none⟩ = some (.int .i64 11) ∧ w'.cell? ⟨w.heap.size, 1, none⟩ = some (.string s) ∧ w'.cell? ⟨w.heap.size, 2, none⟩ = some (.string so) ∧ w'.cell? ⟨w.heap.size, 4, none⟩ = some (.slice (some ⟨bb, oo, none⟩) 1 c) ∧ w'.cell? ⟨bb, oo, none⟩ = some (.int .i64 xo) ∧ w'.cell? ⟨bb, oo + 1, none⟩ = some (.string xs) ∧ w'.cell? ⟨bb, oo + 1 + 1, none⟩ = some (.string xz) ∧ w'.cell? ⟨bb, oo + 1 + 1 + 1, none⟩ = some (.slice qa qn qc) ∧ w'.cell? ⟨bb, oo + 1 + 1 + 1 + 1, none⟩ = some (.slice a' n' c'))
    (first | exact HS.out _ B7 | exact HS.out _ B5d | go_keep)
    (first | (go_at_call 40; ((with_reducible refine cX.mono ?_); rintro e w7 ⟨rfl, hb7⟩; have B7 := bel_trans B5d hb7)))
  go_wp2
  go_ret
  exact ⟨rfl, bel_trans hB1 B7⟩
set_option maxHeartbeats 8000000 in
theorem rclaim_bind12 {fr bs : List ByteArray} (hb : shB bs) (hfl : (fr ++ bs).length ≤ 900000) (x : Cl) (hx : RClaimOk fr x) (hl : bs.length + 1 + wt x ≤ 10000) (s so : ByteArray) (m : Int) (fa : Option Addr) (fn fc : Nat) (ba : Option Addr) (bm bd : Nat) (ks : SS) (a : Option Addr) (n c : Nat) (w : World) (hF : SlS w fa fn fc fr) (hB : SlS w ba bm bd bs) (hs : s.size ≤ 100) (hso : so.size ≤ 100) (hC : CsW w a n c [x]) (hsx : (cT fr x (bs ++ [(bname (fr ++ bs) s)]) 4 false).size ≤ 1000000000) :
    Calls Tryz.prog 40 #[.agg #[.int .i64 12, .string s, .string so, .slice ks.a ks.n ks.c, .slice a n c], .slice fa fn fc, .slice ba bm bd, .int .i64 m, .bool true] w fun e w' => e = .returned (.string (⟨#[63]⟩ ++ (((bname (fr ++ bs) s) ++ (⟨#[58, 32]⟩ ++ so)) ++ (⟨#[46, 32]⟩ ++ cT fr x (bs ++ [(bname (fr ++ bs) s)]) 4 false)))) ∧ Below w.heap.size w w' := by
  obtain ⟨ka, kn, kc⟩ := ks
  obtain ⟨W1, hW1, hB1, hs1, S1⟩ := cbox1 w 12 s so ⟨ka, kn, kc⟩ a n c
  dsimp only at *
  obtain ⟨s0, s1, s2, s3, s4⟩ := S1.five
  dsimp only at s3
  have hNs : (bname (fr ++ bs) s).size ≤ 32 := bname_size (by omega) s
  have hb2 := shB_snoc (K := 0) hb (by omega) (show (bname (fr ++ bs) s).size ≤ 40 by omega)
  have hl1 : fr.length + bs.length ≤ 900000 := by rw [List.length_append] at hfl; exact hfl
  have hfn : fn = fr.length := hF.1.1
  have hbn : bm = bs.length := hB.1.1
  have hfn1 : fn ≤ 900000 := by omega
  have hbn1 : bm ≤ 900000 := by omega
  have HC := Lib.hid (show ∀ (A : Option Addr) (C L : Nat) (w' : World), (fr ++ bs).length = L → IsS w' A L (fr ++ bs) → _ from fun A C L w' e h => called_any s hs (fr ++ bs) A L C w' h (by omega))
  obtain ⟨bb, oo, ⟨qa, qn, qc⟩, a', n', c', rfl, rfl, hbb, ⟨y0, y1, y2, y3, y4⟩, hAx⟩ := subs1 (CsW.b hC hB1)
  dsimp only at y3
  have HX := Lib.hid (show ∀ (P : Option Addr) (C : Nat) (w' : World), Below W1.heap.size W1 w' → SlS w' P (bs ++ [bname (fr ++ bs) s]).length C (bs ++ [bname (fr ++ bs) s]) → _ from fun P C w' h hp => hx (bs ++ [bname (fr ++ bs) s]) 1 true fa fn fc P (bs ++ [bname (fr ++ bs) s]).length C ⟨qa, qn, qc⟩ a' n' c' w' (hF.below (bel_trans hB1 h)) hp hb2 (by rw [List.length_append, List.length_singleton]; exact hl) (ArWC.b hAx h) (by omega) (by omega))
  have h4 : (5 : Int) - 1 = 4 := rfl
  have hnt : (!true) = false := rfl
  rw [h4, hnt] at HX
  have HFr := Lib.hid (show ∀ w', Below W1.heap.size W1 w' → SlS w' fa fn fc fr from fun w' h => hF.below (bel_trans hB1 h))
  have HBs := Lib.hid (show ∀ w', Below W1.heap.size W1 w' → SlS w' ba bm bd bs from fun w' h => hB.below (bel_trans hB1 h))
  have hlen2 : bs.length + 1 ≤ 900001 := by omega
  have hblen : bs.length ≤ 900000 := by omega
  have hflen : fr.length ≤ 900000 := by omega
  clear hx hl hC hAx hb2 hb hF hB h4 hnt hfn hbn
  have hc2 : (⟨#[58, 32]⟩ : ByteArray).size = 2 := rfl
  have hd : (⟨#[46, 32]⟩ : ByteArray).size = 2 := rfl
  obtain ⟨NMv, hNM⟩ : ∃ v, bname (fr ++ bs) s = v := ⟨_, rfl⟩
  rw [hNM] at hNs HX HC hsx ⊢
  obtain ⟨Y, hY⟩ : ∃ v, cT fr x (bs ++ [NMv]) 4 false = v := ⟨_, rfl⟩
  rw [hY] at hsx HX
  obtain ⟨mk, hmk⟩ : ∃ v : ByteArray, ⟨#[63]⟩ = v := ⟨_, rfl⟩
  have hmkz : mk.size = 1 := by rw [← hmk]; rfl
  obtain ⟨X1, e1⟩ : ∃ v, mk ++ NMv = v := ⟨_, rfl⟩
  obtain ⟨X2, e2⟩ : ∃ v, X1 ++ (⟨#[58, 32]⟩ : ByteArray) = v := ⟨_, rfl⟩
  obtain ⟨X3, e3⟩ : ∃ v, X2 ++ so = v := ⟨_, rfl⟩
  obtain ⟨X4, e4⟩ : ∃ v, X3 ++ (⟨#[46, 32]⟩ : ByteArray) = v := ⟨_, rfl⟩
  have e5 : X4 ++ Y = ⟨#[63]⟩ ++ ((NMv ++ (⟨#[58, 32]⟩ ++ so)) ++ (⟨#[46, 32]⟩ ++ cT fr x (bs ++ [NMv]) 4 false)) := by
    rw [hY, ← e4, ← e3, ← e2, ← e1, hmk]; simp only [ByteArray.append_assoc]
  have z1 : X1.size ≤ 33 := by rw [← e1, ByteArray.size_append]; omega
  have z2 : X2.size ≤ 35 := by rw [← e2, ByteArray.size_append]; omega
  have z3 : X3.size ≤ 135 := by rw [← e3, ByteArray.size_append]; omega
  have z4 : X4.size ≤ 137 := by rw [← e4, ByteArray.size_append]; omega
  have r1 : ∀ w, (Op.stringOp .add ⟨#[63]⟩ NMv).run Tryz.prog w = .ok (.string X1) w := fun w => by rw [hmk, run_string_add_sum w _ _ (by omega), e1]
  have r2 : ∀ w, (Op.stringOp .add X1 ⟨#[58, 32]⟩).run Tryz.prog w = .ok (.string X2) w := fun w => by rw [run_string_add_sum w _ _ (by omega), e2]
  have r3 : ∀ w, (Op.stringOp .add X2 so).run Tryz.prog w = .ok (.string X3) w := fun w => by rw [run_string_add_sum w _ _ (by omega), e3]
  have r4 : ∀ w, (Op.stringOp .add X3 ⟨#[46, 32]⟩).run Tryz.prog w = .ok (.string X4) w := fun w => by rw [run_string_add_sum w _ _ (by omega), e4]
  have r5 : ∀ w, (Op.stringOp .add X4 Y).run Tryz.prog w = .ok (.string (X4 ++ Y)) w := fun w => by rw [run_string_add_sum w _ _ (by omega)]
  rw [← e5]
  clear e1 e2 e3 e4 e5 z1 z2 z3 z4 hd hc2 hmkz hsx hmk hY hNM hNs
  generalize X4 ++ Y = R at *
  generalize opC x = xo at *
  generalize nmC x = xs at *
  generalize soC x = xz at *
  dsimp only at HX
  have l1 : w.heap.size < W1.heap.size := by omega
  have HS := Lib.hid (show ∀ w', Below W1.heap.size W1 w' → (w'.cell? ⟨w.heap.size, 0, none⟩ = some (.int .i64 12) ∧ w'.cell? ⟨w.heap.size, 1, none⟩ = some (.string s) ∧ w'.cell? ⟨w.heap.size, 2, none⟩ = some (.string so) ∧ w'.cell? ⟨w.heap.size, 4, none⟩ = some (.slice (some ⟨bb, oo, none⟩) 1 c) ∧ w'.cell? ⟨bb, oo, none⟩ = some (.int .i64 xo) ∧ w'.cell? ⟨bb, oo + 1, none⟩ = some (.string xs) ∧ w'.cell? ⟨bb, oo + 1 + 1, none⟩ = some (.string xz) ∧ w'.cell? ⟨bb, oo + 1 + 1 + 1, none⟩ = some (.slice qa qn qc) ∧ w'.cell? ⟨bb, oo + 1 + 1 + 1 + 1, none⟩ = some (.slice a' n' c')) from fun w' h =>
    ⟨(h.cell (p := ⟨w.heap.size, 0, none⟩) l1).trans s0, (h.cell (p := ⟨w.heap.size, 1, none⟩) l1).trans s1, (h.cell (p := ⟨w.heap.size, 2, none⟩) l1).trans s2, (h.cell (p := ⟨w.heap.size, 4, none⟩) l1).trans s4,
      (h.cell (p := ⟨bb, _, none⟩) hbb).trans y0, (h.cell (p := ⟨bb, _, none⟩) hbb).trans y1, (h.cell (p := ⟨bb, _, none⟩) hbb).trans y2, (h.cell (p := ⟨bb, _, none⟩) hbb).trans y3, (h.cell (p := ⟨bb, _, none⟩) hbb).trans y4⟩)
  clear S1 hs1
  go_enter Tryz.func40, Tryz.ntmps40
  go_wp2_with (first
    | (at_builtin; ((refine app_strs rfl (.tmp 87) (.tmp 88) rfl W1.heap.size (.slice none 0 0) [] rfl (OwnS.nil _ _) fa fn fc fr rfl (HFr.out _ (Below.refl _ _)) (by simp; omega) (Nat.le_refl _) ?_); intro v1 w1 ho1 hg1; have B1 : Below W1.heap.size W1 w1 := (Below.refl _ _).grown hg1 (Nat.le_refl _) (fun k hk => by cases hk); clear hg1; rw [List.nil_append] at ho1))
    | (at_builtin; ((refine app_strs rfl (.tmp 90) (.tmp 91) rfl W1.heap.size v1 fr rfl ho1 ba bm bd bs rfl (HBs.out _ B1) (by omega) B1.size ?_); intro v2 w2 ho2 hg2; have B2 : Below W1.heap.size W1 w2 := B1.grown hg2 B1.size (fun q hq => (World.ownsRow.lt ho1 q hq).1); obtain ⟨A2, C2, hv2, hS2⟩ := ho2.slS; obtain ⟨L2, hL2⟩ : ∃ L, (fr ++ bs).length = L := ⟨_, rfl⟩; rw [hL2] at hv2 hS2; subst hv2; have cc := HC.out A2 C2 L2 w2 hL2 hS2.1; clear hL2 hS2; have k2 := HS.out w2 B2; obtain ⟨p0, p1, p2, p4, p5⟩ := k2; clear hg2 ho2))
    | (go_at_call 77; ((with_reducible refine cc.mono ?_); rintro e w3 ⟨rfl, hb3⟩; have B3 := bel_trans B2 hb3))
    | (at_builtin; ((refine app_strs rfl (.tmp 97) (.tmp 98) rfl w3.heap.size (.slice none 0 0) [] rfl (OwnS.nil _ _) ba bm bd bs rfl (HBs.out _ B3) (by simp; omega) (Nat.le_refl _) ?_); intro v4 w4 ho4 hg4; have B4 : Below W1.heap.size W1 w4 := B3.grown hg4 B3.size (fun k hk => by cases hk); have S34 : w3.heap.size ≤ w4.heap.size := hg4.size; clear hg4; rw [List.nil_append] at ho4))
    | (at_builtin; ((refine app_strs rfl (.tmp 100) (.tmp 102) rfl w3.heap.size v4 bs rfl (OwnS.below ho4 (bel_alloc (Below.refl _ _) _)) (some ⟨w4.heap.size, 0, none⟩) 1 1 [NMv] rfl (one_strs (by simp) (Blk.cell (Blk.new w4 #[.string NMv] 9) 0)) (by omega) (by simp; omega) ?_); intro v5 w5 ho5 hg5; have B5 : Below W1.heap.size W1 w5 := (bel_alloc B4 (.cells #[.string NMv] 9)).grown hg5 (by have := B4.size; simp; omega) (fun q hq => by have h1 := (World.ownsRow.lt (OwnS.below ho4 (bel_alloc (Below.refl _ _) (.cells #[.string NMv] 9))) q hq).1; have := B3.size; omega); obtain ⟨A5, C5, hv5, hS5⟩ := ho5.slS; obtain ⟨L5, hL5⟩ : ∃ L, (bs ++ [NMv]).length = L := ⟨_, rfl⟩; rw [hL5] at hv5 hS5; subst hv5; have HS5 := Lib.hid hS5; have HL5 := Lib.hid hL5; clear hg5 ho5 hS5 hL5)))
  have B5d : Below W1.heap.size W1 w5.drew := B5.drew
  have HB5 := Lib.hid (show Below w5.heap.size w5 w5.drew from (Below.refl _ _).drew)
  have cX := HX.out A5 C5 w5.drew B5d (by rw [HL5.out]; exact HS5.out.below HB5.out)
  rw [HL5.out] at cX
  go_region_held3 (fun w' => w'.cell? ⟨w.heap.size, 0, none⟩ = some (.int .i64 12) ∧ w'.cell? ⟨w.heap.size, 1, none⟩ = some (.string s) ∧ w'.cell? ⟨w.heap.size, 2, none⟩ = some (.string so) ∧ w'.cell? ⟨w.heap.size, 4, none⟩ = some (.slice (some ⟨bb, oo, none⟩) 1 c) ∧ w'.cell? ⟨bb, oo, none⟩ = some (.int .i64 xo) ∧ w'.cell? ⟨bb, oo + 1, none⟩ = some (.string xs) ∧ w'.cell? ⟨bb, oo + 1 + 1, none⟩ = some (.string xz) ∧ w'.cell? ⟨bb, oo + 1 + 1 + 1, none⟩ = some (.slice qa qn qc) ∧ w'.cell? ⟨bb, oo + 1 + 1 + 1 + 1, none⟩ = some (.slice a' n' c'))
    (first | exact HS.out _ B7 | exact HS.out _ B5d | go_keep)
    (first | (go_at_call 40; ((with_reducible refine cX.mono ?_); rintro e w7 ⟨rfl, hb7⟩; have B7 := bel_trans B5d hb7)))
  go_wp2
  go_ret
  exact ⟨rfl, bel_trans hB1 B7⟩
end Go.Proofs.YtcigeclnbhcohaaGreatDoor.Sh
