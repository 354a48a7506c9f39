/-
  What is proved: what the document puts together of claims: not, and the joining of a list (they share what they are made of).
-/
import Derived.Test.YtokkafekdaniaaaClmN
import Derived.Test.YtokkafekdaniaaaClmFw
namespace Go.Proofs.Ytokkafekdaniaaa.C
open Go.RowKit L T
set_option linter.unusedVariables false
set_option linter.unusedSimpArgs false

/-- a claim is returned that reads so -/
def RhC (t : Cl) (w : World) (e : Ending) (w' : World) : Prop := ∃ h : Hc, e = .returned (.agg #[.int .i64 h.op, .string h.nm, .string h.so, .slice h.k.a h.k.n h.k.c, .slice h.a h.n h.c]) ∧ (h.op = opC t ∧ h.nm = nmC t ∧ h.so = soC t) ∧ ArWC w' t h.k h.a h.n h.c ∧ Below w.heap.size w w'
/-- a row of claims in a block, in a world in which another block has been written -/
theorem row_isC {W : World} {g : Nat} {hs : List Hc} {ts : List Cl} (hR : Blk W g (flatC hs).toArray 43) (hl : hs.length = ts.length) (hm : ts.length ≤ 1000000)
    (h : ∀ k (hk : k < ts.length) (hk2 : k < hs.length), (hs[k].op = opC ts[k] ∧ hs[k].nm = nmC ts[k] ∧ hs[k].so = soC ts[k]) ∧ ArWC W ts[k] hs[k].k hs[k].a hs[k].n hs[k].c) : CsW W (some ⟨g, 0, none⟩) ts.length ts.length ts := by
  refine ⟨rfl, Nat.le_refl _, by unfold maxLen; omega, (fun h => by cases h), fun _ => ⟨g, 0, rfl, Blk.lt hR, rwc_at.2 fun k hk => ?_⟩⟩
  have hk2 : k < hs.length := by omega
  have h5 := h k hk hk2
  have key : ∀ j, j < 5 → W.cell? ⟨g, 0 + k * 5 + j, none⟩ = (hs[k].cells)[j]? := fun j hj => by
    rw [Nat.zero_add, cell_of_row W g _ _ _ _ hR, ← flatC_get hs k j hk2 hj]; simp
  exact ⟨_, _, _, _, by rw [← h5.1.1]; exact key 0 (by omega), by rw [← h5.1.2.1]; exact key 1 (by omega), by rw [← h5.1.2.2]; exact key 2 (by omega), key 3 (by omega), key 4 (by omega), h5.2⟩
theorem blk_put5 {W : World} {g x : Nat} {cs : Array Value} {ty : TypeId} (h : Blk W x cs ty) (hne : x ≠ g) (v0 v1 v2 v3 v4 : Value) : Blk (put5 W g v0 v1 v2 v3 v4) x cs ty := (put5_other W g x v0 v1 v2 v3 v4 hne).trans h
set_option maxRecDepth 100000 in
set_option maxHeartbeats 4000000 in
theorem refNot_any (t : Cl) (k : SS) (a : Option Addr) (m c : Nat) (w : World) (hA : ArWC w t k a m c) :
    Calls Try.prog 37 #[.agg #[.int .i64 (opC t), .string (nmC t), .string (soC t), .slice k.a k.n k.c, .slice a m c]] w fun e w' => RhC (.mk 6 ⟨#[]⟩ ⟨#[]⟩ [] [t]) w e w' := by
  obtain ⟨W2, hW2, hB2, hs2, S2, R2⟩ := cbox2 w (opC t) (nmC t) (soC t) k a m c 0 ⟨#[]⟩ ⟨#[]⟩ SS.nil none 0 0
  dsimp only [SS.nil] at hW2
  obtain ⟨W3, hW3, hB3, hs3, T3⟩ := cbox1 W2 (opC t) (nmC t) (soC t) k a m c
  have R3 := CBox.b R2 hB3
  have HF : Hid (RhC (.mk 6 ⟨#[]⟩ ⟨#[]⟩ [] [t]) w (.returned (.agg #[.int .i64 6, .string ⟨#[]⟩, .string ⟨#[]⟩, .slice none 0 0, .slice (some ⟨W2.heap.size, 0, none⟩) 1 1])) (put5 W3 (w.heap.size + 1) (.int .i64 6) (.string ⟨#[]⟩) (.string ⟨#[]⟩) (.slice none 0 0) (.slice (some ⟨W2.heap.size, 0, none⟩) 1 1))) := by
    have hbf : Below w.heap.size w (put5 W3 (w.heap.size + 1) (.int .i64 6) (.string ⟨#[]⟩) (.string ⟨#[]⟩) (.slice none 0 0) (.slice (some ⟨W2.heap.size, 0, none⟩) 1 1)) := put5_below (bel_trans hB2 hB3) (by omega) _ _ _ _ _
    have hrow := blk_put5 T3 (g := w.heap.size + 1) (by omega) (.int .i64 6) (.string ⟨#[]⟩) (.string ⟨#[]⟩) (.slice none 0 0) (.slice (some ⟨W2.heap.size, 0, none⟩) 1 1)
    refine ⟨⟨6, ⟨#[]⟩, ⟨#[]⟩, SS.nil, some ⟨W2.heap.size, 0, none⟩, 1, 1⟩, rfl, ⟨rfl, rfl, rfl⟩, ?_, hbf⟩
    have hc := row_isC (hs := [hcOf t k a m c]) (ts := [t]) (by simpa [flatC, Hc.cells, hcOf] using hrow) rfl (by simp) (fun i hi hi2 => by
      obtain rfl : i = 0 := by simp at hi; omega
      exact ⟨⟨rfl, rfl, rfl⟩, ArWC.b hA hbf⟩)
    unfold ArWC
    rw [ar_isC]
    exact ⟨⟨rfl, Nat.le_refl _, Nat.zero_le _, fun _ => rfl, fun h => absurd h (by simp [SS.nil])⟩, hc⟩
  obtain ⟨s0, s1, s2, s3, s4⟩ := S2.five
  obtain ⟨v0, v1, v2, v3, v4⟩ := R3.five
  obtain ⟨f0, f1, f2, f3, f4⟩ := R3.free
  obtain ⟨x0, x1, x2, x3, x4⟩ := (CBox.put R3 6 ⟨#[]⟩ ⟨#[]⟩ SS.nil (some ⟨W2.heap.size, 0, none⟩) 1 1).five
  unfold put5 at HF x0 x1 x2 x3 x4
  obtain ⟨ka, kn, kc⟩ := k
  dsimp only [SS.nil] at *
  clear hA S2 R2 R3 T3 hs2 hs3
  generalize opC t = op at *
  generalize nmC t = nm at *
  generalize soC t = so at *
  go_enter Try.func37, Try.ntmps37
  go_wp2
  simp [bodyPost, results, Try.results37, go_sem, x0, x1, x2, x3, x4]
  exact HF.out
/-- a claim is returned that reads so, in blocks below B and in those that the call made -/
def RgC (B : Nat) (t : Cl) (w : World) (e : Ending) (w' : World) : Prop := ∃ h : Hc, e = .returned (.agg #[.int .i64 h.op, .string h.nm, .string h.so, .slice h.k.a h.k.n h.k.c, .slice h.a h.n h.c]) ∧ (h.op = opC t ∧ h.nm = nmC t ∧ h.so = soC t) ∧ ArCP (NewB B w.heap.size w'.heap.size) w' t h.k h.a h.n h.c ∧ Below w.heap.size w w'
theorem RgC.rh {B : Nat} {t : Cl} {w w' : World} {e : Ending} (hB : B ≤ w.heap.size) (h : RgC B t w e w') : RhC t w e w' := by
  obtain ⟨h, e1, e2, hA, hb⟩ := h
  exact ⟨h, e1, e2, ArCP.ar (fun b hb2 => hb2.1) t hA, hb⟩
theorem arC_new {B lo : Nat} {w w' : World} {t : Cl} {k : SS} {a : Option Addr} {n c : Nat} (h : ArC B w t k a n c) (hb : Below B w w') (hB : B ≤ w'.heap.size) : ArCP (NewB B lo w'.heap.size) w' t k a n c :=
  ArCP.to (P := fun b => b < B) (fun b hb2 => hb.block b hb2) (fun b hb2 => ⟨by omega, .inl hb2⟩) t (ArC.p t h)
theorem join_fin {B : Nat} {op : Int} {t r : Cl} {kx : SS} {AA : Option Addr} {M Cc : Nat} {h : Hc} {z0 : Int} {l0 : List Cl} {w W1 w4 W5 : World} (hBw : B ≤ w.heap.size) (hs1 : W1.heap.size = w.heap.size + 1) (hB1 : Below w.heap.size w W1)
    (hA : ArC B w t kx AA M Cc) (he : h.op = opC r ∧ h.nm = nmC r ∧ h.so = soC r) (hA4 : ArCP (NewB B W1.heap.size w4.heap.size) w4 r h.k h.a h.n h.c) (hb4 : Below W1.heap.size W1 w4)
    (hW5 : w4.alloc (.cells #[.int .i64 (opC t), .string (nmC t), .string (soC t), .slice kx.a kx.n kx.c, .slice AA M Cc, .int .i64 h.op, .string h.nm, .string h.so, .slice h.k.a h.k.n h.k.c, .slice h.a h.n h.c] 43) = W5) (hJ : joinL op z0 (t :: l0) = .mk op ⟨#[]⟩ ⟨#[]⟩ [] [t, r]) :
    RgC B (joinL op z0 (t :: l0)) w (.returned (.agg #[.int .i64 op, .string ⟨#[]⟩, .string ⟨#[]⟩, .slice none 0 0, .slice (some ⟨w4.heap.size, 0, none⟩) 2 2])) (put5 W5 w.heap.size (.int .i64 op) (.string ⟨#[]⟩) (.string ⟨#[]⟩) (.slice none 0 0) (.slice (some ⟨w4.heap.size, 0, none⟩) 2 2)) := by
  have hs5 : W5.heap.size = w4.heap.size + 1 := by rw [← hW5]; simp
  have hb5 : Below w4.heap.size w4 W5 := by rw [← hW5]; exact bel_alloc (Below.refl _ _) _
  have hs4 := hb4.size
  have hbf := put5_below (g := w.heap.size) (bel_trans hB1 (bel_trans hb4 hb5)) (Nat.le_refl _) (.int .i64 op) (.string ⟨#[]⟩) (.string ⟨#[]⟩) (.slice none 0 0) (.slice (some ⟨w4.heap.size, 0, none⟩) 2 2)
  have hsz := put5_size W5 w.heap.size (.int .i64 op) (.string ⟨#[]⟩) (.string ⟨#[]⟩) (.slice none 0 0) (.slice (some ⟨w4.heap.size, 0, none⟩) 2 2)
  have hot := put5_other W5 w.heap.size
  have hrow : Blk W5 w4.heap.size #[.int .i64 (opC t), .string (nmC t), .string (soC t), .slice kx.a kx.n kx.c, .slice AA M Cc, .int .i64 h.op, .string h.nm, .string h.so, .slice h.k.a h.k.n h.k.c, .slice h.a h.n h.c] 43 := by rw [← hW5]; exact Blk.new _ _ _
  have hrow2 := blk_put5 hrow (g := w.heap.size) (by omega) (.int .i64 op) (.string ⟨#[]⟩) (.string ⟨#[]⟩) (.slice none 0 0) (.slice (some ⟨w4.heap.size, 0, none⟩) 2 2)
  rw [hJ]
  generalize hWf : put5 W5 w.heap.size (.int .i64 op) (.string ⟨#[]⟩) (.string ⟨#[]⟩) (.slice none 0 0) (.slice (some ⟨w4.heap.size, 0, none⟩) 2 2) = Wf at *
  have hoth : ∀ b, b ≠ w.heap.size → Wf.heap[b]? = W5.heap[b]? := fun b hb => by rw [← hWf]; exact hot b _ _ _ _ _ hb
  refine ⟨⟨op, ⟨#[]⟩, ⟨#[]⟩, SS.nil, some ⟨w4.heap.size, 0, none⟩, 2, 2⟩, rfl, ⟨rfl, rfl, rfl⟩, ?_, hbf⟩
  have hAt : ArCP (NewB B w.heap.size Wf.heap.size) Wf t kx AA M Cc := arC_new hA (hbf.mono hBw) (by omega)
  have hAr : ArCP (NewB B w.heap.size Wf.heap.size) Wf r h.k h.a h.n h.c := ArCP.to (P := NewB B W1.heap.size w4.heap.size) (fun b hb => by
    have h1 := hb.1
    have h2 := hb.2
    rw [hoth b (by omega)]
    exact hb5.block b h1) (fun b hb => ⟨by have := hb.1; omega, hb.2.imp id (fun h => by omega)⟩) r hA4
  rw [ArCP]
  refine ⟨nilTP _ _, rfl, Nat.le_refl _, (by show (2 : Nat) ≤ maxLen; unfold maxLen; omega), fun h => (by cases h), fun _ => ⟨w4.heap.size, 0, rfl, ⟨by omega, .inr (by omega)⟩, ?_⟩⟩
  rw [RwCP, RwCP, RwCP]
  exact ⟨⟨kx, AA, M, Cc, Blk.cell hrow2 0, Blk.cell hrow2 1, Blk.cell hrow2 2, Blk.cell hrow2 3, Blk.cell hrow2 4, hAt⟩, ⟨h.k, h.a, h.n, h.c, by rw [← he.1]; exact Blk.cell hrow2 5, by rw [← he.2.1]; exact Blk.cell hrow2 6, by rw [← he.2.2]; exact Blk.cell hrow2 7, Blk.cell hrow2 8, Blk.cell hrow2 9, hAr⟩, trivial⟩
def JoinOk (l : List Cl) : Prop := ∀ (op none0 : Int) (B : Nat) (A : Option Addr) (m c : Nat) (w : World), (op = 7 ∧ none0 = 1) ∨ (op = 8 ∧ none0 = 2) → B ≤ w.heap.size → IsC B w A m c l →
  Calls Try.prog 39 #[.int .i64 op, .slice A m c] w fun e w' => RgC B (joinL op none0 l) w e w'
set_option maxRecDepth 100000 in
set_option maxHeartbeats 4000000 in
theorem join_nil : JoinOk [] := by
  intro op none0 B A m c w hop hBw hC
  obtain rfl : m = 0 := hC.1
  obtain ⟨W1, hW1, hB1, hs1, R1⟩ := cbox1 w 0 ⟨#[]⟩ ⟨#[]⟩ SS.nil none 0 0
  dsimp only [SS.nil] at hW1
  have HF : ∀ z : Int, Hid (RgC B (.mk z ⟨#[]⟩ ⟨#[]⟩ [] []) w (.returned (.agg #[.int .i64 z, .string ⟨#[]⟩, .string ⟨#[]⟩, .slice none 0 0, .slice none 0 0])) (put5 W1 w.heap.size (.int .i64 z) (.string ⟨#[]⟩) (.string ⟨#[]⟩) (.slice none 0 0) (.slice none 0 0))) := fun z => Lib.hid
    ⟨⟨z, ⟨#[]⟩, ⟨#[]⟩, SS.nil, none, 0, 0⟩, rfl, ⟨rfl, rfl, rfl⟩, arCP_leaf _ _ _ _ _, put5_below hB1 (Nat.le_refl _) _ _ _ _ _⟩
  obtain ⟨v0, v1, v2, v3, v4⟩ := R1.five
  obtain ⟨f0, f1, f2, f3, f4⟩ := R1.free
  rcases hop with ⟨rfl, rfl⟩ | ⟨rfl, rfl⟩
  · obtain ⟨x0, x1, x2, x3, x4⟩ := (CBox.put R1 1 ⟨#[]⟩ ⟨#[]⟩ SS.nil none 0 0).five
    have HF1 := HF 1
    unfold put5 at HF1 x0 x1 x2 x3 x4
    dsimp only [SS.nil] at *
    clear HF hC R1 hs1
    go_enter Try.func39, Try.ntmps39
    go_wp2
    simp [bodyPost, results, Try.results39, go_sem, x0, x1, x2, x3, x4]
    exact HF1.out
  · obtain ⟨x0, x1, x2, x3, x4⟩ := (CBox.put R1 2 ⟨#[]⟩ ⟨#[]⟩ SS.nil none 0 0).five
    have HF1 := HF 2
    unfold put5 at HF1 x0 x1 x2 x3 x4
    dsimp only [SS.nil] at *
    clear HF hC R1 hs1
    go_enter Try.func39, Try.ntmps39
    go_wp2
    simp [bodyPost, results, Try.results39, go_sem, x0, x1, x2, x3, x4]
    exact HF1.out
set_option maxRecDepth 100000 in
set_option maxHeartbeats 4000000 in
theorem join_one (t : Cl) : JoinOk [t] := by
  intro op none0 B A m c w hop hBw hC
  have hm : m = 1 := hC.1
  obtain ⟨bb, o, x, ⟨xa, xn, xc⟩, AA, M, Cc, rfl, hbb, y0, y1, y2, y3, y4, hx, hax⟩ := hC.at (i := 0) (by omega)
  have hxt : t = x := by simpa using hx
  subst hxt
  rw [Nat.zero_mul, Nat.add_zero] at y0 y1 y2 y3 y4
  obtain ⟨W1, hW1, hB1, hs1, R1⟩ := cbox1 w 0 ⟨#[]⟩ ⟨#[]⟩ SS.nil none 0 0
  dsimp only [SS.nil] at hW1
  have hbb := Nat.lt_of_lt_of_le hbb hBw
  have z0 := (hB1.cell (p := ⟨bb, _, none⟩) hbb).trans y0
  have z1 := (hB1.cell (p := ⟨bb, _, none⟩) hbb).trans y1
  have z2 := (hB1.cell (p := ⟨bb, _, none⟩) hbb).trans y2
  have z3 := (hB1.cell (p := ⟨bb, _, none⟩) hbb).trans y3
  have z4 := (hB1.cell (p := ⟨bb, _, none⟩) hbb).trans y4
  have HF : Hid (RgC B (joinL op none0 [t]) w (.returned (.agg #[.int .i64 (opC t), .string (nmC t), .string (soC t), .slice xa xn xc, .slice AA M Cc])) (put5 W1 w.heap.size (.int .i64 (opC t)) (.string (nmC t)) (.string (soC t)) (.slice xa xn xc) (.slice AA M Cc))) := Lib.hid
    ⟨⟨opC t, nmC t, soC t, ⟨xa, xn, xc⟩, AA, M, Cc⟩, rfl, ⟨rfl, rfl, rfl⟩, arC_new hax ((put5_below hB1 (Nat.le_refl _) _ _ _ _ _).mono hBw) (by rw [put5_size]; omega), put5_below hB1 (Nat.le_refl _) _ _ _ _ _⟩
  obtain ⟨v0, v1, v2, v3, v4⟩ := R1.five
  obtain ⟨f0, f1, f2, f3, f4⟩ := R1.free
  obtain ⟨x0, x1, x2, x3, x4⟩ := (CBox.put R1 (opC t) (nmC t) (soC t) ⟨xa, xn, xc⟩ AA M Cc).five
  unfold put5 at HF x0 x1 x2 x3 x4
  dsimp only [SS.nil] at *
  clear hC R1 hax hx y0 y1 y2 y3 y4 hop hs1 hBw
  generalize joinL op none0 [t] = rr at *
  generalize opC t = op' at *
  generalize nmC t = nm' at *
  generalize soC t = so' at *
  subst hm
  go_enter Try.func39, Try.ntmps39
  go_wp2
  simp [bodyPost, results, Try.results39, go_sem, x0, x1, x2, x3, x4]
  exact HF.out
set_option maxRecDepth 100000 in
set_option maxHeartbeats 8000000 in
theorem join_cons (t u : Cl) (l : List Cl) (ih : JoinOk (u :: l)) : JoinOk (t :: u :: l) := by
  intro op none0 B A m c w hop hBw hC
  have hm : m = (u :: l).length + 1 := hC.1
  have hmc : m ≤ c := hC.2.1
  have hcm : c ≤ 9223372036854775807 := by have h2 := hC.2.2.1; unfold maxLen at h2; omega
  obtain ⟨bb, o, x, ⟨xa, xn, xc⟩, AA, M, Cc, rfl, hbb, y0, y1, y2, y3, y4, hx, hax⟩ := hC.at (i := 0) (by omega)
  have hxt : t = x := by simpa using hx
  subst hxt
  rw [Nat.zero_mul, Nat.add_zero] at y0 y1 y2 y3 y4
  dsimp only at y3
  obtain ⟨W1, hW1, hB1, hs1, R1⟩ := cbox1 w 0 ⟨#[]⟩ ⟨#[]⟩ SS.nil none 0 0
  dsimp only [SS.nil] at hW1
  have hrest : IsC B w (some ⟨bb, o + 5, none⟩) (m - 1) (c - 1) (u :: l) := by
    refine ⟨by simp at hm ⊢; omega, by omega, by have := hC.2.2.1; omega, (fun h => by cases h), fun _ => ⟨bb, o + 5, rfl, hbb, ?_⟩⟩
    obtain ⟨b', o', e, _, hr⟩ := hC.2.2.2.2 (by omega)
    injection e with e; injection e with e1 e2; subst e1 e2
    exact (rwc_cons.1 hr).2
  have cJ := fun (w' : World) (h : Below W1.heap.size W1 w') => ih op none0 B _ _ _ w' hop (by have h1 := hB1.size; have h2 := h.size; omega) (hrest.bel ((hB1.mono hBw).trans (h.mono (by have h1 := hB1.size; omega))))
  have hm2 : 2 ≤ m := by simp at hm; omega
  have hbb := Nat.lt_of_lt_of_le hbb hBw
  have HFin := Lib.hid (fun (h : Hc) (w4 W5 : World) (he : h.op = opC (joinL op none0 (u :: l)) ∧ h.nm = nmC (joinL op none0 (u :: l)) ∧ h.so = soC (joinL op none0 (u :: l))) (hA4 : ArCP (NewB B W1.heap.size w4.heap.size) w4 (joinL op none0 (u :: l)) h.k h.a h.n h.c) (hb4 : Below W1.heap.size W1 w4) hW5 => join_fin (W5 := W5) (z0 := none0) (l0 := u :: l) hBw hs1 hB1 hax he hA4 hb4 hW5 rfl)
  unfold put5 at HFin
  have HQ := Lib.hid (show ∀ w' : World, Below w.heap.size w w' → (w'.cell? ⟨bb, o, none⟩ = some (.int .i64 (opC t)) ∧ w'.cell? ⟨bb, o + 1, none⟩ = some (.string (nmC t)) ∧ w'.cell? ⟨bb, o + 1 + 1, none⟩ = some (.string (soC t)) ∧ w'.cell? ⟨bb, o + 1 + 1 + 1, none⟩ = some (.slice xa xn xc) ∧ w'.cell? ⟨bb, o + 1 + 1 + 1 + 1, none⟩ = some (.slice AA M Cc)) from fun w' hb =>
    ⟨(hb.cell (p := ⟨bb, _, none⟩) hbb).trans y0, (hb.cell (p := ⟨bb, _, none⟩) hbb).trans y1, (hb.cell (p := ⟨bb, _, none⟩) hbb).trans y2, (hb.cell (p := ⟨bb, _, none⟩) hbb).trans y3, (hb.cell (p := ⟨bb, _, none⟩) hbb).trans y4⟩)
  have HR := Lib.hid R1
  have HB1 := Lib.hid hB1
  dsimp only at HFin
  generalize hrr : joinL op none0 (t :: u :: l) = rr at *
  generalize hrj : joinL op none0 (u :: l) = rj at *
  clear hrr hrj
  have hbw1 : Below W1.heap.size W1 W1 := Below.refl _ _
  obtain ⟨z0, z1, z2, z3, z4⟩ := HQ.out _ hB1
  have hc1 : ¬ c = 1 := by omega
  have hm1 : ¬ m = 1 := by omega
  have hm0 : ¬ m = 0 := by omega
  have j0 : 0 < m := by omega
  have j1 : 1 ≤ m := by omega
  have i0 : (0 : Int) < (m : Int) := by omega
  have i1 : (1 : Int) ≤ (m : Int) := by omega
  have q0 : ((m : Int) == 0) = false := beq_no' (by omega)
  have q1 : ((m : Int) == 1) = false := beq_no' (by omega)
  have HS1 := Lib.hid hs1
  clear hC R1 hax hx y0 y1 y2 y3 y4 hop hrest hm ih hBw hs1
  generalize hop' : opC t = op' at *
  generalize hnm' : nmC t = nm' at *
  generalize hso' : soC t = so' at *
  have HE := Lib.hid (And.intro hop' (And.intro hnm' hso'))
  clear hop' hnm' hso'
  go_enter Try.func39, Try.ntmps39
  go_wp2_with fail
  have Bw1 := HB1.out
  refine wp_region_noPanic ?_
  refine wp_region_held_drew (S := fun w' => w'.cell? ⟨bb, o, none⟩ = some (.int .i64 op') ∧ w'.cell? ⟨bb, o + 1, none⟩ = some (.string nm') ∧ w'.cell? ⟨bb, o + 1 + 1, none⟩ = some (.string so') ∧ w'.cell? ⟨bb, o + 1 + 1 + 1, none⟩ = some (.slice xa xn xc) ∧ w'.cell? ⟨bb, o + 1 + 1 + 1 + 1, none⟩ = some (.slice AA M Cc)) (by kernel_rfl) (by exact HQ.out _ (by first | assumption | exact Below.drew (by assumption) | exact bel_alloc (by assumption) _ | exact (bel_alloc (by assumption) _).drew | exact bel_alloc (Below.drew (by assumption)) _ | exact (bel_alloc (Below.drew (by assumption)) _).drew)) (fun hHeld => ?_)
  refine wpAnyH_take (i := 0) (v := ?_) rfl (by kernel_rfl) (by kernel_rfl) (by kernel_rfl) (fun _ _ _ h => h) (Or.inl ⟨by rfl, ?hy⟩) (by assumption) ?_
  case hy => (intro w hSw; (try dsimp only at hSw); go_simp; try (with_reducible rfl))
  (try simp only [Act.put, List.setIfInBounds_toArray, List.set_cons_zero, List.set_cons_succ])
  refine wpAnyH_take (i := 1) (v := ?_) rfl (by kernel_rfl) (by kernel_rfl) (by kernel_rfl) (fun _ _ _ h => h) (Or.inl ⟨by rfl, ?hy⟩) (by assumption) ?_
  case hy => (intro w hSw; (try dsimp only at hSw); go_simp; try (with_reducible rfl))
  (try simp only [Act.put, List.setIfInBounds_toArray, List.set_cons_zero, List.set_cons_succ])
  refine wpAnyH_take (i := 2) (v := ?_) rfl (by kernel_rfl) (by kernel_rfl) (by kernel_rfl) (fun _ _ _ h => h) (Or.inl ⟨by rfl, ?hy⟩) (by assumption) ?_
  case hy => (intro w hSw; (try dsimp only at hSw); go_simp; try (with_reducible rfl))
  (try simp only [Act.put, List.setIfInBounds_toArray, List.set_cons_zero, List.set_cons_succ])
  refine wpAnyH_take (i := 3) (v := ?_) rfl (by kernel_rfl) (by kernel_rfl) (by kernel_rfl) (fun _ _ _ h => h) (Or.inl ⟨by rfl, ?hy⟩) (by assumption) ?_
  case hy => (intro w hSw; (try dsimp only at hSw); go_simp; try (with_reducible rfl))
  (try simp only [Act.put, List.setIfInBounds_toArray, List.set_cons_zero, List.set_cons_succ])
  refine wpAnyH_take (i := 4) (v := ?_) rfl (by kernel_rfl) (by kernel_rfl) (by kernel_rfl) (fun _ _ _ h => h) (Or.inl ⟨by rfl, ?hy⟩) (by assumption) ?_
  case hy => (intro w hSw; (try dsimp only at hSw); go_simp; try (with_reducible rfl))
  (try simp only [Act.put, List.setIfInBounds_toArray, List.set_cons_zero, List.set_cons_succ])
  refine wpAnyH_take (i := 5) (v := ?_) rfl (by kernel_rfl) (by kernel_rfl) (by kernel_rfl) (fun _ _ _ h => h) (Or.inl ⟨by rfl, ?hy⟩) (by assumption) ?_
  case hy => (intro w hSw; (try dsimp only at hSw); go_simp; try (with_reducible rfl))
  (try simp only [Act.put, List.setIfInBounds_toArray, List.set_cons_zero, List.set_cons_succ])
  refine wpAnyH_take (i := 6) (v := ?_) rfl (by kernel_rfl) (by kernel_rfl) (by kernel_rfl) (fun _ _ _ h => h) (Or.inl ⟨by rfl, ?hy⟩) (by assumption) ?_
  case hy => (intro w hSw; (try dsimp only at hSw); go_simp; try (with_reducible rfl))
  (try simp only [Act.put, List.setIfInBounds_toArray, List.set_cons_zero, List.set_cons_succ])
  refine wpAnyH_ready (rs := [7]) (by kernel_rfl) (by simp) ?_
  refine AllReadyH.cons rfl (fun KK hKK => ?_) AllReadyH.nil
  go_simp
  (go_at_call 39; ((with_reducible refine (cJ _ (by first | exact hbw1 | exact hbw1.drew)).mono ?_); rintro e w4 ⟨h, rfl, he, hA4, hb4⟩; have hAA : ArCP (NewB B W1.heap.size w4.heap.size) w4 rj h.k h.a h.n h.c := hA4; have Bw4 : Below w.heap.size w w4 := bel_trans HB1.out (bel_trans (by first | exact hbw1 | exact hbw1.drew) hb4); have Bv4 : Below W1.heap.size W1 w4 := bel_trans (by first | exact hbw1 | exact hbw1.drew) hb4; obtain ⟨W5, hW5⟩ : ∃ W5, w4.alloc (.cells #[.int .i64 op', .string nm', .string so', .slice xa xn xc, .slice AA M Cc, .int .i64 h.op, .string h.nm, .string h.so, .slice h.k.a h.k.n h.k.c, .slice h.a h.n h.c] 43) = W5 := ⟨_, rfl⟩; have hb5 : Below w4.heap.size w4 W5 := (by rw [← hW5]; exact bel_alloc (Below.refl _ _) _); have R5 := CBox.b HR.out (bel_trans Bv4 hb5); obtain ⟨v0, v1, v2, v3, v4⟩ := R5.five; obtain ⟨f0, f1, f2, f3, f4⟩ := R5.free; obtain ⟨x0, x1, x2, x3, x4⟩ := (CBox.put R5 op ⟨#[]⟩ ⟨#[]⟩ SS.nil (some ⟨w4.heap.size, 0, none⟩) 2 2).five; have HF := Lib.hid (HFin.out h w4 W5 he hAA Bv4 hW5); have Bw5 : Below w.heap.size w W5 := bel_trans Bw4 hb5; unfold put5 at x0 x1 x2 x3 x4; dsimp only [SS.nil] at x0 x1 x2 x3 x4 v3; clear he hA4 hAA R5))
  refine hKK.out _ _ (by exact HQ.out _ (by first | assumption | exact Below.drew (by assumption) | exact bel_alloc (by assumption) _ | exact (bel_alloc (by assumption) _).drew | exact bel_alloc (Below.drew (by assumption)) _ | exact (bel_alloc (Below.drew (by assumption)) _).drew)) (fun hHeld => ?_)
  clear hKK KK
  (try simp only [Act.put, List.setIfInBounds_toArray, List.set_cons_zero, List.set_cons_succ])
  refine wpAnyH_ready (rs := [8]) (by kernel_rfl) (by simp) ?_
  refine AllReadyH.cons rfl (fun KK hKK => ?_) AllReadyH.nil
  go_simp
  refine hKK.out _ _ (by exact HQ.out _ (by first | assumption | exact Below.drew (by assumption) | exact bel_alloc (by assumption) _ | exact (bel_alloc (by assumption) _).drew | exact bel_alloc (Below.drew (by assumption)) _ | exact (bel_alloc (Below.drew (by assumption)) _).drew)) (fun hHeld => ?_)
  clear hKK KK
  (try simp only [Act.put, List.setIfInBounds_toArray, List.set_cons_zero, List.set_cons_succ])
  refine wpAnyH_take (i := 9) (v := ?_) rfl (by kernel_rfl) (by kernel_rfl) (by kernel_rfl) (fun _ _ _ h => h) (Or.inl ⟨by rfl, ?hy⟩) (by assumption) ?_
  case hy => (intro w hSw; (try dsimp only at hSw); go_simp; try (with_reducible rfl))
  (try simp only [Act.put, List.setIfInBounds_toArray, List.set_cons_zero, List.set_cons_succ])
  refine wpAnyH_ready (rs := [10]) (by kernel_rfl) (by simp) ?_
  refine AllReadyH.cons rfl (fun KK hKK => ?_) AllReadyH.nil
  go_simp
  refine hKK.out _ _ (by exact HQ.out _ (below_set (below_set (below_set (below_set (below_set Bw5 (Nat.le_refl _) _ _) (Nat.le_refl _) _ _) (Nat.le_refl _) _ _) (Nat.le_refl _) _ _) (Nat.le_refl _) _ _)) (fun hHeld => ?_)
  clear hKK KK
  (try simp only [Act.put, List.setIfInBounds_toArray, List.set_cons_zero, List.set_cons_succ])
  refine wpAnyH_done (by kernel_rfl) ?_ _
  refine NoPanic.normal ?_
  (try go_wp2_with fail)
  simp [bodyPost, results, Try.results39, go_sem, x0, x1, x2, x3, x4]
  exact HF.out
theorem join_any : ∀ l : List Cl, JoinOk l
  | [] => join_nil
  | [t] => join_one t
  | t :: u :: l => join_cons t u l (join_any (u :: l))
end Go.Proofs.Ytokkafekdaniaaa.C
