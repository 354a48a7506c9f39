/-
  What is proved: what package claim's And, Or, Not and Flat return, and the law's pred.
-/
import Derived.Test.YtjjoebijkcmgiaaGreatZClmJw
import Derived.Test.YtjjoebijkcmgiaaGreatZClmEf
namespace Go.Proofs.YtjjoebijkcmgiaaGreat.C
open Go.RowKit Go.Shelf L T
set_option linter.unusedVariables false
set_option linter.unusedSimpArgs false

theorem arWC_leaf (w : World) (o : Int) (s z : ByteArray) : ArWC w (.mk o s z [] []) SS.nil none 0 0 := by
  unfold ArWC; rw [ArC]
  exact ⟨⟨rfl, Nat.le_refl _, Nat.zero_le _, fun _ => rfl, fun h => absurd h (Nat.lt_irrefl 0)⟩, rfl, Nat.le_refl _, Nat.zero_le _, fun _ => rfl, fun h => absurd h (Nat.lt_irrefl 0)⟩
theorem arCP_leaf (P : Nat → Prop) (w : World) (o : Int) (s z : ByteArray) : ArCP P w (.mk o s z [] []) SS.nil none 0 0 := by
  rw [ArCP]
  exact ⟨nilTP _ _, rfl, Nat.le_refl _, Nat.zero_le _, fun _ => rfl, fun h => absurd h (Nat.lt_irrefl 0)⟩
theorem arC_put {w W : World} {t : Cl} {k : SS} {a : Option Addr} {n c : Nat} (h : ArWC w t k a n c) (hb : Below w.heap.size w W) : ArWC W t k a n c := ArWC.b h hb
set_option maxRecDepth 100000 in
set_option maxHeartbeats 4000000 in
theorem joined_any (op none0 : Int) (l : List Cl) (A : Option Addr) (m c : Nat) (w : World) (hsz : wts l ≤ 1000000) (hG : CsW w A m c l) :
    Calls Tryz.prog 29 #[.slice A m c, .int .i64 op, .int .i64 none0] w fun e w' => RdC (joinL op none0 l) w e w' := by
  cases m with
  | succ M => exact callsIn_wide.1 (joined_in op none0 l A M c w hsz hG)
  | zero =>
    have hl : l = [] := List.eq_nil_of_length_eq_zero hG.1.symm
    subst hl
    obtain ⟨W1, hW1⟩ : ∃ W1, w.alloc (.cells #[.int .i64 op] 3) = W1 := ⟨_, rfl⟩
    have hB1 : Below w.heap.size w W1 := by rw [← hW1]; exact bel_alloc (Below.refl _ _) _
    have hs1 : W1.heap.size = w.heap.size + 1 := by rw [← hW1]; simp
    obtain ⟨W2, hW2, hB2, hs2, R2⟩ := cbox1 W1 0 ⟨#[]⟩ ⟨#[]⟩ SS.nil none 0 0
    dsimp only [SS.nil] at hW2
    rw [hs1] at R2
    obtain ⟨v0, v1, v2, v3, v4⟩ := R2.five
    obtain ⟨f0, f1, f2, f3, f4⟩ := R2.free
    obtain ⟨x0, x1, x2, x3, x4⟩ := (CBox.put R2 none0 ⟨#[]⟩ ⟨#[]⟩ SS.nil none 0 0).five
    have hb := Lib.hid (put5_below (bel_trans hB1 hB2) (show w.heap.size ≤ w.heap.size + 1 by omega) (.int .i64 none0) (.string ⟨#[]⟩) (.string ⟨#[]⟩) (.slice none 0 0) (.slice none 0 0))
    unfold put5 at x0 x1 x2 x3 x4 hb
    dsimp only [SS.nil] at v3 x0 x1 x2 x3 x4
    clear hG R2 hsz
    go_enter Tryz.func29, Tryz.ntmps29
    go_wp2
    simp [bodyPost, results, Tryz.results29, go_sem, x0, x1, x2, x3, x4]
    exact ⟨⟨none0, ⟨#[]⟩, ⟨#[]⟩, SS.nil, none, 0, 0⟩, rfl, ⟨rfl, rfl, rfl⟩, arCP_leaf _ _ _ _ _, hb.out⟩

/-- what has been made is stored into a block ahead of it and returned -/
theorem rd_put {t : Cl} {w W1 w3 : World} {h : Hc} {d g : Nat} (hs : W1.heap.size = w.heap.size + d) (hB1 : Below w.heap.size w W1) (hg : w.heap.size ≤ g) (hg2 : g < w.heap.size + d) (he : h.op = opC t ∧ h.nm = nmC t ∧ h.so = soC t) (hA : ArCP (fun b => W1.heap.size ≤ b ∧ b < w3.heap.size) w3 t h.k h.a h.n h.c) (hb3 : Below W1.heap.size W1 w3) :
    RdC t w (.returned (.agg #[.int .i64 h.op, .string h.nm, .string h.so, .slice h.k.a h.k.n h.k.c, .slice h.a h.n h.c])) (put5 w3 g (.int .i64 h.op) (.string h.nm) (.string h.so) (.slice h.k.a h.k.n h.k.c) (.slice h.a h.n h.c)) := by
  refine ⟨h, rfl, he, ArCP.to (fun b hb => put5_other _ _ _ _ _ _ _ _ (by have := hb.1; omega)) (fun b hb => ⟨by have := hb.1; omega, by rw [put5_size]; exact hb.2⟩) _ hA, put5_below (bel_trans hB1 hb3) hg _ _ _ _ _⟩
set_option maxRecDepth 100000 in
set_option maxHeartbeats 4000000 in
theorem And_any (l : List Cl) (A : Option Addr) (m c : Nat) (w : World) (hsz : wts l ≤ 1000000) (hG : CsW w A m c l) :
    Calls Tryz.prog 13 #[.slice A m c] w fun e w' => RdC (joinL 7 1 l) w e w' := by
  obtain ⟨W1, hW1, hB1, hs1, R1⟩ := cbox1 w 0 ⟨#[]⟩ ⟨#[]⟩ SS.nil none 0 0
  dsimp only [SS.nil] at hW1
  have cj := joined_any 7 1 l A m c W1 hsz (CsW.b hG hB1)
  have HR := Lib.hid R1
  clear R1 hG hsz
  generalize joinL 7 1 l = t at *
  go_enter Tryz.func13, Tryz.ntmps13
  go_wp2_with (go_at_call 29; ((with_reducible refine cj.mono ?_); rintro e w3 ⟨h, rfl, he, hA, hb3⟩; have HF := Lib.hid (rd_put hs1 hB1 (Nat.le_refl _) (Nat.lt_succ_self _) he hA hb3); clear he hA; have R3 := CBox.b HR.out hb3; obtain ⟨v0, v1, v2, v3, v4⟩ := R3.five; obtain ⟨f0, f1, f2, f3, f4⟩ := R3.free; obtain ⟨x0, x1, x2, x3, x4⟩ := (CBox.put R3 h.op h.nm h.so h.k h.a h.n h.c).five; unfold put5 at HF x0 x1 x2 x3 x4))
  simp [bodyPost, results, Tryz.results13, go_sem, x0, x1, x2, x3, x4]
  exact HF.out
set_option maxRecDepth 100000 in
set_option maxHeartbeats 4000000 in
theorem Or_any (l : List Cl) (A : Option Addr) (m c : Nat) (w : World) (hsz : wts l ≤ 1000000) (hG : CsW w A m c l) :
    Calls Tryz.prog 20 #[.slice A m c] w fun e w' => RdC (joinL 8 2 l) w e w' := by
  obtain ⟨W1, hW1, hB1, hs1, R1⟩ := cbox1 w 0 ⟨#[]⟩ ⟨#[]⟩ SS.nil none 0 0
  dsimp only [SS.nil] at hW1
  have cj := joined_any 8 2 l A m c W1 hsz (CsW.b hG hB1)
  have HR := Lib.hid R1
  clear R1 hG hsz
  generalize joinL 8 2 l = t at *
  go_enter Tryz.func20, Tryz.ntmps20
  go_wp2_with (go_at_call 29; ((with_reducible refine cj.mono ?_); rintro e w3 ⟨h, rfl, he, hA, hb3⟩; have HF := Lib.hid (rd_put hs1 hB1 (Nat.le_refl _) (Nat.lt_succ_self _) he hA hb3); clear he hA; have R3 := CBox.b HR.out hb3; obtain ⟨v0, v1, v2, v3, v4⟩ := R3.five; obtain ⟨f0, f1, f2, f3, f4⟩ := R3.free; obtain ⟨x0, x1, x2, x3, x4⟩ := (CBox.put R3 h.op h.nm h.so h.k h.a h.n h.c).five; unfold put5 at HF x0 x1 x2 x3 x4))
  simp [bodyPost, results, Tryz.results20, go_sem, x0, x1, x2, x3, x4]
  exact HF.out
theorem rowC_one {P : Nat → Prop} {w : World} {g : Nat} {h : Hc} {t : Cl} (hR : Blk w g #[.int .i64 h.op, .string h.nm, .string h.so, .slice h.k.a h.k.n h.k.c, .slice h.a h.n h.c] 25) (he : h.op = opC t ∧ h.nm = nmC t ∧ h.so = soC t) (hA : ArCP P w t h.k h.a h.n h.c) : RwCP P w g 0 [t] := by
  rw [RwCP, RwCP]
  exact ⟨⟨h.k, h.a, h.n, h.c, by rw [← he.1]; exact Blk.cell hR 0, by rw [← he.2.1]; exact Blk.cell hR 1, by rw [← he.2.2]; exact Blk.cell hR 2, Blk.cell hR 3, Blk.cell hR 4, hA⟩, trivial⟩
set_option maxRecDepth 100000 in
set_option maxHeartbeats 4000000 in
theorem Not_any (t : Cl) (k : SS) (a : Option Addr) (m c : Nat) (w : World) (hsz : wt t ≤ 1000000) (hA : ArWC w t k a m c) :
    Calls Tryz.prog 14 #[.agg #[.int .i64 (opC t), .string (nmC t), .string (soC t), .slice k.a k.n k.c, .slice a m c]] w fun e w' => RdC (.mk 6 ⟨#[]⟩ ⟨#[]⟩ [] [t]) w e w' := by
  obtain ⟨W2, hW2, hB2, hs2, S2, R2⟩ := cbox2 w (opC t) (nmC t) (soC t) k a m c 0 ⟨#[]⟩ ⟨#[]⟩ SS.nil none 0 0
  dsimp only [SS.nil] at hW2
  have cc := CopyC_any t k a m c W2 hsz (ArWC.b hA hB2)
  obtain ⟨s0, s1, s2, s3, s4⟩ := S2.five
  have HR := Lib.hid R2
  have HFin := Lib.hid (show ∀ (w3 : World) (h : Hc), FrC w3 t W2.heap.size w3.heap.size h → Below W2.heap.size W2 w3 → ∃ W4, w3.alloc (.cells #[.int .i64 h.op, .string h.nm, .string h.so, .slice h.k.a h.k.n h.k.c, .slice h.a h.n h.c] 25) = W4 ∧ CBox W4 (w.heap.size + 1) 0 ⟨#[]⟩ ⟨#[]⟩ SS.nil none 0 0 ∧ Hid (RdC (.mk 6 ⟨#[]⟩ ⟨#[]⟩ [] [t]) w (.returned (.agg #[.int .i64 6, .string ⟨#[]⟩, .string ⟨#[]⟩, .slice none 0 0, .slice (some ⟨w3.heap.size, 0, none⟩) 1 1])) (put5 W4 (w.heap.size + 1) (.int .i64 6) (.string ⟨#[]⟩) (.string ⟨#[]⟩) (.slice none 0 0) (.slice (some ⟨w3.heap.size, 0, none⟩) 1 1))) from fun w3 h hF hb3 => by
    have hs3 := hb3.size
    refine ⟨_, rfl, CBox.b (CBox.b R2 hb3) (bel_alloc (Below.refl _ _) _), ?_⟩
    have hR := Blk.new w3 #[.int .i64 h.op, .string h.nm, .string h.so, .slice h.k.a h.k.n h.k.c, .slice h.a h.n h.c] 25
    have hbA : Below w3.heap.size w3 (w3.alloc (.cells #[.int .i64 h.op, .string h.nm, .string h.so, .slice h.k.a h.k.n h.k.c, .slice h.a h.n h.c] 25)) := bel_alloc (Below.refl _ _) _
    obtain ⟨W4, hW4⟩ : ∃ W4, w3.alloc (.cells #[.int .i64 h.op, .string h.nm, .string h.so, .slice h.k.a h.k.n h.k.c, .slice h.a h.n h.c] 25) = W4 := ⟨_, rfl⟩
    have hs4 : W4.heap.size = w3.heap.size + 1 := by rw [← hW4]; simp
    rw [hW4] at hR hbA ⊢
    have hA4 : ArCP (fun b => W2.heap.size ≤ b ∧ b < W4.heap.size) W4 t h.k h.a h.n h.c := ArCP.to (P := fun b => W2.heap.size ≤ b ∧ b < w3.heap.size) (fun b hb => hbA.block b hb.2) (fun b hb => ⟨hb.1, by omega⟩) _ (FrC.arP _ (fun b x y => ⟨x, y⟩) hF)
    refine rd_put (h := ⟨6, ⟨#[]⟩, ⟨#[]⟩, SS.nil, some ⟨w3.heap.size, 0, none⟩, 1, 1⟩) hs2 hB2 (by omega) (by omega) ⟨rfl, rfl, rfl⟩ ?_ (bel_trans hb3 hbA)
    rw [ArCP]
    refine ⟨nilTP _ _, rfl, Nat.le_refl _, (by show (1 : Nat) ≤ maxLen; unfold maxLen; omega), fun h => (by cases h), fun _ => ⟨w3.heap.size, 0, rfl, ⟨by omega, by omega⟩, rowC_one hR (FrC.hd hF) hA4⟩⟩)
  clear hA S2 R2 hsz
  generalize opC t = op at *
  generalize nmC t = nm at *
  generalize soC t = so at *
  go_enter Tryz.func14, Tryz.ntmps14
  go_wp2_with (go_at_call 30; ((with_reducible refine cc.mono ?_); rintro e w3 ⟨h, rfl, hF, hb3⟩; obtain ⟨W4, hW4, R4, HF⟩ := HFin.out w3 h hF hb3; clear hF; obtain ⟨v0, v1, v2, v3, v4⟩ := R4.five; obtain ⟨f0, f1, f2, f3, f4⟩ := R4.free; obtain ⟨x0, x1, x2, x3, x4⟩ := (CBox.put R4 6 ⟨#[]⟩ ⟨#[]⟩ SS.nil (some ⟨w3.heap.size, 0, none⟩) 1 1).five; unfold put5 at HF x0 x1 x2 x3 x4; dsimp only [SS.nil] at x0 x1 x2 x3 x4))
  simp [bodyPost, results, Tryz.results14, go_sem, x0, x1, x2, x3, x4]
  exact HF.out
set_option maxRecDepth 100000 in
set_option maxHeartbeats 4000000 in
theorem pred_any (s : ByteArray) (w : World) : Calls Tryz.prog 16 #[.string s] w fun e w' => e = .returned (.agg #[.int .i64 3, .string s, .string ⟨#[]⟩, .slice none 0 0, .slice none 0 0]) ∧ Below w.heap.size w w' := by
  obtain ⟨W1, hW1, hB1, hs1, R1⟩ := cbox1 w 0 ⟨#[]⟩ ⟨#[]⟩ SS.nil none 0 0
  dsimp only [SS.nil] at hW1
  obtain ⟨v0, v1, v2, v3, v4⟩ := R1.five
  obtain ⟨f0, f1, f2, f3, f4⟩ := R1.free
  obtain ⟨x0, x1, x2, x3, x4⟩ := (CBox.put R1 3 s ⟨#[]⟩ SS.nil none 0 0).five
  have hb := Lib.hid (put5_below hB1 (Nat.le_refl w.heap.size) (.int .i64 3) (.string s) (.string ⟨#[]⟩) (.slice none 0 0) (.slice none 0 0))
  unfold put5 at x0 x1 x2 x3 x4 hb
  dsimp only [SS.nil] at v3 x0 x1 x2 x3 x4
  clear R1
  go_enter Tryz.func16, Tryz.ntmps16
  go_wp2
  simp [bodyPost, results, Tryz.results16, go_sem, x0, x1, x2, x3, x4]
  exact hb.out
end Go.Proofs.YtjjoebijkcmgiaaGreat.C
