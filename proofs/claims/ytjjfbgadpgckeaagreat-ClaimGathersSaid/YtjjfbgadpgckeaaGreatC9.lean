/-
  What is proved: what package claim's And, Or, Not and Flat return, and the law's pred.
  What is proved: what package claim's Flat returns: the outermost parts that are not joined by the Op, in new memory.
  What is proved: appends of claims to a row of the call's own; rows of claims that read below a world ahead.
-/
import Derived.Test.YtjjfbgadpgckeaaGreatZClmJw
import Derived.Test.YtjjfbgadpgckeaaGreatZClmEf
import Derived.Test.YtjjfbgadpgckeaaGreatC5
namespace Go.Proofs.YtjjfbgadpgckeaaGreat.C
open Go.RowKit Go.Shelf L T
set_option linter.unusedVariables false
set_option linter.unusedSimpArgs false

theorem arWC_leaf (w : World) (o : Int) (s z : ByteArray) : ArWC w (.mk o s z [] []) SS.nil none 0 0 := by
  unfold ArWC; rw [ArC]
  exact ⟨⟨rfl, Nat.le_refl _, Nat.zero_le _, fun _ => rfl, fun h => absurd h (Nat.lt_irrefl 0)⟩, rfl, Nat.le_refl _, Nat.zero_le _, fun _ => rfl, fun h => absurd h (Nat.lt_irrefl 0)⟩
theorem arCP_leaf (P : Nat → Prop) (w : World) (o : Int) (s z : ByteArray) : ArCP P w (.mk o s z [] []) SS.nil none 0 0 := by
  rw [ArCP]
  exact ⟨nilTP _ _, rfl, Nat.le_refl _, Nat.zero_le _, fun _ => rfl, fun h => absurd h (Nat.lt_irrefl 0)⟩
theorem arC_put {w W : World} {t : Cl} {k : SS} {a : Option Addr} {n c : Nat} (h : ArWC w t k a n c) (hb : Below w.heap.size w W) : ArWC W t k a n c := ArWC.b h hb
set_option maxRecDepth 100000 in
set_option maxHeartbeats 4000000 in
theorem joined_any (op none0 : Int) (l : List Cl) (A : Option Addr) (m c : Nat) (w : World) (hsz : wts l ≤ 1000000) (hG : CsW w A m c l) :
    Calls Tryz.prog 56 #[.slice A m c, .int .i64 op, .int .i64 none0] w fun e w' => RdC (joinL op none0 l) w e w' := by
  cases m with
  | succ M => exact callsIn_wide.1 (joined_in op none0 l A M c w hsz hG)
  | zero =>
    have hl : l = [] := List.eq_nil_of_length_eq_zero hG.1.symm
    subst hl
    obtain ⟨W1, hW1⟩ : ∃ W1, w.alloc (.cells #[.int .i64 op] 3) = W1 := ⟨_, rfl⟩
    have hB1 : Below w.heap.size w W1 := by rw [← hW1]; exact bel_alloc (Below.refl _ _) _
    have hs1 : W1.heap.size = w.heap.size + 1 := by rw [← hW1]; simp
    obtain ⟨W2, hW2, hB2, hs2, R2⟩ := cbox1 W1 0 ⟨#[]⟩ ⟨#[]⟩ SS.nil none 0 0
    dsimp only [SS.nil] at hW2
    rw [hs1] at R2
    obtain ⟨v0, v1, v2, v3, v4⟩ := R2.five
    obtain ⟨f0, f1, f2, f3, f4⟩ := R2.free
    obtain ⟨x0, x1, x2, x3, x4⟩ := (CBox.put R2 none0 ⟨#[]⟩ ⟨#[]⟩ SS.nil none 0 0).five
    have hb := Lib.hid (put5_below (bel_trans hB1 hB2) (show w.heap.size ≤ w.heap.size + 1 by omega) (.int .i64 none0) (.string ⟨#[]⟩) (.string ⟨#[]⟩) (.slice none 0 0) (.slice none 0 0))
    unfold put5 at x0 x1 x2 x3 x4 hb
    dsimp only [SS.nil] at v3 x0 x1 x2 x3 x4
    clear hG R2 hsz
    go_enter Tryz.func56, Tryz.ntmps56
    go_wp2
    simp [bodyPost, results, Tryz.results56, go_sem, x0, x1, x2, x3, x4]
    exact ⟨⟨none0, ⟨#[]⟩, ⟨#[]⟩, SS.nil, none, 0, 0⟩, rfl, ⟨rfl, rfl, rfl⟩, arCP_leaf _ _ _ _ _, hb.out⟩

/-- what has been made is stored into a block ahead of it and returned -/
theorem rd_put {t : Cl} {w W1 w3 : World} {h : Hc} {d g : Nat} (hs : W1.heap.size = w.heap.size + d) (hB1 : Below w.heap.size w W1) (hg : w.heap.size ≤ g) (hg2 : g < w.heap.size + d) (he : h.op = opC t ∧ h.nm = nmC t ∧ h.so = soC t) (hA : ArCP (fun b => W1.heap.size ≤ b ∧ b < w3.heap.size) w3 t h.k h.a h.n h.c) (hb3 : Below W1.heap.size W1 w3) :
    RdC t w (.returned (.agg #[.int .i64 h.op, .string h.nm, .string h.so, .slice h.k.a h.k.n h.k.c, .slice h.a h.n h.c])) (put5 w3 g (.int .i64 h.op) (.string h.nm) (.string h.so) (.slice h.k.a h.k.n h.k.c) (.slice h.a h.n h.c)) := by
  refine ⟨h, rfl, he, ArCP.to (fun b hb => put5_other _ _ _ _ _ _ _ _ (by have := hb.1; omega)) (fun b hb => ⟨by have := hb.1; omega, by rw [put5_size]; exact hb.2⟩) _ hA, put5_below (bel_trans hB1 hb3) hg _ _ _ _ _⟩
set_option maxRecDepth 100000 in
set_option maxHeartbeats 4000000 in
theorem And_any (l : List Cl) (A : Option Addr) (m c : Nat) (w : World) (hsz : wts l ≤ 1000000) (hG : CsW w A m c l) :
    Calls Tryz.prog 24 #[.slice A m c] w fun e w' => RdC (joinL 7 1 l) w e w' := by
  obtain ⟨W1, hW1, hB1, hs1, R1⟩ := cbox1 w 0 ⟨#[]⟩ ⟨#[]⟩ SS.nil none 0 0
  dsimp only [SS.nil] at hW1
  have cj := joined_any 7 1 l A m c W1 hsz (CsW.b hG hB1)
  have HR := Lib.hid R1
  clear R1 hG hsz
  generalize joinL 7 1 l = t at *
  go_enter Tryz.func24, Tryz.ntmps24
  go_wp2_with (go_at_call 56; ((with_reducible refine cj.mono ?_); rintro e w3 ⟨h, rfl, he, hA, hb3⟩; have HF := Lib.hid (rd_put hs1 hB1 (Nat.le_refl _) (Nat.lt_succ_self _) he hA hb3); clear he hA; have R3 := CBox.b HR.out hb3; obtain ⟨v0, v1, v2, v3, v4⟩ := R3.five; obtain ⟨f0, f1, f2, f3, f4⟩ := R3.free; obtain ⟨x0, x1, x2, x3, x4⟩ := (CBox.put R3 h.op h.nm h.so h.k h.a h.n h.c).five; unfold put5 at HF x0 x1 x2 x3 x4))
  simp [bodyPost, results, Tryz.results24, go_sem, x0, x1, x2, x3, x4]
  exact HF.out
set_option maxRecDepth 100000 in
set_option maxHeartbeats 4000000 in
theorem Or_any (l : List Cl) (A : Option Addr) (m c : Nat) (w : World) (hsz : wts l ≤ 1000000) (hG : CsW w A m c l) :
    Calls Tryz.prog 25 #[.slice A m c] w fun e w' => RdC (joinL 8 2 l) w e w' := by
  obtain ⟨W1, hW1, hB1, hs1, R1⟩ := cbox1 w 0 ⟨#[]⟩ ⟨#[]⟩ SS.nil none 0 0
  dsimp only [SS.nil] at hW1
  have cj := joined_any 8 2 l A m c W1 hsz (CsW.b hG hB1)
  have HR := Lib.hid R1
  clear R1 hG hsz
  generalize joinL 8 2 l = t at *
  go_enter Tryz.func25, Tryz.ntmps25
  go_wp2_with (go_at_call 56; ((with_reducible refine cj.mono ?_); rintro e w3 ⟨h, rfl, he, hA, hb3⟩; have HF := Lib.hid (rd_put hs1 hB1 (Nat.le_refl _) (Nat.lt_succ_self _) he hA hb3); clear he hA; have R3 := CBox.b HR.out hb3; obtain ⟨v0, v1, v2, v3, v4⟩ := R3.five; obtain ⟨f0, f1, f2, f3, f4⟩ := R3.free; obtain ⟨x0, x1, x2, x3, x4⟩ := (CBox.put R3 h.op h.nm h.so h.k h.a h.n h.c).five; unfold put5 at HF x0 x1 x2 x3 x4))
  simp [bodyPost, results, Tryz.results25, go_sem, x0, x1, x2, x3, x4]
  exact HF.out
theorem rowC_one {P : Nat → Prop} {w : World} {g : Nat} {h : Hc} {t : Cl} (hR : Blk w g #[.int .i64 h.op, .string h.nm, .string h.so, .slice h.k.a h.k.n h.k.c, .slice h.a h.n h.c] 25) (he : h.op = opC t ∧ h.nm = nmC t ∧ h.so = soC t) (hA : ArCP P w t h.k h.a h.n h.c) : RwCP P w g 0 [t] := by
  rw [RwCP, RwCP]
  exact ⟨⟨h.k, h.a, h.n, h.c, by rw [← he.1]; exact Blk.cell hR 0, by rw [← he.2.1]; exact Blk.cell hR 1, by rw [← he.2.2]; exact Blk.cell hR 2, Blk.cell hR 3, Blk.cell hR 4, hA⟩, trivial⟩
set_option maxRecDepth 100000 in
set_option maxHeartbeats 4000000 in
theorem Not_any (t : Cl) (k : SS) (a : Option Addr) (m c : Nat) (w : World) (hsz : wt t ≤ 1000000) (hA : ArWC w t k a m c) :
    Calls Tryz.prog 30 #[.agg #[.int .i64 (opC t), .string (nmC t), .string (soC t), .slice k.a k.n k.c, .slice a m c]] w fun e w' => RdC (.mk 6 ⟨#[]⟩ ⟨#[]⟩ [] [t]) w e w' := by
  obtain ⟨W2, hW2, hB2, hs2, S2, R2⟩ := cbox2 w (opC t) (nmC t) (soC t) k a m c 0 ⟨#[]⟩ ⟨#[]⟩ SS.nil none 0 0
  dsimp only [SS.nil] at hW2
  have cc := CopyC_any t k a m c W2 hsz (ArWC.b hA hB2)
  obtain ⟨s0, s1, s2, s3, s4⟩ := S2.five
  have HR := Lib.hid R2
  have HFin := Lib.hid (show ∀ (w3 : World) (h : Hc), FrC w3 t W2.heap.size w3.heap.size h → Below W2.heap.size W2 w3 → ∃ W4, w3.alloc (.cells #[.int .i64 h.op, .string h.nm, .string h.so, .slice h.k.a h.k.n h.k.c, .slice h.a h.n h.c] 25) = W4 ∧ CBox W4 (w.heap.size + 1) 0 ⟨#[]⟩ ⟨#[]⟩ SS.nil none 0 0 ∧ Hid (RdC (.mk 6 ⟨#[]⟩ ⟨#[]⟩ [] [t]) w (.returned (.agg #[.int .i64 6, .string ⟨#[]⟩, .string ⟨#[]⟩, .slice none 0 0, .slice (some ⟨w3.heap.size, 0, none⟩) 1 1])) (put5 W4 (w.heap.size + 1) (.int .i64 6) (.string ⟨#[]⟩) (.string ⟨#[]⟩) (.slice none 0 0) (.slice (some ⟨w3.heap.size, 0, none⟩) 1 1))) from fun w3 h hF hb3 => by
    have hs3 := hb3.size
    refine ⟨_, rfl, CBox.b (CBox.b R2 hb3) (bel_alloc (Below.refl _ _) _), ?_⟩
    have hR := Blk.new w3 #[.int .i64 h.op, .string h.nm, .string h.so, .slice h.k.a h.k.n h.k.c, .slice h.a h.n h.c] 25
    have hbA : Below w3.heap.size w3 (w3.alloc (.cells #[.int .i64 h.op, .string h.nm, .string h.so, .slice h.k.a h.k.n h.k.c, .slice h.a h.n h.c] 25)) := bel_alloc (Below.refl _ _) _
    obtain ⟨W4, hW4⟩ : ∃ W4, w3.alloc (.cells #[.int .i64 h.op, .string h.nm, .string h.so, .slice h.k.a h.k.n h.k.c, .slice h.a h.n h.c] 25) = W4 := ⟨_, rfl⟩
    have hs4 : W4.heap.size = w3.heap.size + 1 := by rw [← hW4]; simp
    rw [hW4] at hR hbA ⊢
    have hA4 : ArCP (fun b => W2.heap.size ≤ b ∧ b < W4.heap.size) W4 t h.k h.a h.n h.c := ArCP.to (P := fun b => W2.heap.size ≤ b ∧ b < w3.heap.size) (fun b hb => hbA.block b hb.2) (fun b hb => ⟨hb.1, by omega⟩) _ (FrC.arP _ (fun b x y => ⟨x, y⟩) hF)
    refine rd_put (h := ⟨6, ⟨#[]⟩, ⟨#[]⟩, SS.nil, some ⟨w3.heap.size, 0, none⟩, 1, 1⟩) hs2 hB2 (by omega) (by omega) ⟨rfl, rfl, rfl⟩ ?_ (bel_trans hb3 hbA)
    rw [ArCP]
    refine ⟨nilTP _ _, rfl, Nat.le_refl _, (by show (1 : Nat) ≤ maxLen; unfold maxLen; omega), fun h => (by cases h), fun _ => ⟨w3.heap.size, 0, rfl, ⟨by omega, by omega⟩, rowC_one hR (FrC.hd hF) hA4⟩⟩)
  clear hA S2 R2 hsz
  generalize opC t = op at *
  generalize nmC t = nm at *
  generalize soC t = so at *
  go_enter Tryz.func30, Tryz.ntmps30
  go_wp2_with (go_at_call 54; ((with_reducible refine cc.mono ?_); rintro e w3 ⟨h, rfl, hF, hb3⟩; obtain ⟨W4, hW4, R4, HF⟩ := HFin.out w3 h hF hb3; clear hF; obtain ⟨v0, v1, v2, v3, v4⟩ := R4.five; obtain ⟨f0, f1, f2, f3, f4⟩ := R4.free; obtain ⟨x0, x1, x2, x3, x4⟩ := (CBox.put R4 6 ⟨#[]⟩ ⟨#[]⟩ SS.nil (some ⟨w3.heap.size, 0, none⟩) 1 1).five; unfold put5 at HF x0 x1 x2 x3 x4; dsimp only [SS.nil] at x0 x1 x2 x3 x4))
  simp [bodyPost, results, Tryz.results30, go_sem, x0, x1, x2, x3, x4]
  exact HF.out
set_option maxRecDepth 100000 in
set_option maxHeartbeats 4000000 in
theorem pred_any (s : ByteArray) (w : World) : Calls Tryz.prog 29 #[.string s] w fun e w' => e = .returned (.agg #[.int .i64 3, .string s, .string ⟨#[]⟩, .slice none 0 0, .slice none 0 0]) ∧ Below w.heap.size w w' := by
  obtain ⟨W1, hW1, hB1, hs1, R1⟩ := cbox1 w 0 ⟨#[]⟩ ⟨#[]⟩ SS.nil none 0 0
  dsimp only [SS.nil] at hW1
  obtain ⟨v0, v1, v2, v3, v4⟩ := R1.five
  obtain ⟨f0, f1, f2, f3, f4⟩ := R1.free
  obtain ⟨x0, x1, x2, x3, x4⟩ := (CBox.put R1 3 s ⟨#[]⟩ SS.nil none 0 0).five
  have hb := Lib.hid (put5_below hB1 (Nat.le_refl w.heap.size) (.int .i64 3) (.string s) (.string ⟨#[]⟩) (.slice none 0 0) (.slice none 0 0))
  unfold put5 at x0 x1 x2 x3 x4 hb
  dsimp only [SS.nil] at v3 x0 x1 x2 x3 x4
  clear R1
  go_enter Tryz.func29, Tryz.ntmps29
  go_wp2
  simp [bodyPost, results, Tryz.results29, go_sem, x0, x1, x2, x3, x4]
  exact hb.out
end Go.Proofs.YtjjfbgadpgckeaaGreat.C
namespace Go.Proofs.YtjjfbgadpgckeaaGreat.C
open Go.RowKit Go.Shelf L T
set_option linter.unusedVariables false
set_option linter.unusedSimpArgs false

def endsL (p : Int → Bool) (t : Cl) : List Cl := (allP p t).filter (fun x => !p (opC x))
def endsLs (p : Int → Bool) (l : List Cl) : List Cl := (allPs p l).filter (fun x => !p (opC x))
theorem endsL_yes {p : Int → Bool} {t : Cl} (h : p (opC t) = true) : endsL p t = endsLs p (subC t) := by
  unfold endsL endsLs; rw [allP_mk]; unfold kids; rw [List.filter_cons]; simp [h]
theorem endsL_no {p : Int → Bool} {t : Cl} (h : p (opC t) = false) : endsL p t = [t] := by
  unfold endsL; rw [allP_mk]; unfold kids; rw [List.filter_cons]; simp [h, allPs]
theorem endsLs_cons (p : Int → Bool) (t : Cl) (l : List Cl) : endsLs p (t :: l) = endsL p t ++ endsLs p l := by
  unfold endsLs endsL; rw [allPs, List.filter_append]
theorem wts_app (l m : List Cl) : wts (l ++ m) = wts l + wts m := by
  induction l with
  | nil => simp [wts]
  | cons t l ih => rw [List.cons_append, wts, wts, ih]; omega
theorem endsLs_wt (p : Int → Bool) (l : List Cl) (h : ∀ t ∈ l, wts (endsL p t) ≤ wt t) : wts (endsLs p l) ≤ wts l := by
  induction l with
  | nil => exact Nat.le_refl _
  | cons t l ih =>
    rw [endsLs_cons, wts_app, wts]
    have := h t (by simp)
    have := ih (fun x hx => h x (by simp [hx]))
    omega
theorem endsL_wt (p : Int → Bool) (t : Cl) : wts (endsL p t) ≤ wt t := by
  refine Cl.ind (P := fun t => wts (endsL p t) ≤ wt t) (fun t ih => ?_) t
  cases h : p (opC t) with
  | true => rw [endsL_yes h]; have := endsLs_wt p (subC t) ih; have := wt_mk t; omega
  | false => rw [endsL_no h, wts, wts]; omega
theorem endsPost {p : Int → Bool} {t : Cl} {w w' : World} {v : Value} {pts : List (PtC w.heap.size w)} (hm : pts.map PtC.t = allP p t) (ho : OwnC w' w.heap.size v (fltC p pts)) (hb : Below w.heap.size w w') : ∃ A n C, v = .slice A n C ∧ CsW w' A n C (endsL p t) := by
  obtain ⟨A, C, hv, _⟩ := ho.slice
  refine ⟨A, _, C, hv, ?_⟩
  rw [hv] at ho
  have hl : endsL p t = (pts.filter (fun x => !p (opC x.t))).map PtC.t := by
    unfold endsL
    rw [← hm, List.filter_map]
    rfl
  rw [hl]
  refine ho.isC (Nat.le_refl _) (by unfold fltC; simp) fun k hk hk2 => ?_
  have hk3 : k < (pts.filter (fun x => !p (opC x.t))).length := by simpa using hk
  have e1 : (fltC p pts)[k] = hcP ((pts.filter (fun x => !p (opC x.t)))[k]) := by simp [fltC]
  have e2 : ((pts.filter (fun x => !p (opC x.t))).map PtC.t)[k] = ((pts.filter (fun x => !p (opC x.t)))[k]).t := by simp
  rw [e1, e2]
  exact ⟨rfl, rfl, rfl, ArC.mono hb.size _ (ArC.bel hb _ ((pts.filter (fun x => !p (opC x.t)))[k]).ok)⟩
/-- a new list of claims reads as this list -/
theorem newCs_read {w w' : World} {l : List Cl} {A : Option Addr} {m C : Nat} (hm : m = l.length) (h1 : m ≤ C ∧ C ≤ maxLen ∧ (A = none → C = 0)) (h2 : 0 < m → ∃ g hs, A = some ⟨g, 0, none⟩ ∧ w.heap.size ≤ g ∧ RowC w' g hs ∧ FrCL w' l (g + 1) w'.heap.size hs) : CsW w' A m C l := by
  refine ⟨hm, h1.1, h1.2.1, h1.2.2, fun hn => ?_⟩
  obtain ⟨g, hs, e1, e2, e3, e4⟩ := h2 hn
  refine ⟨g, 0, e1, e3.lt, rwc_at.2 fun k hk => ?_⟩
  have hk2 : k < hs.length := by rw [FrCL.len e4]; exact hk
  obtain ⟨c0, c1, c2, c3, c4⟩ := e3.at hk2
  have h5 := FrCL.ar l (Nat.le_refl _) e4 k hk hk2
  rw [Nat.zero_add]
  exact ⟨_, _, _, _, by rw [← h5.1.1]; exact c0, by rw [← h5.1.2.1]; exact c1, by rw [← h5.1.2.2]; exact c2, c3, c4, h5.2⟩
theorem endsC_any (t : Cl) (k : SS) (a : Option Addr) (m c : Nat) (w : World) (hsz : wt t ≤ 1000000) (hA : ArWC w t k a m c) :
    Calls Tryz.prog 49 #[.agg #[.int .i64 (opC t), .string (nmC t), .string (soC t), .slice k.a k.n k.c, .slice a m c], .func (.func 50) #[] #[]] w fun e w' => ∃ A n C, e = .returned (.slice A n C) ∧ CsW w' A n C (endsL conP t) ∧ Below w.heap.size w w' := by
  refine (callsIn_wide.1 (ends_in_con conP t k a m c w (con_ok w) hsz hA)).mono fun e w' => ?_
  rintro ⟨v, rfl, ⟨pts, hm, ho⟩, hb⟩
  obtain ⟨A, n, C, rfl, h⟩ := endsPost hm ho hb
  exact ⟨A, n, C, rfl, h, hb⟩
theorem endsF_any (q : Int) (g : Nat) (t : Cl) (k : SS) (a : Option Addr) (m c : Nat) (w : World) (hg : Blk w g #[.int .i64 q] 3) (hsz : wt t ≤ 1000000) (hA : ArWC w t k a m c) :
    Calls Tryz.prog 49 #[.agg #[.int .i64 (opC t), .string (nmC t), .string (soC t), .slice k.a k.n k.c, .slice a m c], .func (.func 58) #[] #[.pointer (some ⟨g, 0, none⟩)]] w fun e w' => ∃ A n C, e = .returned (.slice A n C) ∧ CsW w' A n C (endsL (flatP q) t) ∧ Below w.heap.size w w' := by
  refine (callsIn_wide.1 (ends_in_flat (flatP q) g t k a m c w (flat_ok q g w hg) hsz hA)).mono fun e w' => ?_
  rintro ⟨v, rfl, ⟨pts, hm, ho⟩, hb⟩
  obtain ⟨A, n, C, rfl, h⟩ := endsPost hm ho hb
  exact ⟨A, n, C, rfl, h, hb⟩
set_option maxRecDepth 100000 in
set_option maxHeartbeats 4000000 in
theorem Flat_any (q : Int) (t : Cl) (k : SS) (a : Option Addr) (m c : Nat) (w : World) (hsz : wt t ≤ 1000000) (hA : ArWC w t k a m c) :
    Calls Tryz.prog 27 #[.agg #[.int .i64 (opC t), .string (nmC t), .string (soC t), .slice k.a k.n k.c, .slice a m c], .int .i64 q] w fun e w' => ∃ A n C, e = .returned (.slice A n C) ∧ CsW w' A n C (endsL (flatP q) t) ∧ Below w.heap.size w w' := by
  obtain ⟨W1, hW1, hB1, hs1, S1⟩ := cbox1 w (opC t) (nmC t) (soC t) k a m c
  obtain ⟨W2, hW2⟩ : ∃ W2, W1.alloc (.cells #[.int .i64 q] 3) = W2 := ⟨_, rfl⟩
  have hB2 : Below W1.heap.size W1 W2 := by rw [← hW2]; exact bel_alloc (Below.refl _ _) _
  have Q2 : Blk W2 (w.heap.size + 1) #[.int .i64 q] 3 := by rw [← hW2, ← hs1]; exact Blk.new W1 _ _
  have hB12 := bel_trans hB1 hB2
  have cE := endsF_any q (w.heap.size + 1) t k a m c W2 Q2 hsz (ArWC.b hA hB12)
  have hwt := endsL_wt (flatP q) t
  obtain ⟨s0, s1, s2, s3, s4⟩ := (CBox.b S1 hB2).five
  clear hA S1 Q2
  generalize endsL (flatP q) t = lt at *
  generalize opC t = op at *
  generalize nmC t = nm at *
  generalize soC t = so at *
  go_enter Tryz.func27, Tryz.ntmps27
  go_wp2_with (first
    | (go_at_call 49; ((with_reducible refine cE.mono ?_); rintro e w3 ⟨A, n, C, rfl, hT, hb3⟩; have HT := Lib.hid hT; clear hT))
    | (go_at_call 51; ((with_reducible refine (mapCopyC_of lt (fun x _ => CopyC_any x) (by omega) A n C w3 HT.out).mono ?_); rintro e w4 ⟨A4, C4, rfl, hc4, hr4, hb4⟩; have HN := Lib.hid (newCs_read (w := w3) HT.out.1 hc4 hr4); clear hc4 hr4)))
  go_ret
  exact ⟨_, _, _, rfl, HN.out, bel_trans hB12 (bel_trans hb3 hb4)⟩
end Go.Proofs.YtjjfbgadpgckeaaGreat.C
namespace Go.Proofs.YtjjfbgadpgckeaaGreat.C
open Go.RowKit L T
set_option linter.unusedVariables false
set_option linter.unusedSimpArgs false

theorem ownC_lt {w : World} {base : Nat} {v : Value} {hs : List Hc} (h : OwnC w base v hs) : ∀ q, v.ownBlock = some q → base ≤ q ∧ q < w.heap.size := fun q hq => World.ownsRow.lt h q hq

set_option maxRecDepth 100000 in
theorem app_claims {w : World} {ops : Array Oper} {rest : List Oper} {o : Oper} {a : Act} {Q : Exit → Act → World → Prop} (hgd : o.guard = none) (s x : Operand)
    (ho : o.op = .call { callee := .builtin .append, args := #[s, x], argTypes := #[23, 23] })
    (base : Nat) (v : Value) (Y : List Hc) (hs : a.eval s = v) (hown : OwnC w base v Y) (base2 : Nat) (v2 : Value) (X : List Hc) (hx : a.eval x = v2) (hX : OwnC w base2 v2 X)
    (hn : Y.length + X.length ≤ 1000000000) (hbase : base ≤ w.heap.size)
    (h : ∀ v' w', OwnC w' base v' (Y ++ X) → w.grownBy w' v.ownBlock → wpList Tryz.prog ops Q rest (a.put o.dst v') w') : wpList Tryz.prog ops Q (o :: rest) a w := by
  obtain ⟨i0, hi, hz0, hz1, hz2⟩ := info_parts claimI
  obtain ⟨A, c, hv2, hXc, hcm, hnil, hpos⟩ := hX.slice
  subst hv2
  cases A with
  | none =>
    have hc : c = 0 := hnil rfl
    have hX0 : X = [] := List.eq_nil_of_length_eq_zero (by omega)
    subst hX0
    subst hc
    refine wpList_append_own_none hgd s x 23 ho base 25 i0 5 Tryz.underlying23 hi v Y.length (flatC Y) hs hown hx (h v w ?_ ⟨rfl, rfl, rfl, Nat.le_refl _, fun _ _ _ => rfl⟩)
    rw [List.append_nil]; exact hown
  | some ad =>
    have hcells : ∀ j u, (flatC X)[j]? = some u → w.cell? (ad.add j) = some u := fun j u hj => by
      have hj2 : j < X.length * 5 := by have := (List.getElem?_eq_some_iff.1 hj).1; rwa [flatC_len] at this
      obtain ⟨g, hg, _, _⟩ := hpos (by omega)
      injection hg with hg
      subst hg
      exact World.ownsRow.cells (g := g) hX rfl j u hj
    refine wpList_append_own w hgd s x 23 ho base 25 i0 _ 5 88 Tryz.underlying23 hi hz0 hz1 hz2 rfl (by decide) v Y.length (flatC Y) hs hown ad X.length c (flatC X) hx (by rw [flatC_len]) hcells (hc_one _) (by unfold maxLen; omega) (by omega) hbase fun v' w' h1 h2 _ => h v' w' ?_ h2
    unfold OwnC
    rw [List.length_append, flatC_app]
    exact h1
/-- heads that read as these claims, in a world that was there -/
def HdL (w0 : World) (hs : List Hc) (l : List Cl) : Prop := hs.length = l.length ∧ ∀ (i : Nat) (h : Hc) (x : Cl), hs[i]? = some h → l[i]? = some x → (h.op = opC x ∧ h.nm = nmC x ∧ h.so = soC x) ∧ ArC w0.heap.size w0 x h.k h.a h.n h.c
theorem HdL.nil (w0 : World) : HdL w0 [] [] := ⟨rfl, fun i h x hi => by simp at hi⟩
theorem HdL.app {w0 : World} {hs hs2 : List Hc} {l l2 : List Cl} (h : HdL w0 hs l) (h2 : HdL w0 hs2 l2) : HdL w0 (hs ++ hs2) (l ++ l2) := by
  refine ⟨by rw [List.length_append, List.length_append, h.1, h2.1], fun i hh x e1 e2 => ?_⟩
  rcases Nat.lt_or_ge i hs.length with hi | hi
  · rw [List.getElem?_append_left hi] at e1
    rw [List.getElem?_append_left (by rw [← h.1]; exact hi)] at e2
    exact h.2 i hh x e1 e2
  · rw [List.getElem?_append_right hi] at e1
    rw [List.getElem?_append_right (by rw [← h.1]; exact hi), ← h.1] at e2
    exact h2.2 _ hh x e1 e2
theorem endsLs_app (p : Int → Bool) (l m : List Cl) : endsLs p (l ++ m) = endsLs p l ++ endsLs p m := by
  induction l with
  | nil => rfl
  | cons t l ih => rw [List.cons_append, endsLs_cons, endsLs_cons, ih, List.append_assoc]
theorem ends_len (p : Int → Bool) (t : Cl) : (endsL p t).length ≤ wt t := Nat.le_trans (wts_len _) (endsL_wt p t)
theorem endss_len (p : Int → Bool) (l : List Cl) : (endsLs p l).length ≤ wts l := Nat.le_trans (wts_len _) (endsLs_wt p l (fun t _ => endsL_wt p t))
theorem wts_takeF (l : List Cl) (j : Nat) : wts (l.take j) ≤ wts l := by
  have := wts_app (l.take j) (l.drop j)
  rw [List.take_append_drop] at this
  omega
theorem HdL.csW {w0 w' : World} {base : Nat} {v : Value} {hs : List Hc} {l : List Cl} (h : HdL w0 hs l) (ho : OwnC w' base v hs) (hb : Below w0.heap.size w0 w') : ∃ A n C, v = .slice A n C ∧ CsW w' A n C l := by
  obtain ⟨A, C, hv, _⟩ := ho.slice
  subst hv
  refine ⟨A, _, C, rfl, ho.isC (Nat.le_refl _) h.1.symm fun i hi hi2 => ?_⟩
  have h5 := h.2 i hs[i] l[i] (List.getElem?_eq_getElem hi2) (List.getElem?_eq_getElem hi)
  exact ⟨h5.1.1, h5.1.2.1, h5.1.2.2, ArC.mono hb.size _ (ArC.bel hb _ h5.2)⟩
end Go.Proofs.YtjjfbgadpgckeaaGreat.C
