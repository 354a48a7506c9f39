/-
  What is proved: what package claim's Flat returns: the outermost parts that are not joined by the Op, in new memory.
-/
import Derived.Test.YtjjoebijkcmgiaaGreatZClmN
namespace Go.Proofs.YtjjoebijkcmgiaaGreat.C
open Go.RowKit Go.Shelf L T
set_option linter.unusedVariables false
set_option linter.unusedSimpArgs false

def endsL (p : Int → Bool) (t : Cl) : List Cl := (allP p t).filter (fun x => !p (opC x))
def endsLs (p : Int → Bool) (l : List Cl) : List Cl := (allPs p l).filter (fun x => !p (opC x))
theorem endsL_yes {p : Int → Bool} {t : Cl} (h : p (opC t) = true) : endsL p t = endsLs p (subC t) := by
  unfold endsL endsLs; rw [allP_mk]; unfold kids; rw [List.filter_cons]; simp [h]
theorem endsL_no {p : Int → Bool} {t : Cl} (h : p (opC t) = false) : endsL p t = [t] := by
  unfold endsL; rw [allP_mk]; unfold kids; rw [List.filter_cons]; simp [h, allPs]
theorem endsLs_cons (p : Int → Bool) (t : Cl) (l : List Cl) : endsLs p (t :: l) = endsL p t ++ endsLs p l := by
  unfold endsLs endsL; rw [allPs, List.filter_append]
theorem wts_app (l m : List Cl) : wts (l ++ m) = wts l + wts m := by
  induction l with
  | nil => simp [wts]
  | cons t l ih => rw [List.cons_append, wts, wts, ih]; omega
theorem endsLs_wt (p : Int → Bool) (l : List Cl) (h : ∀ t ∈ l, wts (endsL p t) ≤ wt t) : wts (endsLs p l) ≤ wts l := by
  induction l with
  | nil => exact Nat.le_refl _
  | cons t l ih =>
    rw [endsLs_cons, wts_app, wts]
    have := h t (by simp)
    have := ih (fun x hx => h x (by simp [hx]))
    omega
theorem endsL_wt (p : Int → Bool) (t : Cl) : wts (endsL p t) ≤ wt t := by
  refine Cl.ind (P := fun t => wts (endsL p t) ≤ wt t) (fun t ih => ?_) t
  cases h : p (opC t) with
  | true => rw [endsL_yes h]; have := endsLs_wt p (subC t) ih; have := wt_mk t; omega
  | false => rw [endsL_no h, wts, wts]; omega
theorem endsPost {p : Int → Bool} {t : Cl} {w w' : World} {v : Value} {pts : List (PtC w.heap.size w)} (hm : pts.map PtC.t = allP p t) (ho : OwnC w' w.heap.size v (fltC p pts)) (hb : Below w.heap.size w w') : ∃ A n C, v = .slice A n C ∧ CsW w' A n C (endsL p t) := by
  obtain ⟨A, C, hv, _⟩ := ho.slice
  refine ⟨A, _, C, hv, ?_⟩
  rw [hv] at ho
  have hl : endsL p t = (pts.filter (fun x => !p (opC x.t))).map PtC.t := by
    unfold endsL
    rw [← hm, List.filter_map]
    rfl
  rw [hl]
  refine ho.isC (Nat.le_refl _) (by unfold fltC; simp) fun k hk hk2 => ?_
  have hk3 : k < (pts.filter (fun x => !p (opC x.t))).length := by simpa using hk
  have e1 : (fltC p pts)[k] = hcP ((pts.filter (fun x => !p (opC x.t)))[k]) := by simp [fltC]
  have e2 : ((pts.filter (fun x => !p (opC x.t))).map PtC.t)[k] = ((pts.filter (fun x => !p (opC x.t)))[k]).t := by simp
  rw [e1, e2]
  exact ⟨rfl, rfl, rfl, ArC.mono hb.size _ (ArC.bel hb _ ((pts.filter (fun x => !p (opC x.t)))[k]).ok)⟩
/-- a new list of claims reads as this list -/
theorem newCs_read {w w' : World} {l : List Cl} {A : Option Addr} {m C : Nat} (hm : m = l.length) (h1 : m ≤ C ∧ C ≤ maxLen ∧ (A = none → C = 0)) (h2 : 0 < m → ∃ g hs, A = some ⟨g, 0, none⟩ ∧ w.heap.size ≤ g ∧ RowC w' g hs ∧ FrCL w' l (g + 1) w'.heap.size hs) : CsW w' A m C l := by
  refine ⟨hm, h1.1, h1.2.1, h1.2.2, fun hn => ?_⟩
  obtain ⟨g, hs, e1, e2, e3, e4⟩ := h2 hn
  refine ⟨g, 0, e1, e3.lt, rwc_at.2 fun k hk => ?_⟩
  have hk2 : k < hs.length := by rw [FrCL.len e4]; exact hk
  obtain ⟨c0, c1, c2, c3, c4⟩ := e3.at hk2
  have h5 := FrCL.ar l (Nat.le_refl _) e4 k hk hk2
  rw [Nat.zero_add]
  exact ⟨_, _, _, _, by rw [← h5.1.1]; exact c0, by rw [← h5.1.2.1]; exact c1, by rw [← h5.1.2.2]; exact c2, c3, c4, h5.2⟩
theorem endsC_any (t : Cl) (k : SS) (a : Option Addr) (m c : Nat) (w : World) (hsz : wt t ≤ 1000000) (hA : ArWC w t k a m c) :
    Calls Tryz.prog 35 #[.agg #[.int .i64 (opC t), .string (nmC t), .string (soC t), .slice k.a k.n k.c, .slice a m c], .func (.func 36) #[] #[]] w fun e w' => ∃ A n C, e = .returned (.slice A n C) ∧ CsW w' A n C (endsL conP t) ∧ Below w.heap.size w w' := by
  refine (callsIn_wide.1 (ends_in_con conP t k a m c w (con_ok w) hsz hA)).mono fun e w' => ?_
  rintro ⟨v, rfl, ⟨pts, hm, ho⟩, hb⟩
  obtain ⟨A, n, C, rfl, h⟩ := endsPost hm ho hb
  exact ⟨A, n, C, rfl, h, hb⟩
theorem endsF_any (q : Int) (g : Nat) (t : Cl) (k : SS) (a : Option Addr) (m c : Nat) (w : World) (hg : Blk w g #[.int .i64 q] 3) (hsz : wt t ≤ 1000000) (hA : ArWC w t k a m c) :
    Calls Tryz.prog 35 #[.agg #[.int .i64 (opC t), .string (nmC t), .string (soC t), .slice k.a k.n k.c, .slice a m c], .func (.func 33) #[] #[.pointer (some ⟨g, 0, none⟩)]] w fun e w' => ∃ A n C, e = .returned (.slice A n C) ∧ CsW w' A n C (endsL (flatP q) t) ∧ Below w.heap.size w w' := by
  refine (callsIn_wide.1 (ends_in_flat (flatP q) g t k a m c w (flat_ok q g w hg) hsz hA)).mono fun e w' => ?_
  rintro ⟨v, rfl, ⟨pts, hm, ho⟩, hb⟩
  obtain ⟨A, n, C, rfl, h⟩ := endsPost hm ho hb
  exact ⟨A, n, C, rfl, h, hb⟩
set_option maxRecDepth 100000 in
set_option maxHeartbeats 4000000 in
theorem Flat_any (q : Int) (t : Cl) (k : SS) (a : Option Addr) (m c : Nat) (w : World) (hsz : wt t ≤ 1000000) (hA : ArWC w t k a m c) :
    Calls Tryz.prog 18 #[.agg #[.int .i64 (opC t), .string (nmC t), .string (soC t), .slice k.a k.n k.c, .slice a m c], .int .i64 q] w fun e w' => ∃ A n C, e = .returned (.slice A n C) ∧ CsW w' A n C (endsL (flatP q) t) ∧ Below w.heap.size w w' := by
  obtain ⟨W1, hW1, hB1, hs1, S1⟩ := cbox1 w (opC t) (nmC t) (soC t) k a m c
  obtain ⟨W2, hW2⟩ : ∃ W2, W1.alloc (.cells #[.int .i64 q] 3) = W2 := ⟨_, rfl⟩
  have hB2 : Below W1.heap.size W1 W2 := by rw [← hW2]; exact bel_alloc (Below.refl _ _) _
  have Q2 : Blk W2 (w.heap.size + 1) #[.int .i64 q] 3 := by rw [← hW2, ← hs1]; exact Blk.new W1 _ _
  have hB12 := bel_trans hB1 hB2
  have cE := endsF_any q (w.heap.size + 1) t k a m c W2 Q2 hsz (ArWC.b hA hB12)
  have hwt := endsL_wt (flatP q) t
  obtain ⟨s0, s1, s2, s3, s4⟩ := (CBox.b S1 hB2).five
  clear hA S1 Q2
  generalize endsL (flatP q) t = lt at *
  generalize opC t = op at *
  generalize nmC t = nm at *
  generalize soC t = so at *
  go_enter Tryz.func18, Tryz.ntmps18
  go_wp2_with (first
    | (go_at_call 35; ((with_reducible refine cE.mono ?_); rintro e w3 ⟨A, n, C, rfl, hT, hb3⟩; have HT := Lib.hid hT; clear hT))
    | (go_at_call 34; ((with_reducible refine (mapCopyC_of lt (fun x _ => CopyC_any x) (by omega) A n C w3 HT.out).mono ?_); rintro e w4 ⟨A4, C4, rfl, hc4, hr4, hb4⟩; have HN := Lib.hid (newCs_read (w := w3) HT.out.1 hc4 hr4); clear hc4 hr4)))
  go_ret
  exact ⟨_, _, _, rfl, HN.out, bel_trans hB12 (bel_trans hb3 hb4)⟩
end Go.Proofs.YtjjoebijkcmgiaaGreat.C
