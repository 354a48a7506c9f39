/-
  What is proved: the chapter's example of layer 10.
-/
import Derived.Test.YteidknjhponpkaaBM
import Derived.Test.YteidknjhponpkaaZSbD
import Derived.Test.YteidknjhponpkaaBL
namespace Go.Proofs.Yteidknjhponpkaa.U
open Go.RowKit L T C B
set_option linter.unusedVariables false
set_option linter.unusedSimpArgs false

def gx : Tm := .mk 1 ⟨#[120]⟩ 0 []
def gy : Tm := .mk 1 ⟨#[121]⟩ 0 []
def gc : Tm := .mk 3 ⟨#[99]⟩ 0 []
def gA : List Pr := [⟨⟨#[120]⟩, gy⟩]
def gB : List Pr := [⟨⟨#[121]⟩, gc⟩]
def gL : List Pr := [⟨⟨#[120]⟩, gc⟩, ⟨⟨#[121]⟩, gc⟩]
theorem g_cmp : cmpN ⟨#[121]⟩ ⟨#[120]⟩ = 1 := by unfold cmpN; rw [ByteArray.toList_eq, ByteArray.toList_eq]; rfl
theorem g_get1 : getU gB ⟨#[121]⟩ = some gc := by unfold gB; rw [getU, if_pos (eqS_iff.2 rfl)]
theorem g_get2 : getU gL ⟨#[120]⟩ = some gc := by unfold gL; rw [getU, if_pos (eqS_iff.2 rfl)]
theorem g_wk : wk (fLift 0 0) 0 gc = gc := by unfold gc; rw [wk]; rfl
theorem g_sb1 : sbT (getK gB 0) gy = gc := sbT_put rfl (by unfold getK; show (getU gB ⟨#[121]⟩).map _ = _; rw [g_get1]; exact congrArg some g_wk)
theorem g_sb2 : sbT (getK gL 0) gx = gc := sbT_put rfl (by unfold getK; show (getU gL ⟨#[120]⟩).map _ = _; rw [g_get2]; exact congrArg some g_wk)
theorem g_then : gA.map (thenB gB) ++ gB = gL := by
  show [thenB gB ⟨⟨#[120]⟩, gy⟩] ++ gB = gL
  unfold thenB
  show [(⟨⟨#[120]⟩, sbT (getK gB 0) gy⟩ : Pr)] ++ gB = gL
  rw [g_sb1]; rfl
theorem g_incA : incU gA := fun k p q h1 h2 => by simp [gA] at h2
theorem g_incL : incU gL := fun k p q h1 h2 => by
  cases k with
  | zero =>
    simp only [gL, List.getElem?_cons_zero, Option.some.injEq, List.getElem?_cons_succ] at h1 h2
    subst h1 h2
    exact g_cmp
  | succ k => simp [gL] at h2
theorem g_right : rgU none gL = 0 := by
  have r : rightE gc = 0 := rfl
  unfold gL
  rw [rgU, rgU, rgU, if_neg (by rw [r]; simp), if_neg (by simp [badN]), if_neg (by rw [r]; simp), if_neg (by simp [badN, g_cmp])]
theorem g_leaf {B : Nat} {w : World} {a : Option Addr} {n c : Nat} (h : Ar B w gc a n c) : ∀ w', ArW w' gc a n c := fun w' => by
  unfold gc at h ⊢
  unfold ArW
  rw [Ar] at h ⊢
  exact ⟨h.1, h.2.1, h.2.2.1, h.2.2.2.1, fun hn => absurd hn (by have := h.1; simp at this; omega)⟩
theorem g_ar (o : Int) (s : ByteArray) (z : Int) (B : Nat) (w : World) : Ar B w (.mk o s z []) none 0 0 := by
  rw [Ar]; exact ⟨rfl, Nat.le_refl _, Nat.zero_le _, fun _ => rfl, fun h => absurd h (by omega)⟩
theorem g_sm (o : Int) (s : ByteArray) (z : Int) (h : s.size ≤ maxLen) : smT (.mk o s z []) := by rw [smT]; exact ⟨h, trivial⟩
theorem one_us {w : World} {g : Nat} {p : Pr} (h : UBox w g p.nm (opT p.t) (nameT p.t) (numT p.t) none 0 0) (ha : Ar w.heap.size w p.t none 0 0) : UsW w (some ⟨g, 0, none⟩) 1 1 [p] := by
  obtain ⟨c0, c1, c2, c3, c4⟩ := h.five
  refine ⟨rfl, Nat.le_refl _, by unfold maxLen; omega, (fun h => by cases h), fun _ => ⟨g, 0, rfl, Blk.lt h, fun i q hi => ?_⟩⟩
  cases i with
  | zero =>
    simp only [List.getElem?_cons_zero, Option.some.injEq] at hi
    subst hi
    exact ⟨none, 0, 0, c0, c1, c2, c3, c4, ha⟩
  | succ i => simp at hi
/-- the example in memory -/
theorem g_mem (w : World) : ∃ W, ((((w.alloc (.cells #[.int .i64 1, .string ⟨#[120]⟩, .int .i64 0, .slice none 0 0] 24)).alloc (.cells #[.int .i64 1, .string ⟨#[121]⟩, .int .i64 0, .slice none 0 0] 24)).alloc (.cells #[.int .i64 3, .string ⟨#[99]⟩, .int .i64 0, .slice none 0 0] 24)).alloc (.cells #[.string ⟨#[120]⟩, .int .i64 1, .string ⟨#[121]⟩, .int .i64 0, .slice none 0 0] 43)).alloc (.cells #[.string ⟨#[121]⟩, .int .i64 3, .string ⟨#[99]⟩, .int .i64 0, .slice none 0 0] 43) = W ∧ Below w.heap.size w W ∧ W.heap.size = w.heap.size + 5 ∧
    TBox W w.heap.size 1 ⟨#[120]⟩ 0 none 0 0 ∧ TBox W (w.heap.size + 2) 3 ⟨#[99]⟩ 0 none 0 0 ∧ UBox W (w.heap.size + 3) ⟨#[120]⟩ 1 ⟨#[121]⟩ 0 none 0 0 ∧ UBox W (w.heap.size + 4) ⟨#[121]⟩ 3 ⟨#[99]⟩ 0 none 0 0 := by
  obtain ⟨W3, h3, hb3, hs3, t1, t2, t3⟩ := box3 w 1 ⟨#[120]⟩ 0 none 0 0 1 ⟨#[121]⟩ 0 none 0 0 3 ⟨#[99]⟩ 0 none 0 0
  rw [h3]
  obtain ⟨W5, h5, hb5, hs5, u1, u2⟩ := ubox2 W3 ⟨#[120]⟩ 1 ⟨#[121]⟩ 0 none 0 0 ⟨#[121]⟩ 3 ⟨#[99]⟩ 0 none 0 0
  rw [h5]
  rw [hs3] at u1 u2
  exact ⟨W5, rfl, bel_trans hb3 hb5, by omega, TBox.b t1 hb5, TBox.b t3 hb5, u1, u2⟩
set_option maxRecDepth 100000 in
set_option maxHeartbeats 8000000 in
theorem goes_any (w : World) : Calls Try.prog 14 #[] w fun e w' => e = .returned (.bool true) ∧ Below w.heap.size w w' := by
  obtain ⟨W, hW, hB, hs, X, Cc, P, Q⟩ := g_mem w
  have uA : UsW W (some ⟨w.heap.size + 3, 0, none⟩) 1 1 gA := one_us (p := ⟨⟨#[120]⟩, gy⟩) P (g_ar _ _ _ _ _)
  have uB : UsW W (some ⟨w.heap.size + 4, 0, none⟩) 1 1 gB := one_us (p := ⟨⟨#[121]⟩, gc⟩) Q (g_ar _ _ _ _ _)
  have hm : ∀ b : UInt8, (⟨#[b]⟩ : ByteArray).size ≤ maxLen := fun b => by unfold maxLen; show 1 ≤ _; omega
  have cT := Then_inc gA gB g_incA (by rw [g_then]; exact g_incL) (fun p hp => by simp [gA] at hp; subst hp; exact ⟨g_sm _ _ _ (hm _), hm _⟩) (fun p hp => by simp [gA] at hp; subst hp; exact (by decide : (1 : Nat) ≤ 1000000)) (fun p hp => by simp [gB] at hp; subst hp; exact ⟨g_sm _ _ _ (hm _), hm _⟩) (fun p hp => by simp [gB] at hp; subst hp; exact (by decide : (2 : Nat) ≤ 1000000)) (some ⟨w.heap.size + 3, 0, none⟩) 1 1 (some ⟨w.heap.size + 4, 0, none⟩) 1 1 W (by omega) uA uB
  rw [g_then] at cT
  have hzL : ∀ p ∈ gL, 1 + size p.t ≤ 1000000 := fun p hp => by simp [gL] at hp; rcases hp with rfl | rfl <;> exact (by decide : (2 : Nat) ≤ 1000000)
  have hnL : ∀ p ∈ gL, p.nm.size ≤ maxLen := fun p hp => by simp [gL] at hp; rcases hp with rfl | rfl <;> exact hm _
  have cA := fun (A2 : Option Addr) (C2 : Nat) (w' : World) (h : UsW w' A2 2 C2 gL) => Apply_any gL hzL hnL (by unfold maxLen; show 2 < _; omega) gx (g_sm _ _ _ (hm _)) (by decide : (1 : Nat) ≤ 1000000) A2 2 C2 none 0 0 w' h (g_ar _ _ _ _ _)
  have cR := fun (A2 : Option Addr) (C2 : Nat) (w' : World) (h : UsW w' A2 2 C2 gL) => RightU_few gL (fun p hp => by simp [gL] at hp; rcases hp with rfl | rfl <;> exact (by decide : (1 : Nat) ≤ 4096)) A2 2 C2 w' h
  rw [g_sb2] at cA
  rw [g_right] at cR
  unfold RtT at cA
  have cE := fun (a : Option Addr) (n c : Nat) (w' : World) (h : ArW w' gc a n c) => Term_any gc gc a n c none 0 0 w' h (g_ar _ _ _ _ _)
  have hee : eqT gc gc = true := eqT_iff.2 rfl
  rw [hee] at cE
  simp only [show opT gc = 3 from rfl, show nameT gc = ⟨#[99]⟩ from rfl, show numT gc = 0 from rfl, show opT gx = 1 from rfl, show nameT gx = ⟨#[120]⟩ from rfl, show numT gx = 0 from rfl] at cA cE
  have HX := Lib.hid X
  have HCc := Lib.hid Cc
  have HcA := Lib.hid cA
  have HcR := Lib.hid cR
  have hB1 := hB
  obtain ⟨x0, x1, x2, x3⟩ := X.four
  obtain ⟨k0, k1, k2, k3⟩ := Cc.four
  clear X Cc P Q uA uB hee hs cA cR
  go_enter Try.func14, Try.ntmps14
  go_wp2_with (go_at_call 16; ((with_reducible refine cT.mono ?_); rintro e w1 ⟨A2, C2, rfl, hU, hb1⟩; have HU := Lib.hid hU; clear hU))
  obtain ⟨bb, o, p, a', n', c', rfl, hbb, y0, y1, y2, y3, y4, hp, hok⟩ := HU.out.at (show 0 < 1 + 1 by omega)
  simp only [gL, List.getElem?_cons_zero, Option.some.injEq] at hp
  subst hp
  have hA0 := g_leaf hok
  rw [Nat.zero_mul, Nat.add_zero] at y1 y2 y3 y4
  simp only [show opT gc = 3 from rfl, show nameT gc = ⟨#[99]⟩ from rfl, show numT gc = 0 from rfl] at y1 y2 y3 y4
  have hBd : Below w1.heap.size w1 w1.drew := (Below.refl _ _).drew
  have TX := TBox.b HX.out hb1
  have TC := TBox.b HCc.out hb1
  have lX := Blk.lt TX
  have lC := Blk.lt TC
  obtain ⟨x0, x1, x2, x3⟩ := TX.four
  obtain ⟨k0, k1, k2, k3⟩ := TC.four
  have cA1 := fun (w' : World) (h : Below w1.heap.size w1 w') => HcA.out (some ⟨bb, o, none⟩) C2 w' (HU.out.b h)
  have cR1 := fun (w' : World) (h : Below w1.heap.size w1 w') => HcR.out (some ⟨bb, o, none⟩) C2 w' (HU.out.b h)
  have cE1 := fun (w' : World) => cE a' n' c' w' (hA0 w')
  clear TX TC hok y0
  go_region_held3 (fun w' => w'.cell? ⟨w.heap.size, 0, none⟩ = some (.int .i64 1) ∧ w'.cell? ⟨w.heap.size, 1, none⟩ = some (.string ⟨#[120]⟩) ∧ w'.cell? ⟨w.heap.size, 2, none⟩ = some (.int .i64 0) ∧ w'.cell? ⟨w.heap.size, 3, none⟩ = some (.slice none 0 0) ∧ w'.cell? ⟨w.heap.size + 2, 0, none⟩ = some (.int .i64 3) ∧ w'.cell? ⟨w.heap.size + 2, 1, none⟩ = some (.string ⟨#[99]⟩) ∧ w'.cell? ⟨w.heap.size + 2, 2, none⟩ = some (.int .i64 0) ∧ w'.cell? ⟨w.heap.size + 2, 3, none⟩ = some (.slice none 0 0) ∧ w'.cell? ⟨bb, o + 1, none⟩ = some (.int .i64 3) ∧ w'.cell? ⟨bb, o + 1 + 1, none⟩ = some (.string ⟨#[99]⟩) ∧ w'.cell? ⟨bb, o + 1 + 1 + 1, none⟩ = some (.int .i64 0) ∧ w'.cell? ⟨bb, o + 1 + 1 + 1 + 1, none⟩ = some (.slice a' n' c'))
    (first | (exact ⟨(Bz.cell lX).trans x0, (Bz.cell lX).trans x1, (Bz.cell lX).trans x2, (Bz.cell lX).trans x3, (Bz.cell lC).trans k0, (Bz.cell lC).trans k1, (Bz.cell lC).trans k2, (Bz.cell lC).trans k3, (Bz.cell hbb).trans y1, (Bz.cell hbb).trans y2, (Bz.cell hbb).trans y3, (Bz.cell hbb).trans y4⟩) | go_keep)
    (first
      | (go_at_call 27; (first | ((with_reducible refine (cE1 _).mono ?_); rintro e w4 ⟨rfl, hb4⟩; have Bz := bel_trans (a := w1) (by assumption) hb4) | ((with_reducible refine (cE2 _).mono ?_); rintro e w4 ⟨rfl, hb4⟩; have Bz := bel_trans (a := w1) (by assumption) hb4)))
      | (go_at_call 28; ((with_reducible refine (cA1 _ (by assumption)).mono ?_); rintro e w5 ⟨a3, n3, c3, rfl, hF, hb5⟩; have Bz := bel_trans (a := w1) (by assumption) hb5; have hA3 := g_leaf (ArP.ar (B := w5.heap.size) (fun b hb => by unfold Nw at hb; omega) _ hF); have cE2 := fun (w' : World) => cE a3 n3 c3 w' (hA3 w'); clear hF))
      | (go_at_call 29; ((with_reducible refine (cR1 _ (by assumption)).mono ?_); rintro e w6 ⟨rfl, hb6⟩; have Bz := bel_trans (a := w1) (by assumption) hb6)))
  all_goals go_wp2
  all_goals go_ret
  all_goals exact ⟨rfl, bel_trans hB1 (bel_trans hb1 Bz)⟩
end Go.Proofs.Yteidknjhponpkaa.U
