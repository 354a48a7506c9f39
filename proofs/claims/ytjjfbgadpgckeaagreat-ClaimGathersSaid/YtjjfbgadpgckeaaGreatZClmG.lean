/-
  What is proved: the chapter's examples, as the law asks them.
-/
import Derived.Test.YtjjfbgadpgckeaaGreatD0
import Derived.Test.YtjjfbgadpgckeaaGreatCQ
namespace Go.Proofs.YtjjfbgadpgckeaaGreat.C
open Go.RowKit L T
set_option linter.unusedVariables false
set_option linter.unusedSimpArgs false

def pA (s : ByteArray) : Cl := .mk 3 s ⟨#[]⟩ [] []
def hA (s : ByteArray) : Hc := ⟨3, s, ⟨#[]⟩, SS.nil, none, 0, 0⟩
def exA : Cl := pA ⟨#[97]⟩
def exB : Cl := pA ⟨#[98]⟩
def exC3 : Cl := pA ⟨#[99]⟩
def exAll : Cl := joinL 7 1 [exA, exB, exC3]
def exNot : Cl := .mk 6 ⟨#[]⟩ ⟨#[]⟩ [] [exA]
def exOr : Cl := joinL 8 2 [exNot, exA]
theorem ex_flat7 : endsL (flatP 7) exAll = [exA, exB, exC3] := by rfl
theorem ex_flat8 : endsL (flatP 8) exAll = [exAll] := by rfl
theorem ex_atoms : endsL conP exOr = [exA, exA] := by rfl
theorem eqC_self (t : Cl) : eqC t t = true := by rw [eqC_cmp, cmpC_self]; rfl
theorem eqCs_self (l : List Cl) : eqCs l l = true := by
  induction l with
  | nil => rfl
  | cons t l ih => rw [eqCs, eqC_self, ih]; rfl
/-- a row of claims just made -/
theorem rowL (Z : World) (hs : List Hc) (ts : List Cl) (hl : hs.length = ts.length) (hm : ts.length ≤ 1000) (h : ∀ k (hk : k < ts.length) (hk2 : k < hs.length), (hs[k].op = opC ts[k] ∧ hs[k].nm = nmC ts[k] ∧ hs[k].so = soC ts[k]) ∧ ArWC Z ts[k] hs[k].k hs[k].a hs[k].n hs[k].c) :
    CsW (Z.alloc (.cells (flatC hs).toArray 25)) (some ⟨Z.heap.size, 0, none⟩) ts.length ts.length ts := by
  have hb : Below Z.heap.size Z (Z.alloc (.cells (flatC hs).toArray 25)) := bel_alloc (Below.refl _ _) _
  have ho : OwnC (Z.alloc (.cells (flatC hs).toArray 25)) Z.heap.size (.slice (some ⟨Z.heap.size, 0, none⟩) ts.length ts.length) hs := by
    refine ⟨by rw [flatC_len], .inr ⟨Z.heap.size, ts.length, _, by rw [hl], Nat.le_refl _, heap_alloc_new Z _, by rw [hl]; exact Nat.le_refl _, by unfold maxLen; omega, by simp [flatC_len, hl], ?_⟩⟩
    rw [List.take_of_length_le (by simp [flatC_len])]
  refine ho.isC (Nat.le_refl _) hl.symm fun k hk hk2 => ?_
  obtain ⟨h1, h2⟩ := h k hk hk2
  exact ⟨h1.1, h1.2.1, h1.2.2, ArWC.b h2 hb⟩
theorem row3 (Z : World) : CsW (Z.alloc (.cells #[.int .i64 3, .string ⟨#[97]⟩, .string ⟨#[]⟩, .slice none 0 0, .slice none 0 0, .int .i64 3, .string ⟨#[98]⟩, .string ⟨#[]⟩, .slice none 0 0, .slice none 0 0, .int .i64 3, .string ⟨#[99]⟩, .string ⟨#[]⟩, .slice none 0 0, .slice none 0 0] 25)) (some ⟨Z.heap.size, 0, none⟩) 3 3 [exA, exB, exC3] := by
  refine rowL Z [hA ⟨#[97]⟩, hA ⟨#[98]⟩, hA ⟨#[99]⟩] [exA, exB, exC3] rfl (by simp) fun k hk hk2 => ?_
  have : k = 0 ∨ k = 1 ∨ k = 2 := by simp at hk; omega
  rcases this with rfl | rfl | rfl <;> exact ⟨⟨rfl, rfl, rfl⟩, arWC_leaf _ _ _ _⟩
theorem row2 (Z : World) (h : Hc) (he : h.op = opC exNot ∧ h.nm = nmC exNot ∧ h.so = soC exNot) (hA0 : ArWC Z exNot h.k h.a h.n h.c) : CsW (Z.alloc (.cells #[.int .i64 h.op, .string h.nm, .string h.so, .slice h.k.a h.k.n h.k.c, .slice h.a h.n h.c, .int .i64 3, .string ⟨#[97]⟩, .string ⟨#[]⟩, .slice none 0 0, .slice none 0 0] 25)) (some ⟨Z.heap.size, 0, none⟩) 2 2 [exNot, exA] := by
  refine rowL Z [h, hA ⟨#[97]⟩] [exNot, exA] rfl (by simp) fun k hk hk2 => ?_
  have : k = 0 ∨ k = 1 := by simp at hk; omega
  rcases this with rfl | rfl
  · exact ⟨he, hA0⟩
  · exact ⟨⟨rfl, rfl, rfl⟩, arWC_leaf _ _ _ _⟩
theorem row1 (Z : World) (h : Hc) (he : h.op = opC exOr ∧ h.nm = nmC exOr ∧ h.so = soC exOr) (hA0 : ArWC Z exOr h.k h.a h.n h.c) : CsW (Z.alloc (.cells #[.int .i64 h.op, .string h.nm, .string h.so, .slice h.k.a h.k.n h.k.c, .slice h.a h.n h.c] 25)) (some ⟨Z.heap.size, 0, none⟩) 1 1 [exOr] := by
  refine rowL Z [h] [exOr] rfl (by simp) fun k hk hk2 => ?_
  have : k = 0 := by simp at hk; omega
  subst this
  exact ⟨he, hA0⟩
/-- three cells for claims, then the three stored -/
theorem box3z (w : World) : ∃ Z W4, ((w.alloc (.cells #[.int .i64 0, .string ⟨#[]⟩, .string ⟨#[]⟩, .slice none 0 0, .slice none 0 0] 25)).alloc (.cells #[.int .i64 0, .string ⟨#[]⟩, .string ⟨#[]⟩, .slice none 0 0, .slice none 0 0] 25)).alloc (.cells #[.int .i64 0, .string ⟨#[]⟩, .string ⟨#[]⟩, .slice none 0 0, .slice none 0 0] 25) = Z ∧
    (CBox Z w.heap.size 0 ⟨#[]⟩ ⟨#[]⟩ SS.nil none 0 0 ∧ CBox Z (w.heap.size + 1) 0 ⟨#[]⟩ ⟨#[]⟩ SS.nil none 0 0 ∧ CBox Z (w.heap.size + 1 + 1) 0 ⟨#[]⟩ ⟨#[]⟩ SS.nil none 0 0) ∧
    put5 (put5 (put5 Z w.heap.size (.int .i64 3) (.string ⟨#[97]⟩) (.string ⟨#[]⟩) (.slice none 0 0) (.slice none 0 0)) (w.heap.size + 1) (.int .i64 3) (.string ⟨#[98]⟩) (.string ⟨#[]⟩) (.slice none 0 0) (.slice none 0 0)) (w.heap.size + 1 + 1) (.int .i64 3) (.string ⟨#[99]⟩) (.string ⟨#[]⟩) (.slice none 0 0) (.slice none 0 0) = W4 ∧
    (CBox W4 w.heap.size 3 ⟨#[97]⟩ ⟨#[]⟩ SS.nil none 0 0 ∧ CBox W4 (w.heap.size + 1) 3 ⟨#[98]⟩ ⟨#[]⟩ SS.nil none 0 0 ∧ CBox W4 (w.heap.size + 1 + 1) 3 ⟨#[99]⟩ ⟨#[]⟩ SS.nil none 0 0) ∧ Below w.heap.size w W4 ∧ W4.heap.size = w.heap.size + 3 := by
  obtain ⟨Z2, h2, hb2, hs2, S2, T2⟩ := cbox2 w 0 ⟨#[]⟩ ⟨#[]⟩ SS.nil none 0 0 0 ⟨#[]⟩ ⟨#[]⟩ SS.nil none 0 0
  dsimp only [SS.nil] at h2
  rw [h2]
  have hbZ : Below w.heap.size w (Z2.alloc (.cells #[.int .i64 0, .string ⟨#[]⟩, .string ⟨#[]⟩, .slice none 0 0, .slice none 0 0] 25)) := bel_alloc hb2 _
  have U := CBox.new Z2 0 ⟨#[]⟩ ⟨#[]⟩ SS.nil none 0 0
  rw [hs2] at U
  have S3 := Blk.alloc S2 (.cells #[.int .i64 0, .string ⟨#[]⟩, .string ⟨#[]⟩, .slice none 0 0, .slice none 0 0] 25)
  have T3 := Blk.alloc T2 (.cells #[.int .i64 0, .string ⟨#[]⟩, .string ⟨#[]⟩, .slice none 0 0, .slice none 0 0] 25)
  have p1 := CBox.put S3 3 ⟨#[97]⟩ ⟨#[]⟩ SS.nil none 0 0
  have o := fun (W : World) (g i : Nat) (v0 v1 v2 v3 v4 : Value) (h : i ≠ g) => put5_other W g i v0 v1 v2 v3 v4 h
  refine ⟨_, _, rfl, ⟨S3, T3, U⟩, rfl, ⟨?_, ?_, ?_⟩, put5_below (put5_below (put5_below hbZ (Nat.le_refl _) _ _ _ _ _) (by omega) _ _ _ _ _) (by omega) _ _ _ _ _, by rw [put5_size, put5_size, put5_size]; simp [hs2]⟩
  · exact (o _ _ _ _ _ _ _ _ (by omega)).trans ((o _ _ _ _ _ _ _ _ (by omega)).trans p1)
  · exact (o _ _ _ _ _ _ _ _ (by omega)).trans (CBox.put ((o _ _ _ _ _ _ _ _ (by omega)).trans T3 : CBox _ _ _ _ _ _ _ _ _) 3 ⟨#[98]⟩ ⟨#[]⟩ SS.nil none 0 0)
  · exact CBox.put ((o _ _ _ _ _ _ _ _ (by omega)).trans ((o _ _ _ _ _ _ _ _ (by omega)).trans U) : CBox _ _ _ _ _ _ _ _ _) 3 ⟨#[99]⟩ ⟨#[]⟩ SS.nil none 0 0
theorem flatH_any (q : Int) (t : Cl) (h : Hc) (w : World) (hsz : wt t ≤ 1000000) (he : h.op = opC t ∧ h.nm = nmC t ∧ h.so = soC t) (hA : ArWC w t h.k h.a h.n h.c) :
    Calls Tryz.prog 27 #[.agg #[.int .i64 h.op, .string h.nm, .string h.so, .slice h.k.a h.k.n h.k.c, .slice h.a h.n h.c], .int .i64 q] w fun e w' => ∃ A n C, e = .returned (.slice A n C) ∧ CsW w' A n C (endsL (flatP q) t) ∧ Below w.heap.size w w' := by
  rw [he.1, he.2.1, he.2.2]
  exact Flat_any q t h.k h.a h.n h.c w hsz hA
set_option maxRecDepth 100000 in
set_option maxHeartbeats 8000000 in
theorem alive_any (w : World) : Calls Tryz.prog 7 #[] w fun e w' => e = .returned (.bool true) ∧ Below w.heap.size w w' := by
  have cP := fun (s : ByteArray) (w' : World) => pred_any s w'
  have cAnd := fun (Z : World) => And_any [exA, exB, exC3] (some ⟨Z.heap.size, 0, none⟩) 3 3 _ (by show wts [exA, exB, exC3] ≤ 1000000; simp [wts, wt, exA, exB, exC3, pA, sizes]) (row3 Z)
  rw [show joinL 7 1 [exA, exB, exC3] = exAll from rfl] at cAnd
  have cN : ∀ w' : World, Calls Tryz.prog 30 #[.agg #[.int .i64 3, .string ⟨#[97]⟩, .string ⟨#[]⟩, .slice none 0 0, .slice none 0 0]] w' fun e w1 => RdC exNot w' e w1 := fun w' => Not_any exA SS.nil none 0 0 w' (by simp [wt, wts, exA, pA, sizes]) (arWC_leaf _ _ _ _)
  have cOr := fun (Z : World) (h : Hc) (he : h.op = opC exNot ∧ h.nm = nmC exNot ∧ h.so = soC exNot) (hA0 : ArWC Z exNot h.k h.a h.n h.c) => Or_any [exNot, exA] (some ⟨Z.heap.size, 0, none⟩) 2 2 _ (by show wts [exNot, exA] ≤ 1000000; simp [wts, wt, exA, exNot, pA, sizes]) (row2 Z h he hA0)
  rw [show joinL 8 2 [exNot, exA] = exOr from rfl] at cOr
  have cAt := fun (Z : World) (h : Hc) (he : h.op = opC exOr ∧ h.nm = nmC exOr ∧ h.so = soC exOr) (hA0 : ArWC Z exOr h.k h.a h.n h.c) => Atoms_two exOr exA exA (some ⟨Z.heap.size, 0, none⟩) 1 _ (row1 Z h he hA0) (by simp [wts, wt, exA, exOr, exNot, joinL, pA, sizes]) ex_atoms (by decide) (by decide) (by decide) (by decide) (eqC_self exA)
  have cCl := fun (w' : World) (A A' : Option Addr) (C C' : Nat) (h1 : CsW w' A 3 C [exA, exB, exC3]) (h2 : CsW w' A' 3 C' [exA, exB, exC3]) => Claims_of [exA, exB, exC3] (fun t _ => Claim_any t) A 3 C A' 3 C' [exA, exB, exC3] w' h1 h2
  rw [eqCs_self] at cCl
  have cF7 := fun (w' : World) (h : Hc) (he : h.op = opC exAll ∧ h.nm = nmC exAll ∧ h.so = soC exAll) (hA0 : ArWC w' exAll h.k h.a h.n h.c) => flatH_any 7 exAll h w' (by simp [wts, wt, exA, exB, exC3, exAll, joinL, pA, sizes]) he hA0
  have cF8 := fun (w' : World) (h : Hc) (he : h.op = opC exAll ∧ h.nm = nmC exAll ∧ h.so = soC exAll) (hA0 : ArWC w' exAll h.k h.a h.n h.c) => flatH_any 8 exAll h w' (by simp [wts, wt, exA, exB, exC3, exAll, joinL, pA, sizes]) he hA0
  rw [ex_flat7] at cF7
  rw [ex_flat8] at cF8
  go_enter Tryz.func7, Tryz.ntmps7
  go_wp2_with (first
    | (go_at_call 29; ((with_reducible refine (cP _ _).mono ?_); rintro e wn ⟨rfl, hbn⟩; have Bn : Below w.heap.size w wn := (by first | exact hbn | exact bel_trans (by assumption) hbn); obtain ⟨Z, W4, hZ, ⟨bz1, bz2, bz3⟩, hW4, ⟨bw1, bw2, bw3⟩, hb4, -⟩ := box3z wn; unfold put5 at hW4; obtain ⟨v0, v1, v2, v3, v4⟩ := bz1.five; obtain ⟨f0, f1, f2, f3, f4⟩ := bz1.free; obtain ⟨v0', v1', v2', v3', v4'⟩ := bz2.five; obtain ⟨f0', f1', f2', f3', f4'⟩ := bz2.free; obtain ⟨v0'', v1'', v2'', v3'', v4''⟩ := bz3.five; obtain ⟨f0'', f1'', f2'', f3'', f4''⟩ := bz3.free; obtain ⟨a0, a1, a2, a3, a4⟩ := bw1.five; obtain ⟨b0, b1, b2, b3, b4⟩ := bw2.five; obtain ⟨c0, c1, c2, c3, c4⟩ := bw3.five; dsimp only [SS.nil] at v3 v3' v3'' a3 b3 c3; have HS1 := Lib.hid bw1; have HS2 := Lib.hid bw2; have HS3 := Lib.hid bw3))
    | (go_at_call 24; ((with_reducible refine (cAnd _).mono ?_); rintro e w6 ⟨h6, rfl, he6, hA6, hb6⟩; have HE6 := Lib.hid he6; have HA6 := Lib.hid (ArCP.ar (B := w6.heap.size) (fun b hb => hb.2) _ hA6); clear he6 hA6; obtain ⟨W7, hW7, hb7, -, S7⟩ := cbox1 w6 h6.op h6.nm h6.so h6.k h6.a h6.n h6.c; have B47 : Below W4.heap.size W4 W7 := bel_trans (bel_trans (bel_alloc (Below.refl _ _) _) hb6) hb7; have HS7 := Lib.hid S7; have HA7 := Lib.hid (ArWC.b HA6.out hb7); have BW := bel_trans Bn (bel_trans hb4 B47))))
  have T1 := CBox.b HS1.out B47
  have T2 := CBox.b HS2.out B47
  have T3 := CBox.b HS3.out B47
  have l1 := Blk.lt T1
  have l2 := Blk.lt T2
  have l3 := Blk.lt T3
  have l7 := Blk.lt HS7.out
  obtain ⟨a0, a1, a2, a3, a4⟩ := T1.five
  obtain ⟨b0, b1, b2, b3, b4⟩ := T2.five
  obtain ⟨c0, c1, c2, c3, c4⟩ := T3.five
  obtain ⟨d0, d1, d2, d3, d4⟩ := HS7.out.five
  dsimp only [SS.nil] at a3 b3 c3
  have hBd : Below W7.heap.size W7 W7.drew := (Below.refl _ _).drew
  clear T1 T2 T3 hb4 hb6 hb7 hbn Bn cP cAnd HS1 HS2 HS3 HS7 S7 HA6 B47
  go_wp2_with fail
  go_region_held3 (fun w' => w'.cell? ⟨wn.heap.size, 0, none⟩ = some (.int .i64 3) ∧ w'.cell? ⟨wn.heap.size, 1, none⟩ = some (.string ⟨#[97]⟩) ∧ w'.cell? ⟨wn.heap.size, 2, none⟩ = some (.string ⟨#[]⟩) ∧ w'.cell? ⟨wn.heap.size, 3, none⟩ = some (.slice none 0 0) ∧ w'.cell? ⟨wn.heap.size, 4, none⟩ = some (.slice none 0 0) ∧
      w'.cell? ⟨wn.heap.size + 1, 0, none⟩ = some (.int .i64 3) ∧ w'.cell? ⟨wn.heap.size + 1, 1, none⟩ = some (.string ⟨#[98]⟩) ∧ w'.cell? ⟨wn.heap.size + 1, 2, none⟩ = some (.string ⟨#[]⟩) ∧ w'.cell? ⟨wn.heap.size + 1, 3, none⟩ = some (.slice none 0 0) ∧ w'.cell? ⟨wn.heap.size + 1, 4, none⟩ = some (.slice none 0 0) ∧
      w'.cell? ⟨wn.heap.size + 1 + 1, 0, none⟩ = some (.int .i64 3) ∧ w'.cell? ⟨wn.heap.size + 1 + 1, 1, none⟩ = some (.string ⟨#[99]⟩) ∧ w'.cell? ⟨wn.heap.size + 1 + 1, 2, none⟩ = some (.string ⟨#[]⟩) ∧ w'.cell? ⟨wn.heap.size + 1 + 1, 3, none⟩ = some (.slice none 0 0) ∧ w'.cell? ⟨wn.heap.size + 1 + 1, 4, none⟩ = some (.slice none 0 0) ∧
      w'.cell? ⟨w6.heap.size, 0, none⟩ = some (.int .i64 h6.op) ∧ w'.cell? ⟨w6.heap.size, 1, none⟩ = some (.string h6.nm) ∧ w'.cell? ⟨w6.heap.size, 2, none⟩ = some (.string h6.so) ∧ w'.cell? ⟨w6.heap.size, 3, none⟩ = some (.slice h6.k.a h6.k.n h6.k.c) ∧ w'.cell? ⟨w6.heap.size, 4, none⟩ = some (.slice h6.a h6.n h6.c))
    (first | (exact ⟨(Bz.cell l1).trans a0, (Bz.cell l1).trans a1, (Bz.cell l1).trans a2, (Bz.cell l1).trans a3, (Bz.cell l1).trans a4, (Bz.cell l2).trans b0, (Bz.cell l2).trans b1, (Bz.cell l2).trans b2, (Bz.cell l2).trans b3, (Bz.cell l2).trans b4, (Bz.cell l3).trans c0, (Bz.cell l3).trans c1, (Bz.cell l3).trans c2, (Bz.cell l3).trans c3, (Bz.cell l3).trans c4, (Bz.cell l7).trans d0, (Bz.cell l7).trans d1, (Bz.cell l7).trans d2, (Bz.cell l7).trans d3, (Bz.cell l7).trans d4⟩) | go_keep)
    (first
      | (go_at_call 27; ((with_reducible refine (cF7 _ h6 HE6.out (ArWC.b HA7.out (by first | assumption | exact bel_alloc (by assumption) _ | exact (bel_alloc (Below.refl _ _) _).drew))).mono ?_); rintro e w8 ⟨A8, n8, C8, rfl, hT8, hb8⟩; obtain rfl : n8 = 3 := hT8.1; have Bz := bel_trans (a := W7) (by first | assumption | exact bel_alloc (by assumption) _ | exact (bel_alloc (Below.refl _ _) _).drew) hb8; have HT8 := Lib.hid hT8; clear hT8))
      | (go_at_call 27; ((with_reducible refine (cF8 _ h6 HE6.out (ArWC.b HA7.out (by first | assumption | exact bel_alloc (by assumption) _ | exact (bel_alloc (Below.refl _ _) _).drew))).mono ?_); rintro e w9 ⟨A9, n9, C9, rfl, hT9, hb9⟩; obtain rfl : n9 = 1 := hT9.1; have Bz := bel_trans (a := W7) (by first | assumption | exact bel_alloc (by assumption) _ | exact (bel_alloc (Below.refl _ _) _).drew) hb9; clear hT9))
      | (go_at_call 26; ((with_reducible refine (cCl _ _ _ _ _ (by first | exact HT8.out | exact CsW.b HT8.out (bel_alloc (Below.refl _ _) _)) (by first | exact row3 _ | exact CsW.b (row3 _) hb8 | exact CsW.b (CsW.b (row3 _) (Below.refl _ _).drew) hb8)).mono ?_); rintro e w10 ⟨rfl, hb10⟩; have Bz := bel_trans (a := W7) (by first | assumption | exact bel_alloc (by assumption) _ | exact (bel_alloc (Below.refl _ _) _).drew) hb10))
      | (go_at_call 30; ((with_reducible refine (cN _).mono ?_); rintro e w11 ⟨h11, rfl, he11, hA11, hb11⟩; have Bz := bel_trans (a := W7) (by first | assumption | exact bel_alloc (by assumption) _ | exact (bel_alloc (Below.refl _ _) _).drew) hb11; have HE11 := Lib.hid he11; have HA11 := Lib.hid (ArCP.ar (B := w11.heap.size) (fun b hb => hb.2) _ hA11); clear he11 hA11))
      | (go_at_call 25; ((with_reducible refine (cOr _ _ HE11.out HA11.out).mono ?_); rintro e w12 ⟨h12, rfl, he12, hA12, hb12⟩; have Bz := bel_trans (a := W7) (by first | assumption | exact bel_alloc (by assumption) _ | exact (bel_alloc (Below.refl _ _) _).drew) hb12; have HE12 := Lib.hid he12; have HA12 := Lib.hid (ArCP.ar (B := w12.heap.size) (fun b hb => hb.2) _ hA12); clear he12 hA12))
      | (go_at_call 22; ((with_reducible refine (cAt _ _ HE12.out HA12.out).mono ?_); rintro e w13 ⟨⟨A13, C13, rfl⟩, hb13⟩; have Bz := bel_trans (a := W7) (by first | assumption | exact bel_alloc (by assumption) _ | exact (bel_alloc (Below.refl _ _) _).drew) hb13)))
  all_goals go_wp2
  all_goals go_ret
  all_goals exact ⟨rfl, bel_trans BW Bz⟩
end Go.Proofs.YtjjfbgadpgckeaaGreat.C
