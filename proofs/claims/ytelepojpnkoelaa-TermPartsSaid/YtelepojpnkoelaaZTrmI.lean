/-
  What is proved: package term's two closures over a list of terms, which compare the terms at two places.
-/
import Derived.Test.YtelepojpnkoelaaZTrmW
import Derived.Deep.RegionHeld3
namespace Go.Proofs.Ytelepojpnkoelaa.T
open Go.RowKit L
set_option linter.unusedVariables false
set_option linter.unusedSimpArgs false

def dft : Tm := .mk 0 ⟨#[]⟩ 0 []
def atL (l : List Tm) (i : Nat) : Tm := l.getD i dft
theorem atL_some {l : List Tm} {i : Nat} {t : Tm} (h : l[i]? = some t) : atL l i = t := by unfold atL; rw [List.getD_eq_getElem?_getD, h]; rfl

set_option maxRecDepth 100000 in
set_option maxHeartbeats 4000000 in
theorem firsts1_any (gc gl : Nat) (A : Option Addr) (n c : Nat) (l : List Tm) (i j : Nat) (w : World) (hgc : Blk w gc #[.func (.func 20) #[] #[]] 37) (hg : Blk w gl #[.slice A n c] 22) (hT : TsW w A n c l) (hi : i < n) (hj : j < n) :
    Calls Try.prog 46 #[.int .i64 i, .int .i64 j, .pointer (some ⟨gc, 0, none⟩), .pointer (some ⟨gl, 0, none⟩)] w fun e w' => e = .returned (.int .i64 (cmpT (atL l i) (atL l j))) ∧ Below w.heap.size w w' := by
  obtain ⟨bb, o, t, A1, M, Cc, rfl, hb, y0, y1, y2, y3, hx, hok⟩ := hT.at hi
  obtain ⟨bb', o', u, A', M', Cc', h2, hb', z0, z1, z2, z3, hx', hok'⟩ := hT.at hj
  injection h2 with h2
  injection h2 with h2 h3
  subst h2 h3
  rw [atL_some hx, atL_some hx']
  have hn : n ≤ 9223372036854775807 := by have h1 := hT.2.1; have h2 := hT.2.2.1; unfold maxLen at h2; omega
  have hBd : Below w.heap.size w w.drew := (Below.refl _ _).drew
  have cs := Compare_any t u A1 M Cc A' M' Cc' w.drew (ArW.b hok hBd) (ArW.b hok' hBd)
  have lg := Blk.lt hg
  have c0 := Blk.cell hg 0
  have lc := Blk.lt hgc
  have cc0 := Blk.cell hgc 0
  clear hx hx' hok hok' hT
  generalize cmpT t u = R at *
  generalize opT t = op2 at *
  generalize nameT t = nm2 at *
  generalize numT t = nu2 at *
  generalize opT u = op3 at *
  generalize nameT u = nm3 at *
  generalize numT u = nu3 at *
  have hi0 : 0 ≤ (i : Int) := by omega
  have hi1 : (i : Int) < (n : Int) := by omega
  have hj0 : 0 ≤ (j : Int) := by omega
  have hj1 : (j : Int) < (n : Int) := by omega
  go_enter Try.func46, Try.ntmps46
  go_wp2_with fail
  go_region_held3 (fun w' => w'.cell? ⟨gc, 0, none⟩ = some (.func (.func 20) #[] #[]) ∧ w'.cell? ⟨gl, 0, none⟩ = some (.slice (some ⟨bb, o, none⟩) n c) ∧ w'.cell? ⟨bb, o + i * 4, none⟩ = some (.int .i64 op2) ∧ w'.cell? ⟨bb, o + i * 4 + 1, none⟩ = some (.string nm2) ∧ w'.cell? ⟨bb, o + i * 4 + 1 + 1, none⟩ = some (.int .i64 nu2) ∧ w'.cell? ⟨bb, o + i * 4 + 1 + 1 + 1, none⟩ = some (.slice A1 M Cc) ∧ w'.cell? ⟨bb, o + j * 4, none⟩ = some (.int .i64 op3) ∧ w'.cell? ⟨bb, o + j * 4 + 1, none⟩ = some (.string nm3) ∧ w'.cell? ⟨bb, o + j * 4 + 1 + 1, none⟩ = some (.int .i64 nu3) ∧ w'.cell? ⟨bb, o + j * 4 + 1 + 1 + 1, none⟩ = some (.slice A' M' Cc'))
    (first | go_keep | (exact ⟨(B4.cell lc).trans cc0, (B4.cell lg).trans c0, (B4.cell hb).trans y0, (B4.cell hb).trans y1, (B4.cell hb).trans y2, (B4.cell hb).trans y3, (B4.cell hb).trans z0, (B4.cell hb).trans z1, (B4.cell hb).trans z2, (B4.cell hb).trans z3⟩))
    (first | (go_at_call 20; ((with_reducible refine cs.mono ?_); rintro e w4 ⟨rfl, hb4⟩; have B4 := bel_trans hBd hb4)))
  go_wp2
  go_ret
  exact ⟨rfl, B4⟩
set_option maxRecDepth 100000 in
set_option maxHeartbeats 4000000 in
theorem firsts2_any (gc gl : Nat) (A : Option Addr) (n c : Nat) (l : List Tm) (i j : Nat) (w : World) (hgc : Blk w gc #[.func (.func 20) #[] #[]] 37) (hg : Blk w gl #[.slice A n c] 22) (hT : TsW w A n c l) (hi : i < n) (hj : j < n) :
    Calls Try.prog 48 #[.int .i64 i, .int .i64 j, .pointer (some ⟨gc, 0, none⟩), .pointer (some ⟨gl, 0, none⟩)] w fun e w' => e = .returned (.bool (eqT (atL l i) (atL l j))) ∧ Below w.heap.size w w' := by
  obtain ⟨bb, o, t, A1, M, Cc, rfl, hb, y0, y1, y2, y3, hx, hok⟩ := hT.at hi
  obtain ⟨bb', o', u, A', M', Cc', h2, hb', z0, z1, z2, z3, hx', hok'⟩ := hT.at hj
  injection h2 with h2
  injection h2 with h2 h3
  subst h2 h3
  rw [atL_some hx, atL_some hx']
  have hn : n ≤ 9223372036854775807 := by have h1 := hT.2.1; have h2 := hT.2.2.1; unfold maxLen at h2; omega
  have hBd : Below w.heap.size w w.drew := (Below.refl _ _).drew
  have cs := Compare_any t u A1 M Cc A' M' Cc' w.drew (ArW.b hok hBd) (ArW.b hok' hBd)
  have lg := Blk.lt hg
  have c0 := Blk.cell hg 0
  have lc := Blk.lt hgc
  have cc0 := Blk.cell hgc 0
  clear hx hx' hok hok' hT
  have he : eqT t u = (cmpT t u == 0) := by rw [Bool.eq_iff_iff, eqT_iff, beq_iff_eq, linT.eq]
  rw [he]
  clear he
  generalize cmpT t u = R at *
  generalize opT t = op2 at *
  generalize nameT t = nm2 at *
  generalize numT t = nu2 at *
  generalize opT u = op3 at *
  generalize nameT u = nm3 at *
  generalize numT u = nu3 at *
  have hi0 : 0 ≤ (i : Int) := by omega
  have hi1 : (i : Int) < (n : Int) := by omega
  have hj0 : 0 ≤ (j : Int) := by omega
  have hj1 : (j : Int) < (n : Int) := by omega
  go_enter Try.func48, Try.ntmps48
  go_wp2_with fail
  go_region_held3 (fun w' => w'.cell? ⟨gc, 0, none⟩ = some (.func (.func 20) #[] #[]) ∧ w'.cell? ⟨gl, 0, none⟩ = some (.slice (some ⟨bb, o, none⟩) n c) ∧ w'.cell? ⟨bb, o + i * 4, none⟩ = some (.int .i64 op2) ∧ w'.cell? ⟨bb, o + i * 4 + 1, none⟩ = some (.string nm2) ∧ w'.cell? ⟨bb, o + i * 4 + 1 + 1, none⟩ = some (.int .i64 nu2) ∧ w'.cell? ⟨bb, o + i * 4 + 1 + 1 + 1, none⟩ = some (.slice A1 M Cc) ∧ w'.cell? ⟨bb, o + j * 4, none⟩ = some (.int .i64 op3) ∧ w'.cell? ⟨bb, o + j * 4 + 1, none⟩ = some (.string nm3) ∧ w'.cell? ⟨bb, o + j * 4 + 1 + 1, none⟩ = some (.int .i64 nu3) ∧ w'.cell? ⟨bb, o + j * 4 + 1 + 1 + 1, none⟩ = some (.slice A' M' Cc'))
    (first | go_keep | (exact ⟨(B4.cell lc).trans cc0, (B4.cell lg).trans c0, (B4.cell hb).trans y0, (B4.cell hb).trans y1, (B4.cell hb).trans y2, (B4.cell hb).trans y3, (B4.cell hb).trans z0, (B4.cell hb).trans z1, (B4.cell hb).trans z2, (B4.cell hb).trans z3⟩))
    (first | (go_at_call 20; ((with_reducible refine cs.mono ?_); rintro e w4 ⟨rfl, hb4⟩; have B4 := bel_trans hBd hb4)))
  go_wp2
  go_ret
  exact ⟨rfl, B4⟩
end Go.Proofs.Ytelepojpnkoelaa.T
