/-
  What is proved: package tree's two closures over a list of claims, which compare the claims at two places.
-/
import Derived.Test.YtjjoebijkcmgiaaGreatZClmCp
import Derived.Deep.RegionHeld3
namespace Go.Proofs.YtjjoebijkcmgiaaGreat.C
open Go.RowKit L T
set_option linter.unusedVariables false
set_option linter.unusedSimpArgs false

def dftC : Cl := .mk 0 ⟨#[]⟩ ⟨#[]⟩ [] []
def atC (l : List Cl) (i : Nat) : Cl := l.getD i dftC
theorem atC_some {l : List Cl} {i : Nat} {t : Cl} (h : l[i]? = some t) : atC l i = t := by unfold atC; rw [List.getD_eq_getElem?_getD, h]; rfl

set_option maxRecDepth 100000 in
set_option maxHeartbeats 4000000 in
theorem firsts1_any (gc gl : Nat) (A : Option Addr) (n c : Nat) (l : List Cl) (i j : Nat) (w : World) (hgc : Blk w gc #[.func (.func 38) #[] #[]] 53) (hg : Blk w gl #[.slice A n c] 23) (hT : CsW w A n c l) (hi : i < n) (hj : j < n) :
    Calls Tryz.prog 56 #[.int .i64 i, .int .i64 j, .pointer (some ⟨gc, 0, none⟩), .pointer (some ⟨gl, 0, none⟩)] w fun e w' => e = .returned (.int .i64 (cmpC (atC l i) (atC l j))) ∧ Below w.heap.size w w' := by
  obtain ⟨bb, o, t, kk, A1, M, Cc, rfl, hb, y0, y1, y2, y3, y4, hx, hok⟩ := hT.at hi
  obtain ⟨bb', o', u, kk', A', M', Cc', h2, hb', z0, z1, z2, z3, z4, hx', hok'⟩ := hT.at hj
  injection h2 with h2
  injection h2 with h2 h3
  subst h2 h3
  rw [atC_some hx, atC_some hx']
  have hn : n ≤ 9223372036854775807 := by have h1 := hT.2.1; have h2 := hT.2.2.1; unfold maxLen at h2; omega
  have hBd : Below w.heap.size w w.drew := (Below.refl _ _).drew
  have cs := CompareC_any t u kk A1 M Cc kk' A' M' Cc' w.drew (ArWC.b hok hBd) (ArWC.b hok' hBd)
  have lg := Blk.lt hg
  have c0 := Blk.cell hg 0
  have lc := Blk.lt hgc
  have cc0 := Blk.cell hgc 0
  clear hx hx' hok hok' hT
  generalize cmpC t u = R at *
  generalize opC t = op2 at *
  generalize nmC t = nm2 at *
  generalize soC t = nu2 at *
  generalize opC u = op3 at *
  generalize nmC u = nm3 at *
  generalize soC u = nu3 at *
  have hi0 : 0 ≤ (i : Int) := by omega
  have hi1 : (i : Int) < (n : Int) := by omega
  have hj0 : 0 ≤ (j : Int) := by omega
  have hj1 : (j : Int) < (n : Int) := by omega
  go_enter Tryz.func56, Tryz.ntmps56
  go_wp2_with fail
  go_region_held3 (fun w' => w'.cell? ⟨gc, 0, none⟩ = some (.func (.func 38) #[] #[]) ∧ w'.cell? ⟨gl, 0, none⟩ = some (.slice (some ⟨bb, o, none⟩) n c) ∧ w'.cell? ⟨bb, o + i * 5, none⟩ = some (.int .i64 op2) ∧ w'.cell? ⟨bb, o + i * 5 + 1, none⟩ = some (.string nm2) ∧ w'.cell? ⟨bb, o + i * 5 + 1 + 1, none⟩ = some (.string nu2) ∧ w'.cell? ⟨bb, o + i * 5 + 1 + 1 + 1, none⟩ = some (.slice kk.a kk.n kk.c) ∧ w'.cell? ⟨bb, o + i * 5 + 1 + 1 + 1 + 1, none⟩ = some (.slice A1 M Cc) ∧ w'.cell? ⟨bb, o + j * 5, none⟩ = some (.int .i64 op3) ∧ w'.cell? ⟨bb, o + j * 5 + 1, none⟩ = some (.string nm3) ∧ w'.cell? ⟨bb, o + j * 5 + 1 + 1, none⟩ = some (.string nu3) ∧ w'.cell? ⟨bb, o + j * 5 + 1 + 1 + 1, none⟩ = some (.slice kk'.a kk'.n kk'.c) ∧ w'.cell? ⟨bb, o + j * 5 + 1 + 1 + 1 + 1, none⟩ = some (.slice A' M' Cc'))
    (first | go_keep | (exact ⟨(B4.cell lc).trans cc0, (B4.cell lg).trans c0, (B4.cell hb).trans y0, (B4.cell hb).trans y1, (B4.cell hb).trans y2, (B4.cell hb).trans y3, (B4.cell hb).trans y4, (B4.cell hb).trans z0, (B4.cell hb).trans z1, (B4.cell hb).trans z2, (B4.cell hb).trans z3, (B4.cell hb).trans z4⟩))
    (first | (go_at_call 38; ((with_reducible refine cs.mono ?_); rintro e w4 ⟨rfl, hb4⟩; have B4 := bel_trans hBd hb4)))
  go_wp2
  go_ret
  exact ⟨rfl, B4⟩
set_option maxRecDepth 100000 in
set_option maxHeartbeats 4000000 in
theorem firsts2_any (gc gl : Nat) (A : Option Addr) (n c : Nat) (l : List Cl) (i j : Nat) (w : World) (hgc : Blk w gc #[.func (.func 38) #[] #[]] 53) (hg : Blk w gl #[.slice A n c] 23) (hT : CsW w A n c l) (hi : i < n) (hj : j < n) :
    Calls Tryz.prog 58 #[.int .i64 i, .int .i64 j, .pointer (some ⟨gc, 0, none⟩), .pointer (some ⟨gl, 0, none⟩)] w fun e w' => e = .returned (.bool (eqC (atC l i) (atC l j))) ∧ Below w.heap.size w w' := by
  obtain ⟨bb, o, t, kk, A1, M, Cc, rfl, hb, y0, y1, y2, y3, y4, hx, hok⟩ := hT.at hi
  obtain ⟨bb', o', u, kk', A', M', Cc', h2, hb', z0, z1, z2, z3, z4, hx', hok'⟩ := hT.at hj
  injection h2 with h2
  injection h2 with h2 h3
  subst h2 h3
  rw [atC_some hx, atC_some hx']
  have hn : n ≤ 9223372036854775807 := by have h1 := hT.2.1; have h2 := hT.2.2.1; unfold maxLen at h2; omega
  have hBd : Below w.heap.size w w.drew := (Below.refl _ _).drew
  have cs := CompareC_any t u kk A1 M Cc kk' A' M' Cc' w.drew (ArWC.b hok hBd) (ArWC.b hok' hBd)
  have lg := Blk.lt hg
  have c0 := Blk.cell hg 0
  have lc := Blk.lt hgc
  have cc0 := Blk.cell hgc 0
  clear hx hx' hok hok' hT
  have he : eqC t u = (cmpC t u == 0) := eqC_cmp t u
  rw [he]
  clear he
  generalize cmpC t u = R at *
  generalize opC t = op2 at *
  generalize nmC t = nm2 at *
  generalize soC t = nu2 at *
  generalize opC u = op3 at *
  generalize nmC u = nm3 at *
  generalize soC u = nu3 at *
  have hi0 : 0 ≤ (i : Int) := by omega
  have hi1 : (i : Int) < (n : Int) := by omega
  have hj0 : 0 ≤ (j : Int) := by omega
  have hj1 : (j : Int) < (n : Int) := by omega
  go_enter Tryz.func58, Tryz.ntmps58
  go_wp2_with fail
  go_region_held3 (fun w' => w'.cell? ⟨gc, 0, none⟩ = some (.func (.func 38) #[] #[]) ∧ w'.cell? ⟨gl, 0, none⟩ = some (.slice (some ⟨bb, o, none⟩) n c) ∧ w'.cell? ⟨bb, o + i * 5, none⟩ = some (.int .i64 op2) ∧ w'.cell? ⟨bb, o + i * 5 + 1, none⟩ = some (.string nm2) ∧ w'.cell? ⟨bb, o + i * 5 + 1 + 1, none⟩ = some (.string nu2) ∧ w'.cell? ⟨bb, o + i * 5 + 1 + 1 + 1, none⟩ = some (.slice kk.a kk.n kk.c) ∧ w'.cell? ⟨bb, o + i * 5 + 1 + 1 + 1 + 1, none⟩ = some (.slice A1 M Cc) ∧ w'.cell? ⟨bb, o + j * 5, none⟩ = some (.int .i64 op3) ∧ w'.cell? ⟨bb, o + j * 5 + 1, none⟩ = some (.string nm3) ∧ w'.cell? ⟨bb, o + j * 5 + 1 + 1, none⟩ = some (.string nu3) ∧ w'.cell? ⟨bb, o + j * 5 + 1 + 1 + 1, none⟩ = some (.slice kk'.a kk'.n kk'.c) ∧ w'.cell? ⟨bb, o + j * 5 + 1 + 1 + 1 + 1, none⟩ = some (.slice A' M' Cc'))
    (first | go_keep | (exact ⟨(B4.cell lc).trans cc0, (B4.cell lg).trans c0, (B4.cell hb).trans y0, (B4.cell hb).trans y1, (B4.cell hb).trans y2, (B4.cell hb).trans y3, (B4.cell hb).trans y4, (B4.cell hb).trans z0, (B4.cell hb).trans z1, (B4.cell hb).trans z2, (B4.cell hb).trans z3, (B4.cell hb).trans z4⟩))
    (first | (go_at_call 38; ((with_reducible refine cs.mono ?_); rintro e w4 ⟨rfl, hb4⟩; have B4 := bel_trans hBd hb4)))
  go_wp2
  go_ret
  exact ⟨rfl, B4⟩
end Go.Proofs.YtjjoebijkcmgiaaGreat.C
