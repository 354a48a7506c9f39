/-
  What is proved: what package subst's ApplyClaim returns.
-/
import Derived.Test.YtnhemglpbhnmdaaGreatZSbJ
namespace Go.Proofs.YtnhemglpbhnmdaaGreat.U
open Go.RowKit L T C B
set_option linter.unusedVariables false
set_option linter.unusedSimpArgs false

set_option maxRecDepth 100000 in
set_option maxHeartbeats 8000000 in
theorem ApplyClaim_any (l : List Pr) (hu : ∀ p ∈ l, 1 + size p.t ≤ 1000000) (hsu : ∀ p ∈ l, p.nm.size ≤ maxLen) (hl : l.length < maxLen) (t : Cl) (hst : smC t) (hsz : wt t ≤ 1000000) (A : Option Addr) (m d : Nat) (ks : SS) (a : Option Addr) (n c : Nat) (w : World) (hG : UsW w A m d l) (hA : ArWC w t ks a n c) :
    Calls Tryz.prog 23 #[.slice A m d, .agg #[.int .i64 (opC t), .string (nmC t), .string (soC t), .slice ks.a ks.n ks.c, .slice a n c]] w fun e w' => RtC (sbCl l 0 t) w e w' := by
  obtain ⟨W2, hW2, hB2, hs2, S2, R2⟩ := cbox_res w (opC t) (nmC t) (soC t) ks a n c
  have hs : w.heap.size + 2 = W2.heap.size := hs2.symm
  have cF := fun (w' : World) (h : Below W2.heap.size W2 w') => firsts_any l A m d w' hsu hl (UsW.b (UsW.b hG hB2) h)
  have cI := fun (w2 : World) (B g : Nat) (hM : MapU B w2 g l) (hBl : B ≤ w2.heap.size) (hb : Below W2.heap.size W2 w2) => inClaim_any l hu t 0 B g ks a n c w2 (by omega) (by omega) hM hBl hst hsz (ArWC.b (ArWC.b hA hB2) hb)
  have HFin := Lib.hid (show ∀ (W5 : World), Below W2.heap.size W2 W5 → ∀ (e : Ending) (w3 : World), RtC (sbCl l 0 t) W5 e w3 → ∀ v0 v1 v2 v3 v4, RtC (sbCl l 0 t) w e (put5 w3 (w.heap.size + 1) v0 v1 v2 v3 v4) from fun W5 h5 e w3 h v0 v1 v2 v3 v4 => rtC_put h (bel_trans hB2 h5) (by omega) (by have := h5.size; omega) v0 v1 v2 v3 v4)
  have l0 : w.heap.size < W2.heap.size := by omega
  obtain ⟨s0, s1, s2, s3, s4⟩ := S2.five
  have HR := Lib.hid R2
  have hBd : Below W2.heap.size W2 W2.drew := (Below.refl _ _).drew
  obtain ⟨KA, KN, KC⟩ := ks
  dsimp only at *
  clear hG hA hst hsz hu hsu hl S2 R2 hs2 hs
  unfold put5 at HFin
  generalize hr : sbCl l 0 t = r at *
  clear hr
  generalize opC t = op at *
  generalize nmC t = nm at *
  generalize soC t = nu at *
  go_enter Tryz.func23, Tryz.ntmps23
  go_wp2_with fail
  go_region_held3 (fun w' => w'.cell? ⟨w.heap.size, 0, none⟩ = some (.int .i64 op) ∧ w'.cell? ⟨w.heap.size, 1, none⟩ = some (.string nm) ∧ w'.cell? ⟨w.heap.size, 2, none⟩ = some (.string nu) ∧ w'.cell? ⟨w.heap.size, 3, none⟩ = some (.slice KA KN KC) ∧ w'.cell? ⟨w.heap.size, 4, none⟩ = some (.slice a n c))
    (first | go_keep | (exact ⟨(Bn.cell l0).trans s0, (Bn.cell l0).trans s1, (Bn.cell l0).trans s2, (Bn.cell l0).trans s3, (Bn.cell l0).trans s4⟩))
    (first
      | (go_at_call 45; ((with_reducible refine (cF _ hBd).mono ?_); rintro e w4 ⟨rfl, hM4, hb4⟩; have Bn := bel_trans hBd hb4; have HM4 := Lib.hid hM4; clear hM4; have cI4 := cI w4 W2.heap.size W2.heap.size HM4.out (by have := hb4.size; exact this) Bn))
      | (go_at_call 52; ((with_reducible refine cI4.mono ?_); rintro e w5 hF; have hfin := HFin.out w4 Bn e w5 hF; obtain ⟨K0, K1, K2, a3, n3, c3, rfl, hA3, hb5⟩ := hF; have Hn := Lib.hid hfin; clear hfin hA3; have Bn := bel_trans Bn hb5; have R3 := CBox.b HR.out Bn; obtain ⟨r0, r1, r2, r3, r4⟩ := R3.free; obtain ⟨v0, v1, v2, v3, v4⟩ := R3.five; have F3 := CBox.put R3 (opC r) (nmC r) (soC r) ⟨K0, K1, K2⟩ a3 n3 c3; unfold put5 at F3; obtain ⟨x0, x1, x2, x3, x4⟩ := F3.five)))
  all_goals
    go_wp2
    simp [bodyPost, results, Tryz.results23, go_sem, x0, x1, x2, x3, x4]
    exact Hn.out _ _ _ _ _
end Go.Proofs.YtnhemglpbhnmdaaGreat.U
