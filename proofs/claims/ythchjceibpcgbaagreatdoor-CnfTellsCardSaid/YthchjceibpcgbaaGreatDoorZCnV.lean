/-
  What is proved: what the document's own Clean of a set returns.
-/
import Derived.Test.YthchjceibpcgbaaGreatDoorZCnR
import Derived.Test.YthchjceibpcgbaaGreatDoorZCnC
import Derived.Test.YthchjceibpcgbaaGreatDoorZLtH
namespace Go.Proofs.YthchjceibpcgbaaGreatDoor.Cn
open Go.RowKit L Lt
set_option linter.unusedVariables false
set_option linter.unusedSimpArgs false

/-- whether the clause is kept, as far as the first of the others tell -/
def kpC (Y : List Int) (O : List (List Int)) : Bool := !opp Y && !O.any (fun d => same d Y)
theorem kpC_zero (Y : List Int) : kpC Y [] = !opp Y := by simp [kpC]
theorem kpC_next {Y Z : List Int} {O : List (List Int)} {j : Nat} (h : O[j]? = some Z) : kpC Y (O.take (j + 1)) = (kpC Y (O.take j) && !same Z Y) := by
  unfold kpC
  rw [List.take_add_one, h, List.any_append]
  simp [Bool.and_assoc]
theorem clC_next {G : List (List Int)} {k : Nat} {X : List Int} (h : G[k]? = some X) : clC (G.take (k + 1)) = if kpC (cl X) (clC (G.take k)) then clC (G.take k) ++ [cl X] else clC (G.take k) := by
  have e : clC (G.take (k + 1)) = clS (clC (G.take k)) X := by
    unfold clC
    rw [List.take_add_one, h, List.foldl_append]; rfl
  rw [e]
  generalize clC (G.take k) = O
  unfold clS kpC
  generalize opp (cl X) = a
  generalize O.any (fun d => same d (cl X)) = b
  cases a <;> cases b <;> rfl
theorem clC_sz {G : List (List Int)} {M k : Nat} (h : ∀ X ∈ G, X.length ≤ M) : ∀ X ∈ clC (G.take k), X.length ≤ M := fun X hX => by
  obtain ⟨Y, hY, rfl, _⟩ := (clC_mem _ _).1 hX
  exact Nat.le_trans (cl_len Y) (h Y (List.take_subset _ _ hY))
theorem RM.start0 (w : World) (N : Int) : ∃ W, (w.alloc (.cells #[.int .i64 0, .slice none 0 0] 24)).alloc (.cells #[.int .i64 0, .slice none 0 0] 24) = W ∧ RM w ((W.setCell ⟨w.heap.size + 1, 0, none⟩ (.int .i64 N)).setCell ⟨w.heap.size + 1, 1, none⟩ (.slice none 0 0)) N none 0 0 [] ∧ W.frozen? ⟨w.heap.size + 1, 0, none⟩ = false ∧ W.frozen? ⟨w.heap.size + 1, 1, none⟩ = false ∧ W.cell? ⟨w.heap.size + 1, 0, none⟩ = some (.int .i64 0) ∧ W.cell? ⟨w.heap.size + 1, 1, none⟩ = some (.slice none 0 0) := by
  obtain ⟨W, h1, h⟩ := RM.start w
  have h2 := h.setN N
  exact ⟨W, h1, ⟨h2.1.far (by omega) 1 _, h2.2.1.put1 none 0 0, OwnG.nil _ _, rfl, by have := h2.2.2.2.2.1; simpa using this, h2.2.2.2.2.2.setCell (p := ⟨w.heap.size + 1, 1, none⟩) (by show w.heap.size ≤ w.heap.size + 1; omega) _⟩, h.2.1.free.1, h.2.1.free.2, h.2.1.two.1, h.2.1.two.2⟩
theorem ownG_sl {w : World} {lo : Nat} {A : Option Addr} {n c : Nat} {G : List (List Int)} (h : OwnG w lo (.slice A n c) G) : SlG w A n c G := by
  obtain ⟨A', c', e, _, hS⟩ := h.slG
  injection e with e1 e2 e3
  rw [← e1, ← e2, ← e3] at hS
  exact hS
theorem rowUp {w : World} {lo : Nat} {v u : Value} {X : List Int} {o : Obj} (h : RwI (fun b => lo ≤ b ∧ b < w.heap.size ∧ v.ownBlock ≠ some b) w u X) : RwI (fun b => lo ≤ b ∧ b < (w.alloc o).heap.size ∧ v.ownBlock ≠ some b) (w.alloc o) u X :=
  h.to (fun b hb => (bel_alloc (Below.refl _ _) o).block b hb.2.1) (fun b hb => ⟨hb.1, Nat.lt_of_lt_of_le hb.2.1 (bel_alloc (Below.refl _ _) o).size, hb.2.2⟩)
set_option maxRecDepth 100000 in
set_option maxHeartbeats 8000000 in
theorem RCClean_any (N : Int) (A : Option Addr) (r c : Nat) (G : List (List Int)) (w : World) (h : SlG w A r c G) (hr : r ≤ 1000000) (hs : ∀ X ∈ G, R64s X ∧ X.length ≤ 1000000) :
    Calls Tryz.prog 11 #[.agg #[.int .i64 N, .slice A r c]] w fun e w' => ∃ A' m c', e = .returned (.agg #[.int .i64 N, .slice A' m c']) ∧ SlG w' A' m c' (clC G) ∧ Below w.heap.size w w' := by
  obtain ⟨W2, hW2, hB2, S2⟩ := boxC w N A r c
  obtain ⟨W4, hW4, hM0, fz0, fz1, fc0, fc1⟩ := RM.start0 W2 N
  have t0 : (W2.alloc (.cells #[.int .i64 0, .slice none 0 0] 24)).cell? ⟨w.heap.size, 0, none⟩ = some (.int .i64 N) := (show CBox _ _ N A r c from Blk.alloc S2 _).two.1
  have LS := Lib.hid (Blk.lt S2)
  have HSz := Lib.hid (show W2.heap.size = w.heap.size + 1 by rw [← hW2]; simp)
  have HM0 := Lib.hid (show RM W2 _ N none 0 0 (clC (G.take 0)) from hM0)
  have H := Lib.hid (h.below hB2)
  have HX := Lib.hid h.1
  have HS := Lib.hid hs
  have HB2 := Lib.hid hB2
  have HK := Lib.hid (show ∀ wr, Below W2.heap.size W2 wr → wr.cell? ⟨w.heap.size, 1, none⟩ = some (.slice A r c) from fun wr hb => (S2.b hb).two.2)
  clear h hs hB2 S2 hM0
  go_enter Tryz.func11, Tryz.ntmps11
  go_wp2
  go_loopw [4] (fun i wr0 => ∃ (wr : World) (k : Nat) (A3 : Option Addr) (q3 c3 : Nat), wr = wr0 ∧ k ≤ r ∧ i = .int .i64 k ∧ Hid (RM W2 wr N A3 q3 c3 (clC (G.take k)))) (fun i _ => r - (intOf i).toNat)
  case atStart => exact ⟨_, 0, none, 0, 0, rfl, by omega, rfl, HM0⟩
  case round =>
    obtain ⟨wr, k, A3, q3, c3, rfl, hk, rfl, hM⟩ := hrel
    have t1 := HK.out wr hM.out.2.2.2.2.2
    have hq3 : q3 ≤ k := by
      rw [hM.out.2.2.2.1]
      have h1 := clC_len (G.take k)
      rw [List.length_take] at h1; omega
    by_cases hlt : k < r
    · obtain ⟨g, o, B, p, q, X, rfl, hg, z0, hx, hX⟩ := SlG.at H.out hlt
      have y0 := (hM.out.2.2.2.2.2.cell (p := ⟨g, _, none⟩) hg).trans z0
      obtain ⟨hXr, hXl⟩ := HS.out X (List.mem_of_getElem? hx)
      have cr := RCleanN_any B p q X wr (hX.below hM.out.2.2.2.2.2) hXr (by rw [hX.1]; exact hXl)
      have hN := Lib.hid (clC_next hx)
      have hSz := Lib.hid (clC_sz (G := G) (M := 1000000) (k := k) (fun X hX => (HS.out X hX).2))
      have hYl := Lib.hid (Nat.le_trans (cl_len X) hXl)
      have hk0 : 0 ≤ (k : Int) := by omega
      have hk1 : (k : Int) < (r : Int) := by omega
      clear z0 hx hX hXr hXl
      generalize clC (G.take k) = O at *
      have hz := Lib.hid (kpC_zero (cl X))
      generalize hop : opp (cl X) = op at *
      clear hop
      generalize cl X = Y at *
      go_wp2_with (go_at_call 27; ((with_reducible refine cr.mono ?_); rintro e w3 ⟨A4, q4, c4, rfl, hY, hq4, b3, hn4⟩; clear cr; have HY := Lib.hid hY; have hM3 := Lib.hid (hM.out.b b3); have HRow := Lib.hid (hM.out.row b3 hY hn4); clear hY hn4 b3))
      go_loopw [6, 7] (fun kp i wr0 => ∃ (j : Nat), w3 = wr0 ∧ j ≤ q3 ∧ kp = .bool (kpC Y (O.take j)) ∧ i = .int .i64 j) (fun kp i _ => q3 - (intOf i).toNat)
      case atStart => exact ⟨0, rfl, by omega, by rw [show O.take 0 = [] from rfl, hz.out], rfl⟩
      case round =>
        obtain ⟨j, rfl, hj, rfl, rfl⟩ := hrel
        obtain ⟨v4, v5⟩ := hM3.out.2.1.two
        by_cases hjl : j < q3
        · obtain ⟨g', o', B', p', c', Z, rfl, hg', z1, hy, hZ⟩ := SlG.at (ownG_sl hM3.out.2.2.1) hjl
          have hn := Lib.hid (kpC_next (Y := Y) hy)
          have cs := RSame_any B' p' c' Z A4 q4 c4 Y w3 hZ (by rw [hZ.1]; have := hSz.out Z (List.mem_of_getElem? hy); omega) HY.out (by rw [HY.out.1]; have := hYl.out; omega)
          have hj0 : 0 ≤ (j : Int) := by omega
          have hj1 : (j : Int) < (q3 : Int) := by omega
          clear hZ hy
          generalize kpC Y (O.take j) = kb at *
          generalize same Z Y = sm at *
          cases kb
          · have hc := Lib.hid (show kpC Y (O.take (j + 1)) = false from hn.out)
            clear cs hn
            go_wp2
            go_roundw
            case rel => exact ⟨j + 1, by trivial, hjl, by rw [hc.out], by go_num⟩
            case measure => simp [intOf]; omega
          · have hc := Lib.hid (show kpC Y (O.take (j + 1)) = !sm from by rw [hn.out]; rfl)
            clear hn
            go_wp2_with (go_at_call 28; ((with_reducible refine cs.mono ?_); rintro e w5 ⟨rfl, rfl⟩; clear cs))
            go_roundw
            case rel => exact ⟨j + 1, by trivial, hjl, by rw [hc.out], by go_num⟩
            case measure => simp [intOf]; omega
        · obtain rfl : j = q3 := by omega
          have e1 : O.take j = O := List.take_of_length_le (by have := hM3.out.2.2.2.1; omega)
          rw [e1]
          clear e1
          generalize kpC Y O = kb at *
          cases kb
          · have hN2 := Lib.hid (show clC (G.take (k + 1)) = O from by rw [hN.out]; rfl)
            clear hN
            go_wp2
            go_roundw
            case rel => exact ⟨_, k + 1, A3, j, c3, rfl, by omega, by go_num, Lib.hid (by rw [hN2.out]; exact hM3.out)⟩
            case measure => simp [intOf]; omega
          · have hN2 := Lib.hid (show clC (G.take (k + 1)) = O ++ [Y] from by rw [hN.out]; rfl)
            have hlo : O.length + 1 ≤ 1000000000 := by have := hM3.out.2.2.2.1; omega
            clear hN
            go_wp2_with (at_builtin; ((refine app_grid rfl (.tmp 47) (.tmp 49) rfl (W2.heap.size + 2) (.slice A3 j c3) O rfl (hM3.out.b (bel_alloc (Below.refl _ _) _)).2.2.1 ⟨w3.heap.size, 0, none⟩ 1 (.slice A4 q4 c4) Y rfl (by rw [World.cell?_alloc_at _ _ _ _ rfl]; rfl) (rowUp HRow.out) (Nat.le_refl 1) hlo (Nat.le_trans hM3.out.2.2.2.2.1 (bel_alloc (Below.refl _ _) _).size) ?_); intro v8 w6 ho6 hg6; obtain ⟨A2, k2, rfl, hM6, hfz, hcz⟩ := RM.app (hM3.out.b (bel_alloc (Below.refl _ _) _)) ho6 hg6))
            go_roundw
            case rel => exact ⟨_, k + 1, A2, j + 1, k2, rfl, by omega, by go_num, Lib.hid (by rw [hN2.out]; exact hM6)⟩
            case measure => simp [intOf]; omega
    · obtain rfl : k = r := by omega
      have e1 : G.take k = G := List.take_of_length_le (by have := HX.out; omega)
      have HF := Lib.hid (hM.out.fin N A3 q3 c3)
      obtain ⟨x0, x1⟩ := HF.out.1.two
      obtain ⟨g0, g1⟩ := hM.out.1.two
      obtain ⟨f0, f1⟩ := hM.out.1.free
      obtain ⟨c0, c1⟩ := hM.out.2.1.two
      have HE := Lib.hid e1
      have HL := Lib.hid hM.out.2.2.2.1
      clear e1
      go_wp2
      simp [bodyPost, results, Tryz.results11, go_sem, x0, x1]
      refine ⟨A3, q3, c3, ⟨rfl, rfl, rfl⟩, ?_, bel_trans HB2.out HF.out.2.1⟩
      obtain ⟨A', c', e, _, hS⟩ := HF.out.2.2.slG
      rw [← HL.out, HE.out] at hS
      rw [← HL.out] at e
      injection e with e1 e2 e3
      rw [← e1, ← e3] at hS
      exact hS
end Go.Proofs.YthchjceibpcgbaaGreatDoor.Cn
