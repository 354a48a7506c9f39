/-
  What is proved: what package cnf's Clean returns.
-/
import Derived.Test.YthchjceibpcgbaaGreatDoorFN
import Derived.Test.YthchjceibpcgbaaGreatDoorZLtI
import Derived.Test.YthchjceibpcgbaaGreatDoorZCnR
namespace Go.Proofs.YthchjceibpcgbaaGreatDoor.Cn
open Go.RowKit L Lt Fi
set_option linter.unusedVariables false
set_option linter.unusedSimpArgs false

def fltC (G : List (List Int)) : List (List Int) := (G.map cl).filter fun d => !opp d
theorem fltC_take {G : List (List Int)} {k : Nat} {X : List Int} (h : G[k]? = some X) : fltC (G.take (k + 1)) = if opp (cl X) then fltC (G.take k) else fltC (G.take k) ++ [cl X] := by
  unfold fltC
  rw [List.take_add_one, h, List.map_append, List.filter_append]
  cases ho : opp (cl X) <;> simp [ho]
theorem fltC_len (G : List (List Int)) : (fltC G).length ≤ G.length := by
  unfold fltC
  exact Nat.le_trans (List.length_filter_le _ _) (by simp)
theorem fltC_sz {G : List (List Int)} {M : Nat} (h : ∀ X ∈ G, X.length ≤ M) : ∀ X ∈ fltC G, X.length ≤ M := fun X hX => by
  obtain ⟨Y, hY, rfl⟩ := List.mem_map.1 (List.mem_filter.1 hX).1
  exact Nat.le_trans (cl_len Y) (h Y hY)
set_option maxRecDepth 100000 in
set_option maxHeartbeats 8000000 in
theorem CClean_any (N : Int) (A : Option Addr) (r c : Nat) (G : List (List Int)) (w : World) (h : SlG w A r c G) (hr : r ≤ 1000000) (hs : ∀ X ∈ G, R64s X ∧ X.length ≤ 1000000) :
    Calls Tryz.prog 10 #[.agg #[.int .i64 N, .slice A r c]] w fun e w' => ∃ A' m c', e = .returned (.agg #[.int .i64 N, .slice A' m c']) ∧ SlG w' A' m c' (clC G) ∧ Below w.heap.size w w' := by
  obtain ⟨W2, hW2, hB2, S2, T2⟩ := boxC2 w N A r c 0 none 0 0
  obtain ⟨s0, s1⟩ := S2.two
  have LS := Lib.hid (Blk.lt S2)
  have LT := Lib.hid (Blk.lt T2)
  have hT := Lib.hid T2
  have H := Lib.hid (h.below hB2)
  have HX := Lib.hid h.1
  have HS := Lib.hid hs
  have HB2 := Lib.hid hB2
  have HO0 : Hid (OwnG W2 W2.heap.size (.slice none 0 0) (fltC (G.take 0))) := Lib.hid (OwnG.nil _ _)
  have HSz := Lib.hid (fltC_sz (G := G) (M := 1000000) (fun X hX => (hs X hX).2))
  have HCl := Lib.hid (show clC G = uq [] (fltC G) from clC_is G)
  have HFl := Lib.hid (fun k => fltC_len (G.take k))
  have HKb := Lib.hid (show ∀ w', Below W2.heap.size W2 w' → w'.cell? ⟨w.heap.size, 0, none⟩ = some (.int .i64 N) from fun w' hb => (S2.b hb).two.1)
  clear h hs hB2 S2 T2
  go_enter Tryz.func10, Tryz.ntmps10
  go_wp2
  go_loopw [3, 11] (fun v i wr0 => ∃ (wr : World) (k : Nat) (A3 : Option Addr) (q3 c3 : Nat), wr = wr0 ∧ k ≤ r ∧ v = .slice A3 q3 c3 ∧ i = .int .i64 k ∧ Hid (OwnG wr W2.heap.size (.slice A3 q3 c3) (fltC (G.take k))) ∧ Hid (Below W2.heap.size W2 wr)) (fun v i _ => r - (intOf i).toNat)
  case atStart => exact ⟨_, 0, none, 0, 0, rfl, by omega, rfl, rfl, HO0, Lib.hid (Below.refl _ _)⟩
  case round =>
    obtain ⟨wr, k, A3, q3, c3, rfl, hk, rfl, rfl, hO, hB⟩ := hrel
    by_cases hlt : k < r
    · obtain ⟨g, o, B, p, q, X, rfl, hg, z0, hx, hX⟩ := SlG.at H.out hlt
      have y0 := (hB.out.cell (p := ⟨g, _, none⟩) hg).trans z0
      obtain ⟨hXr, hXl⟩ := HS.out X (List.mem_of_getElem? hx)
      have cr := CleanN_any B p q X wr (hX.below hB.out) hXr (by rw [hX.1]; exact hXl)
      have hN := Lib.hid (fltC_take hx)
      have hk0 : 0 ≤ (k : Int) := by omega
      have hk1 : (k : Int) < (r : Int) := by omega
      have hql : (fltC (G.take k)).length + 1 ≤ 1000000000 := by
        have h1 := HFl.out k
        have h2 : (G.take k).length ≤ k := by rw [List.length_take]; omega
        omega
      have HQL := Lib.hid hql
      clear z0 hx hX hXr hXl hql
      generalize hop : opp (cl X) = op at *
      generalize hcl : cl X = Y at *
      cases op
      · have hN2 := Lib.hid (show fltC (G.take (k + 1)) = fltC (G.take k) ++ [Y] from by rw [hN.out]; rfl)
        clear hN hop hcl
        generalize fltC (G.take k) = F at *
        go_wp2_with (first
          | (go_at_call 24; ((with_reducible refine cr.mono ?_); rintro e w3 ⟨A4, q4, c4, rfl, hY, hq4, b3, hn4⟩; have hO3 := hO.out.below (b3); have hbA : Below w3.heap.size w3 (w3.alloc (.cells #[.slice A4 q4 c4] 34)) := bel_alloc (Below.refl _ _) _; have hX4 : RwI (fun b => W2.heap.size ≤ b ∧ b < (w3.alloc (.cells #[.slice A4 q4 c4] 34)).heap.size ∧ (Value.slice A3 q3 c3).ownBlock ≠ some b) (w3.alloc (.cells #[.slice A4 q4 c4] 34)) (.slice A4 q4 c4) Y := ⟨A4, q4, c4, rfl, hY.below hbA, fun hm ad ha => ⟨Nat.le_trans hB.out.size (hn4 ad ha), (by obtain ⟨b', o', e', hlt', _⟩ := (hY.below hbA).2.2.2 hm; rw [ha] at e'; injection e' with e'; rw [e']; exact hlt'), fun e' => Nat.not_lt_of_le (hn4 ad ha) (hO.out.lt _ e').2⟩⟩; have hu4 : (w3.alloc (.cells #[.slice A4 q4 c4] 34)).cell? ⟨w3.heap.size, 0, none⟩ = some (.slice A4 q4 c4) := Blk.cell (Blk.new w3 #[.slice A4 q4 c4] 34) 0; have HX4 := Lib.hid hX4; have HU4 := Lib.hid hu4; have HO4 := Lib.hid (hO3.below hbA); have B3 := Lib.hid (bel_trans hB.out b3); clear hY hn4 hO3 hbA hX4 hu4 b3))
          | (at_builtin; ((refine app_grid rfl (.tmp 21) (.tmp 23) rfl W2.heap.size (.slice A3 q3 c3) F rfl HO4.out ⟨w3.heap.size, 0, none⟩ 1 (.slice A4 q4 c4) Y rfl HU4.out HX4.out (Nat.le_refl _) HQL.out (Nat.le_trans B3.out.size (by simp)) ?_); intro v5 w5 hO5 hg5; have B5 := Lib.hid ((bel_alloc B3.out (.cells #[.slice A4 q4 c4] 34)).grown hg5 (bel_alloc B3.out (.cells #[.slice A4 q4 c4] 34)).size (fun j hj => (HO4.out.lt j hj).1)); obtain ⟨A5, c5, rfl, _, _⟩ := hO5.slG; have HO5 := Lib.hid hO5; clear hO5 hg5)))
        go_roundw
        case rel => exact ⟨_, k + 1, A5, _, c5, rfl, by omega, rfl, by go_num, Lib.hid (by rw [hN2.out]; have h := HO5.out; rw [show (F ++ [Y]).length = F.length + 1 by simp] at h; exact h), B5⟩
        case measure => simp [intOf]; omega
      · have hN2 := Lib.hid (show fltC (G.take (k + 1)) = fltC (G.take k) from by rw [hN.out]; rfl)
        clear hN hop hcl
        generalize fltC (G.take k) = F at *
        go_wp2_with (go_at_call 24; ((with_reducible refine cr.mono ?_); rintro e w3 ⟨A4, q4, c4, rfl, hY, hq4, b3, hn4⟩; have HO3 := Lib.hid (hO.out.below b3); have B3 := Lib.hid (bel_trans hB.out b3); clear hY hn4 b3))
        go_roundw
        case rel => exact ⟨_, k + 1, A3, q3, c3, rfl, by omega, rfl, by go_num, Lib.hid (by rw [hN2.out]; exact HO3.out), B3⟩
        case measure => simp [intOf]; omega
    · obtain rfl : k = r := by omega
      have e1 : G.take k = G := List.take_of_length_le (by have := HX.out; omega)
      rw [e1] at hO
      have hgp := own_gp hO.out
      have hlb : q3 ≤ 1000000 := by
        rw [hgp.1]
        have h1 := HFl.out k
        rw [e1] at h1
        have := HX.out; omega
      have cF := Lib.hid (fun (W : World) (hb : Below wr.heap.size wr W) => Firsts_any (fun b => W2.heap.size ≤ b) A3 q3 c3 (fltC G) W (hgp.2.below hb) HSz.out hlb)
      rw [← HCl.out] at cF
      have t0 := HKb.out wr hB.out
      have t0d : wr.drew.cell? ⟨w.heap.size, 0, none⟩ = some (.int .i64 N) := t0
      have hwr := hB.out.size
      have HW := Lib.hid hwr
      clear hgp hlb e1 hwr HO0 HSz hO
      obtain ⟨CG, hCG⟩ : ∃ CG, clC G = CG := ⟨_, rfl⟩
      rw [hCG] at cF
      have HCG := Lib.hid hCG
      clear hCG
      go_wp2_with fail
      go_region_with (go_at_call 25; ((with_reducible refine (cF.out _ (by first | exact (Below.refl _ _).drew | exact Below.refl _ _)).mono ?_); rintro e w6 ⟨A6, m6, c6, rfl, hm6, hS6, hb6, hA6⟩; have B6 := Lib.hid (show Below W2.heap.size W2 w6 from bel_trans hB.out ((show Below wr.heap.size wr wr.drew from (Below.refl _ _).drew).trans hb6)); have t6 := HKb.out w6 B6.out; have T6 := hT.out.b B6.out; obtain ⟨g0, g1⟩ := T6.two; obtain ⟨f0, f1⟩ := T6.free; have HF := Lib.hid ((T6.put0 N).put1 A6 m6 c6); obtain ⟨x0, x1⟩ := HF.out.two; have hAn : ∀ ad, A6 = some ad → ad.block ≠ w.heap.size + 1 := (fun ad ha e => by have h1 : wr.heap.size ≤ ad.block := hA6 ad ha; have h2 := HW.out; have h3 := LT.out; rw [e] at h1; omega); have hPn : ¬ W2.heap.size ≤ w.heap.size + 1 := Nat.not_le_of_lt LT.out; have HSf := Lib.hid (((hS6.far hAn hPn 0 (.int .i64 N)).far hAn hPn 1 (.slice A6 m6 c6)).slG); have HBf := Lib.hid (((bel_trans HB2.out B6.out).setCell (p := ⟨w.heap.size + 1, 0, none⟩) (Nat.le_succ _) (.int .i64 N)).setCell (p := ⟨w.heap.size + 1, 1, none⟩) (Nat.le_succ _) (.slice A6 m6 c6)); clear hS6 hb6 hA6 hAn hPn T6))
      all_goals go_wp2
      all_goals simp [bodyPost, results, Tryz.results10, go_sem, x0, x1]
      all_goals exact ⟨A6, m6, c6, ⟨rfl, rfl, rfl⟩, by rw [HCG.out]; exact HSf.out, HBf.out⟩
end Go.Proofs.YthchjceibpcgbaaGreatDoor.Cn
