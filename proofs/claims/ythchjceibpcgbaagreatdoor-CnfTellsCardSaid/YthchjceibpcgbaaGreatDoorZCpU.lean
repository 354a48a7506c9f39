/-
  What is proved: what package cnf's Vars returns.
-/
import Derived.Test.YthchjceibpcgbaaGreatDoorZLtI
import Derived.Test.YthchjceibpcgbaaGreatDoorCT
import Derived.Test.YthchjceibpcgbaaGreatDoorZCnR
import Derived.Test.YthchjceibpcgbaaGreatDoorLB
import Derived.Test.YthchjceibpcgbaaGreatDoorIter
import Derived.Lib.SlKeysI
import Derived.Maps.Own
import Derived.Maps.Views
namespace Go.Proofs.YthchjceibpcgbaaGreatDoor.Cn
open Go.RowKit Go.Shelf Go.Maps Go.WideMaps L Lt
set_option linter.unusedVariables false
set_option linter.unusedSimpArgs false

theorem tw_dw (n : Int) (l : List Int) : l = l.takeWhile (· < n) ++ l.dropWhile (· < n) := List.takeWhile_append_dropWhile.symm
theorem mem_put {l : List Int} {n y : Int} : y ∈ put l n ↔ y = n ∨ y ∈ l := by
  unfold put
  split
  · rename_i h
    constructor
    · exact Or.inr
    · rintro (rfl | h1)
      · exact h
      · exact h1
  · have e : y ∈ l ↔ y ∈ l.takeWhile (· < n) ∨ y ∈ l.dropWhile (· < n) := by rw [← List.mem_append, List.takeWhile_append_dropWhile]
    rw [List.mem_append, List.mem_cons, e]
    constructor
    · rintro (h | h | h)
      · exact Or.inr (Or.inl h)
      · exact Or.inl h
      · exact Or.inr (Or.inr h)
    · rintro (h | h | h)
      · exact Or.inr (Or.inl h)
      · exact Or.inl h
      · exact Or.inr (Or.inr h)
theorem put_up {n : Int} : ∀ {l : List Int}, l.Pairwise (· < ·) → (put l n).Pairwise (· < ·)
  | [], _ => by simp [put]
  | y :: l, h => by
    have h1 := List.pairwise_cons.1 h
    have ih := put_up (n := n) h1.2
    unfold put at ih ⊢
    by_cases hm : n ∈ y :: l
    · rw [if_pos hm]; exact h
    · rw [if_neg hm]
      by_cases hy : y < n
      · have hm2 : n ∉ l := fun e => hm (by simp [e])
        rw [if_neg hm2] at ih
        simp only [List.takeWhile_cons, List.dropWhile_cons, hy, decide_true, if_true, List.cons_append]
        refine List.pairwise_cons.2 ⟨fun z hz => ?_, ih⟩
        rw [List.mem_append, List.mem_cons] at hz
        rcases hz with hz | rfl | hz
        · exact h1.1 z (List.takeWhile_subset _ hz)
        · exact hy
        · exact h1.1 z (List.dropWhile_subset _ hz)
      · have hne : n ≠ y := fun e => hm (by simp [e])
        simp only [List.takeWhile_cons, List.dropWhile_cons, hy, decide_false, Bool.false_eq_true, if_false, List.nil_append]
        refine List.pairwise_cons.2 ⟨fun z hz => ?_, h⟩
        rcases List.mem_cons.1 hz with rfl | hz
        · omega
        · have := h1.1 z hz; omega
theorem fput_up : ∀ (Y : List Int) {l : List Int}, l.Pairwise (· < ·) → (Y.foldl put l).Pairwise (· < ·)
  | [], _, h => h
  | y :: Y, _, h => fput_up Y (put_up h)
theorem vrC_up (G : List (List Int)) : (vrC G).Pairwise (· < ·) := fput_up _ List.Pairwise.nil

/-- a map of the call's own that has just the numbers told -/
def MapV (w : World) (g k : Nat) (S : List Int) : Prop :=
  ∃ D : DataW Unit, w.ownsMap Tryz.prog 3 (plainElem Tryz.prog 4) g k D ∧ IsMap D ∧ ∀ x, (x ∉ S → ∀ zd, D.atKey (.int .i64 x) zd = zd) ∧ (x ∈ S → ∀ zd, D.atKey (.int .i64 x) zd = .lit (.bool true))
theorem MapV.made (w : World) : MapV (w.alloc (.map #[] 0)) w.heap.size 0 [] := ⟨.map [], World.ownsMap_made _ _ _ _, ⟨[], rfl⟩, fun x => ⟨fun _ _ => rfl, fun h => by cases h⟩⟩
theorem MapV.lt {w : World} {g k : Nat} {S : List Int} (h : MapV w g k S) : g < w.heap.size := by obtain ⟨D, ho, _⟩ := h; exact ho.lt
theorem MapV.b {w w' : World} {g k : Nat} {S : List Int} (h : MapV w g k S) (hb : Below w.heap.size w w') : MapV w' g k S := by
  have hlt := h.lt
  obtain ⟨D, ⟨es, ck, h1, h2, h3, h4⟩, hD, hs⟩ := h
  exact ⟨D, ⟨es, ck, (hb.block g hlt).trans h1, h2, h3, h4⟩, hD, hs⟩
theorem MapV.put {w : World} {g k : Nat} {S : List Int} (h : MapV w g k S) (hk : k < maxLen) (x : Int) (hx : R64 x) :
    ∃ w', (Instr.mapUpdate 54 (.map (some g)) (.int .i64 x) (.bool true)).run Tryz.prog w = .ok () w' ∧ MapV w' g (k + 1) (put S x) ∧ w.grownBy w' (some g) := by
  obtain ⟨D, ho, hD, hs⟩ := h
  obtain ⟨w', h1, h2, h3⟩ := ho.update lawI Tryz.underlying54 hk (key := .int .i64 x) (val := .bool true) (keyOf_int_mk Tryz.underlying3 (wfI hx)) (plainElem_bool Tryz.underlying4 true)
  have hD1 : IsMap (D.put (.int .i64 x) (.lit (.bool true))) := by
    obtain ⟨es, rfl⟩ := hD
    exact ⟨_, rfl⟩
  refine ⟨w', h1, ⟨_, h2, hD1, fun y => ?_⟩, h3⟩
  by_cases e : y = x
  · subst e
    refine ⟨fun h => absurd (mem_put.2 (Or.inl rfl)) h, fun _ zd => ?_⟩
    rw [atKey_put_same hD (by trivial)]
  · have ne : Lit.int .i64 y ≠ Lit.int .i64 x := by intro h; injection h with _ h; exact e h
    refine ⟨fun h zd => ?_, fun h zd => ?_⟩
    · rw [atKey_put_other ne]
      exact (hs y).1 (fun h1 => h (mem_put.2 (Or.inr h1))) zd
    · rw [atKey_put_other ne]
      rcases mem_put.1 h with h | h
      · exact absurd h e
      · exact (hs y).2 h zd
theorem MapV.keys {w : World} {g n : Nat} {S : List Int} (h : MapV w g n S) (hu : S.Pairwise (· < ·)) :
    ∃ D : DataW Unit, w.ownsMap Tryz.prog 3 (plainElem Tryz.prog 4) g n D ∧ Maps.size D ≤ n ∧ S.Perm (intKeys D) := by
  obtain ⟨D, ho, hD, hs⟩ := h
  refine ⟨D, ho, ho.size_le, CollectedI.perm (left := fun _ => false) ⟨hu.imp (fun {a b} h e => by omega), fun x => ?_⟩ ho lawI Tryz.underlying3 (fun _ => rfl)⟩
  by_cases hx : x ∈ S
  · exact ⟨fun _ => ⟨has_true_of_atKey ((hs x).2 hx), rfl⟩, fun _ => hx⟩
  · have hf := has_false_of_atKey ((hs x).1 hx)
    exact ⟨fun h => absurd h hx, fun h => by rw [hf] at h; cases h.1⟩
theorem merge_up {S ss : List Int} {D : DataW Unit} (hu : S.Pairwise (· < ·)) (h1 : ss.Perm (intKeys D)) (h2 : S.Perm (intKeys D)) : ss.mergeSort (fun x y => decide (x ≤ y)) = S ∧ ss.length = S.length := by
  have hpm := h1.trans h2.symm
  refine ⟨(mergeSort_of_perm_i hpm).trans (List.mergeSort_of_pairwise (hu.imp (fun {a b} h => ?_))), hpm.length_eq⟩
  show decide (a ≤ b) = true
  rw [decide_eq_true_eq]; omega
theorem grown_cell {w w' : World} {g : Nat} (h : w.grownBy w' (some g)) {a : Addr} (ha : a.block < w.heap.size) (hn : a.block ≠ g) : w'.cell? a = w.cell? a := by
  have e := h.block a.block ha (fun h => by injection h with h; exact hn h)
  unfold World.cell?
  rw [e]
theorem sortedV (g q : Nat) (S : List Int) (W : World) (hM : MapV W g q S) (hu : S.Pairwise (· < ·)) (hq : q ≤ 100000000) :
    Calls Tryz.prog 32 #[.func (.func 71) #[] #[.pointer (some ⟨W.heap.size, 0, none⟩)]] (W.alloc (.cells #[.map (some g)] 54)) fun e w' => ∃ A q' c, e = .returned (.slice A q' c) ∧ SlI w' A q' c S ∧ Below W.heap.size W w' := by
  obtain ⟨D, ho, hD, hp⟩ := hM.keys hu
  have hb : Below W.heap.size W (W.alloc (.cells #[.map (some g)] 54)) := bel_alloc (Below.refl _ _) _
  refine (callsIn_wide.1 (Tryz.slices_Sorted_keys_int g q D _ W ho (by unfold maxLen; omega) (by omega))).mono ?_
  rintro e w' ⟨v, ss, rfl, hpm, hrow, -, hb3⟩
  obtain ⟨hms, hsl⟩ := merge_up hu hpm hp
  have hO : OwnI w' (W.alloc (.cells #[.map (some g)] 54)).heap.size v S := by
    unfold OwnI
    rw [hms, hsl] at hrow
    exact hrow
  obtain ⟨A', c', rfl, -⟩ := hO.slice
  exact ⟨A', _, c', rfl, hO.sl.2.2, bel_trans hb hb3⟩
set_option maxRecDepth 100000 in
set_option maxHeartbeats 8000000 in
theorem CVars_any (N : Int) (A : Option Addr) (r c : Nat) (G : List (List Int)) (w : World) (h : SlG w A r c G) (hr : r ≤ 10000) (hs : ∀ X ∈ G, R64s X ∧ X.length ≤ 1000) :
    Calls Tryz.prog 14 #[.agg #[.int .i64 N, .slice A r c]] w fun e w' => ∃ A' q c', e = .returned (.slice A' q c') ∧ SlI w' A' q c' (vrC G) ∧ Below w.heap.size w w' := by
  have hmm := @run_makeMap Tryz.prog
  obtain ⟨W2, hW2, hB2, S2⟩ := boxC w N A r c
  obtain ⟨s0, s1⟩ := S2.two
  obtain ⟨W3, hW3⟩ : ∃ W3, W2.alloc (.map #[] 0) = W3 := ⟨_, rfl⟩
  have hB3 : Below W2.heap.size W2 W3 := by rw [← hW3]; exact bel_alloc (Below.refl _ _) _
  have t1 : W3.cell? ⟨w.heap.size, 1, none⟩ = some (.slice A r c) := (hB3.cell (p := ⟨w.heap.size, 1, none⟩) (Blk.lt S2)).trans s1
  have HM0 : Hid (MapV W3 W2.heap.size 0 (vrC (G.take 0))) := by rw [← hW3]; exact Lib.hid (MapV.made W2)
  have H := Lib.hid (h.below hB2)
  have HX := Lib.hid h.1
  have HS := Lib.hid hs
  have HB3 := Lib.hid (show Below W2.heap.size W2 W3 from hB3)
  have HB2 := Lib.hid hB2
  have HF := Lib.hid (fun (W : World) q (hM : MapV W W2.heap.size q (vrC G)) hq => sortedV W2.heap.size q (vrC G) W hM (vrC_up G) hq)
  have cK := Lib.hid (fun (W : World) => callsIn_wide.1 (Tryz.maps_Keys_int (some W2.heap.size) W))
  clear h hs hB2 hB3 S2 s0 s1
  go_enter Tryz.func14, Tryz.ntmps14
  go_wp2
  go_loopw [14] (fun i wr0 => ∃ (wr : World) (k q : Nat), wr = wr0 ∧ k ≤ r ∧ q ≤ k * 1000 ∧ i = .int .i64 k ∧ Hid (MapV wr W2.heap.size q (vrC (G.take k))) ∧ Hid (Below W2.heap.size W2 wr)) (fun i _ => r - (intOf i).toNat)
  case atStart => exact ⟨_, 0, 0, rfl, by omega, by omega, rfl, HM0, HB3⟩
  case round =>
    obtain ⟨wr, k, q, rfl, hk, hq, rfl, hM, hB⟩ := hrel
    by_cases hlt : k < r
    · obtain ⟨g, o, B, p, pc, X, rfl, hg, z0, hx, hX⟩ := SlG.at H.out hlt
      have y0 := (hB.out.cell (p := ⟨g, _, none⟩) hg).trans z0
      obtain ⟨hXr, hXl⟩ := HS.out X (List.mem_of_getElem? hx)
      have cr := CleanN_any B p pc X wr (hX.below hB.out) hXr (by rw [hX.1]; omega)
      have hcr := Lib.hid (cl_r hXr)
      have hcl := Lib.hid (Nat.le_trans (cl_len X) hXl)
      have hN := Lib.hid (vrC_next hx)
      have hpb : p ≤ 1000 := by rw [hX.1]; exact hXl
      have hk0 : 0 ≤ (k : Int) := by omega
      have hk1 : (k : Int) < (r : Int) := by omega
      clear z0 hx hX hXr hXl
      generalize opp (cl X) = op at *
      generalize cl X = Y at *
      go_wp2_with (go_at_call 24; ((with_reducible refine cr.mono ?_); rintro e w3 ⟨A4, q4, c4, rfl, hY, hq4, b3, hn4⟩; clear cr))
      have HY := Lib.hid hY
      have HYl := Lib.hid hY.1
      have hgl := (hM.out.b b3).lt
      have HNb := Lib.hid (show ∀ ad : Addr, A4 = some ad → ad.block ≠ W2.heap.size from fun ad ha e => by have h1 := hn4 ad ha; have h2 := hM.out.lt; omega)
      have HO3 := Lib.hid (show MapV w3 W2.heap.size q (vrP (G.take k) (Y.take 0)) from hM.out.b b3)
      have HB4 := Lib.hid (bel_trans hB.out b3)
      clear hY b3 hn4
      go_loopw [25] (fun i wr0 => ∃ (ws : World) (j q5 : Nat), ws = wr0 ∧ j ≤ q4 ∧ q5 ≤ k * 1000 + j ∧ i = .int .i64 j ∧ Hid (MapV ws W2.heap.size q5 (vrP (G.take k) (Y.take j))) ∧ Hid (Below W2.heap.size W2 ws) ∧ Hid (∀ a : Addr, a.block < w3.heap.size → a.block ≠ W2.heap.size → ws.cell? a = w3.cell? a) ∧ w3.heap.size ≤ ws.heap.size) (fun i _ => q4 - (intOf i).toNat)
      case atStart => exact ⟨_, 0, q, rfl, by omega, by omega, rfl, HO3, HB4, Lib.hid (fun a _ _ => rfl), Nat.le_refl _⟩
      case round =>
        obtain ⟨ws, j, q5, rfl, hj, hq5, rfl, hM5, hB5, hE5, hE3⟩ := hrel
        by_cases hjl : j < q4
        · obtain ⟨g', o', y, rfl, hg', z1, hy⟩ := SlI.at HY.out hjl
          have y1 := (hE5.out ⟨g', o' + j, none⟩ hg' (HNb.out ⟨g', o', none⟩ rfl)).trans z1
          have hyR := hcr.out y (List.mem_of_getElem? hy)
          have hV := Lib.hid (vrP_next (G := G.take k) hy)
          have hjY := hcl.out
          have hjq := HYl.out
          have hvr : vr y = max y (wrap64 (-y)) := by
            have : vr y = if y < wrap64 (-y) then wrap64 (-y) else y := by rw [w64]; rfl
            rw [this]; split <;> omega
          have hvR : R64 (vr y) := by
            have h1 := ng_r hyR
            unfold vr; split
            · exact h1
            · exact hyR
          obtain ⟨wa, ra, ma, ga⟩ := hM5.out.put (by unfold maxLen; omega) (vr y) hvR
          rw [hvr] at ra
          have hs5 := hB5.out.size
          have Ha := Lib.hid (show MapV wa W2.heap.size (q5 + 1) (vrP (G.take k) (Y.take (j + 1))) ∧ Below W2.heap.size W2 wa ∧ (∀ a : Addr, a.block < w3.heap.size → a.block ≠ W2.heap.size → wa.cell? a = w3.cell? a) ∧ w3.heap.size ≤ wa.heap.size from by
            refine ⟨?_, hB5.out.grown ga hs5 (fun k hk => by injection hk with hk; omega), fun a h1 h2 => ?_, Nat.le_trans hE3 ga.size⟩
            · rw [hV.out]; exact ma
            · exact (grown_cell ga (Nat.lt_of_lt_of_le h1 hE3) h2).trans (hE5.out a h1 h2))
          have hj2 := Lib.hid (show j + 1 ≤ q4 from hjl)
          have hj0 : 0 ≤ (j : Int) := by omega
          have hj1 : (j : Int) < (q4 : Int) := by omega
          clear z1 hy hjY hjq ma ga hvr hvR hs5 hyR
          go_wp2
          go_roundw
          case rel => exact ⟨_, j + 1, q5 + 1, rfl, hj2.out, by omega, by go_num, Lib.hid Ha.out.1, Lib.hid Ha.out.2.1, Lib.hid Ha.out.2.2.1, Ha.out.2.2.2⟩
          case measure => have := hj2.out; simp [intOf]; omega
        · obtain rfl : j = q4 := by omega
          have e1 : Y.take j = Y := List.take_of_length_le (by have := HYl.out; omega)
          have hS := Lib.hid (show MapV ws W2.heap.size q5 (vrC (G.take (k + 1))) by rw [hN.out]; have := hM5.out; rwa [e1] at this)
          have hjY := hcl.out
          have hjq := HYl.out
          have hq6 : q5 ≤ (k + 1) * 1000 := by omega
          clear e1 hjY hjq
          go_wp2
          go_roundw
          case rel => exact ⟨_, k + 1, q5, rfl, by omega, hq6, by go_num, hS, hB5⟩
          case measure => simp [intOf]; omega
    · obtain rfl : k = r := by omega
      have e1 : G.take k = G := List.take_of_length_le (by have := HX.out; omega)
      have hM2 := hM.out
      rw [e1] at hM2
      have cs := HF.out wr q hM2 (by omega)
      have ck := cK.out wr
      have hBr := Lib.hid hB.out
      clear e1 hM2
      go_wp2_with (first
        | (go_at_call 33; ((with_reducible refine ck.mono ?_); rintro e w2 ⟨rfl, rfl⟩))
        | (go_at_call 32; ((with_reducible refine cs.mono ?_); rintro e w3 ⟨A3, q3, c3, rfl, hS3, hb3⟩; have HS3 := Lib.hid hS3; have HB5 := Lib.hid (bel_trans hBr.out hb3); clear hS3 hb3)))
      go_ret
      exact ⟨_, _, _, rfl, HS3.out, bel_trans HB2.out HB5.out⟩
end Go.Proofs.YthchjceibpcgbaaGreatDoor.Cn
