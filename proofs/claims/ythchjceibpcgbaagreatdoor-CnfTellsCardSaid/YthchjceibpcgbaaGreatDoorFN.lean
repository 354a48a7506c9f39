/-
  What is proved: the first of equal lists are the list's elements, each once (plain mathematics); cleaned clauses, each once.
  What is proved: of any lists of integers package tree's Firsts returns those that no list ahead of them equals.
  What is proved: of no lists, and of any, package tree's Firsts returns those that no list ahead of them equals.
-/
import Derived.Test.YthchjceibpcgbaaGreatDoorZFiQ
import Derived.Test.YthchjceibpcgbaaGreatDoorZCnC
import Derived.Test.YthchjceibpcgbaaGreatDoorZFiX
namespace Go.Proofs.YthchjceibpcgbaaGreatDoor.Fi
open Go.RowKit L Lt Cn
set_option linter.unusedVariables false
set_option linter.unusedSimpArgs false

theorem fsts_uq (l : List (List Int)) : ∀ k, k ≤ l.length → (∀ x, x ∈ (fsts (cfL l) k).map (atL l) ↔ x ∈ l.take k) ∧ (fsts (cfL l) k).map (atL l) = uq [] (l.take k)
  | 0, _ => ⟨fun x => by simp [fsts], by simp [fsts, uq]⟩
  | k + 1, hk => by
    obtain ⟨h1, h2⟩ := fsts_uq l k (by omega)
    have hx : l[k]? = some (atL l k) := by
      have : l[k]? = some l[k] := List.getElem?_eq_getElem (by omega)
      rw [this, atL_some this]
    have ht : l.take (k + 1) = l.take k ++ [atL l k] := by rw [List.take_add_one, hx]; rfl
    have hf : fsts (cfL l) (k + 1) = fsts (cfL l) k ++ (if fst1 (cfL l) k then [k] else []) := by
      rw [fsts, List.range_succ, List.filter_append, List.filter_cons, List.filter_nil]; rfl
    have hin : fst1 (cfL l) k = true ↔ ¬ atL l k ∈ l.take k := by
      rw [fst1_iff]
      constructor
      · intro h3 h4
        obtain ⟨q, h5, h6⟩ := List.mem_iff_getElem.1 h4
        have hq : q < k := by simp at h5; omega
        refine h3 q hq (cfL_eq.2 ?_)
        rw [← h6]
        rw [List.getElem_take]
        exact atL_some (List.getElem?_eq_getElem _)
      · intro h3 q hq h4
        refine h3 ?_
        rw [← cfL_eq.1 h4]
        have : l[q]? = some l[q] := List.getElem?_eq_getElem (by omega)
        rw [atL_some this]
        exact List.mem_take_iff_getElem.2 ⟨q, by omega, rfl⟩
    rw [hf, ht, uq_snoc, ← h2]
    by_cases h3 : fst1 (cfL l) k = true
    · have h4 : ¬ atL l k ∈ (fsts (cfL l) k).map (atL l) := fun h => hin.1 h3 ((h1 _).1 h)
      rw [if_pos h3, if_neg h4]
      refine ⟨fun x => ?_, by simp⟩
      rw [List.map_append, List.mem_append, List.mem_append, h1]; simp
    · have h4 : atL l k ∈ (fsts (cfL l) k).map (atL l) := (h1 _).2 (Classical.byContradiction fun h => h3 (hin.2 h))
      rw [if_neg h3, if_pos h4]
      refine ⟨fun x => ?_, by simp⟩
      rw [List.append_nil, List.mem_append, h1]
      constructor
      · exact .inl
      · rintro (h5 | h5)
        · exact h5
        · rw [List.mem_singleton.1 h5]; exact (h1 _).1 h4
/-- .. of the whole list -/
theorem fsts_all (l : List (List Int)) : (fsts (cfL l) l.length).map (atL l) = uq [] l := by
  have := (fsts_uq l l.length (Nat.le_refl _)).2
  rwa [List.take_length] at this
/-- cleaned: those without opposites, each once -/
theorem clC_uq : ∀ (L out : List (List Int)), Cl out → L.foldl clS out = uq out ((L.map cl).filter fun d => !opp d)
  | [], out, _ => by rw [List.map_nil, List.filter_nil, uq]; rfl
  | c :: L, out, h => by
    have ih := clC_uq L (clS out c) (clS_cl h c)
    rw [List.foldl_cons, ih, clS_eq h, List.map_cons, List.filter_cons]
    cases ho : opp (cl c)
    · simp only [Bool.not_false, if_true, Bool.false_eq_true, false_or]
      rw [uq]
      split <;> rfl
    · simp
theorem clC_is (L : List (List Int)) : clC L = uq [] ((L.map cl).filter fun d => !opp d) := clC_uq L [] ⟨List.nodup_nil, fun d hd => by cases hd⟩
end Go.Proofs.YthchjceibpcgbaaGreatDoor.Fi
namespace Go.Proofs.YthchjceibpcgbaaGreatDoor.Fi
open Go.RowKit L Lt Cn
set_option linter.unusedVariables false
set_option linter.unusedSimpArgs false

set_option maxRecDepth 100000 in
set_option maxHeartbeats 8000000 in
theorem firsts_all (P : Nat → Prop) (A : Option Addr) (n c : Nat) (l : List (List Int)) (w : World) (hT : SlGP P w A n c l) (hlen : ∀ X ∈ l, X.length ≤ 1000000) (h0 : 0 < n) (hn : n ≤ 1000000) :
    Calls Tryz.prog 25 #[.slice A n c, .func (.func 26) #[] #[]] w fun e w' => ∃ g m, e = .returned (.slice (some ⟨g, 0, none⟩) m m) ∧ 0 < m ∧ m ≤ n ∧ SlGP P w' (some ⟨g, 0, none⟩) m m (uq [] l) ∧ Below w.heap.size w w' ∧ w.heap.size ≤ g := by
  obtain ⟨W0, hW0⟩ : ∃ W0, w.alloc (.cells #[.slice A n c] 22) = W0 := ⟨_, rfl⟩
  have hB0 : Below w.heap.size w W0 := by rw [← hW0]; exact bel_alloc (Below.refl _ _) _
  have hs0 : W0.heap.size = w.heap.size + 1 := by rw [← hW0]; simp
  have R0 : Blk W0 w.heap.size #[.slice A n c] 22 := by rw [← hW0]; exact Blk.new w _ _
  obtain ⟨W1, hW1⟩ : ∃ W1, W0.alloc (.cells #[.func (.func 26) #[] #[]] 50) = W1 := ⟨_, rfl⟩
  have hB1 : Below w.heap.size w W1 := by rw [← hW1]; exact bel_alloc hB0 _
  have hs1 : W1.heap.size = w.heap.size + 2 := by rw [← hW1]; simp [hs0]
  have R1 : Blk W1 w.heap.size #[.slice A n c] 22 := by rw [← hW1]; exact Blk.alloc R0 _
  have Q1 : Blk W1 (w.heap.size + 1) #[.func (.func 26) #[] #[]] 50 := by rw [← hW1, ← hs0]; exact Blk.new W0 _ _
  have hT1 : SlG W1 A n c l := hT.slG.below hB1
  have hc1 : CmpIn (w.heap.size + 2) (w.heap.size + 1) w.heap.size n l W1 := fun i j W hb hs hi hj => firsts1_any (w.heap.size + 1) w.heap.size A n c l hlen i j W ((hb.block _ (by omega)).trans Q1) ((hb.block _ (by omega)).trans R1) (hT1.below (hb.mono (by omega))) hi hj
  have hc2 : EqIn (w.heap.size + 2) (w.heap.size + 1) w.heap.size n l W1 := fun i j W hb hs hi hj => firsts2_any (w.heap.size + 1) w.heap.size A n c l hlen i j W ((hb.block _ (by omega)).trans Q1) ((hb.block _ (by omega)).trans R1) (hT1.below (hb.mono (by omega))) hi hj
  have hl : l.length = n := hT.1.symm
  obtain ⟨W2, hW2⟩ : ∃ W2, W1.alloc (.cells (madeCells #[.int .i64 0] n) 3) = W2 := ⟨_, rfl⟩
  have hmk := fun w => run_make_row' (P := Tryz.prog) 34 3 (.int .i64 0) 8 Tryz.underlying34 intI rfl .i64 .i64 n (by omega) (by omega) w
  have hmk1 := hmk W1
  rw [hW2] at hmk1
  have hB2 : Below W1.heap.size W1 W2 := by rw [← hW2]; exact bel_alloc (Below.refl _ _) _
  have R2 : RowN W2 (w.heap.size + 2) (List.range 0 ++ List.replicate (n - 0) 0) := by
    rw [← hW2, ← hs1]; simpa using made_row n W1
  have r0 := Blk.cell R1 0
  have hsz2 : w.heap.size + 3 ≤ W2.heap.size := by rw [← hW2]; simp; omega
  have hcm := cfL_cmp l
  have cS := fun (W : World) (hg : W2.grownBy W (some (w.heap.size + 2))) (hr : RowN W (w.heap.size + 2) (List.range n)) =>
    stableFunc_any (w.heap.size + 2) (w.heap.size + 1) w.heap.size n l W1 hc1 (cfL l) (fun _ _ => rfl) hcm (List.range n) List.pairwise_lt_range (by simp) n n (by simp) hn W ((hB2.mono (by omega)).trans (gr_below hg (by omega) (Nat.le_refl _))) hr
  obtain ⟨m, hm⟩ : ∃ m, (fsts (cfL l) n).length = m := ⟨_, rfl⟩
  obtain ⟨Y, hY⟩ : ∃ Y, fsts (cfL l) n = Y := ⟨_, rfl⟩
  have hm0 : 0 < m := by rw [← hm]; exact fsts_pos _ h0
  have hmn : m ≤ n := by rw [← hm]; exact fsts_len _ _
  have hYl : Y.length = m := by rw [← hY]; exact hm
  have hYu : Y.map (atL l) = uq [] l := by rw [← hY, ← hl]; exact fsts_all l
  have hYz : ∀ z ∈ Y, z < n := fun z hz => by rw [← hY] at hz; exact List.mem_range.1 (List.mem_filter.1 hz).1
  have HC := Lib.hid (show ∀ (Z : List Nat) (W : World), W2.grownBy W (some (w.heap.size + 2)) → RowN W (w.heap.size + 2) Z → Z.Perm (List.range n) → Srt (cfL l) Z →
      Calls Tryz.prog 60 #[.slice (some ⟨w.heap.size + 2, 0, none⟩) n n, .func (.func 61) #[] #[.pointer (some ⟨w.heap.size + 1, 0, none⟩), .pointer (some ⟨w.heap.size, 0, none⟩)]] W fun e w' => e = .returned (.slice (some ⟨w.heap.size + 2, 0, none⟩) m n) ∧ (∃ K R, RowN w' (w.heap.size + 2) (K ++ R) ∧ K.Perm Y) ∧ W.grownBy w' (some (w.heap.size + 2)) from fun Z W hg hr hp hs => by
    have hef : ∀ i j, eqR (atL l i) (atL l j) = (cfL l i j == 0) := fun i j => rfl
    have hpm := fsts_perm hcm (e := fun i j => cfL l i j == 0) (fun y p => by simp) hp hs
    have h := compact_any (w.heap.size + 2) (w.heap.size + 1) w.heap.size n l W1 hc2 (fun i j => cfL l i j == 0) hef Z (fun z hz => List.mem_range.1 (hp.mem_iff.1 hz)) n (by rw [hp.length_eq]; simp) hn W ((hB2.mono (by omega)).trans (gr_below hg (by omega) (Nat.le_refl _))) hr
    rw [hpm.length_eq, hm] at h
    rw [hY] at hpm
    exact h.mono fun e w' ⟨k1, ⟨R, k2⟩, k3⟩ => ⟨k1, ⟨_, R, k2, hpm⟩, k3⟩)
  have HO := Lib.hid (show ∀ (W : World), (∃ K R, RowN W (w.heap.size + 2) (K ++ R) ∧ K.Perm Y) → Calls Tryz.prog 62 #[.slice (some ⟨w.heap.size + 2, 0, none⟩) m n] W fun e w' => (∃ v, e = .returned v) ∧ (∃ R, RowN w' (w.heap.size + 2) (Y ++ R)) ∧ W.grownBy w' (some (w.heap.size + 2)) from fun W ⟨K, R, h1, h2⟩ =>
    (sort_part (w.heap.size + 2) K Y R h2 (by rw [← hY]; exact fsts_inc _ _) m n (by rw [h2.length_eq, hYl]) (by omega) W h1).mono fun e w' ⟨k1, k2, k3⟩ => ⟨k1, ⟨R, k2⟩, k3⟩)
  have HR2 := Lib.hid R2
  have HB := Lib.hid (show ∀ W, W2.grownBy W (some (w.heap.size + 2)) → Below w.heap.size w W from fun W hg => (bel_trans hB1 hB2).trans (gr_below hg (by omega) (by omega)))
  have HMp := Lib.hid (show ∀ W, W2.grownBy W (some (w.heap.size + 2)) → (∃ R, RowN W (w.heap.size + 2) (Y ++ R)) → Calls Tryz.prog 63 #[.slice (some ⟨w.heap.size + 2, 0, none⟩) m n, .func (.func 64) #[] #[.pointer (some ⟨w.heap.size, 0, none⟩)]] W fun e w' => e = .returned (.slice (some ⟨W.heap.size, 0, none⟩) m m) ∧ SlGP P w' (some ⟨W.heap.size, 0, none⟩) m m (uq [] l) ∧ Below W.heap.size W w' from fun W hg ⟨R, hr⟩ => by
    have hbW := (bel_trans hB1 hB2).trans (gr_below hg (by omega) (by omega) : Below w.heap.size W2 W)
    have h2 := gr_below hg (show w.heap.size + 2 ≤ W2.heap.size by omega) (Nat.le_refl _)
    have := mapPart_any P w.heap.size A n c l Y R (w.heap.size + 2) n m w W hbW (((hB2.mono (by omega)).trans h2).block _ (by omega) |>.trans R1) hT hYz hr hYl.symm hm0 (by omega)
    rwa [hYu] at this)
  have Hm := Lib.hid (show 0 < m ∧ m ≤ n from ⟨hm0, hmn⟩)
  clear hT R1 hT1 hc1 hc2 hl hW2 hmk R2 R0 Q1 hYz hYu hYl hm hY hcm hm0 hmn
  go_enter Tryz.func25, Tryz.ntmps25
  go_wp2
  go_loopw [12] (fun i wr0 => ∃ (wr : World) (k : Nat), wr = wr0 ∧ k ≤ n ∧ i = .int .i64 k ∧ W2.grownBy wr (some (w.heap.size + 2)) ∧ Hid (RowN wr (w.heap.size + 2) (List.range k ++ List.replicate (n - k) 0))) (fun i _ => n - (intOf i).toNat)
  case atStart => exact ⟨_, 0, rfl, by omega, rfl, World.grownBy.refl _ _, HR2⟩
  case round =>
    obtain ⟨wr, k, rfl, hk, rfl, hG, hR⟩ := hrel
    by_cases hlt : k < n
    · have hz : (List.range k ++ List.replicate (n - k) 0)[k]? = some 0 := by
        rw [List.getElem?_append_right (by simp), List.length_range, Nat.sub_self, List.getElem?_replicate, if_pos (by omega)]
      have c0 := RowN.at hR.out hz
      have q0 := Blk.free hR.out k
      have hn1 := Lib.hid (RowN.set hR.out k k)
      have hst := Lib.hid (range_step n k hlt)
      clear hz
      have hk0 : 0 ≤ (k : Int) := by omega
      have hk1 : (k : Int) < (n : Int) := by omega
      go_wp2
      go_roundw
      case rel => exact ⟨_, k + 1, rfl, by omega, by go_num, gr_set hG _ _, Lib.hid (by have h := hn1.out; rwa [hst.out] at h)⟩
      case measure => simp [intOf]; omega
    · obtain rfl : k = n := by omega
      have hrn : RowN wr (w.heap.size + 2) (List.range k) := by have h := hR.out; simpa using h
      have cS1 := cS wr hG hrn
      clear hR cS hrn
      go_wp2_with (first
        | (go_at_call 58; ((with_reducible refine cS1.mono ?_); rintro e w5 ⟨⟨v, rfl⟩, ⟨Z, hR5, hp5, hs5⟩, hG5⟩; have G5 := hG.trans hG5; have cC := HC.out Z w5 G5 hR5 hp5 hs5; clear hR5 hp5 hs5))
        | (go_at_call 60; ((with_reducible refine cC.mono ?_); rintro e w6 ⟨rfl, hR6, hG6⟩; have H6 := Lib.hid hR6; clear hR6; have G6 := G5.trans hG6))
        | (go_at_call 62; ((with_reducible refine (HO.out _ H6.out).mono ?_); rintro e w7 ⟨⟨v2, rfl⟩, hR7, hG7⟩; have H7 := Lib.hid hR7; clear hR7; have G7 := G6.trans hG7))
        | (go_at_call 63; ((with_reducible refine (HMp.out _ G7 H7.out).mono ?_); rintro e w8 ⟨rfl, hT8, hb8⟩; have H8 := Lib.hid hT8; clear hT8)))
      go_ret
      exact ⟨_, m, rfl, Hm.out.1, Hm.out.2, H8.out, bel_trans (HB.out _ G7) hb8, (HB.out _ G7).size⟩

end Go.Proofs.YthchjceibpcgbaaGreatDoor.Fi
namespace Go.Proofs.YthchjceibpcgbaaGreatDoor.Fi
open Go.RowKit L Lt Cn
set_option linter.unusedVariables false
set_option linter.unusedSimpArgs false

set_option maxRecDepth 100000 in
set_option maxHeartbeats 8000000 in
theorem firsts_none (A : Option Addr) (c : Nat) (w : World) :
    Calls Tryz.prog 25 #[.slice A 0 c, .func (.func 26) #[] #[]] w fun e w' => e = .returned (.slice none 0 0) ∧ Below w.heap.size w w' := by
  obtain ⟨W0, hW0⟩ : ∃ W0, w.alloc (.cells #[.slice A 0 c] 22) = W0 := ⟨_, rfl⟩
  have hB0 : Below w.heap.size w W0 := by rw [← hW0]; exact bel_alloc (Below.refl _ _) _
  have hs0 : W0.heap.size = w.heap.size + 1 := by rw [← hW0]; simp
  have R0 : Blk W0 w.heap.size #[.slice A 0 c] 22 := by rw [← hW0]; exact Blk.new w _ _
  obtain ⟨W1, hW1⟩ : ∃ W1, W0.alloc (.cells #[.func (.func 26) #[] #[]] 50) = W1 := ⟨_, rfl⟩
  have hB1 : Below w.heap.size w W1 := by rw [← hW1]; exact bel_alloc hB0 _
  have hs1 : W1.heap.size = w.heap.size + 2 := by rw [← hW1]; simp [hs0]
  have R1 : Blk W1 w.heap.size #[.slice A 0 c] 22 := by rw [← hW1]; exact Blk.alloc R0 _
  have hc1 : CmpIn (w.heap.size + 2) (w.heap.size + 1) w.heap.size 0 [] W1 := fun i j W hb hs hi hj => by omega
  have hc2 : EqIn (w.heap.size + 2) (w.heap.size + 1) w.heap.size 0 [] W1 := fun i j W hb hs hi hj => by omega
  obtain ⟨W2, hW2⟩ : ∃ W2, W1.alloc (.cells (madeCells #[.int .i64 0] 0) 3) = W2 := ⟨_, rfl⟩
  have hmk := fun w => run_make_row' (P := Tryz.prog) 34 3 (.int .i64 0) 8 Tryz.underlying34 intI rfl .i64 .i64 0 (by omega) (by omega) w
  have hmk1 := hmk W1
  rw [hW2, show (((0 : Nat) : Int)) = 0 from rfl] at hmk1
  have hB2 : Below W1.heap.size W1 W2 := by rw [← hW2]; exact bel_alloc (Below.refl _ _) _
  have R2 : RowN W2 (w.heap.size + 2) [] := by rw [← hW2, ← hs1]; simpa using made_row 0 W1
  have r0 := Blk.cell R1 0
  have hsz2 : w.heap.size + 3 ≤ W2.heap.size := by rw [← hW2]; simp; omega
  have cS := stableFunc_any (w.heap.size + 2) (w.heap.size + 1) w.heap.size 0 [] W1 hc1 (cfL []) (fun _ _ => rfl) (cfL_cmp []) [] List.Pairwise.nil (by simp) 0 0 rfl (by omega) W2 (hB2.mono (by omega)) R2
  have HC := Lib.hid (show ∀ (W : World), W2.grownBy W (some (w.heap.size + 2)) → RowN W (w.heap.size + 2) [] → Calls Tryz.prog 60 #[.slice (some ⟨w.heap.size + 2, 0, none⟩) 0 0, .func (.func 61) #[] #[.pointer (some ⟨w.heap.size + 1, 0, none⟩), .pointer (some ⟨w.heap.size, 0, none⟩)]] W fun e w' => e = .returned (.slice (some ⟨w.heap.size + 2, 0, none⟩) 0 0) ∧ (∃ R, RowN w' (w.heap.size + 2) R) ∧ W.grownBy w' (some (w.heap.size + 2)) from fun W hg hr =>
    (compact_any (w.heap.size + 2) (w.heap.size + 1) w.heap.size 0 [] W1 hc2 (fun i j => eqR (atL [] i) (atL [] j)) (fun _ _ => rfl) [] (by simp) 0 rfl (by omega) W ((hB2.mono (by omega)).trans (gr_below hg (by omega) (Nat.le_refl _))) hr).mono fun e w' ⟨k1, ⟨R, k2⟩, k3⟩ => ⟨k1, ⟨_, k2⟩, k3⟩)
  have HO := Lib.hid (show ∀ (W : World), (∃ R, RowN W (w.heap.size + 2) R) → Calls Tryz.prog 62 #[.slice (some ⟨w.heap.size + 2, 0, none⟩) 0 0] W fun e w' => (∃ v, e = .returned v) ∧ W.grownBy w' (some (w.heap.size + 2)) from fun W ⟨R, h1⟩ =>
    (sort_part (w.heap.size + 2) [] [] R (List.Perm.refl _) List.Pairwise.nil 0 0 rfl (by omega) W h1).mono fun e w' ⟨k1, k2, k3⟩ => ⟨k1, k3⟩)
  have HB := Lib.hid (show ∀ W, W2.grownBy W (some (w.heap.size + 2)) → Below w.heap.size w W from fun W hg => (bel_trans hB1 hB2).trans (gr_below hg (by omega) (by omega)))
  have cM := fun (W : World) => mapped_none (some ⟨w.heap.size + 2, 0, none⟩) 0 (.func (.func 64) #[] #[.pointer (some ⟨w.heap.size, 0, none⟩)]) W
  clear R1 hc1 hc2 hW2 hmk R2 R0
  go_enter Tryz.func25, Tryz.ntmps25
  go_wp2
  refine wp_loop_rounds 1 ?_
  rw [rounds_succ]
  go_wp2_with (first
    | (go_at_call 58; ((with_reducible refine cS.mono ?_); rintro e w5 ⟨⟨v, rfl⟩, ⟨Z, hR5, hp5, hs5⟩, G5⟩; obtain rfl : Z = [] := List.Perm.eq_nil hp5; have cC := HC.out w5 G5 hR5; clear hR5 hp5 hs5))
    | (go_at_call 60; ((with_reducible refine cC.mono ?_); rintro e w6 ⟨rfl, hR6, hG6⟩; have H6 := Lib.hid hR6; clear hR6; have G6 := G5.trans hG6))
    | (go_at_call 62; ((with_reducible refine (HO.out _ H6.out).mono ?_); rintro e w7 ⟨⟨v2, rfl⟩, hG7⟩; have G7 := G6.trans hG7))
    | (go_at_call 63; ((with_reducible refine (cM _).mono ?_); rintro e w8 ⟨rfl, rfl⟩)))
  go_ret
  exact ⟨rfl, HB.out _ G7⟩
theorem uq_len : ∀ (l out : List (List Int)), (uq out l).length ≤ out.length + l.length
  | [], out => by rw [uq]; simp
  | x :: l, out => by
    rw [uq]
    split
    · have := uq_len l out; simp; omega
    · have := uq_len l (out ++ [x]); simp at this ⊢; omega
theorem Firsts_any (P : Nat → Prop) (A : Option Addr) (n c : Nat) (l : List (List Int)) (w : World) (hT : SlGP P w A n c l) (hlen : ∀ X ∈ l, X.length ≤ 1000000) (hn : n ≤ 1000000) :
    Calls Tryz.prog 25 #[.slice A n c, .func (.func 26) #[] #[]] w fun e w' => ∃ A' m c', e = .returned (.slice A' m c') ∧ m ≤ n ∧ SlGP P w' A' m c' (uq [] l) ∧ Below w.heap.size w w' ∧ ∀ ad, A' = some ad → w.heap.size ≤ ad.block := by
  by_cases h0 : 0 < n
  · exact (firsts_all P A n c l w hT hlen h0 hn).mono fun e w' ⟨g, m, k1, k2, k3, k4, k5, k6⟩ => ⟨_, _, _, k1, k3, k4, k5, fun ad h => by injection h with h; rw [← h]; exact k6⟩
  · obtain rfl : n = 0 := by omega
    have hl : l = [] := List.length_eq_zero_iff.1 hT.1.symm
    subst hl
    exact (firsts_none A c w).mono fun e w' ⟨k1, k2⟩ => ⟨_, _, _, k1, Nat.le_refl _, SlGP.nil _ _, k2, fun ad h => by cases h⟩
end Go.Proofs.YthchjceibpcgbaaGreatDoor.Fi
