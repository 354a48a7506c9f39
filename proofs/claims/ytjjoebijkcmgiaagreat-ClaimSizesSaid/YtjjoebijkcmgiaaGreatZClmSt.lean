/-
  What is proved: of two claims that are the same, package tree's Firsts returns the first.
-/
import Derived.Test.YtjjoebijkcmgiaaGreatZClmSr
namespace Go.Proofs.YtjjoebijkcmgiaaGreat.C
open Go.RowKit L T
set_option linter.unusedVariables false
set_option linter.unusedSimpArgs false

set_option maxRecDepth 100000 in
set_option maxHeartbeats 8000000 in
theorem firsts_two (A : Option Addr) (c : Nat) (l : List Cl) (w : World) (hT : CsW w A 2 c l) (hd : eqC (atC l 1) (atC l 0) = true) :
    Calls Tryz.prog 37 #[.slice A 2 c, .func (.func 38) #[] #[]] w fun e w' => ∃ g, e = .returned (.slice (some ⟨g, 0, none⟩) 1 1) ∧ CsW w' (some ⟨g, 0, none⟩) 1 1 [atC l 0] ∧ Below w.heap.size w w' := by
  obtain ⟨n, hn2⟩ : ∃ n, n = 2 := ⟨_, rfl⟩
  have hn : n < 20 := by omega
  have h0 : 0 < n := by omega
  rw [← hn2] at hT ⊢
  obtain ⟨W0, hW0⟩ : ∃ W0, w.alloc (.cells #[.slice A n c] 23) = W0 := ⟨_, rfl⟩
  have hB0 : Below w.heap.size w W0 := by rw [← hW0]; exact bel_alloc (Below.refl _ _) _
  have hs0 : W0.heap.size = w.heap.size + 1 := by rw [← hW0]; simp
  have R0 : Blk W0 w.heap.size #[.slice A n c] 23 := by rw [← hW0]; exact Blk.new w _ _
  obtain ⟨W1, hW1⟩ : ∃ W1, W0.alloc (.cells #[.func (.func 38) #[] #[]] 53) = W1 := ⟨_, rfl⟩
  have hB1 : Below w.heap.size w W1 := by rw [← hW1]; exact bel_alloc hB0 _
  have hs1 : W1.heap.size = w.heap.size + 2 := by rw [← hW1]; simp [hs0]
  have R1 : Blk W1 w.heap.size #[.slice A n c] 23 := by rw [← hW1]; exact Blk.alloc R0 _
  have Q1 : Blk W1 (w.heap.size + 1) #[.func (.func 38) #[] #[]] 53 := by rw [← hW1, ← hs0]; exact Blk.new W0 _ _
  have hT1 : IsC W1.heap.size W1 A n c l := CsW.b hT hB1
  have hc1 : CmpIn (w.heap.size + 2) (w.heap.size + 1) w.heap.size n l W1 := fun i j W hb hs hi hj => firsts1_any (w.heap.size + 1) w.heap.size A n c l i j W ((hb.block _ (by omega)).trans Q1) ((hb.block _ (by omega)).trans R1) ((hT1.bel (hb.mono (by omega))).mono (by omega)) hi hj
  have hc2 : EqIn (w.heap.size + 2) (w.heap.size + 1) w.heap.size n l W1 := fun i j W hb hs hi hj => firsts2_any (w.heap.size + 1) w.heap.size A n c l i j W ((hb.block _ (by omega)).trans Q1) ((hb.block _ (by omega)).trans R1) ((hT1.bel (hb.mono (by omega))).mono (by omega)) hi hj
  have hl : l.length = n := hT.1.symm
  obtain ⟨W2, hW2⟩ : ∃ W2, W1.alloc (.cells (madeCells #[.int .i64 0] n) 3) = W2 := ⟨_, rfl⟩
  have hmk := fun w => run_make_row' (P := Tryz.prog) 71 3 (.int .i64 0) 8 Tryz.underlying71 intI rfl .i64 .i64 n (by omega) (by omega) w
  have hmk1 := hmk W1
  rw [hW2] at hmk1
  have hB2 : Below W1.heap.size W1 W2 := by rw [← hW2]; exact bel_alloc (Below.refl _ _) _
  have R2 : RowN W2 (w.heap.size + 2) (List.range 0 ++ List.replicate (n - 0) 0) := by
    rw [← hW2, ← hs1]; simpa using made_row n W1
  have r0 := Blk.cell R1 0
  have hsz2 : w.heap.size + 3 ≤ W2.heap.size := by rw [← hW2]; simp; omega
  -- the sorts, in whatever world that has grown so
  have cS := fun (W : World) (hg : W2.grownBy W (some (w.heap.size + 2))) (hr : RowN W (w.heap.size + 2) (List.range n)) =>
    stableFunc_few (w.heap.size + 2) (w.heap.size + 1) w.heap.size n l W1 hc1 (List.range n) (by simp) n n (by simp) hn W ((hB2.mono (by omega)).trans (gr_below hg (by omega) (Nat.le_refl _))) hr
  obtain ⟨Z, hZ⟩ : ∃ Z, (isortR (fun i j => cmpC (atC l i) (atC l j)) [] (List.range n)).reverse = Z := ⟨_, rfl⟩
  have hp : Z.Perm (List.range n) := by
    rw [← hZ]
    exact (List.reverse_perm _).trans (by simpa using isortR_perm (fun i j => cmpC (atC l i) (atC l j)) (List.range n) [])
  rw [hZ] at cS
  have hZ2 : Z = [0, 1] := by
    rw [← hZ, hn2]
    have hc0 : ¬ cmpC (atC l 1) (atC l 0) < 0 := by
      have := (cmpC_zero _ _).2 hd
      omega
    show (isortR _ [] [0, 1]).reverse = _
    simp only [isortR, List.foldl_cons, List.foldl_nil, insRev]
    rw [if_neg hc0]
    rfl
  subst hZ2
  have cC : ∀ (W : World), W2.grownBy W (some (w.heap.size + 2)) → RowN W (w.heap.size + 2) [0, 1] → Calls Tryz.prog 57 #[.slice (some ⟨w.heap.size + 2, 0, none⟩) n n, .func (.func 58) #[] #[.pointer (some ⟨w.heap.size + 1, 0, none⟩), .pointer (some ⟨w.heap.size, 0, none⟩)]] W fun e w' => e = .returned (.slice (some ⟨w.heap.size + 2, 0, none⟩) 1 n) ∧ RowN w' (w.heap.size + 2) [0, 0] ∧ W.grownBy w' (some (w.heap.size + 2)) := fun W hg hr => by
    have h1 := (hB2.mono (show w.heap.size + 2 ≤ W1.heap.size by omega)).trans (gr_below hg (by omega) (Nat.le_refl _) : Below (w.heap.size + 2) W2 W)
    subst hn2
    exact compact_two (w.heap.size + 2) (w.heap.size + 1) w.heap.size 2 l W1 hc2 0 1 (by omega) (by omega) hd 2 W h1 hr (Nat.le_refl _)
  have cO : ∀ (W : World), RowN W (w.heap.size + 2) [0, 0] → Calls Tryz.prog 59 #[.slice (some ⟨w.heap.size + 2, 0, none⟩) 1 n] W fun e w' => (∃ v, e = .returned v) ∧ RowN w' (w.heap.size + 2) [0, 0] ∧ W.grownBy w' (some (w.heap.size + 2)) := fun W hr => sort_one (w.heap.size + 2) 0 0 n (by omega) W hr
  have HR2 := Lib.hid R2
  have HB := Lib.hid (show ∀ W, W2.grownBy W (some (w.heap.size + 2)) → Below w.heap.size w W from fun W hg => (bel_trans hB1 hB2).trans (gr_below hg (by omega) (by omega)))
  have HMp := Lib.hid (show ∀ W, W2.grownBy W (some (w.heap.size + 2)) → RowN W (w.heap.size + 2) [0, 0] → Calls Tryz.prog 60 #[.slice (some ⟨w.heap.size + 2, 0, none⟩) 1 n, .func (.func 61) #[] #[.pointer (some ⟨w.heap.size, 0, none⟩)]] W fun e w' => e = .returned (.slice (some ⟨W.heap.size, 0, none⟩) 1 1) ∧ CsW w' (some ⟨W.heap.size, 0, none⟩) 1 1 [atC l 0] ∧ Below W.heap.size W w' from fun W hg hr => by
    have hbW := (bel_trans hB1 hB2).trans (gr_below hg (by omega) (by omega) : Below w.heap.size W2 W)
    have h2 := gr_below hg (show w.heap.size + 2 ≤ W2.heap.size by omega) (Nat.le_refl _)
    exact mapFirst_any w.heap.size A n c l [0] [0] (w.heap.size + 2) n 1 w W hbW (((hB2.mono (by omega)).trans h2).block _ (by omega) |>.trans R1) hT (by simp; omega) hr rfl (by omega) (by omega))
  clear hT R1 hT1 hc1 hc2 hl hW2 hmk R2 hZ hp hd R0 Q1
  have hNN := Lib.hid hn2
  have hr01 : List.range n = [0, 1] := by rw [hn2]; rfl
  have HR01 := Lib.hid hr01
  clear hn2 hr01
  go_enter Tryz.func37, Tryz.ntmps37
  go_wp2
  go_loopw [12] (fun i wr0 => ∃ (wr : World) (k : Nat), wr = wr0 ∧ k ≤ n ∧ i = .int .i64 k ∧ W2.grownBy wr (some (w.heap.size + 2)) ∧ Hid (RowN wr (w.heap.size + 2) (List.range k ++ List.replicate (n - k) 0))) (fun i _ => n - (intOf i).toNat)
  case atStart => exact ⟨_, 0, rfl, by omega, rfl, World.grownBy.refl _ _, HR2⟩
  case round =>
    obtain ⟨wr, k, rfl, hk, rfl, hG, hR⟩ := hrel
    by_cases hlt : k < n
    · have hz : (List.range k ++ List.replicate (n - k) 0)[k]? = some 0 := by
        rw [List.getElem?_append_right (by simp), List.length_range, Nat.sub_self, List.getElem?_replicate, if_pos (by omega)]
      have c0 := RowN.at hR.out hz
      have q0 := Blk.free hR.out k
      have hn1 := Lib.hid (RowN.set hR.out k k)
      have hst := Lib.hid (range_step n k hlt)
      clear hz
      have hk0 : 0 ≤ (k : Int) := by omega
      have hk1 : (k : Int) < (n : Int) := by omega
      go_wp2
      go_roundw
      case rel => exact ⟨_, k + 1, rfl, by omega, by go_num, gr_set hG _ _, Lib.hid (by have h := hn1.out; rwa [hst.out] at h)⟩
      case measure => simp [intOf]; omega
    · obtain rfl : k = n := by omega
      have hrn : RowN wr (w.heap.size + 2) (List.range k) := by have h := hR.out; simpa using h
      have cS1 := cS wr hG hrn
      clear hR cS hrn
      go_wp2_with (first
        | (go_at_call 55; ((with_reducible refine cS1.mono ?_); rintro e w5 ⟨⟨v, rfl⟩, hR5, hG5⟩; have H5 := Lib.hid hR5; clear hR5; have G5 := hG.trans hG5))
        | (go_at_call 57; ((with_reducible refine (cC _ G5 H5.out).mono ?_); rintro e w6 ⟨rfl, hR6, hG6⟩; have H6 := Lib.hid hR6; clear hR6; have G6 := G5.trans hG6))
        | (go_at_call 59; ((with_reducible refine (cO _ H6.out).mono ?_); rintro e w7 ⟨⟨v2, rfl⟩, hR7, hG7⟩; have H7 := Lib.hid hR7; clear hR7; have G7 := G6.trans hG7))
        | (go_at_call 60; ((with_reducible refine (HMp.out _ G7 H7.out).mono ?_); rintro e w8 ⟨rfl, hT8, hb8⟩; have H8 := Lib.hid hT8; clear hT8)))
      go_ret
      exact ⟨_, rfl, H8.out, bel_trans (HB.out _ G7) hb8⟩
end Go.Proofs.YtjjoebijkcmgiaaGreat.C
