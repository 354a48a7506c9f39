/-
  What is proved: of a list of claims those that no claim ahead of them is the same as (plain mathematics).
  What is proved: of any claims package tree's Firsts returns those that no claim ahead of them is the same as.
  What is proved: of no claims, and of no terms, package tree's Firsts returns none.
-/
import Derived.Test.YtjjfbgadpgckeaaGreatC1
import Derived.Test.YtjjfbgadpgckeaaGreatZTrmFq
import Derived.Test.YtjjfbgadpgckeaaGreatC3
import Derived.Test.YtjjfbgadpgckeaaGreatZClmSq
namespace Go.Proofs.YtjjfbgadpgckeaaGreat.K
open Go.RowKit L T
open C (Cl atC atC_some cmpC eqC eqC_cmp cmpC_key cmpC_anti cmpC_self cmpKC linC CsW)
set_option linter.unusedVariables false
set_option linter.unusedSimpArgs false

def inCC (l : List Cl) (x : Cl) : Bool := l.any (fun y => eqC y x)
theorem inCC_app (l m : List Cl) (x : Cl) : inCC (l ++ m) x = (inCC l x || inCC m x) := List.any_append
def uqC : List Cl → List Cl → List Cl
  | out, [] => out
  | out, x :: r => if inCC out x then uqC out r else uqC (out ++ [x]) r
theorem uqC_app : ∀ (r s out : List Cl), uqC out (r ++ s) = uqC (uqC out r) s
  | [], s, out => by rw [List.nil_append, uqC]
  | y :: r, s, out => by
    rw [List.cons_append, uqC, uqC]
    split
    · exact uqC_app r s out
    · exact uqC_app r s (out ++ [y])
theorem uqC_snoc (x : Cl) (r out : List Cl) : uqC out (r ++ [x]) = if inCC (uqC out r) x then uqC out r else uqC out r ++ [x] := by
  rw [uqC_app, uqC, uqC, uqC]
theorem cmpC_le {x y z : Cl} (h1 : cmpC x y ≤ 0) (h2 : cmpC y z ≤ 0) : cmpC x z ≤ 0 := by
  rw [cmpC_key] at *
  rcases linC.rng (C.keysC x) (C.keysC y) with a | a | a
  · rcases linC.rng (C.keysC y) (C.keysC z) with b | b | b
    · have := linC.trans _ _ _ a b; omega
    · rw [← (linC.eq _ _).1 b]; exact h1
    · omega
  · rw [(linC.eq _ _).1 a]; exact h2
  · omega
def cfC (l : List Cl) (i j : Nat) : Int := cmpC (atC l i) (atC l j)
theorem cfC_cmp (l : List Cl) : Cmp3 (cfC l) := ⟨fun i j => cmpC_anti _ _, fun i j k => cmpC_le⟩
theorem cfC_eq {l : List Cl} {i j : Nat} : eqC (atC l i) (atC l j) = true ↔ cfC l i j = 0 := by rw [eqC_cmp, beq_iff_eq]; rfl
theorem Cmp3.zero {c : Nat → Nat → Int} (h : Cmp3 c) {i j k : Nat} (h1 : c i j = 0) (h2 : c j k = 0) : c i k = 0 := by
  have a1 := h.trans i j k (by omega) (by omega)
  have a2 := h.anti i j
  have a3 := h.anti j k
  have a4 := h.trans k j i (by omega) (by omega)
  have a5 := h.anti i k
  omega
theorem fsts_uqC (l : List Cl) : ∀ k, k ≤ l.length → (∀ q, q < k → ∃ z, z ∈ fsts (cfC l) k ∧ cfC l z q = 0) ∧ (fsts (cfC l) k).map (atC l) = uqC [] (l.take k)
  | 0, _ => ⟨fun q hq => by omega, by simp [fsts, uqC]⟩
  | k + 1, hk => by
    obtain ⟨h1, h2⟩ := fsts_uqC l k (by omega)
    have hc := cfC_cmp l
    have hx : l[k]? = some (atC l k) := by
      have : l[k]? = some l[k] := List.getElem?_eq_getElem (by omega)
      rw [this, atC_some this]
    have ht : l.take (k + 1) = l.take k ++ [atC l k] := by rw [List.take_add_one, hx]; rfl
    have hf : fsts (cfC l) (k + 1) = fsts (cfC l) k ++ (if fst1 (cfC l) k then [k] else []) := by
      rw [fsts, List.range_succ, List.filter_append, List.filter_cons, List.filter_nil]; rfl
    have hin : inCC ((fsts (cfC l) k).map (atC l)) (atC l k) = true ↔ ∃ z, z ∈ fsts (cfC l) k ∧ cfC l z k = 0 := by
      unfold inCC
      rw [List.any_eq_true]
      constructor
      · rintro ⟨x, hx1, hx2⟩
        obtain ⟨z, hz, rfl⟩ := List.mem_map.1 hx1
        exact ⟨z, hz, cfC_eq.1 hx2⟩
      · rintro ⟨z, hz, he⟩
        exact ⟨atC l z, List.mem_map.2 ⟨z, hz, rfl⟩, cfC_eq.2 he⟩
    have hlt : ∀ z, z ∈ fsts (cfC l) k → z < k := fun z hz => List.mem_range.1 (List.mem_filter.1 hz).1
    rw [hf, ht, uqC_snoc, ← h2]
    by_cases h3 : fst1 (cfC l) k = true
    · have h4 : ¬ inCC ((fsts (cfC l) k).map (atC l)) (atC l k) = true := fun h => by
        obtain ⟨z, hz, he⟩ := hin.1 h
        exact fst1_iff.1 h3 z (hlt z hz) he
      rw [if_pos h3, if_neg h4]
      refine ⟨fun q hq => ?_, by simp⟩
      rcases Nat.lt_or_ge q k with hq | hq
      · obtain ⟨z, hz, he⟩ := h1 q hq
        exact ⟨z, List.mem_append_left _ hz, he⟩
      · obtain rfl : q = k := by omega
        exact ⟨q, by simp, hc.refl q⟩
    · have h5 : ∃ z, z ∈ fsts (cfC l) k ∧ cfC l z k = 0 := by
        have : ∃ q, q < k ∧ cfC l q k = 0 := Classical.byContradiction fun hn => h3 (fst1_iff.2 fun q hq he => hn ⟨q, hq, he⟩)
        obtain ⟨q, hq, he⟩ := this
        obtain ⟨z, hz, he2⟩ := h1 q hq
        exact ⟨z, hz, Cmp3.zero hc he2 he⟩
      rw [if_neg h3, if_pos (hin.2 h5), List.append_nil]
      refine ⟨fun q hq => ?_, rfl⟩
      rcases Nat.lt_or_ge q k with hq | hq
      · exact h1 q hq
      · obtain rfl : q = k := by omega
        exact h5
theorem fsts_allC (l : List Cl) : (fsts (cfC l) l.length).map (atC l) = uqC [] l := by
  have := (fsts_uqC l l.length (Nat.le_refl _)).2
  rwa [List.take_length] at this
theorem uqC_len : ∀ (l out : List Cl), (uqC out l).length ≤ out.length + l.length
  | [], out => by rw [uqC]; simp
  | x :: l, out => by
    rw [uqC]
    split
    · have := uqC_len l out; simp; omega
    · have := uqC_len l (out ++ [x]); simp at this ⊢; omega
theorem uqC_mem : ∀ (l out : List Cl) (x : Cl), x ∈ uqC out l → x ∈ out ∨ x ∈ l
  | [], out, x, h => by rw [uqC] at h; exact .inl h
  | y :: l, out, x, h => by
    rw [uqC] at h
    split at h
    · rcases uqC_mem l out x h with h | h
      · exact .inl h
      · exact .inr (List.mem_cons_of_mem _ h)
    · rcases uqC_mem l _ x h with h | h
      · rcases List.mem_append.1 h with h | h
        · exact .inl h
        · exact .inr (by rw [List.mem_singleton.1 h]; simp)
      · exact .inr (List.mem_cons_of_mem _ h)
end Go.Proofs.YtjjfbgadpgckeaaGreat.K
namespace Go.Proofs.YtjjfbgadpgckeaaGreat.K
open Go.RowKit L T
open C (Cl atC cmpC eqC CsW)
set_option linter.unusedVariables false
set_option linter.unusedSimpArgs false

set_option maxRecDepth 100000 in
set_option maxHeartbeats 8000000 in
theorem firsts_all (A : Option Addr) (n c : Nat) (l : List Cl) (w : World) (hT : CsW w A n c l) (h0 : 0 < n) (hn : n ≤ 1000000) :
    Calls Tryz.prog 52 #[.slice A n c, .func (.func 53) #[] #[]] w fun e w' => ∃ g m, e = .returned (.slice (some ⟨g, 0, none⟩) m m) ∧ 0 < m ∧ m ≤ n ∧ CsW w' (some ⟨g, 0, none⟩) m m (uqC [] l) ∧ Below w.heap.size w w' := by
  obtain ⟨W0, hW0⟩ : ∃ W0, w.alloc (.cells #[.slice A n c] 23) = W0 := ⟨_, rfl⟩
  have hB0 : Below w.heap.size w W0 := by rw [← hW0]; exact bel_alloc (Below.refl _ _) _
  have hs0 : W0.heap.size = w.heap.size + 1 := by rw [← hW0]; simp
  have R0 : Blk W0 w.heap.size #[.slice A n c] 23 := by rw [← hW0]; exact Blk.new w _ _
  obtain ⟨W1, hW1⟩ : ∃ W1, W0.alloc (.cells #[.func (.func 53) #[] #[]] 68) = W1 := ⟨_, rfl⟩
  have hB1 : Below w.heap.size w W1 := by rw [← hW1]; exact bel_alloc hB0 _
  have hs1 : W1.heap.size = w.heap.size + 2 := by rw [← hW1]; simp [hs0]
  have R1 : Blk W1 w.heap.size #[.slice A n c] 23 := by rw [← hW1]; exact Blk.alloc R0 _
  have Q1 : Blk W1 (w.heap.size + 1) #[.func (.func 53) #[] #[]] 68 := by rw [← hW1, ← hs0]; exact Blk.new W0 _ _
  have hT1 : C.IsC W1.heap.size W1 A n c l := C.CsW.b hT hB1
  have hc1 : CmpIn (w.heap.size + 2) (w.heap.size + 1) w.heap.size n l W1 := fun i j W hb hs hi hj => C.firsts1_any (w.heap.size + 1) w.heap.size A n c l i j W ((hb.block _ (by omega)).trans Q1) ((hb.block _ (by omega)).trans R1) ((hT1.bel (hb.mono (by omega))).mono (by omega)) hi hj
  have hc2 : EqIn (w.heap.size + 2) (w.heap.size + 1) w.heap.size n l W1 := fun i j W hb hs hi hj => C.firsts2_any (w.heap.size + 1) w.heap.size A n c l i j W ((hb.block _ (by omega)).trans Q1) ((hb.block _ (by omega)).trans R1) ((hT1.bel (hb.mono (by omega))).mono (by omega)) hi hj
  have hl : l.length = n := hT.1.symm
  obtain ⟨W2, hW2⟩ : ∃ W2, W1.alloc (.cells (madeCells #[.int .i64 0] n) 3) = W2 := ⟨_, rfl⟩
  have hmk := fun w => run_make_row' (P := Tryz.prog) 83 3 (.int .i64 0) 8 Tryz.underlying83 intI rfl .i64 .i64 n (by omega) (by omega) w
  have hmk1 := hmk W1
  rw [hW2] at hmk1
  have hB2 : Below W1.heap.size W1 W2 := by rw [← hW2]; exact bel_alloc (Below.refl _ _) _
  have R2 : RowN W2 (w.heap.size + 2) (List.range 0 ++ List.replicate (n - 0) 0) := by
    rw [← hW2, ← hs1]; simpa using made_row n W1
  have r0 := Blk.cell R1 0
  have hsz2 : w.heap.size + 3 ≤ W2.heap.size := by rw [← hW2]; simp; omega
  have hcm := cfC_cmp l
  have cS := fun (W : World) (hg : W2.grownBy W (some (w.heap.size + 2))) (hr : RowN W (w.heap.size + 2) (List.range n)) =>
    stableFunc_any (w.heap.size + 2) (w.heap.size + 1) w.heap.size n l W1 hc1 (cfC l) (fun _ _ => rfl) hcm (List.range n) List.pairwise_lt_range (by simp) n n (by simp) hn W ((hB2.mono (by omega)).trans (gr_below hg (by omega) (Nat.le_refl _))) hr
  obtain ⟨m, hm⟩ : ∃ m, (fsts (cfC l) n).length = m := ⟨_, rfl⟩
  obtain ⟨Y, hY⟩ : ∃ Y, fsts (cfC l) n = Y := ⟨_, rfl⟩
  have hm0 : 0 < m := by rw [← hm]; exact fsts_pos _ h0
  have hmn : m ≤ n := by rw [← hm]; exact fsts_len _ _
  have hYl : Y.length = m := by rw [← hY]; exact hm
  have hYu : Y.map (atC l) = uqC [] l := by rw [← hY, ← hl]; exact fsts_allC l
  have hYz : ∀ z ∈ Y, z < n := fun z hz => by rw [← hY] at hz; exact List.mem_range.1 (List.mem_filter.1 hz).1
  have HC := Lib.hid (show ∀ (Z : List Nat) (W : World), W2.grownBy W (some (w.heap.size + 2)) → RowN W (w.heap.size + 2) Z → Z.Perm (List.range n) → Srt (cfC l) Z →
      Calls Tryz.prog 73 #[.slice (some ⟨w.heap.size + 2, 0, none⟩) n n, .func (.func 89) #[] #[.pointer (some ⟨w.heap.size + 1, 0, none⟩), .pointer (some ⟨w.heap.size, 0, none⟩)]] W fun e w' => e = .returned (.slice (some ⟨w.heap.size + 2, 0, none⟩) m n) ∧ (∃ K R, RowN w' (w.heap.size + 2) (K ++ R) ∧ K.Perm Y) ∧ W.grownBy w' (some (w.heap.size + 2)) from fun Z W hg hr hp hs => by
    have hef : ∀ i j, eqC (atC l i) (atC l j) = (cfC l i j == 0) := fun i j => C.eqC_cmp _ _
    have hpm := fsts_perm hcm (e := fun i j => cfC l i j == 0) (fun y p => by simp) hp hs
    have h := compact_any (w.heap.size + 2) (w.heap.size + 1) w.heap.size n l W1 hc2 (fun i j => cfC l i j == 0) hef Z (fun z hz => List.mem_range.1 (hp.mem_iff.1 hz)) n (by rw [hp.length_eq]; simp) hn W ((hB2.mono (by omega)).trans (gr_below hg (by omega) (Nat.le_refl _))) hr
    rw [hpm.length_eq, hm] at h
    rw [hY] at hpm
    exact h.mono fun e w' ⟨k1, ⟨R, k2⟩, k3⟩ => ⟨k1, ⟨_, R, k2, hpm⟩, k3⟩)
  have HO := Lib.hid (show ∀ (W : World), (∃ K R, RowN W (w.heap.size + 2) (K ++ R) ∧ K.Perm Y) → Calls Tryz.prog 75 #[.slice (some ⟨w.heap.size + 2, 0, none⟩) m n] W fun e w' => (∃ v, e = .returned v) ∧ (∃ R, RowN w' (w.heap.size + 2) (Y ++ R)) ∧ W.grownBy w' (some (w.heap.size + 2)) from fun W ⟨K, R, h1, h2⟩ =>
    (sort_part (w.heap.size + 2) K Y R h2 (by rw [← hY]; exact fsts_inc _ _) m n (by rw [h2.length_eq, hYl]) (by omega) W h1).mono fun e w' ⟨k1, k2, k3⟩ => ⟨k1, ⟨R, k2⟩, k3⟩)
  have HR2 := Lib.hid R2
  have HB := Lib.hid (show ∀ W, W2.grownBy W (some (w.heap.size + 2)) → Below w.heap.size w W from fun W hg => (bel_trans hB1 hB2).trans (gr_below hg (by omega) (by omega)))
  have HMp := Lib.hid (show ∀ W, W2.grownBy W (some (w.heap.size + 2)) → (∃ R, RowN W (w.heap.size + 2) (Y ++ R)) → Calls Tryz.prog 90 #[.slice (some ⟨w.heap.size + 2, 0, none⟩) m n, .func (.func 91) #[] #[.pointer (some ⟨w.heap.size, 0, none⟩)]] W fun e w' => e = .returned (.slice (some ⟨W.heap.size, 0, none⟩) m m) ∧ CsW w' (some ⟨W.heap.size, 0, none⟩) m m (uqC [] l) ∧ Below W.heap.size W w' from fun W hg ⟨R, hr⟩ => by
    have hbW := (bel_trans hB1 hB2).trans (gr_below hg (by omega) (by omega) : Below w.heap.size W2 W)
    have h2 := gr_below hg (show w.heap.size + 2 ≤ W2.heap.size by omega) (Nat.le_refl _)
    have := C.mapFirst_any w.heap.size A n c l Y R (w.heap.size + 2) n m w W hbW (((hB2.mono (by omega)).trans h2).block _ (by omega) |>.trans R1) hT hYz hr hYl.symm hm0 (by omega)
    rwa [hYu] at this)
  have Hm := Lib.hid (show 0 < m ∧ m ≤ n from ⟨hm0, hmn⟩)
  clear hT R1 hT1 hc1 hc2 hl hW2 hmk R2 R0 Q1 hYz hYu hYl hm hY hcm hm0 hmn
  go_enter Tryz.func52, Tryz.ntmps52
  go_wp2
  go_loopw [12] (fun i wr0 => ∃ (wr : World) (k : Nat), wr = wr0 ∧ k ≤ n ∧ i = .int .i64 k ∧ W2.grownBy wr (some (w.heap.size + 2)) ∧ Hid (RowN wr (w.heap.size + 2) (List.range k ++ List.replicate (n - k) 0))) (fun i _ => n - (intOf i).toNat)
  case atStart => exact ⟨_, 0, rfl, by omega, rfl, World.grownBy.refl _ _, HR2⟩
  case round =>
    obtain ⟨wr, k, rfl, hk, rfl, hG, hR⟩ := hrel
    by_cases hlt : k < n
    · have hz : (List.range k ++ List.replicate (n - k) 0)[k]? = some 0 := by
        rw [List.getElem?_append_right (by simp), List.length_range, Nat.sub_self, List.getElem?_replicate, if_pos (by omega)]
      have c0 := RowN.at hR.out hz
      have q0 := Blk.free hR.out k
      have hn1 := Lib.hid (RowN.set hR.out k k)
      have hst := Lib.hid (range_step n k hlt)
      clear hz
      have hk0 : 0 ≤ (k : Int) := by omega
      have hk1 : (k : Int) < (n : Int) := by omega
      go_wp2
      go_roundw
      case rel => exact ⟨_, k + 1, rfl, by omega, by go_num, gr_set hG _ _, Lib.hid (by have h := hn1.out; rwa [hst.out] at h)⟩
      case measure => simp [intOf]; omega
    · obtain rfl : k = n := by omega
      have hrn : RowN wr (w.heap.size + 2) (List.range k) := by have h := hR.out; simpa using h
      have cS1 := cS wr hG hrn
      clear hR cS hrn
      go_wp2_with (first
        | (go_at_call 71; ((with_reducible refine cS1.mono ?_); rintro e w5 ⟨⟨v, rfl⟩, ⟨Z, hR5, hp5, hs5⟩, hG5⟩; have G5 := hG.trans hG5; have cC := HC.out Z w5 G5 hR5 hp5 hs5; clear hR5 hp5 hs5))
        | (go_at_call 73; ((with_reducible refine cC.mono ?_); rintro e w6 ⟨rfl, hR6, hG6⟩; have H6 := Lib.hid hR6; clear hR6; have G6 := G5.trans hG6))
        | (go_at_call 75; ((with_reducible refine (HO.out _ H6.out).mono ?_); rintro e w7 ⟨⟨v2, rfl⟩, hR7, hG7⟩; have H7 := Lib.hid hR7; clear hR7; have G7 := G6.trans hG7))
        | (go_at_call 90; ((with_reducible refine (HMp.out _ G7 H7.out).mono ?_); rintro e w8 ⟨rfl, hT8, hb8⟩; have H8 := Lib.hid hT8; clear hT8)))
      go_ret
      exact ⟨_, m, rfl, Hm.out.1, Hm.out.2, H8.out, bel_trans (HB.out _ G7) hb8⟩

end Go.Proofs.YtjjfbgadpgckeaaGreat.K
namespace Go.Proofs.YtjjfbgadpgckeaaGreat.K
open Go.RowKit L T
open C (Cl atC cmpC eqC CsW)
set_option linter.unusedVariables false
set_option linter.unusedSimpArgs false

theorem mapped_noneClaim (A : Option Addr) (cap : Nat) (f : Value) (w : World) :
    Calls Tryz.prog 90 #[.slice A 0 cap, f] w fun e w' => e = .returned (.slice none 0 0) ∧ w' = w := by
  go_enter Tryz.func90, Tryz.ntmps90
  go_wp2
  go_ret
  exact ⟨rfl, rfl⟩
set_option maxRecDepth 100000 in
set_option maxHeartbeats 8000000 in
theorem firsts_noneClaim (A : Option Addr) (c : Nat) (w : World) :
    Calls Tryz.prog 52 #[.slice A 0 c, .func (.func 53) #[] #[]] w fun e w' => e = .returned (.slice none 0 0) ∧ Below w.heap.size w w' := by
  obtain ⟨W0, hW0⟩ : ∃ W0, w.alloc (.cells #[.slice A 0 c] 23) = W0 := ⟨_, rfl⟩
  have hB0 : Below w.heap.size w W0 := by rw [← hW0]; exact bel_alloc (Below.refl _ _) _
  have hs0 : W0.heap.size = w.heap.size + 1 := by rw [← hW0]; simp
  have R0 : Blk W0 w.heap.size #[.slice A 0 c] 23 := by rw [← hW0]; exact Blk.new w _ _
  obtain ⟨W1, hW1⟩ : ∃ W1, W0.alloc (.cells #[.func (.func 53) #[] #[]] 68) = W1 := ⟨_, rfl⟩
  have hB1 : Below w.heap.size w W1 := by rw [← hW1]; exact bel_alloc hB0 _
  have hs1 : W1.heap.size = w.heap.size + 2 := by rw [← hW1]; simp [hs0]
  have R1 : Blk W1 w.heap.size #[.slice A 0 c] 23 := by rw [← hW1]; exact Blk.alloc R0 _
  have hc1 : K.CmpIn (w.heap.size + 2) (w.heap.size + 1) w.heap.size 0 [] W1 := fun i j W hb hs hi hj => by omega
  have hc2 : K.EqIn (w.heap.size + 2) (w.heap.size + 1) w.heap.size 0 [] W1 := fun i j W hb hs hi hj => by omega
  obtain ⟨W2, hW2⟩ : ∃ W2, W1.alloc (.cells (madeCells #[.int .i64 0] 0) 3) = W2 := ⟨_, rfl⟩
  have hmk := fun w => run_make_row' (P := Tryz.prog) 83 3 (.int .i64 0) 8 Tryz.underlying83 intI rfl .i64 .i64 0 (by omega) (by omega) w
  have hmk1 := hmk W1
  rw [hW2, show (((0 : Nat) : Int)) = 0 from rfl] at hmk1
  have hB2 : Below W1.heap.size W1 W2 := by rw [← hW2]; exact bel_alloc (Below.refl _ _) _
  have R2 : RowN W2 (w.heap.size + 2) [] := by rw [← hW2, ← hs1]; simpa using made_row 0 W1
  have r0 := Blk.cell R1 0
  have hsz2 : w.heap.size + 3 ≤ W2.heap.size := by rw [← hW2]; simp; omega
  have cS := K.stableFunc_any (w.heap.size + 2) (w.heap.size + 1) w.heap.size 0 [] W1 hc1 (cfC []) (fun _ _ => rfl) (cfC_cmp []) [] List.Pairwise.nil (by simp) 0 0 rfl (by omega) W2 (hB2.mono (by omega)) R2
  have HC := Lib.hid (show ∀ (W : World), W2.grownBy W (some (w.heap.size + 2)) → RowN W (w.heap.size + 2) [] → Calls Tryz.prog 73 #[.slice (some ⟨w.heap.size + 2, 0, none⟩) 0 0, .func (.func 89) #[] #[.pointer (some ⟨w.heap.size + 1, 0, none⟩), .pointer (some ⟨w.heap.size, 0, none⟩)]] W fun e w' => e = .returned (.slice (some ⟨w.heap.size + 2, 0, none⟩) 0 0) ∧ (∃ R, RowN w' (w.heap.size + 2) R) ∧ W.grownBy w' (some (w.heap.size + 2)) from fun W hg hr =>
    (K.compact_any (w.heap.size + 2) (w.heap.size + 1) w.heap.size 0 [] W1 hc2 (fun i j => eqC (atC [] i) (atC [] j)) (fun _ _ => rfl) [] (by simp) 0 rfl (by omega) W ((hB2.mono (by omega)).trans (gr_below hg (by omega) (Nat.le_refl _))) hr).mono fun e w' ⟨k1, ⟨R, k2⟩, k3⟩ => ⟨k1, ⟨_, k2⟩, k3⟩)
  have HO := Lib.hid (show ∀ (W : World), (∃ R, RowN W (w.heap.size + 2) R) → Calls Tryz.prog 75 #[.slice (some ⟨w.heap.size + 2, 0, none⟩) 0 0] W fun e w' => (∃ v, e = .returned v) ∧ W.grownBy w' (some (w.heap.size + 2)) from fun W ⟨R, h1⟩ =>
    (sort_part (w.heap.size + 2) [] [] R (List.Perm.refl _) List.Pairwise.nil 0 0 rfl (by omega) W h1).mono fun e w' ⟨k1, k2, k3⟩ => ⟨k1, k3⟩)
  have HB := Lib.hid (show ∀ W, W2.grownBy W (some (w.heap.size + 2)) → Below w.heap.size w W from fun W hg => (bel_trans hB1 hB2).trans (gr_below hg (by omega) (by omega)))
  have cM := fun (W : World) => mapped_noneClaim (some ⟨w.heap.size + 2, 0, none⟩) 0 (.func (.func 91) #[] #[.pointer (some ⟨w.heap.size, 0, none⟩)]) W
  clear R1 hc1 hc2 hW2 hmk R2 R0
  go_enter Tryz.func52, Tryz.ntmps52
  go_wp2
  refine wp_loop_rounds 1 ?_
  rw [rounds_succ]
  go_wp2_with (first
    | (go_at_call 71; ((with_reducible refine cS.mono ?_); rintro e w5 ⟨⟨v, rfl⟩, ⟨Z, hR5, hp5, hs5⟩, G5⟩; obtain rfl : Z = [] := List.Perm.eq_nil hp5; have cC := HC.out w5 G5 hR5; clear hR5 hp5 hs5))
    | (go_at_call 73; ((with_reducible refine cC.mono ?_); rintro e w6 ⟨rfl, hR6, hG6⟩; have H6 := Lib.hid hR6; clear hR6; have G6 := G5.trans hG6))
    | (go_at_call 75; ((with_reducible refine (HO.out _ H6.out).mono ?_); rintro e w7 ⟨⟨v2, rfl⟩, hG7⟩; have G7 := G6.trans hG7))
    | (go_at_call 90; ((with_reducible refine (cM _).mono ?_); rintro e w8 ⟨rfl, rfl⟩)))
  go_ret
  exact ⟨rfl, HB.out _ G7⟩
theorem mapped_noneTerm (A : Option Addr) (cap : Nat) (f : Value) (w : World) :
    Calls Tryz.prog 76 #[.slice A 0 cap, f] w fun e w' => e = .returned (.slice none 0 0) ∧ w' = w := by
  go_enter Tryz.func76, Tryz.ntmps76
  go_wp2
  go_ret
  exact ⟨rfl, rfl⟩
set_option maxRecDepth 100000 in
set_option maxHeartbeats 8000000 in
theorem firsts_noneTerm (A : Option Addr) (c : Nat) (w : World) :
    Calls Tryz.prog 41 #[.slice A 0 c, .func (.func 43) #[] #[]] w fun e w' => e = .returned (.slice none 0 0) ∧ Below w.heap.size w w' := by
  obtain ⟨W0, hW0⟩ : ∃ W0, w.alloc (.cells #[.slice A 0 c] 22) = W0 := ⟨_, rfl⟩
  have hB0 : Below w.heap.size w W0 := by rw [← hW0]; exact bel_alloc (Below.refl _ _) _
  have hs0 : W0.heap.size = w.heap.size + 1 := by rw [← hW0]; simp
  have R0 : Blk W0 w.heap.size #[.slice A 0 c] 22 := by rw [← hW0]; exact Blk.new w _ _
  obtain ⟨W1, hW1⟩ : ∃ W1, W0.alloc (.cells #[.func (.func 43) #[] #[]] 59) = W1 := ⟨_, rfl⟩
  have hB1 : Below w.heap.size w W1 := by rw [← hW1]; exact bel_alloc hB0 _
  have hs1 : W1.heap.size = w.heap.size + 2 := by rw [← hW1]; simp [hs0]
  have R1 : Blk W1 w.heap.size #[.slice A 0 c] 22 := by rw [← hW1]; exact Blk.alloc R0 _
  have hc1 : T.CmpIn (w.heap.size + 2) (w.heap.size + 1) w.heap.size 0 [] W1 := fun i j W hb hs hi hj => by omega
  have hc2 : T.EqIn (w.heap.size + 2) (w.heap.size + 1) w.heap.size 0 [] W1 := fun i j W hb hs hi hj => by omega
  obtain ⟨W2, hW2⟩ : ∃ W2, W1.alloc (.cells (madeCells #[.int .i64 0] 0) 3) = W2 := ⟨_, rfl⟩
  have hmk := fun w => run_make_row' (P := Tryz.prog) 83 3 (.int .i64 0) 8 Tryz.underlying83 intI rfl .i64 .i64 0 (by omega) (by omega) w
  have hmk1 := hmk W1
  rw [hW2, show (((0 : Nat) : Int)) = 0 from rfl] at hmk1
  have hB2 : Below W1.heap.size W1 W2 := by rw [← hW2]; exact bel_alloc (Below.refl _ _) _
  have R2 : RowN W2 (w.heap.size + 2) [] := by rw [← hW2, ← hs1]; simpa using made_row 0 W1
  have r0 := Blk.cell R1 0
  have hsz2 : w.heap.size + 3 ≤ W2.heap.size := by rw [← hW2]; simp; omega
  have cS := T.stableFunc_any (w.heap.size + 2) (w.heap.size + 1) w.heap.size 0 [] W1 hc1 (cfL []) (fun _ _ => rfl) (cfL_cmp []) [] List.Pairwise.nil (by simp) 0 0 rfl (by omega) W2 (hB2.mono (by omega)) R2
  have HC := Lib.hid (show ∀ (W : World), W2.grownBy W (some (w.heap.size + 2)) → RowN W (w.heap.size + 2) [] → Calls Tryz.prog 73 #[.slice (some ⟨w.heap.size + 2, 0, none⟩) 0 0, .func (.func 74) #[] #[.pointer (some ⟨w.heap.size + 1, 0, none⟩), .pointer (some ⟨w.heap.size, 0, none⟩)]] W fun e w' => e = .returned (.slice (some ⟨w.heap.size + 2, 0, none⟩) 0 0) ∧ (∃ R, RowN w' (w.heap.size + 2) R) ∧ W.grownBy w' (some (w.heap.size + 2)) from fun W hg hr =>
    (T.compact_any (w.heap.size + 2) (w.heap.size + 1) w.heap.size 0 [] W1 hc2 (fun i j => eqT (atL [] i) (atL [] j)) (fun _ _ => rfl) [] (by simp) 0 rfl (by omega) W ((hB2.mono (by omega)).trans (gr_below hg (by omega) (Nat.le_refl _))) hr).mono fun e w' ⟨k1, ⟨R, k2⟩, k3⟩ => ⟨k1, ⟨_, k2⟩, k3⟩)
  have HO := Lib.hid (show ∀ (W : World), (∃ R, RowN W (w.heap.size + 2) R) → Calls Tryz.prog 75 #[.slice (some ⟨w.heap.size + 2, 0, none⟩) 0 0] W fun e w' => (∃ v, e = .returned v) ∧ W.grownBy w' (some (w.heap.size + 2)) from fun W ⟨R, h1⟩ =>
    (sort_part (w.heap.size + 2) [] [] R (List.Perm.refl _) List.Pairwise.nil 0 0 rfl (by omega) W h1).mono fun e w' ⟨k1, k2, k3⟩ => ⟨k1, k3⟩)
  have HB := Lib.hid (show ∀ W, W2.grownBy W (some (w.heap.size + 2)) → Below w.heap.size w W from fun W hg => (bel_trans hB1 hB2).trans (gr_below hg (by omega) (by omega)))
  have cM := fun (W : World) => mapped_noneTerm (some ⟨w.heap.size + 2, 0, none⟩) 0 (.func (.func 77) #[] #[.pointer (some ⟨w.heap.size, 0, none⟩)]) W
  clear R1 hc1 hc2 hW2 hmk R2 R0
  go_enter Tryz.func41, Tryz.ntmps41
  go_wp2
  refine wp_loop_rounds 1 ?_
  rw [rounds_succ]
  go_wp2_with (first
    | (go_at_call 71; ((with_reducible refine cS.mono ?_); rintro e w5 ⟨⟨v, rfl⟩, ⟨Z, hR5, hp5, hs5⟩, G5⟩; obtain rfl : Z = [] := List.Perm.eq_nil hp5; have cC := HC.out w5 G5 hR5; clear hR5 hp5 hs5))
    | (go_at_call 73; ((with_reducible refine cC.mono ?_); rintro e w6 ⟨rfl, hR6, hG6⟩; have H6 := Lib.hid hR6; clear hR6; have G6 := G5.trans hG6))
    | (go_at_call 75; ((with_reducible refine (HO.out _ H6.out).mono ?_); rintro e w7 ⟨⟨v2, rfl⟩, hG7⟩; have G7 := G6.trans hG7))
    | (go_at_call 76; ((with_reducible refine (cM _).mono ?_); rintro e w8 ⟨rfl, rfl⟩)))
  go_ret
  exact ⟨rfl, HB.out _ G7⟩
theorem firsts_anyC (A : Option Addr) (n c : Nat) (l : List Cl) (w : World) (hT : CsW w A n c l) (hn : n ≤ 1000000) :
    Calls Tryz.prog 52 #[.slice A n c, .func (.func 53) #[] #[]] w fun e w' => ∃ A' m C', e = .returned (.slice A' m C') ∧ m ≤ n ∧ CsW w' A' m C' (uqC [] l) ∧ Below w.heap.size w w' := by
  by_cases h0 : n = 0
  · subst h0
    have hl : l = [] := List.eq_nil_of_length_eq_zero hT.1.symm
    subst hl
    exact (firsts_noneClaim A c w).mono fun e w' ⟨k1, k2⟩ => ⟨_, _, _, k1, Nat.le_refl _, ⟨rfl, Nat.le_refl _, Nat.zero_le _, fun _ => rfl, fun h => absurd h (by omega)⟩, k2⟩
  · exact (firsts_all A n c l w hT (by omega) hn).mono fun e w' ⟨g, m, k1, k2, k3, k4, k5⟩ => ⟨_, _, _, k1, k3, k4, k5⟩
theorem firsts_anyT (A : Option Addr) (n c : Nat) (l : List Tm) (w : World) (hT : TsW w A n c l) (hn : n ≤ 1000000) :
    Calls Tryz.prog 41 #[.slice A n c, .func (.func 43) #[] #[]] w fun e w' => ∃ A' m C', e = .returned (.slice A' m C') ∧ m ≤ n ∧ TsW w' A' m C' (uq [] l) ∧ Below w.heap.size w w' := by
  by_cases h0 : n = 0
  · subst h0
    have hl : l = [] := List.eq_nil_of_length_eq_zero hT.1.symm
    subst hl
    exact (firsts_noneTerm A c w).mono fun e w' ⟨k1, k2⟩ => ⟨_, _, _, k1, Nat.le_refl _, ⟨rfl, Nat.le_refl _, Nat.zero_le _, fun _ => rfl, fun h => absurd h (by omega)⟩, k2⟩
  · exact (T.firsts_all A n c l w hT (by omega) hn).mono fun e w' ⟨g, m, k1, k2, k3, k4, k5⟩ => ⟨_, _, _, k1, k3, k4, k5⟩
end Go.Proofs.YtjjfbgadpgckeaaGreat.K
