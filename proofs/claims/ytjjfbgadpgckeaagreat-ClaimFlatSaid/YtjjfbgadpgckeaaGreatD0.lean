/-
  What is proved: which of two claims that are the same stands first: the first alone.
  What is proved: of two claims that are the same, package tree's Firsts returns the first.
  What is proved: package claim's Atoms, of one claim that has two atoms which are the same: how many it returns.
-/
import Derived.Test.YtjjfbgadpgckeaaGreatZClmSq
import Derived.Lib.SliceRun
import Derived.Test.YtjjfbgadpgckeaaGreatC9
import Derived.OwnWalk
namespace Go.Proofs.YtjjfbgadpgckeaaGreat.C
open Go.RowKit L T
set_option linter.unusedVariables false
set_option linter.unusedSimpArgs false

set_option maxRecDepth 100000 in
set_option maxHeartbeats 8000000 in
theorem compact_two (g gc gl n : Nat) (l : List Cl) (w0 : World) (hc : EqIn g gc gl n l w0) (x y : Nat) (hx : x < n) (hy : y < n) (he : eqC (atC l y) (atC l x) = true) (cap : Nat) (w : World) (hb : Below g w0 w) (hr : RowN w g [x, y]) (hcap : 2 ≤ cap) :
    Calls Tryz.prog 73 #[.slice (some ⟨g, 0, none⟩) 2 cap, .func (.func 89) #[] #[.pointer (some ⟨gc, 0, none⟩), .pointer (some ⟨gl, 0, none⟩)]] w fun e w' => e = .returned (.slice (some ⟨g, 0, none⟩) 1 cap) ∧ RowN w' g [x, 0] ∧ w.grownBy w' (some g) := by
  have hg := Blk.lt hr
  have c0 : w.cell? ⟨g, 0, none⟩ = some (.int .i64 x) := RowN.at (k := 0) hr rfl
  have c1 : w.cell? ⟨g, 1, none⟩ = some (.int .i64 y) := RowN.at (k := 1) hr rfl
  have hBd : Below w.heap.size w w.drew := (Below.refl _ _).drew
  have hwr : IntKind.i64.wrap ((1 : Int) - 1) = 0 := by rw [IntKind.wrap_i64]; rfl
  have hwr0 : IntKind.i64.wrap (0 : Int) = 0 := by rw [IntKind.wrap_i64]; rfl
  have hle0 : (0 : Int) ≤ 0 := by omega
  have hlt0 : (0 : Int) < 2 := by omega
  have cE := hc y x w.drew hb.drew (Nat.le_of_lt hg) hy hx
  rw [he] at cE
  have Hr := Lib.hid hr
  clear hr hc he
  go_enter Tryz.func73, Tryz.ntmps73
  go_wp2
  refine wp_loop_rounds 1 ?_
  rw [rounds_succ]
  go_wp2_with fail
  go_region_held3 (fun w' => w'.cell? ⟨g, 0, none⟩ = some (.int .i64 x) ∧ w'.cell? ⟨g, 1, none⟩ = some (.int .i64 y))
    (first | go_keep | (exact ⟨(B4.cell hg).trans c0, (B4.cell hg).trans c1⟩))
    (first | (go_at_call 89; ((with_reducible refine cE.mono ?_); rintro e w4 ⟨rfl, hb4⟩; have B4 := bel_trans hBd hb4; have H4 := Lib.hid (Blk.below Hr.out B4))))
  have hg4 : w.grownBy w4 (some g) := gr_of_below B4 B4.tape
  have k1 : w4.cell? ⟨g, 1, none⟩ = some (.int .i64 y) := RowN.at (k := 1) H4.out rfl
  have kf : w4.frozen? ⟨g, 1, none⟩ = false := Blk.free H4.out 1
  have hcl : ∀ ty, (Builtin.clear_ #[83] ty #[.slice (some ⟨g, 1, none⟩) 1 (cap - 1)]).run Tryz.prog w4 = .ok (.tuple #[]) (w4.setCells g 1 (List.replicate 1 (.int .i64 0))) :=
    fun ty => Lib.run_clear_slice w4 83 3 ty (.int .i64 0) Tryz.underlying83 (fun w => by kernel_rfl) rfl rfl g 1 1 (cap - 1) (by omega) (fun j hj => by rw [show 1 + j = 1 by omega, k1]; rfl) (fun j hj => by rw [show 1 + j = 1 by omega]; exact kf)
  have HN := Lib.hid (RowN.set H4.out 1 0)
  go_wp2
  refine wp_loop_rounds 1 ?_
  rw [rounds_succ]
  go_wp2
  go_ret
  exact ⟨rfl, HN.out, gr_set hg4 1 (.int .i64 0)⟩
theorem sort_one (g x r cap : Nat) (hcap : 1 ≤ cap) (w : World) (hr : RowN w g [x, r]) :
    Calls Tryz.prog 75 #[.slice (some ⟨g, 0, none⟩) 1 cap] w fun e w' => (∃ v, e = .returned v) ∧ RowN w' g [x, r] ∧ w.grownBy w' (some g) := by
  have hh : Go.Sort.Holds (Value.int .i64) w g 0 (ints [x]).toArray := holds_of_blockI hr (by simp [ints])
  have hc := Tryz.slices_Sort_int g 0 cap (ints [x]) w hh (Blk.lt hr) (by simp [ints])
  rw [show (ints [x]).length = 1 from rfl, sort_ints (List.Perm.refl [x]) (by simp)] at hc
  refine hc.mono fun e w' ⟨he, n, os, hw⟩ => ?_
  subst hw
  refine ⟨⟨_, he⟩, ?_, grownBy_sortedI _⟩
  have hb := heap_sortedI (os := os) (n := n) (ints [x]).toArray hr
  unfold RowN Blk
  rw [hb]
  congr 2
end Go.Proofs.YtjjfbgadpgckeaaGreat.C
namespace Go.Proofs.YtjjfbgadpgckeaaGreat.C
open Go.RowKit L T
set_option linter.unusedVariables false
set_option linter.unusedSimpArgs false

set_option maxRecDepth 100000 in
set_option maxHeartbeats 8000000 in
theorem firsts_two (A : Option Addr) (c : Nat) (l : List Cl) (w : World) (hT : CsW w A 2 c l) (hd : eqC (atC l 1) (atC l 0) = true) :
    Calls Tryz.prog 52 #[.slice A 2 c, .func (.func 53) #[] #[]] w fun e w' => ∃ g, e = .returned (.slice (some ⟨g, 0, none⟩) 1 1) ∧ CsW w' (some ⟨g, 0, none⟩) 1 1 [atC l 0] ∧ Below w.heap.size w w' := by
  obtain ⟨n, hn2⟩ : ∃ n, n = 2 := ⟨_, rfl⟩
  have hn : n < 20 := by omega
  have h0 : 0 < n := by omega
  rw [← hn2] at hT ⊢
  obtain ⟨W0, hW0⟩ : ∃ W0, w.alloc (.cells #[.slice A n c] 23) = W0 := ⟨_, rfl⟩
  have hB0 : Below w.heap.size w W0 := by rw [← hW0]; exact bel_alloc (Below.refl _ _) _
  have hs0 : W0.heap.size = w.heap.size + 1 := by rw [← hW0]; simp
  have R0 : Blk W0 w.heap.size #[.slice A n c] 23 := by rw [← hW0]; exact Blk.new w _ _
  obtain ⟨W1, hW1⟩ : ∃ W1, W0.alloc (.cells #[.func (.func 53) #[] #[]] 68) = W1 := ⟨_, rfl⟩
  have hB1 : Below w.heap.size w W1 := by rw [← hW1]; exact bel_alloc hB0 _
  have hs1 : W1.heap.size = w.heap.size + 2 := by rw [← hW1]; simp [hs0]
  have R1 : Blk W1 w.heap.size #[.slice A n c] 23 := by rw [← hW1]; exact Blk.alloc R0 _
  have Q1 : Blk W1 (w.heap.size + 1) #[.func (.func 53) #[] #[]] 68 := by rw [← hW1, ← hs0]; exact Blk.new W0 _ _
  have hT1 : IsC W1.heap.size W1 A n c l := CsW.b hT hB1
  have hc1 : CmpIn (w.heap.size + 2) (w.heap.size + 1) w.heap.size n l W1 := fun i j W hb hs hi hj => firsts1_any (w.heap.size + 1) w.heap.size A n c l i j W ((hb.block _ (by omega)).trans Q1) ((hb.block _ (by omega)).trans R1) ((hT1.bel (hb.mono (by omega))).mono (by omega)) hi hj
  have hc2 : EqIn (w.heap.size + 2) (w.heap.size + 1) w.heap.size n l W1 := fun i j W hb hs hi hj => firsts2_any (w.heap.size + 1) w.heap.size A n c l i j W ((hb.block _ (by omega)).trans Q1) ((hb.block _ (by omega)).trans R1) ((hT1.bel (hb.mono (by omega))).mono (by omega)) hi hj
  have hl : l.length = n := hT.1.symm
  obtain ⟨W2, hW2⟩ : ∃ W2, W1.alloc (.cells (madeCells #[.int .i64 0] n) 3) = W2 := ⟨_, rfl⟩
  have hmk := fun w => run_make_row' (P := Tryz.prog) 83 3 (.int .i64 0) 8 Tryz.underlying83 intI rfl .i64 .i64 n (by omega) (by omega) w
  have hmk1 := hmk W1
  rw [hW2] at hmk1
  have hB2 : Below W1.heap.size W1 W2 := by rw [← hW2]; exact bel_alloc (Below.refl _ _) _
  have R2 : RowN W2 (w.heap.size + 2) (List.range 0 ++ List.replicate (n - 0) 0) := by
    rw [← hW2, ← hs1]; simpa using made_row n W1
  have r0 := Blk.cell R1 0
  have hsz2 : w.heap.size + 3 ≤ W2.heap.size := by rw [← hW2]; simp; omega
  -- the sorts, in whatever world that has grown so
  have cS := fun (W : World) (hg : W2.grownBy W (some (w.heap.size + 2))) (hr : RowN W (w.heap.size + 2) (List.range n)) =>
    stableFunc_few (w.heap.size + 2) (w.heap.size + 1) w.heap.size n l W1 hc1 (List.range n) (by simp) n n (by simp) hn W ((hB2.mono (by omega)).trans (gr_below hg (by omega) (Nat.le_refl _))) hr
  obtain ⟨Z, hZ⟩ : ∃ Z, (isortR (fun i j => cmpC (atC l i) (atC l j)) [] (List.range n)).reverse = Z := ⟨_, rfl⟩
  have hp : Z.Perm (List.range n) := by
    rw [← hZ]
    exact (List.reverse_perm _).trans (by simpa using isortR_perm (fun i j => cmpC (atC l i) (atC l j)) (List.range n) [])
  rw [hZ] at cS
  have hZ2 : Z = [0, 1] := by
    rw [← hZ, hn2]
    have hc0 : ¬ cmpC (atC l 1) (atC l 0) < 0 := by
      have := (cmpC_zero _ _).2 hd
      omega
    show (isortR _ [] [0, 1]).reverse = _
    simp only [isortR, List.foldl_cons, List.foldl_nil, insRev]
    rw [if_neg hc0]
    rfl
  subst hZ2
  have cC : ∀ (W : World), W2.grownBy W (some (w.heap.size + 2)) → RowN W (w.heap.size + 2) [0, 1] → Calls Tryz.prog 73 #[.slice (some ⟨w.heap.size + 2, 0, none⟩) n n, .func (.func 89) #[] #[.pointer (some ⟨w.heap.size + 1, 0, none⟩), .pointer (some ⟨w.heap.size, 0, none⟩)]] W fun e w' => e = .returned (.slice (some ⟨w.heap.size + 2, 0, none⟩) 1 n) ∧ RowN w' (w.heap.size + 2) [0, 0] ∧ W.grownBy w' (some (w.heap.size + 2)) := fun W hg hr => by
    have h1 := (hB2.mono (show w.heap.size + 2 ≤ W1.heap.size by omega)).trans (gr_below hg (by omega) (Nat.le_refl _) : Below (w.heap.size + 2) W2 W)
    subst hn2
    exact compact_two (w.heap.size + 2) (w.heap.size + 1) w.heap.size 2 l W1 hc2 0 1 (by omega) (by omega) hd 2 W h1 hr (Nat.le_refl _)
  have cO : ∀ (W : World), RowN W (w.heap.size + 2) [0, 0] → Calls Tryz.prog 75 #[.slice (some ⟨w.heap.size + 2, 0, none⟩) 1 n] W fun e w' => (∃ v, e = .returned v) ∧ RowN w' (w.heap.size + 2) [0, 0] ∧ W.grownBy w' (some (w.heap.size + 2)) := fun W hr => sort_one (w.heap.size + 2) 0 0 n (by omega) W hr
  have HR2 := Lib.hid R2
  have HB := Lib.hid (show ∀ W, W2.grownBy W (some (w.heap.size + 2)) → Below w.heap.size w W from fun W hg => (bel_trans hB1 hB2).trans (gr_below hg (by omega) (by omega)))
  have HMp := Lib.hid (show ∀ W, W2.grownBy W (some (w.heap.size + 2)) → RowN W (w.heap.size + 2) [0, 0] → Calls Tryz.prog 90 #[.slice (some ⟨w.heap.size + 2, 0, none⟩) 1 n, .func (.func 91) #[] #[.pointer (some ⟨w.heap.size, 0, none⟩)]] W fun e w' => e = .returned (.slice (some ⟨W.heap.size, 0, none⟩) 1 1) ∧ CsW w' (some ⟨W.heap.size, 0, none⟩) 1 1 [atC l 0] ∧ Below W.heap.size W w' from fun W hg hr => by
    have hbW := (bel_trans hB1 hB2).trans (gr_below hg (by omega) (by omega) : Below w.heap.size W2 W)
    have h2 := gr_below hg (show w.heap.size + 2 ≤ W2.heap.size by omega) (Nat.le_refl _)
    exact mapFirst_any w.heap.size A n c l [0] [0] (w.heap.size + 2) n 1 w W hbW (((hB2.mono (by omega)).trans h2).block _ (by omega) |>.trans R1) hT (by simp; omega) hr rfl (by omega) (by omega))
  clear hT R1 hT1 hc1 hc2 hl hW2 hmk R2 hZ hp hd R0 Q1
  have hNN := Lib.hid hn2
  have hr01 : List.range n = [0, 1] := by rw [hn2]; rfl
  have HR01 := Lib.hid hr01
  clear hn2 hr01
  go_enter Tryz.func52, Tryz.ntmps52
  go_wp2
  go_loopw [12] (fun i wr0 => ∃ (wr : World) (k : Nat), wr = wr0 ∧ k ≤ n ∧ i = .int .i64 k ∧ W2.grownBy wr (some (w.heap.size + 2)) ∧ Hid (RowN wr (w.heap.size + 2) (List.range k ++ List.replicate (n - k) 0))) (fun i _ => n - (intOf i).toNat)
  case atStart => exact ⟨_, 0, rfl, by omega, rfl, World.grownBy.refl _ _, HR2⟩
  case round =>
    obtain ⟨wr, k, rfl, hk, rfl, hG, hR⟩ := hrel
    by_cases hlt : k < n
    · have hz : (List.range k ++ List.replicate (n - k) 0)[k]? = some 0 := by
        rw [List.getElem?_append_right (by simp), List.length_range, Nat.sub_self, List.getElem?_replicate, if_pos (by omega)]
      have c0 := RowN.at hR.out hz
      have q0 := Blk.free hR.out k
      have hn1 := Lib.hid (RowN.set hR.out k k)
      have hst := Lib.hid (range_step n k hlt)
      clear hz
      have hk0 : 0 ≤ (k : Int) := by omega
      have hk1 : (k : Int) < (n : Int) := by omega
      go_wp2
      go_roundw
      case rel => exact ⟨_, k + 1, rfl, by omega, by go_num, gr_set hG _ _, Lib.hid (by have h := hn1.out; rwa [hst.out] at h)⟩
      case measure => simp [intOf]; omega
    · obtain rfl : k = n := by omega
      have hrn : RowN wr (w.heap.size + 2) (List.range k) := by have h := hR.out; simpa using h
      have cS1 := cS wr hG hrn
      clear hR cS hrn
      go_wp2_with (first
        | (go_at_call 71; ((with_reducible refine cS1.mono ?_); rintro e w5 ⟨⟨v, rfl⟩, hR5, hG5⟩; have H5 := Lib.hid hR5; clear hR5; have G5 := hG.trans hG5))
        | (go_at_call 73; ((with_reducible refine (cC _ G5 H5.out).mono ?_); rintro e w6 ⟨rfl, hR6, hG6⟩; have H6 := Lib.hid hR6; clear hR6; have G6 := G5.trans hG6))
        | (go_at_call 75; ((with_reducible refine (cO _ H6.out).mono ?_); rintro e w7 ⟨⟨v2, rfl⟩, hR7, hG7⟩; have H7 := Lib.hid hR7; clear hR7; have G7 := G6.trans hG7))
        | (go_at_call 90; ((with_reducible refine (HMp.out _ G7 H7.out).mono ?_); rintro e w8 ⟨rfl, hT8, hb8⟩; have H8 := Lib.hid hT8; clear hT8)))
      go_ret
      exact ⟨_, rfl, H8.out, bel_trans (HB.out _ G7) hb8⟩
end Go.Proofs.YtjjfbgadpgckeaaGreat.C
namespace Go.Proofs.YtjjfbgadpgckeaaGreat.C
open Go.RowKit L T
set_option linter.unusedVariables false
set_option linter.unusedSimpArgs false

/-- append(l, c) for the walk: l a row of the call's own -/
theorem app_claim {w : World} {ops : Array Oper} {rest : List Oper} {o : Oper} {a : Act} {Q : Exit → Act → World → Prop} (hgd : o.guard = none) (s x : Operand)
    (ho : o.op = .call { callee := .builtin .append, args := #[s, x], argTypes := #[23, 23] })
    (base : Nat) (v : Value) (hs : List Hc) (hv : a.eval s = v) (hown : OwnC w base v hs) (z : Nat) (h : Hc) (hx : a.eval x = .slice (some ⟨z, 0, none⟩) 1 1) (hz : CBox w z h.op h.nm h.so h.k h.a h.n h.c)
    (hn : hs.length < 1000000) (hbase : base ≤ w.heap.size)
    (hK : ∀ v' w', OwnC w' base v' (hs ++ [h]) → w.grownBy w' v.ownBlock → wpList Tryz.prog ops Q rest (a.put o.dst v') w') : wpList Tryz.prog ops Q (o :: rest) a w := by
  obtain ⟨i0, hi, hz0, hz1, hz2⟩ := info_parts claimI
  refine wpList_append_own w hgd s x 23 ho base 25 i0 _ 5 88 Tryz.underlying23 hi hz0 hz1 hz2 rfl (by decide) v hs.length (flatC hs) hv hown ⟨z, 0, none⟩ 1 1 (flatC [h]) hx (by rw [flatC_len]; rfl) (fun j u hj => ?_) (hc_one _) (by unfold maxLen; omega) (by omega) hbase fun v' w' h1 h2 _ => hK v' w' ?_ h2
  · rw [Addr.add_lit, Nat.zero_add, Blk.cell hz j, ← hj]
    have : (flatC [h]).toArray = #[.int .i64 h.op, .string h.nm, .string h.so, .slice h.k.a h.k.n h.k.c, .slice h.a h.n h.c] := rfl
    rw [← this]; simp
  · unfold OwnC
    rw [List.length_append, flatC_app]
    exact h1
theorem grown_own {w w' : World} {v : Value} {base : Nat} {hs : List Hc} (ho : OwnC w base v hs) (hg : w.grownBy w' v.ownBlock) (hb : base ≤ w.heap.size) : Below base w w' :=
  (Below.refl _ _).grown hg hb (fun k hk => (World.ownsRow.lt ho k hk).1)
set_option maxRecDepth 100000 in
set_option maxHeartbeats 8000000 in
theorem Atoms_two (t x y : Cl) (A : Option Addr) (c : Nat) (w : World) (hG : CsW w A 1 c [t]) (hwt : wt t ≤ 1000000) (he : endsL conP t = [x, y]) (hx1 : opC x ≠ 1) (hx2 : opC x ≠ 2) (hy1 : opC y ≠ 1) (hy2 : opC y ≠ 2) (hxy : eqC y x = true) :
    Calls Tryz.prog 22 #[.slice A 1 c] w fun e w' => (∃ A' C', e = .returned (.slice A' 1 C')) ∧ Below w.heap.size w w' := by
  obtain ⟨bb, o, t', kt, tA, tn, tc, rfl, hb, y0, y1, y2, y3, y4, ht, hok⟩ := hG.at (show 0 < 1 by omega)
  obtain rfl : t = t' := by simpa using ht
  rw [Nat.zero_mul, Nat.add_zero] at y0 y1 y2 y3 y4
  obtain ⟨W1, hW1, hB1, hs1, S1⟩ := cbox1 w (opC t) (nmC t) (soC t) kt tA tn tc
  have cE := endsC_any t kt tA tn tc W1 hwt (ArWC.b hok hB1)
  rw [he] at cE
  have hsz := endsL_wt conP t
  rw [he] at hsz
  obtain ⟨s0, s1, s2, s3, s4⟩ := S1.five
  have hwx : wt x ≤ 1000000 := by simp [wts] at hsz; omega
  -- what the two rounds lay
  have HR := Lib.hid (show ∀ (w3 : World) (A3 : Option Addr) (C3 : Nat), CsW w3 A3 2 C3 [x, y] → ∃ b3 o3 kx xA xn xc ky yA yn yc, A3 = some ⟨b3, o3, none⟩ ∧ b3 < w3.heap.size ∧
      (w3.cell? ⟨b3, o3, none⟩ = some (.int .i64 (opC x)) ∧ w3.cell? ⟨b3, o3 + 1, none⟩ = some (.string (nmC x)) ∧ w3.cell? ⟨b3, o3 + 1 + 1, none⟩ = some (.string (soC x)) ∧ w3.cell? ⟨b3, o3 + 1 + 1 + 1, none⟩ = some (.slice kx.a kx.n kx.c) ∧ w3.cell? ⟨b3, o3 + 1 + 1 + 1 + 1, none⟩ = some (.slice xA xn xc) ∧ ArWC w3 x kx xA xn xc) ∧
      (w3.cell? ⟨b3, o3 + 5, none⟩ = some (.int .i64 (opC y)) ∧ w3.cell? ⟨b3, o3 + 5 + 1, none⟩ = some (.string (nmC y)) ∧ w3.cell? ⟨b3, o3 + 5 + 1 + 1, none⟩ = some (.string (soC y)) ∧ w3.cell? ⟨b3, o3 + 5 + 1 + 1 + 1, none⟩ = some (.slice ky.a ky.n ky.c) ∧ w3.cell? ⟨b3, o3 + 5 + 1 + 1 + 1 + 1, none⟩ = some (.slice yA yn yc) ∧ ArWC w3 y ky yA yn yc) from fun w3 A3 C3 hT => by
    obtain ⟨b3, o3, x', kx, xA, xn, xc, rfl, hb3, p0, p1, p2, p3, p4, hx', hokx⟩ := hT.at (show 0 < 2 by omega)
    obtain ⟨b3', o3', y', ky, yA, yn, yc, h2, hb3', q0, q1, q2, q3, q4, hy', hoky⟩ := hT.at (show 1 < 2 by omega)
    injection h2 with h2
    injection h2 with h2 h3
    subst h2 h3
    obtain rfl : x = x' := by simpa using hx'
    obtain rfl : y = y' := by simpa using hy'
    rw [Nat.zero_mul, Nat.add_zero] at p0 p1 p2 p3 p4
    rw [Nat.one_mul] at q0 q1 q2 q3 q4
    exact ⟨b3, o3, kx, xA, xn, xc, ky, yA, yn, yc, rfl, hb3, ⟨p0, p1, p2, p3, p4, hokx⟩, ⟨q0, q1, q2, q3, q4, hoky⟩⟩)
  have HF := Lib.hid (show ∀ (u : World) (base : Nat) (v : Value) (kx ky : SS) (xA : Option Addr) (xn xc : Nat) (yA : Option Addr) (yn yc : Nat), OwnC u base v ([] ++ [hcOf x kx xA xn xc] ++ [hcOf y ky yA yn yc]) → ArWC u x kx xA xn xc → ArWC u y ky yA yn yc → ∃ Av Cv, v = .slice Av 2 Cv ∧ CsW u Av 2 Cv [x, y] from fun u base v kx ky xA xn xc yA yn yc ho h1 h2 => by
    obtain ⟨Av, Cv, hv, _⟩ := ho.slice
    refine ⟨Av, Cv, hv, ?_⟩
    rw [hv] at ho
    refine ho.isC (Nat.le_refl _) rfl fun k hk hk2 => ?_
    have hk3 : k = 0 ∨ k = 1 := by simp at hk; omega
    rcases hk3 with rfl | rfl
    · exact ⟨rfl, rfl, rfl, h1⟩
    · exact ⟨rfl, rfl, rfl, h2⟩)
  have cF := fun (u : World) (Av : Option Addr) (Cv : Nat) (hT : CsW u Av 2 Cv [x, y]) => firsts_two Av Cv [x, y] u hT hxy
  have cM := fun (u : World) (g : Nat) (hT : CsW u (some ⟨g, 0, none⟩) 1 1 [atC [x, y] 0]) => mapCopyC_of [atC [x, y] 0] (fun x _ => CopyC_any x) (by show wts [x] ≤ _; simp [wts]; omega) (some ⟨g, 0, none⟩) 1 1 u hT
  have ex1 : (opC x != 1) = true := by simpa using hx1
  have ex2 : (opC x != 2) = true := by simpa using hx2
  have ey1 : (opC y != 1) = true := by simpa using hy1
  have ey2 : (opC y != 2) = true := by simpa using hy2
  clear hG S1 hok ht hwt he hx1 hx2 hy1 hy2 hxy hsz hwx
  unfold hcOf at HF
  generalize opC t = op at *
  generalize nmC t = nm at *
  generalize soC t = so at *
  go_enter Tryz.func22, Tryz.ntmps22
  go_wp2
  refine wp_loop_rounds 2 ?_
  rw [rounds_succ]
  go_wp2_with (go_at_call 49; ((with_reducible refine cE.mono ?_); rintro e w3 ⟨A3, n3, C3, rfl, hT3, hb3⟩; obtain rfl : n3 = 2 := hT3.1; obtain ⟨b3, o3, kx, xA, xn, xc, ky, yA, yn, yc, rfl, hlb, ⟨p0, p1, p2, p3, p4, hax⟩, ⟨q0, q1, q2, q3, q4, hay⟩⟩ := HR.out w3 A3 C3 hT3; clear hT3))
  clear HR
  generalize opC x = ox at *
  generalize nmC x = nx at *
  generalize soC x = sx at *
  generalize opC y = oy at *
  generalize nmC y = ny at *
  generalize soC y = sy at *
  have hbw3 : Below w.heap.size w w3 := bel_trans hB1 hb3
  obtain ⟨V1, hV1, hBV1, hsV1, SV1⟩ := cbox1 w3 ox nx sx kx xA xn xc
  obtain ⟨d0, d1, d2, d3, d4⟩ := SV1.five
  have K1 := CBox.new V1 ox nx sx kx xA xn xc
  rw [hsV1] at K1
  have HK1 := Lib.hid K1
  clear K1
  refine wp_loop_rounds 3 ?_
  rw [rounds_succ]
  go_wp2_with (at_builtin; ((refine app_claim rfl (.tmp 29) (.tmp 31) rfl w3.heap.size (.slice none 0 0) [] rfl (OwnC.nil _ _) (w3.heap.size + 1) ⟨ox, nx, sx, kx, xA, xn, xc⟩ rfl HK1.out (by simp) (by have := hBV1.size; simp; omega) ?_); intro v1 u1 ho1 hg1; have Ho1 := Lib.hid ho1; have Hg1 := Lib.hid hg1; clear ho1 hg1))
  have hb1 : Below w3.heap.size w3 u1 := (bel_alloc hBV1 _).grown Hg1.out (by have := hBV1.size; simp; omega) (fun k hk => by simp [Value.ownBlock] at hk)
  have hbu1 := bel_trans hbw3 hb1
  have q0' := (hb1.cell (p := ⟨b3, _, none⟩) hlb).trans q0
  have q1' := (hb1.cell (p := ⟨b3, _, none⟩) hlb).trans q1
  have q2' := (hb1.cell (p := ⟨b3, _, none⟩) hlb).trans q2
  have q3' := (hb1.cell (p := ⟨b3, _, none⟩) hlb).trans q3
  have q4' := (hb1.cell (p := ⟨b3, _, none⟩) hlb).trans q4
  obtain ⟨V2, hV2, hBV2, hsV2, SV2⟩ := cbox1 u1 oy ny sy ky yA yn yc
  obtain ⟨d0', d1', d2', d3', d4'⟩ := SV2.five
  have K2 := CBox.new V2 oy ny sy ky yA yn yc
  rw [hsV2] at K2
  have HK2 := Lib.hid K2
  clear K2
  rw [rounds_succ]
  go_wp2_with (at_builtin; ((refine app_claim rfl (.tmp 29) (.tmp 31) rfl w3.heap.size v1 _ rfl (Ho1.out.below (bel_alloc hBV2 _)) (u1.heap.size + 1) ⟨oy, ny, sy, ky, yA, yn, yc⟩ rfl HK2.out (by simp) (by have := hb1.size; have := hBV2.size; simp; omega) ?_); intro v2 u2 ho2 hg2; have Ho2 := Lib.hid ho2; have Hg2 := Lib.hid hg2; clear ho2 hg2))
  have hb2 : Below w3.heap.size w3 u2 := ((bel_trans hb1 (bel_alloc hBV2 (.cells #[.int .i64 oy, .string ny, .string sy, .slice ky.a ky.n ky.c, .slice yA yn yc] 25))).grown Hg2.out (by have := hb1.size; have := hBV2.size; simp; omega) (fun k hk => (World.ownsRow.lt (Ho1.out) k hk).1))
  obtain ⟨Av, Cv, hv2, hT2⟩ := HF.out u2 _ v2 kx ky xA xn xc yA yn yc Ho2.out (ArWC.b hax hb2) (ArWC.b hay hb2)
  subst hv2
  have HT2 := Lib.hid hT2
  have hbu2 := bel_trans hbw3 hb2
  clear hT2 HF hax hay
  rw [rounds_succ]
  go_wp2
  rw [rounds_succ]
  go_wp2_with (first
    | (go_at_call 52; ((with_reducible refine (cF u2 Av Cv HT2.out).mono ?_); rintro e w7 ⟨g7, rfl, hT7, hb7⟩; have HT7 := Lib.hid hT7; clear hT7))
    | (go_at_call 51; ((with_reducible refine (cM w7 g7 HT7.out).mono ?_); rintro e w8 ⟨A8, C8, rfl, _, _, hb8⟩)))
  go_ret
  exact ⟨⟨_, _, rfl⟩, bel_trans hbu2 (bel_trans hb7 hb8)⟩
end Go.Proofs.YtjjfbgadpgckeaaGreat.C
