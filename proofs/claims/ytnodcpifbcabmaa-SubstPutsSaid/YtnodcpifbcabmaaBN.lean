/-
  What is proved: the library's Backward over a list of pairs: each with its place, from the last to the first, is handed to the round of a loop.
  What is proved: package subst's firsts: a map of the call's own that reads as the first terms of the pairs.
  What is proved: package subst's Then of two lists of pairs whose names rise, all of them taken together, fewer than twenty.
  What is proved: what package subst's Apply returns: the term with the first terms of the pairs in place of its variables.
  What is proved: the chapter's example of layer 10.
-/
import Derived.Test.YtnodcpifbcabmaaBM
import Derived.Test.YtnodcpifbcabmaaBT
import Derived.Test.YtnodcpifbcabmaaZSbD
import Derived.Test.YtnodcpifbcabmaaBL
namespace Go.Proofs.Ytnodcpifbcabmaa.U
open Go.RowKit Go.Shelf L T C
set_option linter.unusedVariables false
set_option linter.unusedSimpArgs false
attribute [local go_sem] Oper.semAt_some

/-! what a round keeps: what lay below n0, and every block that holds a list -/
def KeepU (W W' : World) : Prop := ∀ (k : Nat) (cs : Array Value), W.heap[k]? = some (.cells cs 36 (0, 0)) → W'.heap[k]? = some (.cells cs 36 (0, 0))
def KpU (n0 : Nat) (W W' : World) : Prop := Below n0 W W' ∧ KeepU W W'
theorem KpU.refl (n0 : Nat) (W : World) : KpU n0 W W := ⟨Below.refl _ _, fun k cs h => h⟩
theorem KpU.trans {n0 : Nat} {A B C : World} (h : KpU n0 A B) (k : KpU n0 B C) : KpU n0 A C := ⟨h.1.trans k.1, fun i cs h0 => k.2 i cs (h.2 i cs h0)⟩
theorem KpU.of_below {n0 : Nat} {W W' : World} (hn : n0 ≤ W.heap.size) (h : Below W.heap.size W W') : KpU n0 W W' := ⟨h.mono hn, fun k cs h0 => (h.block k (Array.getElem?_eq_some_iff.1 h0).1).trans h0⟩
theorem KpU.obj {n0 : Nat} {w : World} (hn : n0 ≤ w.heap.size) (W : World) (l : Nat) (o o' : Obj) (hl : w.heap.size ≤ l) (h : W.heap[l]? = some o) (h1 : o.isCells = false) (h2 : o.isWalk = false) : KpU n0 W (W.putObj l o') :=
  ⟨belowK_b hn W l o o' hl h h1 h2, fun k cs h0 => (World.putObj_heap_other (fun e => by subst e; rw [h] at h0; cases h0; cases h1)).trans h0⟩
structure PtU (B : Nat) (w0 : World) where
  i : Nat
  p : Pr
  a : Option Addr
  n : Nat
  c : Nat
  ok : Ar B w0 p.t a n c
  sm : p.nm.size ≤ maxLen
def encU {B : Nat} {w0 : World} (y : PtU B w0) : Array Value := #[.int .i64 (y.i : Int), .agg #[.string y.p.nm, .int .i64 (opT y.p.t), .string (nameT y.p.t), .int .i64 (numT y.p.t), .slice y.a y.n y.c]]
def tU {B : Nat} {w0 : World} (y : PtU B w0) : Pr := y.p
theorem drop_revU {l : List Pr} {k : Nat} {x : Pr} (h : l[k]? = some x) : (l.drop k).reverse = (l.drop (k + 1)).reverse ++ [x] := by
  rw [drop_u h, List.reverse_cons]

theorem backU_any (A : Option Addr) (m c : Nat) (w : World) :
    Calls Try.prog 107 #[.slice A m c] w fun e w' => e = .returned (.func (.func 135) #[] #[.pointer (some ⟨w.heap.size, 0, none⟩)]) ∧ w' = w.alloc (.cells #[.slice A m c] 36) := by
  go_enter Try.func107, Try.ntmps107
  go_wp2
  go_ret
  exact ⟨rfl, rfl⟩
set_option maxRecDepth 100000 in
set_option maxHeartbeats 4000000 in
theorem backU_stops (n B g : Nat) (w0 w : World) (A : Option Addr) (m c : Nat) (l : List Pr) (hT : IsU B w0 A m c l) (hsz : ∀ y ∈ l, y.nm.size ≤ maxLen) (hB : Below B w0 w) (hBw : B ≤ w.heap.size) (hG : Blk w g #[.slice A m c] 36) :
    SeqStopsK Fence.wide n Try.prog 135 #[.pointer (some ⟨g, 0, none⟩)] (encU (B := B) (w0 := w0)) (KpU B) (fun ys => ys.map tU = l.reverse) (fun pre => pre.map tU <+: l.reverse) l.length w := fun lp J Jx W hW hJ hJx hY h0 => by
  have hGW : Blk W g #[.slice A m c] 36 := Blk.below hG hW
  have hn : m ≤ 9223372036854775807 := by have h1 := hT.2.1; have h2 := hT.2.2.1; unfold maxLen at h2; omega
  have hdd : ∀ k : Nat, (Fence.wide.depth.isSome = true → 1 ≤ k) := fun k h => by cases h
  have hBW : Below B w0 W := hB.trans (hW.mono hBw)
  have hBs : B ≤ W.heap.size := Nat.le_trans hBw hW.size
  have g0 := Blk.cell hGW 0
  have HT := Lib.hid hT
  have HY := Lib.hid hY
  have HG := Lib.hid hGW
  have hml : m = l.length := hT.1
  have HML := Lib.hid hml
  have H0 : Hid (∃ ys : List (PtU B w0), ys.map tU = (l.drop m).reverse ∧ J ys W) := ⟨[], by rw [List.drop_eq_nil_of_le (by omega)]; rfl, h0⟩
  have wr1 : IntKind.i64.wrap ((m : Int) - 1) = (m : Int) - 1 := by rw [IntKind.wrap_i64]; omega
  clear hT hY hG hGW h0 hml hJ hJx hW hB
  refine callsIn_of_wp Try.func135 rfl trivial ?_ rfl
  simp only [Try.ntmps135, List.size_toArray, List.length_cons, List.length_nil, Nat.reduceAdd, Nat.reduceSub, Array.replicate_succ, Array.replicate_zero, List.push_toArray, List.append_toArray, List.nil_append, List.cons_append]
  gi_wp2
  gi_loopw [3] (fun i wr0 => ∃ (wr : World) (k : Nat), wr = wr0 ∧ k ≤ m ∧ i = .int .i64 ((k : Int) - 1) ∧ KpU B W wr ∧ Hid (∃ ys : List (PtU B w0), ys.map tU = (l.drop k).reverse ∧ J ys wr)) (fun i _ => (intOf i + 1).toNat)
  case atStart => exact ⟨_, m, rfl, by omega, rfl, KpU.refl _ _, H0⟩
  case round =>
    obtain ⟨wr, k, rfl, hk, rfl, hKr, hR⟩ := hrel
    have hBr : Below B w0 wr := hBW.trans hKr.1
    have hgr : Blk wr g #[.slice A m c] 36 := hKr.2 g _ HG.out
    have gr0 := Blk.cell hgr 0
    cases k with
    | zero =>
      have hc : ¬ ((0 : Nat) : Int) - 1 ≥ 0 := by omega
      obtain ⟨ys, h1, h2⟩ := hR.out
      have HF : Hid (∃ ys : List (PtU B w0), ys.map tU = l.reverse ∧ J ys wr) := ⟨ys, by rw [h1, List.drop_zero], h2⟩
      clear hR h1 h2
      gi_wp2
      go_end0
      exact ⟨⟨_, rfl⟩, .inl HF.out⟩
    | succ k =>
      have hlt : k < m := by omega
      obtain ⟨bb, o, x, M1, Mn, Mc, rfl, hb, z0, z1, z2, z3, z4, hx, hok⟩ := HT.out.at hlt
      have y0 := (hBr.cell (p := ⟨bb, _, none⟩) hb).trans z0
      have y1 := (hBr.cell (p := ⟨bb, _, none⟩) hb).trans z1
      have y2 := (hBr.cell (p := ⟨bb, _, none⟩) hb).trans z2
      have y3 := (hBr.cell (p := ⟨bb, _, none⟩) hb).trans z3
      have y4 := (hBr.cell (p := ⟨bb, _, none⟩) hb).trans z4
      have hwx := hsz x (List.mem_of_getElem? hx)
      obtain ⟨ys, hys, hJr⟩ := hR.out
      have hlen : ys.length + (k + 1) = l.length := by
        have := congrArg List.length hys
        rw [List.length_map, List.length_reverse, List.length_drop] at this
        have := HML.out
        omega
      obtain ⟨fn, tmps, assign, body, hy, hRn⟩ := yield_any rfl (n - 1) (HY.out ys ⟨k, x, M1, Mn, Mc, hok, hwx⟩ wr hJr (by omega))
      dsimp only [encU] at hy
      have hdr := drop_revU hx
      have hpre : ys.map tU ++ [x] <+: l.reverse := by
        rw [hys, ← hdr]
        have := List.take_append_drop k l
        conv => rhs; rw [← this, List.reverse_append]
        exact List.prefix_append _ _
      have Hys := Lib.hid hys
      have Hdr := Lib.hid hdr
      have Hpre := Lib.hid hpre
      have ek : (((k + 1 : Nat) : Int) - 1) = (k : Int) := by omega
      rw [ek]
      have wk : IntKind.i64.wrap ((k : Int) - 1) = (k : Int) - 1 := by rw [IntKind.wrap_i64]; omega
      have hc : (k : Int) ≥ 0 := by omega
      have hk0 : 0 ≤ (k : Int) := by omega
      have hk1 : (k : Int) < (m : Int) := by omega
      clear z0 z1 z2 z3 z4 hx hys hdr hpre hR HT HY ek hJr
      generalize opT x.t = op' at *
      generalize nameT x.t = nm' at *
      generalize numT x.t = nu' at *
      gi_wp2_with ((try refine ⟨hdd _, ?_⟩); refine hRn.mono ?_; clear hRn; rintro e W3 (⟨rfl, hJ3, hk3⟩ | ⟨rfl, hx3⟩); all_goals (first | (have HJ3 := Lib.hid hJ3; clear hJ3) | (have HX3 := Lib.hid hx3; clear hx3)))
      · go_roundw
        case rel => exact ⟨_, k, rfl, by omega, by go_num, hKr.trans hk3, ⟨ys ++ [⟨k, x, M1, Mn, Mc, hok, hwx⟩], by rw [List.map_append, Hys.out, Hdr.out]; rfl, by first | exact HJ3.out | (have := HJ3.out; rwa [List.append_assoc] at this)⟩⟩
        case measure => simp [intOf]
      · refine bodyPost_ret (results_none rfl _ _ _) rfl ?_
        exact ⟨⟨_, rfl⟩, .inr ⟨_, by rw [List.map_append, List.map_singleton]; exact Hpre.out, HX3.out⟩⟩
end Go.Proofs.Ytnodcpifbcabmaa.U
namespace Go.Proofs.Ytnodcpifbcabmaa.U
open Go.RowKit Go.Shelf Go.Maps L T C
set_option linter.unusedVariables false
set_option linter.unusedSimpArgs false
attribute [local go_sem] Oper.semAt_some

theorem own_map {β : Type} {B : Nat} {B0 g : Nat} (hg : g < B) (f : β → List Pr) (hB0 : B0 ≤ B) : OwnFrom B (fun (s : β) W => MapU B0 W g (f s) ∧ B ≤ W.heap.size) := fun s X Y row hs hgr hr => by
  obtain ⟨h1, h2⟩ := hs
  refine ⟨h1.keep (hgr.block g h1.lt (fun e => ?_)) ?_, Nat.le_trans h2 hgr.size⟩
  · have := (hr g e.symm).1; omega
  · exact (Below.refl B0 X).grown hgr (by omega) (fun q hq => by have := (hr q hq).1; omega)
set_option maxRecDepth 100000 in
set_option maxHeartbeats 8000000 in
theorem firsts_in (l : List Pr) (B : Nat) (w0 : World) (A : Option Addr) (m c : Nat) (w : World) (hsm : ∀ p ∈ l, p.nm.size ≤ maxLen) (hl : l.length < maxLen) (hG : IsU B w0 A m c l) (hBw : B ≤ w.heap.size) (hb0 : Below B w0 w) :
    CallsIn Fence.wide 6 Try.prog 65 #[.slice A m c] w fun e w' => e = .returned (.map (some w.heap.size)) ∧ MapU B w' w.heap.size l ∧ Below w.heap.size w w' := by
  have hmm := @run_makeMap Try.prog
  obtain ⟨W2, hW2⟩ : ∃ W2, (w.alloc (.map #[] 0)).alloc (.cells #[.map (some w.heap.size)] 73) = W2 := ⟨_, rfl⟩
  have hB1 : Below w.heap.size w (w.alloc (.map #[] 0)) := bel_alloc (Below.refl _ _) _
  have hB2 : Below w.heap.size w W2 := by rw [← hW2]; exact bel_alloc hB1 _
  have hs2 : W2.heap.size = w.heap.size + 2 := by rw [← hW2]; simp
  have M2 : MapU B W2 w.heap.size [] := by
    rw [← hW2]
    exact (MapU.made B w).b (by simp; omega) (bel_alloc (Below.refl _ _) _)
  have C2 : Blk W2 (w.heap.size + 1) #[.map (some w.heap.size)] 73 := by
    rw [← hW2]
    have := Blk.new (w.alloc (.map #[] 0)) #[.map (some w.heap.size)] 73
    rwa [World.size_alloc] at this
  have HM := Lib.hid M2
  have HC := Lib.hid C2
  clear M2 C2
  refine callsIn_of_wp_marks Try.func65 rfl trivial ?_ rfl
  simp only [Try.ntmps65, List.size_toArray, List.length_cons, List.length_nil, Nat.reduceAdd, Nat.reduceSub, Array.replicate_succ, Array.replicate_zero, List.push_toArray, List.append_toArray, List.nil_append, List.cons_append]
  gi_wp2_with (refine ⟨trivial, ?_⟩; gi_at_call 107; refine (callsIn_wide.2 (backU_any _ _ _ W2)).mono ?_; rintro e w' ⟨rfl, hw'⟩; have HW5 := Lib.hid hw'; clear hw')
  have hb5 : Below W2.heap.size W2 w' := by rw [HW5.out]; exact bel_alloc (Below.refl _ _) _
  have hB5 : Below w.heap.size w w' := bel_trans hB2 hb5
  have M5 : MapU B w' w.heap.size [] := HM.out.b (Nat.le_trans hBw hB2.size) hb5
  have C5 : Blk w' (w.heap.size + 1) #[.map (some w.heap.size)] 73 := Blk.below HC.out hb5
  have G5 : Blk w' W2.heap.size #[.slice A m c] 36 := by rw [HW5.out]; exact Blk.new W2 _ _
  have hst := backU_stops (5 : Nat) B W2.heap.size w0 w' A m c l hG hsm (hb0.trans (hB5.mono hBw)) (Nat.le_trans hBw hB5.size) G5
  rw [hs2] at hst
  have hs5 : w.heap.size + 3 ≤ w'.heap.size := by rw [HW5.out]; simp [hs2]
  (try rw [hs2])
  have HL := Lib.hid hl
  clear HW5 HM HC hG hW2 hB1 hB2 hb5 G5 hl hsm hs2
  refine wpIn_rangeFunc_ownH rfl (by decide) (gf := 135) (lb := #[.pointer (some ⟨w.heap.size + 2, 0, none⟩)]) rfl trivial (enters_of Try.func135 (by kernel_rfl) rfl)
    hst KpU.trans (KpU.obj (Nat.le_trans hBw hB5.size)) (Below.refl _ _) (fun _ => rfl)
    (fun pre W => ((MapU B W w.heap.size ((pre.map tU).reverse) ∧ w'.heap.size ≤ W.heap.size) ∧ Blk W (w.heap.size + 1) #[.map (some w.heap.size)] 73) ∧ Below w.heap.size w W)
    (fun cd pre W => False)
    (OwnFrom.and (OwnFrom.and (own_map (by omega) (fun pre : List (PtU B w0) => (pre.map tU).reverse) (Nat.le_trans hBw hB5.size)) (Own.from (own_blk _ _ _) _)) (ownFrom_below (Nat.le_refl _) hB5.size))
    (fun cd _ _ _ _ hs _ _ => hs)
    ⟨⟨⟨M5, Nat.le_refl _⟩, C5⟩, hB5⟩
    (fun y a2 W => ∃ Bx, UBox W Bx y.p.nm (opT y.p.t) (nameT y.p.t) (numT y.p.t) y.a y.n y.c ∧ a2 = { tmps := #[.slice A m c, undef, .map none, .pointer (some ⟨w.heap.size + 1, 0, none⟩), undef, .pointer (some ⟨Bx, 0, none⟩), .map (some w.heap.size), .slice A m c, .func (.func 135) #[] #[.pointer (some ⟨w.heap.size + 2, 0, none⟩)], .int .i64 (y.i : Int), .agg #[.string y.p.nm, .int .i64 (opT y.p.t), .string (nameT y.p.t), .int .i64 (numT y.p.t), .slice y.a y.n y.c], undef, undef, undef, undef, undef, undef], defers := [] })
    (fun x a2 _ X Y row hs hg hr => by obtain ⟨Bx, h2, h3⟩ := hs; exact ⟨Bx, own_blk Bx _ _ () X Y row h2 hg (fun r e => (hr r e).2), h3⟩)
    ?assign ?body ?done ?stop
  case assign =>
    rintro lp pre y W K ⟨⟨⟨hM, hw5⟩, hC⟩, hB⟩ hK
    have hb : Below W.heap.size W (W.alloc (.cells #[.string y.p.nm, .int .i64 (opT y.p.t), .string (nameT y.p.t), .int .i64 (numT y.p.t), .slice y.a y.n y.c] 43)) := bel_alloc (Below.refl _ _) _
    unfold encU
    gi_wp2
    exact hK _ _ (keepsF hb) (KpU.of_below (Nat.le_trans hBw hB.size) hb) ⟨⟨⟨hM.b (Nat.le_trans hBw hB.size) hb, Nat.le_trans hw5 hb.size⟩, Blk.below hC hb⟩, hB.trans (hb.mono hB.size)⟩ ⟨W.heap.size, Blk.new W _ _, rfl⟩
  case body =>
    rintro lp pre y a2 W hl hr ⟨⟨⟨hM, hw5⟩, hC⟩, hB⟩ ⟨Bx, hX, rfl⟩ hlt
    have c0 := Blk.cell hC 0
    obtain ⟨x0, x1, x2, x3, x4⟩ := UBox.five hX
    obtain ⟨W9, hrun, hM9, hg9, hb9⟩ := hM.put hBw (Nat.le_trans hBw hB.size) (by rw [List.length_reverse, List.length_map]; have := HL.out; omega) y.p y.a y.n y.c y.sm (Ar.bel (hb0.trans (hB.mono hBw)) _ y.ok)
    have HF : Hid (KeepsFrom w'.heap.size W W9 ∧ KpU B W W9 ∧ (((MapU B W9 w.heap.size (((pre ++ [y]).map tU).reverse) ∧ w'.heap.size ≤ W9.heap.size) ∧ Blk W9 (w.heap.size + 1) #[.map (some w.heap.size)] 73) ∧ Below w.heap.size w W9)) := Lib.hid (by
      have hgl := hM.lt
      have hb9' : Below w.heap.size W W9 := (Below.refl w.heap.size W).grown hg9 hB.size (fun q hq => by injection hq with hq; omega)
      have hnc : ∀ (k : Nat) (cs : Array Value) (t : TypeId), W.heap[k]? = some (.cells cs t (0, 0)) → W9.heap[k]? = some (.cells cs t (0, 0)) := fun k cs t hk => (hg9.block k (Array.getElem?_eq_some_iff.1 hk).1 (fun e => by
        injection e with e
        subst e
        obtain ⟨n, D, ⟨es, ck, h1, _⟩, _⟩ := hM
        rw [h1] at hk; cases hk)).trans hk
      refine ⟨⟨hg9.size, fun k o h1 h2 h3 => (hg9.block k (Array.getElem?_eq_some_iff.1 h2).1 (fun e => by injection e with e; omega)).trans h2⟩, ⟨hb9, fun k cs h => hnc k cs _ h⟩, ⟨⟨⟨by rw [List.map_append, List.reverse_append]; exact hM9, Nat.le_trans hw5 hg9.size⟩, hnc _ _ _ hC⟩, hB.trans hb9'⟩⟩)
    clear hM hM9 hg9 hb9 hC hX hst
    gi_wp2
    exact HF.out
  case done =>
    rintro D zs W hD hS ⟨⟨⟨hM, hw5⟩, hC⟩, hB⟩ hK
    rw [hS, List.reverse_reverse] at hM
    have c6 := Blk.cell hC 0
    have hB2 := (belowK_b (w := w') (Nat.le_refl _) W D _ (.deferred none) hD hK rfl rfl)
    have hB3 := hB.trans (belowK_b (w := w) (Nat.le_refl _) W D _ (.deferred none) (Nat.le_trans hB5.size hD) hK rfl rfl)
    have hM2 : MapU B (W.putObj D (.deferred none)) w.heap.size l := hM.keep (World.putObj_heap_other (by omega)) (hB2.mono (Nat.le_trans hBw hB5.size))
    have HM2 := Lib.hid hM2
    clear hM hM2
    gi_wp2
    refine ⟨by simp, .inl ⟨_, _, rfl, run_takeDeferred hK, ?_⟩⟩
    exact ⟨_, by simp [results, Try.results65, go_sem], rfl, HM2.out, hB3⟩
  case stop =>
    rintro D cd pre W hD hS hf hK
    exact hf.elim
theorem firsts_any (l : List Pr) (A : Option Addr) (m c : Nat) (w : World) (hsm : ∀ p ∈ l, p.nm.size ≤ maxLen) (hl : l.length < maxLen) (hG : UsW w A m c l) :
    Calls Try.prog 65 #[.slice A m c] w fun e w' => e = .returned (.map (some w.heap.size)) ∧ MapU w.heap.size w' w.heap.size l ∧ Below w.heap.size w w' :=
  callsIn_wide.1 (firsts_in l w.heap.size w A m c w hsm hl hG (Nat.le_refl _) (Below.refl _ _))
theorem firsts_at (l : List Pr) (B : Nat) (w0 : World) (A : Option Addr) (m c : Nat) (w : World) (hsm : ∀ p ∈ l, p.nm.size ≤ maxLen) (hl : l.length < maxLen) (hG : IsU B w0 A m c l) (hBw : B ≤ w.heap.size) (hb0 : Below B w0 w) :
    Calls Try.prog 65 #[.slice A m c] w fun e w' => e = .returned (.map (some w.heap.size)) ∧ MapU B w' w.heap.size l ∧ Below w.heap.size w w' :=
  callsIn_wide.1 (firsts_in l B w0 A m c w hsm hl hG hBw hb0)
end Go.Proofs.Ytnodcpifbcabmaa.U
namespace Go.Proofs.Ytnodcpifbcabmaa.U
open Go.RowKit L T C B
set_option linter.unusedVariables false
set_option linter.unusedSimpArgs false

theorem setCell_same {w : World} {g k : Nat} {v : Value} {cur : Array Value} {t : TypeId} (hg : w.heap[g]? = some (.cells cur t (0, 0))) (hk : cur[k]? = some v) : w.setCell ⟨g, k, none⟩ v = w := by
  have hlt := (Array.getElem?_eq_some_iff.1 hg).1
  have hx : (w.setCell ⟨g, k, none⟩ v).heap = w.heap := by
    refine Array.ext_getElem? fun i => ?_
    by_cases e : i = g
    · subst e
      rw [heap_setCell_same w i k _ _ v hg, hg]
      congr 2
      refine Array.ext_getElem? fun j => ?_
      rw [Array.getElem?_setIfInBounds]
      by_cases e2 : k = j
      · subst e2
        have := (Array.getElem?_eq_some_iff.1 hk).1
        rw [if_pos rfl, if_pos this, hk]
      · rw [if_neg e2]
    · exact heap_setCell_other w ⟨g, k, none⟩ i v e
  unfold World.setCell at hx ⊢
  cases w
  simp only at hx ⊢
  rw [hx]
/-- a row with another term at one place -/
def setT (w : World) (g k : Nat) (o : Int) (s : ByteArray) (z : Int) (a : Option Addr) (n c : Nat) : World := (((w.setCell ⟨g, k * 5 + 1, none⟩ (.int .i64 o)).setCell ⟨g, k * 5 + 2, none⟩ (.string s)).setCell ⟨g, k * 5 + 3, none⟩ (.int .i64 z)).setCell ⟨g, k * 5 + 4, none⟩ (.slice a n c)
theorem setT_size (w : World) (g k : Nat) (o : Int) (s : ByteArray) (z : Int) (a : Option Addr) (n c : Nat) : (setT w g k o s z a n c).heap.size = w.heap.size := by simp [setT, World.setCell]
theorem setT_other (w : World) (g k i : Nat) (o : Int) (s : ByteArray) (z : Int) (a : Option Addr) (n c : Nat) (hne : i ≠ g) : (setT w g k o s z a n c).heap[i]? = w.heap[i]? := by
  unfold setT
  rw [heap_setCell_other _ ⟨g, _, none⟩ i _ hne, heap_setCell_other _ ⟨g, _, none⟩ i _ hne, heap_setCell_other _ ⟨g, _, none⟩ i _ hne, heap_setCell_other _ ⟨g, _, none⟩ i _ hne]
theorem setT_below {B g : Nat} {w0 w : World} (hb : Below B w0 w) (hg : B ≤ g) (k : Nat) (o : Int) (s : ByteArray) (z : Int) (a : Option Addr) (n c : Nat) : Below B w0 (setT w g k o s z a n c) :=
  below_set (below_set (below_set (below_set hb hg _ _) hg _ _) hg _ _) hg _ _
theorem OwnP.setT {w : World} {lo g n c : Nat} {l : List Pr} (h : OwnP w lo (.slice (some ⟨g, 0, none⟩) n c) l) {k : Nat} {p : Pr} (hk : l[k]? = some p) (t : Tm) (a' : Option Addr) (n' c' : Nat) (hA : ArP (fun b => b < w.heap.size ∧ g ≠ b) w t a' n' c') :
    OwnP (setT w g k (opT t) (nameT t) (numT t) a' n' c') lo (.slice (some ⟨g, 0, none⟩) n c) (l.set k ⟨p.nm, t⟩) := by
  obtain ⟨hs, h1, h2, h3⟩ := h
  have hkl := (List.getElem?_eq_some_iff.1 hk).1
  have hks : k < hs.length := by omega
  have hnm : hs[k].nm = p.nm := (h3 k _ p (List.getElem?_eq_getElem hks) hk).1.1
  have ho := h1.set k (huOf ⟨p.nm, t⟩ a' n' c') hks
  have hw : setU w g k (huOf ⟨p.nm, t⟩ a' n' c') = U.setT w g k (opT t) (nameT t) (numT t) a' n' c' := by
    obtain ⟨cur, hg, hl, ht⟩ := h1.row
    have hc : cur[k * 5]? = some (.string p.nm) := by
      have e := flatU_get hs k 0 hks (by omega)
      rw [← ht, List.getElem?_take_of_lt (by omega), Array.getElem?_toList] at e
      rw [← hnm]; exact e
    unfold setU U.setT huOf
    rw [setCell_same hg hc]
  rw [hw] at ho
  refine ⟨_, ho, by rw [List.length_set, List.length_set, h2], fun i hd q e1 e2 => ?_⟩
  have hto : ∀ b, b < w.heap.size ∧ (Value.slice (some ⟨g, 0, none⟩) n c).ownBlock ≠ some b → (U.setT w g k (opT t) (nameT t) (numT t) a' n' c').heap[b]? = w.heap[b]? := fun b hb => setT_other w g k b _ _ _ _ _ _ (fun e => hb.2 (by rw [e]; rfl))
  by_cases e : i = k
  · subst e
    rw [List.getElem?_set_self hks] at e1
    rw [List.getElem?_set_self hkl] at e2
    injection e1 with e1
    injection e2 with e2
    subst e1 e2
    exact ⟨⟨rfl, rfl, rfl, rfl⟩, ArP.to (fun b hb => setT_other w g i b _ _ _ _ _ _ (fun e => hb.2 e.symm)) (fun b hb => ⟨by rw [setT_size]; exact hb.1, fun e => hb.2 (by simpa [Value.ownBlock] using e)⟩) t hA⟩
  · rw [List.getElem?_set_ne (fun x => e x.symm)] at e1 e2
    exact (h3 i hd q e1 e2).to hto (fun b hb => ⟨by rw [setT_size]; exact hb.1, hb.2⟩)
/-- a pair with another list applied to its term -/
def thenB (b : List Pr) (p : Pr) : Pr := ⟨p.nm, sbT (getK b 0) p.t⟩
def mixB (a b : List Pr) (k : Nat) : List Pr := (a.take k).map (thenB b) ++ a.drop k
theorem mixB_len (a b : List Pr) (k : Nat) : (mixB a b k).length = a.length := by
  unfold mixB
  rw [List.length_append, List.length_map, List.length_take, List.length_drop]; omega
theorem mixB_at {a b : List Pr} {k : Nat} {p : Pr} (h : a[k]? = some p) : (mixB a b k)[k]? = some p := by
  have hk := (List.getElem?_eq_some_iff.1 h).1
  unfold mixB
  rw [List.getElem?_append_right (by simp; omega), List.length_map, List.length_take, Nat.min_eq_left (by omega), Nat.sub_self, List.getElem?_drop, Nat.add_zero, h]
theorem mixB_step {a b : List Pr} {k : Nat} {p : Pr} (h : a[k]? = some p) : (mixB a b k).set k (thenB b p) = mixB a b (k + 1) := by
  have hk := (List.getElem?_eq_some_iff.1 h).1
  unfold mixB
  rw [List.set_append_right _ _ (by simp; omega), drop_u h, List.length_map, List.length_take, Nat.min_eq_left (by omega), Nat.sub_self, List.set_cons_zero, List.take_add_one, h, List.map_append, List.append_assoc]
  rfl
set_option maxRecDepth 100000 in
set_option maxHeartbeats 8000000 in
theorem Then_inc (a b : List Pr) (ha : incU a) (hi : incU (a.map (thenB b) ++ b)) (hsa : smU a) (hza : ∀ p ∈ a, size p.t ≤ 1000000) (hsb : smU b) (hzb : ∀ p ∈ b, 1 + size p.t ≤ 1000000) (A : Option Addr) (n c : Nat) (A' : Option Addr) (n' c' : Nat) (w : World) (hn : n + n' < 20) (hG : UsW w A n c a) (hG' : UsW w A' n' c' b) :
    Calls Try.prog 32 #[.slice A n c, .slice A' n' c'] w fun e w' => ∃ A2 C2, e = .returned (.slice A2 (n + n') C2) ∧ UsW w' A2 (n + n') C2 (a.map (thenB b) ++ b) ∧ Below w.heap.size w w' := by
  have hna : n = a.length := hG.1
  have hnb : n' = b.length := hG'.1
  have cO := orderedU_inc a ha A n c w hG (by omega)
  have HF := Lib.hid (show ∀ w', Below w.heap.size w w' → _ from fun w' h => firsts_at b w.heap.size w A' n' c' w' (fun p hp => (hsb p hp).2) (by unfold maxLen; omega) hG' h.size h)
  have HIn := Lib.hid (show ∀ (p : Pr) (k : Nat), a[k]? = some p → InOk b 0 p.t ∧ smT p.t ∧ size p.t ≤ 1000000 from fun p k h => ⟨inTerm_any b hzb 0 p.t, (hsa p (List.mem_of_getElem? h)).1, hza p (List.mem_of_getElem? h)⟩)
  have HCp := Lib.hid (show ∀ w', Below w.heap.size w w' → _ from fun w' h => copied_any b (fun p hp => by have := hzb p hp; omega) A' n' c' w' (by omega) (hG'.b h))
  have HO2 := Lib.hid (show ∀ (A3 : Option Addr) (C3 : Nat) (w' : World), UsW w' A3 (n + n') C3 (a.map (thenB b) ++ b) → _ from fun A3 C3 w' h => orderedU_inc _ hi A3 (n + n') C3 w' h hn)
  have HNa := Lib.hid hna
  have HNb := Lib.hid hnb
  have hend : mixB a b n = a.map (thenB b) := by unfold mixB; rw [List.take_of_length_le (by omega), List.drop_eq_nil_of_le (by omega), List.append_nil]
  have hst : mixB a b 0 = a := by unfold mixB; rw [List.take_zero]; rfl
  have HEnd := Lib.hid hend
  have HSt := Lib.hid hst
  clear hG hG' ha hi hsa hza hsb hzb hna hnb hend hst
  go_enter Try.func32, Try.ntmps32
  go_wp2_with (first
    | (go_at_call 64; ((with_reducible refine cO.mono ?_); rintro e w1 ⟨A1, C1, rfl, ho, hb1⟩; have HO := Lib.hid ho; clear ho))
    | (go_at_call 65; ((with_reducible refine (HF.out w1 hb1).mono ?_); rintro e w2 ⟨rfl, hM, hb2⟩; have HM := Lib.hid hM; clear hM)))
  have H0 : Hid (OwnP w2 w.heap.size (.slice A1 n C1) (mixB a b 0) ∧ MapU w.heap.size w2 w1.heap.size b) := Lib.hid ⟨by rw [HSt.out]; exact HO.out.below hb2, HM.out⟩
  have hB2 := bel_trans hb1 hb2
  have hs1 := hb1.size
  have hs2 := HM.out.lt
  go_loopw [15] (fun i wr0 => ∃ (wr : World) (k : Nat), wr = wr0 ∧ k ≤ n ∧ i = .int .i64 k ∧ Below w.heap.size w wr ∧ Hid (OwnP wr w.heap.size (.slice A1 n C1) (mixB a b k) ∧ MapU w.heap.size wr w1.heap.size b ∧ (∀ g, A1 = some ⟨g, 0, none⟩ → g < w1.heap.size))) (fun i _ => n - (intOf i).toNat)
  case atStart => exact ⟨_, 0, rfl, by omega, rfl, hB2, Lib.hid ⟨H0.out.1, H0.out.2, fun g hg => by subst hg; exact (HO.out.lt g rfl).2⟩⟩
  case round =>
    obtain ⟨wr, k, rfl, hk, rfl, hB, hR⟩ := hrel
    by_cases hlt : k < n
    · have hka : k < a.length := by rw [← HNa.out]; exact hlt
      obtain ⟨p, hp⟩ : ∃ p, a[k]? = some p := ⟨_, List.getElem?_eq_getElem hka⟩
      obtain ⟨bb, o, p', a', m', c'', hA1, hbb, y0, y1, y2, y3, y4, hp', hok⟩ := (hR.out.1.us).at hlt
      rw [mixB_at hp] at hp'
      injection hp' with hp'
      subst hp'
      obtain ⟨A0, c0, hv, _, _, _, hpos⟩ := hR.out.1.slice
      obtain ⟨g, hA0, hg1, hg2⟩ := hpos (by rw [mixB_len]; omega)
      injection hv with hv1 hv2 hv3
      rw [← hv1, hA1] at hA0
      injection hA0 with hA0
      injection hA0 with e1 e2
      subst e1 e2 hA1
      have hgm := hR.out.2.2 bb rfl
      rw [Nat.zero_add] at y0 y1 y2 y3 y4
      obtain ⟨W4, hW4, hB4, hs4, S4⟩ := ubox1 wr p.nm (opT p.t) (nameT p.t) (numT p.t) a' m' c''
      obtain ⟨hin, hsm, hsz⟩ := HIn.out p k hp
      have cc := hin w.heap.size w1.heap.size a' m' c'' W4 (hR.out.2.1.b hB.size hB4) (Nat.le_trans hB.size hB4.size) hsm hsz (ArW.b hok hB4)
      unfold RtT at cc
      obtain ⟨f0, f1, f2, f3, f4⟩ := S4.five
      have HGo := Lib.hid (show ∀ (w5 : World) (a5 : Option Addr) (n5 c5 : Nat), Below W4.heap.size W4 w5 → ArP (Nw 0 0 W4.heap.size w5.heap.size) w5 (sbT (getK b 0) p.t) a5 n5 c5 →
          (∃ u0 u1 u2 u3 : Value, w5.cell? ⟨bb, k * 5 + 1, none⟩ = some u0 ∧ w5.cell? ⟨bb, k * 5 + 1 + 1, none⟩ = some u1 ∧ w5.cell? ⟨bb, k * 5 + 1 + 1 + 1, none⟩ = some u2 ∧ w5.cell? ⟨bb, k * 5 + 1 + 1 + 1 + 1, none⟩ = some u3) ∧ (∀ j, w5.frozen? ⟨bb, j, none⟩ = false) ∧
          Below w.heap.size w (setT w5 bb k (opT (sbT (getK b 0) p.t)) (nameT (sbT (getK b 0) p.t)) (numT (sbT (getK b 0) p.t)) a5 n5 c5) ∧ Hid (OwnP (setT w5 bb k (opT (sbT (getK b 0) p.t)) (nameT (sbT (getK b 0) p.t)) (numT (sbT (getK b 0) p.t)) a5 n5 c5) w.heap.size (.slice (some ⟨bb, 0, none⟩) n C1) (mixB a b (k + 1)) ∧ MapU w.heap.size (setT w5 bb k (opT (sbT (getK b 0) p.t)) (nameT (sbT (getK b 0) p.t)) (numT (sbT (getK b 0) p.t)) a5 n5 c5) w1.heap.size b ∧ (∀ g, (some ⟨bb, 0, none⟩ : Option Addr) = some ⟨g, 0, none⟩ → g < w1.heap.size)) from fun w5 a5 n5 c5 h5 hA5 => by
        have b5 := bel_trans hB4 h5
        have ho5 := hR.out.1.below b5
        have hrow : ∃ hs, OwnU w5 w.heap.size (.slice (some ⟨bb, 0, none⟩) n C1) hs ∧ hs.length = (mixB a b k).length := by obtain ⟨hs, q1, q2, _⟩ := ho5; exact ⟨hs, q1, q2⟩
        obtain ⟨hs, q1, q2⟩ := hrow
        rw [mixB_len] at q2
        obtain ⟨cur, hg0, hl0, ht0⟩ := q1.row
        have hcell : ∀ j, j < 5 → ∃ u, w5.cell? ⟨bb, k * 5 + j, none⟩ = some u := fun j hj => ⟨_, by rw [cell_of_row w5 bb _ _ _ _ hg0]; exact Array.getElem?_eq_getElem (by omega)⟩
        obtain ⟨u0, k0⟩ := hcell 1 (by omega)
        obtain ⟨u1, k1⟩ := hcell 2 (by omega)
        obtain ⟨u2, k2⟩ := hcell 3 (by omega)
        obtain ⟨u3, k3⟩ := hcell 4 (by omega)
        refine ⟨⟨u0, u1, u2, u3, k0, k1, k2, k3⟩, fun j => q1.row.free j, setT_below (bel_trans (bel_trans hB hB4) h5) hg1 k _ _ _ _ _ _, Lib.hid ⟨?_, ?_, hR.out.2.2⟩⟩
        · have := ho5.setT (mixB_at hp) (sbT (getK b 0) p.t) a5 n5 c5 (ArP.to (fun _ _ => rfl) (fun x hx => by have := hB4.size; unfold Nw at hx; omega) _ hA5)
          rw [← mixB_step hp]
          exact this
        · exact (((hR.out.2.1.b hB.size hB4).b (Nat.le_trans hB.size hB4.size) h5).keep (setT_other w5 bb k w1.heap.size _ _ _ _ _ _ (by omega)) (setT_below (Below.refl _ _) hg1 k _ _ _ _ _ _)))
      unfold setT at HGo
      clear hp hok hR S4 hs4 hpos hsm hsz hin hv1 hv2 hv3
      generalize sbT (getK b 0) p.t = r at *
      generalize opT p.t = op' at *
      generalize nameT p.t = nm' at *
      generalize numT p.t = nu' at *
      generalize p.nm = xn at *
      have hk0 : 0 ≤ (k : Int) := by omega
      have hk1 : (k : Int) < (n : Int) := by omega
      go_wp2_with (go_at_call 66; ((with_reducible refine cc.mono ?_); rintro e w5 ⟨a5, n5, c5, rfl, hF, hb5⟩; obtain ⟨⟨u0, u1, u2, u3, q0, q1, q2, q3⟩, hfz, hBn, Hn⟩ := HGo.out w5 a5 n5 c5 hb5 hF; have g0 := hfz (k * 5 + 1); have g1 := hfz (k * 5 + 1 + 1); have g2 := hfz (k * 5 + 1 + 1 + 1); have g3 := hfz (k * 5 + 1 + 1 + 1 + 1); clear hF hfz))
      go_roundw
      case rel => exact ⟨_, k + 1, rfl, by omega, by go_num, hBn, Hn⟩
      case measure => simp [intOf]; omega
    · obtain rfl : k = n := by omega
      obtain ⟨ho, hM, hgl⟩ := hR.out
      rw [HEnd.out] at ho
      have HOw := Lib.hid ho
      have cCp := HCp.out wr hB
      have hlen : (a.map (thenB b)).length + b.length ≤ 1000000000 := by rw [List.length_map, ← HNa.out, ← HNb.out]; omega
      have HLen := Lib.hid (show (a.map (thenB b) ++ b).length = k + n' by rw [List.length_append, List.length_map, ← HNa.out, ← HNb.out])
      have hown : ∀ q, (Value.slice A1 k C1).ownBlock = some q → q < wr.heap.size := fun q hq => (ho.lt q hq).2
      have hbs := hB.size
      clear hR ho hM hgl HF HIn HCp
      go_wp2_with (first
        | (go_at_call 59; ((with_reducible refine cCp.mono ?_); rintro e w6 ⟨A6, C6, rfl, -, hU6, hb6⟩; have HU6 := Lib.hid hU6; clear hU6))
        | (at_builtin; ((refine app_pairs rfl (.tmp 29) (.tmp 31) rfl w.heap.size _ (a.map (thenB b)) rfl (HOw.out.below hb6) _ (fun x hx => ⟨hx.2, fun e => by have := hown x e; have := hx.1; omega⟩) _ _ _ b rfl HU6.out hlen (Nat.le_trans hbs hb6.size) ?_); intro v7 w7 ho7 hg7; have hb7 : Below w.heap.size w6 w7 := (Below.refl _ w6).grown hg7 (Nat.le_trans hbs hb6.size) (fun q hq => (HOw.out.lt q hq).1); obtain ⟨A7, C7, hv7, -⟩ := ho7.slice; rw [HLen.out] at hv7; subst hv7; have hB7 := (hB.trans (hb6.mono hbs)).trans hb7; have cO7 := HO2.out A7 C7 w7 ho7.us; clear ho7))
        | (go_at_call 64; ((with_reducible refine cO7.mono ?_); rintro e w8 ⟨A8, C8, rfl, ho8, hb8⟩; have HO8 := Lib.hid ho8; clear ho8)))
      go_ret
      exact ⟨_, _, rfl, HO8.out.us, hB7.trans (hb8.mono hB7.size)⟩
end Go.Proofs.Ytnodcpifbcabmaa.U
namespace Go.Proofs.Ytnodcpifbcabmaa.U
open Go.RowKit L T C B
set_option linter.unusedVariables false
set_option linter.unusedSimpArgs false

theorem rtT_up {r : Tm} {w w1 w' : World} {e : Ending} (h : RtT r w1 e w') (hb : Below w.heap.size w w1) : RtT r w e w' := by
  obtain ⟨a, n, c, e1, hA, hb1⟩ := h
  exact ⟨a, n, c, e1, ArP.to (fun _ _ => rfl) (fun b hq => by have := hb.size; unfold Nw at hq ⊢; omega) r hA, bel_trans hb hb1⟩
set_option maxRecDepth 100000 in
theorem Apply_any (l : List Pr) (hu : ∀ p ∈ l, 1 + size p.t ≤ 1000000) (hsu : ∀ p ∈ l, p.nm.size ≤ maxLen) (hl : l.length < maxLen) (t : Tm) (hst : smT t) (hsz : size t ≤ 1000000) (A : Option Addr) (m d : Nat) (a : Option Addr) (n c : Nat) (w : World) (hG : UsW w A m d l) (hA : ArW w t a n c) :
    Calls Try.prog 55 #[.slice A m d, .agg #[.int .i64 (opT t), .string (nameT t), .int .i64 (numT t), .slice a n c]] w fun e w' => RtT (sbT (getK l 0) t) w e w' := by
  obtain ⟨W2, hW2, hB2, hs2, S2, R2⟩ := box_res w (opT t) (nameT t) (numT t) a n c
  have hs : w.heap.size + 2 = W2.heap.size := hs2.symm
  have cF := fun (w' : World) (h : Below W2.heap.size W2 w') => firsts_any l A m d w' hsu hl (UsW.b (UsW.b hG hB2) h)
  have cI := fun (w2 : World) (B g : Nat) (hM : MapU B w2 g l) (hBl : B ≤ w2.heap.size) (hb : Below W2.heap.size W2 w2) => inTerm_any l hu 0 t B g a n c w2 hM hBl hst hsz (ArW.b (ArW.b hA hB2) hb)
  have HFin := Lib.hid (show ∀ (r : Tm) (W5 w3 : World) (a3 : Option Addr) (n3 c3 : Nat), Below W2.heap.size W2 W5 → ArP (Nw 0 0 W5.heap.size w3.heap.size) w3 r a3 n3 c3 → Below W5.heap.size W5 w3 → ∀ v0 v1 v2 v3, RtT r w (.returned (.agg #[.int .i64 (opT r), .string (nameT r), .int .i64 (numT r), .slice a3 n3 c3])) ((((w3.setCell ⟨w.heap.size + 1, 0, none⟩ v0).setCell ⟨w.heap.size + 1, 1, none⟩ v1).setCell ⟨w.heap.size + 1, 2, none⟩ v2).setCell ⟨w.heap.size + 1, 3, none⟩ v3) from fun r W5 w3 a3 n3 c3 h5 h1 h2 v0 v1 v2 v3 => rt_put (bel_trans hB2 h5) (by omega) (by have := h5.size; omega) h1 h2 v0 v1 v2 v3)
  have l0 : w.heap.size < W2.heap.size := by omega
  obtain ⟨s0, s1, s2, s3⟩ := S2.four
  have HR := Lib.hid R2
  have hBd : Below W2.heap.size W2 W2.drew := (Below.refl _ _).drew
  clear hG hA hst hsz hu hsu hl S2 R2 hs2 hs
  unfold RtT at cI
  generalize sbT (getK l 0) t = r at *
  generalize opT t = op at *
  generalize nameT t = nm at *
  generalize numT t = nu at *
  go_enter Try.func55, Try.ntmps55
  go_wp2_with fail
  go_region_held3 (fun w' => w'.cell? ⟨w.heap.size, 0, none⟩ = some (.int .i64 op) ∧ w'.cell? ⟨w.heap.size, 1, none⟩ = some (.string nm) ∧ w'.cell? ⟨w.heap.size, 2, none⟩ = some (.int .i64 nu) ∧ w'.cell? ⟨w.heap.size, 3, none⟩ = some (.slice a n c))
    (first | go_keep | (exact ⟨(Bn.cell l0).trans s0, (Bn.cell l0).trans s1, (Bn.cell l0).trans s2, (Bn.cell l0).trans s3⟩))
    (first
      | (go_at_call 65; ((with_reducible refine (cF _ hBd).mono ?_); rintro e w4 ⟨rfl, hM4, hb4⟩; have Bn := bel_trans hBd hb4; have HM4 := Lib.hid hM4; clear hM4; have cI4 := cI w4 W2.heap.size W2.heap.size HM4.out (by have := hb4.size; exact this) Bn))
      | (go_at_call 66; ((with_reducible refine cI4.mono ?_); rintro e w5 ⟨a3, n3, c3, rfl, hF, hb5⟩; have Hn := Lib.hid (HFin.out r w4 w5 a3 n3 c3 Bn hF hb5); clear hF; have Bn := bel_trans Bn hb5; have R3 := TBox.b HR.out Bn; obtain ⟨r0, r1, r2, r3⟩ := R3.free; obtain ⟨v0, v1, v2, v3⟩ := R3.four; have F3 := TBox.put R3 (opT r) (nameT r) (numT r) a3 n3 c3; obtain ⟨x0, x1, x2, x3⟩ := F3.four)))
  all_goals
    go_wp2
    simp [bodyPost, results, Try.results55, go_sem, x0, x1, x2, x3]
    exact Hn.out _ _ _ _
end Go.Proofs.Ytnodcpifbcabmaa.U
namespace Go.Proofs.Ytnodcpifbcabmaa.U
open Go.RowKit L T C B
set_option linter.unusedVariables false
set_option linter.unusedSimpArgs false

def gx : Tm := .mk 1 ⟨#[120]⟩ 0 []
def gy : Tm := .mk 1 ⟨#[121]⟩ 0 []
def gc : Tm := .mk 3 ⟨#[99]⟩ 0 []
def gA : List Pr := [⟨⟨#[120]⟩, gy⟩]
def gB : List Pr := [⟨⟨#[121]⟩, gc⟩]
def gL : List Pr := [⟨⟨#[120]⟩, gc⟩, ⟨⟨#[121]⟩, gc⟩]
theorem g_cmp : cmpN ⟨#[121]⟩ ⟨#[120]⟩ = 1 := by unfold cmpN; rw [ByteArray.toList_eq, ByteArray.toList_eq]; rfl
theorem g_get1 : getU gB ⟨#[121]⟩ = some gc := by unfold gB; rw [getU, if_pos (eqS_iff.2 rfl)]
theorem g_get2 : getU gL ⟨#[120]⟩ = some gc := by unfold gL; rw [getU, if_pos (eqS_iff.2 rfl)]
theorem g_wk : wk (fLift 0 0) 0 gc = gc := by unfold gc; rw [wk]; rfl
theorem g_sb1 : sbT (getK gB 0) gy = gc := sbT_put rfl (by unfold getK; show (getU gB ⟨#[121]⟩).map _ = _; rw [g_get1]; exact congrArg some g_wk)
theorem g_sb2 : sbT (getK gL 0) gx = gc := sbT_put rfl (by unfold getK; show (getU gL ⟨#[120]⟩).map _ = _; rw [g_get2]; exact congrArg some g_wk)
theorem g_then : gA.map (thenB gB) ++ gB = gL := by
  show [thenB gB ⟨⟨#[120]⟩, gy⟩] ++ gB = gL
  unfold thenB
  show [(⟨⟨#[120]⟩, sbT (getK gB 0) gy⟩ : Pr)] ++ gB = gL
  rw [g_sb1]; rfl
theorem g_incA : incU gA := fun k p q h1 h2 => by simp [gA] at h2
theorem g_incL : incU gL := fun k p q h1 h2 => by
  cases k with
  | zero =>
    simp only [gL, List.getElem?_cons_zero, Option.some.injEq, List.getElem?_cons_succ] at h1 h2
    subst h1 h2
    exact g_cmp
  | succ k => simp [gL] at h2
theorem g_right : rgU none gL = 0 := by
  have r : rightE gc = 0 := rfl
  unfold gL
  rw [rgU, rgU, rgU, if_neg (by rw [r]; simp), if_neg (by simp [badN]), if_neg (by rw [r]; simp), if_neg (by simp [badN, g_cmp])]
theorem g_leaf {B : Nat} {w : World} {a : Option Addr} {n c : Nat} (h : Ar B w gc a n c) : ∀ w', ArW w' gc a n c := fun w' => by
  unfold gc at h ⊢
  unfold ArW
  rw [Ar] at h ⊢
  exact ⟨h.1, h.2.1, h.2.2.1, h.2.2.2.1, fun hn => absurd hn (by have := h.1; simp at this; omega)⟩
theorem g_ar (o : Int) (s : ByteArray) (z : Int) (B : Nat) (w : World) : Ar B w (.mk o s z []) none 0 0 := by
  rw [Ar]; exact ⟨rfl, Nat.le_refl _, Nat.zero_le _, fun _ => rfl, fun h => absurd h (by omega)⟩
theorem g_sm (o : Int) (s : ByteArray) (z : Int) (h : s.size ≤ maxLen) : smT (.mk o s z []) := by rw [smT]; exact ⟨h, trivial⟩
theorem one_us {w : World} {g : Nat} {p : Pr} (h : UBox w g p.nm (opT p.t) (nameT p.t) (numT p.t) none 0 0) (ha : Ar w.heap.size w p.t none 0 0) : UsW w (some ⟨g, 0, none⟩) 1 1 [p] := by
  obtain ⟨c0, c1, c2, c3, c4⟩ := h.five
  refine ⟨rfl, Nat.le_refl _, by unfold maxLen; omega, (fun h => by cases h), fun _ => ⟨g, 0, rfl, Blk.lt h, fun i q hi => ?_⟩⟩
  cases i with
  | zero =>
    simp only [List.getElem?_cons_zero, Option.some.injEq] at hi
    subst hi
    exact ⟨none, 0, 0, c0, c1, c2, c3, c4, ha⟩
  | succ i => simp at hi
/-- the example in memory -/
theorem g_mem (w : World) : ∃ W, ((((w.alloc (.cells #[.int .i64 1, .string ⟨#[120]⟩, .int .i64 0, .slice none 0 0] 24)).alloc (.cells #[.int .i64 1, .string ⟨#[121]⟩, .int .i64 0, .slice none 0 0] 24)).alloc (.cells #[.int .i64 3, .string ⟨#[99]⟩, .int .i64 0, .slice none 0 0] 24)).alloc (.cells #[.string ⟨#[120]⟩, .int .i64 1, .string ⟨#[121]⟩, .int .i64 0, .slice none 0 0] 43)).alloc (.cells #[.string ⟨#[121]⟩, .int .i64 3, .string ⟨#[99]⟩, .int .i64 0, .slice none 0 0] 43) = W ∧ Below w.heap.size w W ∧ W.heap.size = w.heap.size + 5 ∧
    TBox W w.heap.size 1 ⟨#[120]⟩ 0 none 0 0 ∧ TBox W (w.heap.size + 2) 3 ⟨#[99]⟩ 0 none 0 0 ∧ UBox W (w.heap.size + 3) ⟨#[120]⟩ 1 ⟨#[121]⟩ 0 none 0 0 ∧ UBox W (w.heap.size + 4) ⟨#[121]⟩ 3 ⟨#[99]⟩ 0 none 0 0 := by
  obtain ⟨W3, h3, hb3, hs3, t1, t2, t3⟩ := box3 w 1 ⟨#[120]⟩ 0 none 0 0 1 ⟨#[121]⟩ 0 none 0 0 3 ⟨#[99]⟩ 0 none 0 0
  rw [h3]
  obtain ⟨W5, h5, hb5, hs5, u1, u2⟩ := ubox2 W3 ⟨#[120]⟩ 1 ⟨#[121]⟩ 0 none 0 0 ⟨#[121]⟩ 3 ⟨#[99]⟩ 0 none 0 0
  rw [h5]
  rw [hs3] at u1 u2
  exact ⟨W5, rfl, bel_trans hb3 hb5, by omega, TBox.b t1 hb5, TBox.b t3 hb5, u1, u2⟩
set_option maxRecDepth 100000 in
set_option maxHeartbeats 8000000 in
theorem goes_any (w : World) : Calls Try.prog 24 #[] w fun e w' => e = .returned (.bool true) ∧ Below w.heap.size w w' := by
  obtain ⟨W, hW, hB, hs, X, Cc, P, Q⟩ := g_mem w
  have uA : UsW W (some ⟨w.heap.size + 3, 0, none⟩) 1 1 gA := one_us (p := ⟨⟨#[120]⟩, gy⟩) P (g_ar _ _ _ _ _)
  have uB : UsW W (some ⟨w.heap.size + 4, 0, none⟩) 1 1 gB := one_us (p := ⟨⟨#[121]⟩, gc⟩) Q (g_ar _ _ _ _ _)
  have hm : ∀ b : UInt8, (⟨#[b]⟩ : ByteArray).size ≤ maxLen := fun b => by unfold maxLen; show 1 ≤ _; omega
  have cT := Then_inc gA gB g_incA (by rw [g_then]; exact g_incL) (fun p hp => by simp [gA] at hp; subst hp; exact ⟨g_sm _ _ _ (hm _), hm _⟩) (fun p hp => by simp [gA] at hp; subst hp; exact (by decide : (1 : Nat) ≤ 1000000)) (fun p hp => by simp [gB] at hp; subst hp; exact ⟨g_sm _ _ _ (hm _), hm _⟩) (fun p hp => by simp [gB] at hp; subst hp; exact (by decide : (2 : Nat) ≤ 1000000)) (some ⟨w.heap.size + 3, 0, none⟩) 1 1 (some ⟨w.heap.size + 4, 0, none⟩) 1 1 W (by omega) uA uB
  rw [g_then] at cT
  have hzL : ∀ p ∈ gL, 1 + size p.t ≤ 1000000 := fun p hp => by simp [gL] at hp; rcases hp with rfl | rfl <;> exact (by decide : (2 : Nat) ≤ 1000000)
  have hnL : ∀ p ∈ gL, p.nm.size ≤ maxLen := fun p hp => by simp [gL] at hp; rcases hp with rfl | rfl <;> exact hm _
  have cA := fun (A2 : Option Addr) (C2 : Nat) (w' : World) (h : UsW w' A2 2 C2 gL) => Apply_any gL hzL hnL (by unfold maxLen; show 2 < _; omega) gx (g_sm _ _ _ (hm _)) (by decide : (1 : Nat) ≤ 1000000) A2 2 C2 none 0 0 w' h (g_ar _ _ _ _ _)
  have cR := fun (A2 : Option Addr) (C2 : Nat) (w' : World) (h : UsW w' A2 2 C2 gL) => RightU_few gL (fun p hp => by simp [gL] at hp; rcases hp with rfl | rfl <;> exact (by decide : (1 : Nat) ≤ 4096)) A2 2 C2 w' h
  rw [g_sb2] at cA
  rw [g_right] at cR
  unfold RtT at cA
  have cE := fun (a : Option Addr) (n c : Nat) (w' : World) (h : ArW w' gc a n c) => Term_any gc gc a n c none 0 0 w' h (g_ar _ _ _ _ _)
  have hee : eqT gc gc = true := eqT_iff.2 rfl
  rw [hee] at cE
  simp only [show opT gc = 3 from rfl, show nameT gc = ⟨#[99]⟩ from rfl, show numT gc = 0 from rfl, show opT gx = 1 from rfl, show nameT gx = ⟨#[120]⟩ from rfl, show numT gx = 0 from rfl] at cA cE
  have HX := Lib.hid X
  have HCc := Lib.hid Cc
  have HcA := Lib.hid cA
  have HcR := Lib.hid cR
  have hB1 := hB
  obtain ⟨x0, x1, x2, x3⟩ := X.four
  obtain ⟨k0, k1, k2, k3⟩ := Cc.four
  clear X Cc P Q uA uB hee hs cA cR
  go_enter Try.func24, Try.ntmps24
  go_wp2_with (go_at_call 32; ((with_reducible refine cT.mono ?_); rintro e w1 ⟨A2, C2, rfl, hU, hb1⟩; have HU := Lib.hid hU; clear hU))
  obtain ⟨bb, o, p, a', n', c', rfl, hbb, y0, y1, y2, y3, y4, hp, hok⟩ := HU.out.at (show 0 < 1 + 1 by omega)
  simp only [gL, List.getElem?_cons_zero, Option.some.injEq] at hp
  subst hp
  have hA0 := g_leaf hok
  rw [Nat.zero_mul, Nat.add_zero] at y1 y2 y3 y4
  simp only [show opT gc = 3 from rfl, show nameT gc = ⟨#[99]⟩ from rfl, show numT gc = 0 from rfl] at y1 y2 y3 y4
  have hBd : Below w1.heap.size w1 w1.drew := (Below.refl _ _).drew
  have TX := TBox.b HX.out hb1
  have TC := TBox.b HCc.out hb1
  have lX := Blk.lt TX
  have lC := Blk.lt TC
  obtain ⟨x0, x1, x2, x3⟩ := TX.four
  obtain ⟨k0, k1, k2, k3⟩ := TC.four
  have cA1 := fun (w' : World) (h : Below w1.heap.size w1 w') => HcA.out (some ⟨bb, o, none⟩) C2 w' (HU.out.b h)
  have cR1 := fun (w' : World) (h : Below w1.heap.size w1 w') => HcR.out (some ⟨bb, o, none⟩) C2 w' (HU.out.b h)
  have cE1 := fun (w' : World) => cE a' n' c' w' (hA0 w')
  clear TX TC hok y0
  go_region_held3 (fun w' => w'.cell? ⟨w.heap.size, 0, none⟩ = some (.int .i64 1) ∧ w'.cell? ⟨w.heap.size, 1, none⟩ = some (.string ⟨#[120]⟩) ∧ w'.cell? ⟨w.heap.size, 2, none⟩ = some (.int .i64 0) ∧ w'.cell? ⟨w.heap.size, 3, none⟩ = some (.slice none 0 0) ∧ w'.cell? ⟨w.heap.size + 2, 0, none⟩ = some (.int .i64 3) ∧ w'.cell? ⟨w.heap.size + 2, 1, none⟩ = some (.string ⟨#[99]⟩) ∧ w'.cell? ⟨w.heap.size + 2, 2, none⟩ = some (.int .i64 0) ∧ w'.cell? ⟨w.heap.size + 2, 3, none⟩ = some (.slice none 0 0) ∧ w'.cell? ⟨bb, o + 1, none⟩ = some (.int .i64 3) ∧ w'.cell? ⟨bb, o + 1 + 1, none⟩ = some (.string ⟨#[99]⟩) ∧ w'.cell? ⟨bb, o + 1 + 1 + 1, none⟩ = some (.int .i64 0) ∧ w'.cell? ⟨bb, o + 1 + 1 + 1 + 1, none⟩ = some (.slice a' n' c'))
    (first | (exact ⟨(Bz.cell lX).trans x0, (Bz.cell lX).trans x1, (Bz.cell lX).trans x2, (Bz.cell lX).trans x3, (Bz.cell lC).trans k0, (Bz.cell lC).trans k1, (Bz.cell lC).trans k2, (Bz.cell lC).trans k3, (Bz.cell hbb).trans y1, (Bz.cell hbb).trans y2, (Bz.cell hbb).trans y3, (Bz.cell hbb).trans y4⟩) | go_keep)
    (first
      | (go_at_call 28; (first | ((with_reducible refine (cE1 _).mono ?_); rintro e w4 ⟨rfl, hb4⟩; have Bz := bel_trans (a := w1) (by assumption) hb4) | ((with_reducible refine (cE2 _).mono ?_); rintro e w4 ⟨rfl, hb4⟩; have Bz := bel_trans (a := w1) (by assumption) hb4)))
      | (go_at_call 55; ((with_reducible refine (cA1 _ (by assumption)).mono ?_); rintro e w5 ⟨a3, n3, c3, rfl, hF, hb5⟩; have Bz := bel_trans (a := w1) (by assumption) hb5; have hA3 := g_leaf (ArP.ar (B := w5.heap.size) (fun b hb => by unfold Nw at hb; omega) _ hF); have cE2 := fun (w' : World) => cE a3 n3 c3 w' (hA3 w'); clear hF))
      | (go_at_call 29; ((with_reducible refine (cR1 _ (by assumption)).mono ?_); rintro e w6 ⟨rfl, hb6⟩; have Bz := bel_trans (a := w1) (by assumption) hb6)))
  all_goals go_wp2
  all_goals go_ret
  all_goals exact ⟨rfl, bel_trans hB1 (bel_trans hb1 Bz)⟩
end Go.Proofs.Ytnodcpifbcabmaa.U
