/-
  What is proved: the library's Backward over a list of claims: each with its place, from the last to the first, is handed to the round of a loop.
-/
import Derived.Test.YtjjoebijkcmgiaaGreatZClmV
namespace Go.Proofs.YtjjoebijkcmgiaaGreat.C
open Go.RowKit Go.Shelf L T
set_option linter.unusedVariables false
set_option linter.unusedSimpArgs false
attribute [local go_sem] Oper.semAt_some

/-! what a round keeps: what lay below n0, and every block that holds a list -/
def KeepS (W W' : World) : Prop := ∀ (k : Nat) (cs : Array Value), W.heap[k]? = some (.cells cs 23 (0, 0)) → W'.heap[k]? = some (.cells cs 23 (0, 0))
def KpS (n0 : Nat) (W W' : World) : Prop := Below n0 W W' ∧ KeepS W W'
theorem KpS.refl (n0 : Nat) (W : World) : KpS n0 W W := ⟨Below.refl _ _, fun k cs h => h⟩
theorem KpS.trans {n0 : Nat} {A B C : World} (h : KpS n0 A B) (k : KpS n0 B C) : KpS n0 A C := ⟨h.1.trans k.1, fun i cs h0 => k.2 i cs (h.2 i cs h0)⟩
theorem KpS.of_below {n0 : Nat} {W W' : World} (hn : n0 ≤ W.heap.size) (h : Below W.heap.size W W') : KpS n0 W W' := ⟨h.mono hn, fun k cs h0 => (h.block k (Array.getElem?_eq_some_iff.1 h0).1).trans h0⟩
theorem KpS.obj {n0 : Nat} {w : World} (hn : n0 ≤ w.heap.size) (W : World) (l : Nat) (o o' : Obj) (hl : w.heap.size ≤ l) (h : W.heap[l]? = some o) (h1 : o.isCells = false) (h2 : o.isWalk = false) : KpS n0 W (W.putObj l o') :=
  ⟨belowK_b hn W l o o' hl h h1 h2, fun k cs h0 => (World.putObj_heap_other (fun e => by subst e; rw [h] at h0; cases h0; cases h1)).trans h0⟩
structure PtI (B : Nat) (w0 : World) where
  i : Nat
  x : PtC B w0
  sz : wt x.t ≤ 1000000
def encI {B : Nat} {w0 : World} (y : PtI B w0) : Array Value := #[.int .i64 (y.i : Int), .agg #[.int .i64 (opC y.x.t), .string (nmC y.x.t), .string (soC y.x.t), .slice y.x.k.a y.x.k.n y.x.k.c, .slice y.x.a y.x.n y.x.c]]
def tI {B : Nat} {w0 : World} (y : PtI B w0) : Cl := y.x.t
theorem drop_rev {l : List Cl} {k : Nat} {x : Cl} (h : l[k]? = some x) : (l.drop k).reverse = (l.drop (k + 1)).reverse ++ [x] := by
  rw [drop_c h, List.reverse_cons]

theorem back_any (A : Option Addr) (m c : Nat) (w : World) :
    Calls Tryz.prog 50 #[.slice A m c] w fun e w' => e = .returned (.func (.func 78) #[] #[.pointer (some ⟨w.heap.size, 0, none⟩)]) ∧ w' = w.alloc (.cells #[.slice A m c] 23) := by
  go_enter Tryz.func50, Tryz.ntmps50
  go_wp2
  go_ret
  exact ⟨rfl, rfl⟩
set_option maxRecDepth 100000 in
set_option maxHeartbeats 4000000 in
theorem back_stops (n B g : Nat) (w0 w : World) (A : Option Addr) (m c : Nat) (l : List Cl) (hT : IsC B w0 A m c l) (hsz : ∀ y ∈ l, wt y ≤ 1000000) (hB : Below B w0 w) (hBw : B ≤ w.heap.size) (hG : Blk w g #[.slice A m c] 23) :
    SeqStopsK Fence.wide n Tryz.prog 78 #[.pointer (some ⟨g, 0, none⟩)] (encI (B := B) (w0 := w0)) (KpS B) (fun ys => ys.map tI = l.reverse) (fun pre => pre.map tI <+: l.reverse) l.length w := fun lp J Jx W hW hJ hJx hY h0 => by
  have hGW : Blk W g #[.slice A m c] 23 := Blk.below hG hW
  have hn : m ≤ 9223372036854775807 := by have h1 := hT.2.1; have h2 := hT.2.2.1; unfold maxLen at h2; omega
  have hdd : ∀ k : Nat, (Fence.wide.depth.isSome = true → 1 ≤ k) := fun k h => by cases h
  have hBW : Below B w0 W := hB.trans (hW.mono hBw)
  have hBs : B ≤ W.heap.size := Nat.le_trans hBw hW.size
  have g0 := Blk.cell hGW 0
  have HT := Lib.hid hT
  have HY := Lib.hid hY
  have HG := Lib.hid hGW
  have hml : m = l.length := hT.1
  have HML := Lib.hid hml
  have H0 : Hid (∃ ys : List (PtI B w0), ys.map tI = (l.drop m).reverse ∧ J ys W) := ⟨[], by rw [List.drop_eq_nil_of_le (by omega)]; rfl, h0⟩
  have wr1 : IntKind.i64.wrap ((m : Int) - 1) = (m : Int) - 1 := by rw [IntKind.wrap_i64]; omega
  clear hT hY hG hGW h0 hml hJ hJx hW hB
  refine callsIn_of_wp Tryz.func78 rfl trivial ?_ rfl
  simp only [Tryz.ntmps78, List.size_toArray, List.length_cons, List.length_nil, Nat.reduceAdd, Nat.reduceSub, Array.replicate_succ, Array.replicate_zero, List.push_toArray, List.append_toArray, List.nil_append, List.cons_append]
  gi_wp2
  gi_loopw [3] (fun i wr0 => ∃ (wr : World) (k : Nat), wr = wr0 ∧ k ≤ m ∧ i = .int .i64 ((k : Int) - 1) ∧ KpS B W wr ∧ Hid (∃ ys : List (PtI B w0), ys.map tI = (l.drop k).reverse ∧ J ys wr)) (fun i _ => (intOf i + 1).toNat)
  case atStart => exact ⟨_, m, rfl, by omega, rfl, KpS.refl _ _, H0⟩
  case round =>
    obtain ⟨wr, k, rfl, hk, rfl, hKr, hR⟩ := hrel
    have hBr : Below B w0 wr := hBW.trans hKr.1
    have hgr : Blk wr g #[.slice A m c] 23 := hKr.2 g _ HG.out
    have gr0 := Blk.cell hgr 0
    cases k with
    | zero =>
      have hc : ¬ ((0 : Nat) : Int) - 1 ≥ 0 := by omega
      obtain ⟨ys, h1, h2⟩ := hR.out
      have HF : Hid (∃ ys : List (PtI B w0), ys.map tI = l.reverse ∧ J ys wr) := ⟨ys, by rw [h1, List.drop_zero], h2⟩
      clear hR h1 h2
      gi_wp2
      go_end0
      exact ⟨⟨_, rfl⟩, .inl HF.out⟩
    | succ k =>
      have hlt : k < m := by omega
      obtain ⟨bb, o, x, kk, M1, Mn, Mc, rfl, hb, z0, z1, z2, z3, z4, hx, hok⟩ := HT.out.at hlt
      have y0 := (hBr.cell (p := ⟨bb, _, none⟩) hb).trans z0
      have y1 := (hBr.cell (p := ⟨bb, _, none⟩) hb).trans z1
      have y2 := (hBr.cell (p := ⟨bb, _, none⟩) hb).trans z2
      have y3 := (hBr.cell (p := ⟨bb, _, none⟩) hb).trans z3
      have y4 := (hBr.cell (p := ⟨bb, _, none⟩) hb).trans z4
      have hwx := hsz x (List.mem_of_getElem? hx)
      obtain ⟨ys, hys, hJr⟩ := hR.out
      have hlen : ys.length + (k + 1) = l.length := by
        have := congrArg List.length hys
        rw [List.length_map, List.length_reverse, List.length_drop] at this
        have := HML.out
        omega
      obtain ⟨fn, tmps, assign, body, hy, hRn⟩ := yield_any rfl (n - 1) (HY.out ys ⟨k, ⟨x, kk, M1, Mn, Mc, hok⟩, hwx⟩ wr hJr (by omega))
      dsimp only [encI] at hy
      have hdr := drop_rev hx
      have hpre : ys.map tI ++ [x] <+: l.reverse := by
        rw [hys, ← hdr]
        have := List.take_append_drop k l
        conv => rhs; rw [← this, List.reverse_append]
        exact List.prefix_append _ _
      have Hys := Lib.hid hys
      have Hdr := Lib.hid hdr
      have Hpre := Lib.hid hpre
      have ek : (((k + 1 : Nat) : Int) - 1) = (k : Int) := by omega
      rw [ek]
      have wk : IntKind.i64.wrap ((k : Int) - 1) = (k : Int) - 1 := by rw [IntKind.wrap_i64]; omega
      have hc : (k : Int) ≥ 0 := by omega
      have hk0 : 0 ≤ (k : Int) := by omega
      have hk1 : (k : Int) < (m : Int) := by omega
      clear z0 z1 z2 z3 z4 hx hys hdr hpre hR HT HY ek hJr
      generalize opC x = op' at *
      generalize nmC x = nm' at *
      generalize soC x = nu' at *
      gi_wp2_with ((try refine ⟨hdd _, ?_⟩); refine hRn.mono ?_; clear hRn; rintro e W3 (⟨rfl, hJ3, hk3⟩ | ⟨rfl, hx3⟩); all_goals (first | (have HJ3 := Lib.hid hJ3; clear hJ3) | (have HX3 := Lib.hid hx3; clear hx3)))
      · go_roundw
        case rel => exact ⟨_, k, rfl, by omega, by go_num, hKr.trans hk3, ⟨ys ++ [⟨k, ⟨x, kk, M1, Mn, Mc, hok⟩, hwx⟩], by rw [List.map_append, Hys.out, Hdr.out]; rfl, by first | exact HJ3.out | (have := HJ3.out; rwa [List.append_assoc] at this)⟩⟩
        case measure => simp [intOf]
      · refine bodyPost_ret (results_none rfl _ _ _) rfl ?_
        exact ⟨⟨_, rfl⟩, .inr ⟨_, by rw [List.map_append, List.map_singleton]; exact Hpre.out, HX3.out⟩⟩
end Go.Proofs.YtjjoebijkcmgiaaGreat.C
