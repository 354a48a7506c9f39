/-
  What is proved: what a loop keeps of the blocks that hold one term; the parts of a term in their order; what a loop's own blocks abide. (In a program that does not walk over a term's parts.)
-/
import Derived.RangeFuncNested
import Derived.RangeFuncBound
import Derived.RangeFuncCalls
import Derived.RangeFuncLeaves
import Derived.Shelf.Abstract
import Derived.Shelf.RegionOpen
import Derived.OwnWalkIn
import Derived.TacticsInMore
import Derived.LoopNIn
import Derived.LoopIn
import Derived.Test.YtnjcemhfmhiikaaLibTe
import Derived.Test.YtnjcemhfmhiikaaTrmB
namespace Go.Proofs.Ytnjcemhfmhiikaa.T
open Go.RowKit Go.Shelf L
set_option linter.unusedVariables false
set_option linter.unusedSimpArgs false
attribute [local go_sem] Oper.semAt_some

theorem room_none {F : Fence} (hd : F.depth = none) (k : Nat) : F.room k := fun d h => by rw [hd] at h; cases h
theorem round_any {F : Fence} (hd : F.depth = none) {m m' : Nat} {P : Program} {l : Nat} {f : FuncId} {tmps : Array Value} {assign body : Code} {w : World} {R : Ending → World → Prop}
    (h : RoundIn F m P l f tmps assign body w R) : RoundIn F m' P l f tmps assign body w R := ⟨h.1, fun c cs _ => h.2 c cs (room_none hd _)⟩
theorem yield_any {F : Fence} (hd : F.depth = none) {m : Nat} (m' : Nat) {P : Program} {l : Nat} {args : Array Value} {W : World} {R : Ending → World → Prop} (h : YieldAt F m P l args W R) : YieldAt F m' P l args W R := by
  obtain ⟨fn, tmps, assign, body, hy, hR⟩ := h
  exact ⟨fn, tmps, assign, body, hy, round_any hd hR⟩

/-! what a round keeps: what lay below n0, and every block that holds one term -/
def Keep4 (W W' : World) : Prop := ∀ (k : Nat) (cs : Array Value), W.heap[k]? = some (.cells cs 48 (0, 0)) → cs.size = 4 → W'.heap[k]? = some (.cells cs 48 (0, 0))
def KpT (n0 : Nat) (W W' : World) : Prop := Below n0 W W' ∧ Keep4 W W'
theorem Keep4.refl (W : World) : Keep4 W W := fun k cs h _ => h
theorem Keep4.trans {A B C : World} (h : Keep4 A B) (k : Keep4 B C) : Keep4 A C := fun i cs h0 h1 => k i cs (h i cs h0 h1) h1
theorem Keep4.of_below {W W' : World} (h : Below W.heap.size W W') : Keep4 W W' := fun k cs h0 _ => (h.block k (Array.getElem?_eq_some_iff.1 h0).1).trans h0
theorem KpT.refl (n0 : Nat) (W : World) : KpT n0 W W := ⟨Below.refl _ _, Keep4.refl _⟩
theorem KpT.trans {n0 : Nat} {A B C : World} (h : KpT n0 A B) (k : KpT n0 B C) : KpT n0 A C := ⟨h.1.trans k.1, h.2.trans k.2⟩
theorem KpT.of_below {n0 : Nat} {W W' : World} (hn : n0 ≤ W.heap.size) (h : Below W.heap.size W W') : KpT n0 W W' := ⟨h.mono hn, Keep4.of_below h⟩
theorem KpT.obj {n0 : Nat} {w : World} (hn : n0 ≤ w.heap.size) (W : World) (l : Nat) (o o' : Obj) (hl : w.heap.size ≤ l) (h : W.heap[l]? = some o) (h1 : o.isCells = false) (h2 : o.isWalk = false) : KpT n0 W (W.putObj l o') :=
  ⟨belowK_b hn W l o o' hl h h1 h2, fun k cs h0 _ => (World.putObj_heap_other (fun e => by subst e; rw [h] at h0; cases h0; cases h1)).trans h0⟩
theorem TBox.keep {W W' : World} {n0 g : Nat} {o : Int} {s : ByteArray} {z : Int} {a : Option Addr} {n c : Nat} (h : TBox W g o s z a n c) (k : KpT n0 W W') : TBox W' g o s z a n c := k.2 g _ h rfl

theorem all_mk (t : Tm) : all t = t :: alls (argsT t) := by cases t; rw [all]; rfl
theorem alls_app (l m : List Tm) : alls (l ++ m) = alls l ++ alls m := by
  induction l with
  | nil => rfl
  | cons t l ih => rw [List.cons_append, alls, alls, ih, List.append_assoc]
theorem take_t {t : Tm} {l : List Tm} {k : Nat} (h : l[k]? = some t) : l.take (k + 1) = l.take k ++ [t] := by
  rw [List.take_add_one, h]; rfl
theorem alls_pre {t : Tm} {l : List Tm} {k : Nat} (h : l[k]? = some t) : alls (l.take k) ++ all t <+: alls l := by
  have := alls_app (l.take (k + 1)) (l.drop (k + 1))
  rw [List.take_append_drop, take_t h, alls_app] at this
  rw [this]
  have e : alls [t] = all t := by rw [alls, alls, List.append_nil]
  rw [e]
  exact List.prefix_append _ _
theorem alls_lt {t : Tm} {l : List Tm} {k : Nat} (h : l[k]? = some t) : sizes (l.take k) + size t ≤ sizes l := by
  have := (alls_pre h).length_le
  rw [List.length_append, alls_len, alls_len, all_len] at this
  exact this

/-! what a loop's own blocks abide -/
theorem own_blk {β : Type} (g : Nat) (cs : Array Value) (t : TypeId) : Own (fun (_ : β) W => Blk W g cs t) := fun s X Y row hs hg hr => by
  refine (hg.block g (Blk.lt hs) (fun e => ?_)).trans hs
  obtain ⟨o, ho, hc⟩ := hr g e.symm
  rw [show X.heap[g]? = _ from hs] at ho; cases ho; cases hc
theorem blk_cell_set {W : World} {g : Nat} {v : Value} {t : TypeId} (h : Blk W g #[v] t) (u : Value) : Blk (W.setCell ⟨g, 0, none⟩ u) g #[u] t := by
  have := Blk.set h 0 u
  simpa using this
theorem keepsF {B0 : Nat} {W W' : World} (h : Below W.heap.size W W') : KeepsFrom B0 W W' := ⟨h.size, fun k o _ hk _ => (h.block k (Array.getElem?_eq_some_iff.1 hk).1).trans hk⟩
/-- a store into a block that is no term's -/
theorem keep_set {W : World} {g : Nat} {cs : Array Value} {t : TypeId} (h : Blk W g cs t) (hne : cs.size ≠ 4) (k : Nat) (v : Value) : Keep4 W (W.setCell ⟨g, k, none⟩ v) := fun i cs2 h0 h1 => by
  refine (heap_setCell_other W ⟨g, k, none⟩ i v (fun e => ?_)).trans h0
  subst e
  rw [show W.heap[i]? = _ from h] at h0
  injection h0 with h0; injection h0 with h0
  exact hne (h0 ▸ h1)

theorem blk_ne {W : World} {g D : Nat} {cs : Array Value} {t : TypeId} {d : Option (List Deferred)} (h : Blk W g cs t) (hD : W.heap[D]? = some (.deferred d)) : g ≠ D := fun e => by
  subst e
  rw [show W.heap[g]? = _ from h] at hD; cases hD
theorem blk_put {W : World} {g D : Nat} {cs : Array Value} {t : TypeId} {d : Option (List Deferred)} (h : Blk W g cs t) (hD : W.heap[D]? = some (.deferred d)) (o : Obj) : Blk (W.putObj D o) g cs t :=
  (World.putObj_heap_other (fun e => blk_ne h hD e)).trans h

end Go.Proofs.Ytnjcemhfmhiikaa.T
