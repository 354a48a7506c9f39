/-
  What is proved: package term's iterator over the parts of a term, as a loop may range over it; whether a term is a part of another.
-/
import Derived.Test.YtelepojpnkoelaaZTrmV
import Derived.Test.YtelepojpnkoelaaZTrmB
namespace Go.Proofs.Ytelepojpnkoelaa.T
open Go.RowKit Go.Shelf L
set_option linter.unusedVariables false
set_option linter.unusedSimpArgs false
attribute [local go_sem] Oper.semAt_some

/-- the blocks that the iterator is made of: the term, the term, and what lies below one -/
theorem box_all (w : World) (o : Int) (s : ByteArray) (z : Int) (a : Option Addr) (n c : Nat) :
    ∃ W, ((w.alloc (.cells #[.int .i64 o, .string s, .int .i64 z, .slice a n c] 24)).alloc (.cells #[.int .i64 o, .string s, .int .i64 z, .slice a n c] 24)).alloc (.cells #[.func (.func 39) #[] #[]] 27) = W ∧ Below w.heap.size w W ∧ W.heap.size = w.heap.size + 3 ∧ TBox W (w.heap.size + 1) o s z a n c ∧ Blk W (w.heap.size + 2) #[.func (.func 39) #[] #[]] 27 := by
  obtain ⟨W2, h2, hb, hs, t1, t2⟩ := box2 w o s z a n c o s z a n c
  rw [h2]
  refine ⟨_, rfl, bel_alloc hb _, by simp [hs], Blk.alloc t2 _, ?_⟩
  have := Blk.new W2 #[Value.func (.func 39) #[] #[]] 27
  rwa [hs] at this
theorem tall_any (o : Int) (s : ByteArray) (z : Int) (a : Option Addr) (n c : Nat) (w : World) :
    Calls Try.prog 53 #[.agg #[.int .i64 o, .string s, .int .i64 z, .slice a n c], .func (.func 39) #[] #[]] w fun e w' => e = .returned (.func (.func 75) #[] #[.pointer (some ⟨w.heap.size, 0, none⟩), .pointer (some ⟨w.heap.size + 1, 0, none⟩)]) ∧ w' = (w.alloc (.cells #[.int .i64 o, .string s, .int .i64 z, .slice a n c] 24)).alloc (.cells #[.func (.func 39) #[] #[]] 27) := by
  go_enter Try.func53, Try.ntmps53
  go_wp2
  go_ret
  exact ⟨rfl, rfl⟩
theorem all_any (o : Int) (s : ByteArray) (z : Int) (a : Option Addr) (n c : Nat) (w : World) :
    Calls Try.prog 26 #[.agg #[.int .i64 o, .string s, .int .i64 z, .slice a n c]] w fun e w' => e = .returned (.func (.func 75) #[] #[.pointer (some ⟨w.heap.size + 1, 0, none⟩), .pointer (some ⟨w.heap.size + 2, 0, none⟩)]) ∧ w' = ((w.alloc (.cells #[.int .i64 o, .string s, .int .i64 z, .slice a n c] 24)).alloc (.cells #[.int .i64 o, .string s, .int .i64 z, .slice a n c] 24)).alloc (.cells #[.func (.func 39) #[] #[]] 27) := by
  obtain ⟨W1, h1, hb1, hs1, S1⟩ := box1 w o s z a n c
  have c1 := tall_any o s z a n c W1
  rw [hs1, Nat.add_assoc] at c1
  rw [h1]
  obtain ⟨s0, s1, s2, s3⟩ := S1.four
  clear S1
  go_enter Try.func26, Try.ntmps26
  go_wp2_with (go_at_call 53; ((with_reducible refine c1.mono ?_); rintro e w1 ⟨rfl, rfl⟩))
  go_ret
  exact ⟨rfl, rfl⟩
set_option maxHeartbeats 2000000 in
theorem all_stops (n : Nat) (B g g2 : Nat) (w0 w : World) (t : Tm) (a : Option Addr) (m c : Nat) (hA : Ar B w0 t a m c) (hB : Below B w0 w) (hBw : B ≤ w.heap.size) (hT : TBox w g (opT t) (nameT t) (numT t) a m c) (hF : Blk w g2 #[.func (.func 39) #[] #[]] 27) :
    SeqStopsK Fence.wide n Try.prog 75 #[.pointer (some ⟨g, 0, none⟩), .pointer (some ⟨g2, 0, none⟩)] (encP (B := B) (w0 := w0)) (KpT B) (fun ys => ys.map Pt.t = all t) (fun pre => pre.map Pt.t <+: all t) (size t) w := fun l J Jx W hW hJ hJx hY h0 => by
  have hY2 : RoundsT B w0 l (size t) J Jx := fun m pre x W hj hl => yield_any rfl m (hY pre x W hj hl)
  have hv := visit_any B w0 l (size t) J Jx _ hJ hY2 t (n - 1) a m c [] W hA (hB.trans (hW.mono hBw)) (Nat.le_trans hBw hW.size) h0 (by simp)
  obtain ⟨t0, t1, t2, t3⟩ := (TBox.b hT hW).four
  have f0 := Blk.cell (Blk.below hF hW) 0
  have hdd : ∀ k : Nat, (Fence.wide.depth.isSome = true → 1 ≤ k) := fun k h => by cases h
  clear hY hY2 hT hA hJ hJx h0 hF
  refine callsIn_of_wp Try.func75 rfl trivial ?_ rfl
  simp only [Try.ntmps75, List.size_toArray, List.length_cons, List.length_nil, Nat.reduceAdd, Nat.reduceSub, Array.replicate_succ, Array.replicate_zero, List.push_toArray, List.append_toArray, List.nil_append, List.cons_append]
  gi_wp2_with ((try refine ⟨trivial, ?_⟩); (try refine ⟨hdd _, ?_⟩); gi_at_call 76; refine hv.mono ?_; clear hv; rintro e W5 (⟨rfl, hz, hk5⟩ | ⟨rfl, hq⟩); all_goals (first | (have Hz := Lib.hid hz; clear hz) | (have Hq := Lib.hid hq; clear hq)))
  · go_end0
    obtain ⟨ys, h1, h2⟩ := Hz.out
    exact ⟨⟨_, rfl⟩, .inl ⟨ys, h1, by simpa using h2⟩⟩
  · go_end0
    obtain ⟨ys, h1, h2⟩ := Hq.out
    exact ⟨⟨_, rfl⟩, .inr ⟨ys, h1, by simpa using h2⟩⟩

/-! what a loop's own blocks abide -/
theorem own_blk {β : Type} (g : Nat) (cs : Array Value) (t : TypeId) : Own (fun (_ : β) W => Blk W g cs t) := fun s X Y row hs hg hr => by
  refine (hg.block g (Blk.lt hs) (fun e => ?_)).trans hs
  obtain ⟨o, ho, hc⟩ := hr g e.symm
  rw [show X.heap[g]? = _ from hs] at ho; cases ho; cases hc
theorem blk_cell_set {W : World} {g : Nat} {v : Value} {t : TypeId} (h : Blk W g #[v] t) (u : Value) : Blk (W.setCell ⟨g, 0, none⟩ u) g #[u] t := by
  have := Blk.set h 0 u
  simpa using this
theorem keepsF {B0 : Nat} {W W' : World} (h : Below W.heap.size W W') : KeepsFrom B0 W W' := ⟨h.size, fun k o _ hk _ => (h.block k (Array.getElem?_eq_some_iff.1 hk).1).trans hk⟩
/-- a store into a block that is no term's -/
theorem keep_set {W : World} {g : Nat} {cs : Array Value} {t : TypeId} (h : Blk W g cs t) (hne : cs.size ≠ 4) (k : Nat) (v : Value) : Keep4 W (W.setCell ⟨g, k, none⟩ v) := fun i cs2 h0 h1 => by
  refine (heap_setCell_other W ⟨g, k, none⟩ i v (fun e => ?_)).trans h0
  subst e
  rw [show W.heap[i]? = _ from h] at h0
  injection h0 with h0; injection h0 with h0
  exact hne (h0 ▸ h1)

theorem blk_ne {W : World} {g D : Nat} {cs : Array Value} {t : TypeId} {d : Option (List Deferred)} (h : Blk W g cs t) (hD : W.heap[D]? = some (.deferred d)) : g ≠ D := fun e => by
  subst e
  rw [show W.heap[g]? = _ from h] at hD; cases hD
theorem blk_put {W : World} {g D : Nat} {cs : Array Value} {t : TypeId} {d : Option (List Deferred)} (h : Blk W g cs t) (hD : W.heap[D]? = some (.deferred d)) (o : Obj) : Blk (W.putObj D o) g cs t :=
  (World.putObj_heap_other (fun e => blk_ne h hD e)).trans h
end Go.Proofs.Ytelepojpnkoelaa.T
