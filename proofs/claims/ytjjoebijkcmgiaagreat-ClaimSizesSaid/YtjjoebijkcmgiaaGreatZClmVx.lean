/-
  What is proved: allC_stops (taken out of ClmV, for seats without that function).
-/
import Derived.Test.YtjjoebijkcmgiaaGreatZClmV
namespace Go.Proofs.YtjjoebijkcmgiaaGreat.C
open Go.RowKit Go.Shelf L T
set_option linter.unusedVariables false
set_option linter.unusedSimpArgs false
attribute [local go_sem] Oper.semAt_some

set_option maxHeartbeats 2000000 in
theorem allC_stops (n : Nat) (p : Int → Bool) (gi B g g2 : Nat) (w0 w : World) (t : Cl) (k : SS) (a : Option Addr) (m c : Nat) (hE : EndsOk p gi w) (hA : ArC B w0 t k a m c) (hB : Below B w0 w) (hBw : B ≤ w.heap.size) (hT : CBox w g (opC t) (nmC t) (soC t) k a m c) (hF : Blk w g2 #[.func (.func 54) #[] #[.pointer (some ⟨gi, 0, none⟩)]] 47) :
    SeqStopsK Fence.wide n Tryz.prog 69 #[.pointer (some ⟨g, 0, none⟩), .pointer (some ⟨g2, 0, none⟩)] (encC (B := B) (w0 := w0)) (KpC B) (fun ys => ys.map PtC.t = allP p t) (fun pre => pre.map PtC.t <+: allP p t) (allP p t).length w := fun l J Jx W hW hJ hJx hY h0 => by
  have hY2 : RoundsC B w0 l (allP p t).length J Jx := fun m pre x W hj hl => yield_any rfl m (hY pre x W hj hl)
  have hv := visitC_any p gi B w0 l (allP p t).length J Jx _ hJ hY2 t (n - 1) k a m c [] W (hE.keep (KeepC.of_below hW)) hA (hB.trans (hW.mono hBw)) (Nat.le_trans hBw hW.size) h0 (by simp)
  obtain ⟨t0, t1, t2, t3, t4⟩ := (CBox.b hT hW).five
  have f0 := Blk.cell (Blk.below hF hW) 0
  have hdd : ∀ k : Nat, (Fence.wide.depth.isSome = true → 1 ≤ k) := fun k h => by cases h
  clear hY hY2 hT hA hJ hJx h0 hF hE
  refine callsIn_of_wp Tryz.func69 rfl trivial ?_ rfl
  simp only [Tryz.ntmps69, List.size_toArray, List.length_cons, List.length_nil, Nat.reduceAdd, Nat.reduceSub, Array.replicate_succ, Array.replicate_zero, List.push_toArray, List.append_toArray, List.nil_append, List.cons_append]
  gi_wp2_with ((try refine ⟨trivial, ?_⟩); (try refine ⟨hdd _, ?_⟩); gi_at_call 70; refine hv.mono ?_; clear hv; rintro e W5 (⟨rfl, hz, hk5⟩ | ⟨rfl, hq⟩); all_goals (first | (have Hz := Lib.hid hz; clear hz) | (have Hq := Lib.hid hq; clear hq)))
  · go_end0
    obtain ⟨ys, h1, h2⟩ := Hz.out
    exact ⟨⟨_, rfl⟩, .inl ⟨ys, h1, by simpa using h2⟩⟩
  · go_end0
    obtain ⟨ys, h1, h2⟩ := Hq.out
    exact ⟨⟨_, rfl⟩, .inr ⟨ys, h1, by simpa using h2⟩⟩
end Go.Proofs.YtjjoebijkcmgiaaGreat.C
