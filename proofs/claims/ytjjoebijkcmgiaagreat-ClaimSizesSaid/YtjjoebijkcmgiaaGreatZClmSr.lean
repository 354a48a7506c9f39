/-
  What is proved: which of two claims that are the same stands first: the first alone.
-/
import Derived.Test.YtjjoebijkcmgiaaGreatZClmSq
import Derived.Lib.SliceRun
namespace Go.Proofs.YtjjoebijkcmgiaaGreat.C
open Go.RowKit L T
set_option linter.unusedVariables false
set_option linter.unusedSimpArgs false

set_option maxRecDepth 100000 in
set_option maxHeartbeats 8000000 in
theorem compact_two (g gc gl n : Nat) (l : List Cl) (w0 : World) (hc : EqIn g gc gl n l w0) (x y : Nat) (hx : x < n) (hy : y < n) (he : eqC (atC l y) (atC l x) = true) (cap : Nat) (w : World) (hb : Below g w0 w) (hr : RowN w g [x, y]) (hcap : 2 ≤ cap) :
    Calls Tryz.prog 57 #[.slice (some ⟨g, 0, none⟩) 2 cap, .func (.func 58) #[] #[.pointer (some ⟨gc, 0, none⟩), .pointer (some ⟨gl, 0, none⟩)]] w fun e w' => e = .returned (.slice (some ⟨g, 0, none⟩) 1 cap) ∧ RowN w' g [x, 0] ∧ w.grownBy w' (some g) := by
  have hg := Blk.lt hr
  have c0 : w.cell? ⟨g, 0, none⟩ = some (.int .i64 x) := RowN.at (k := 0) hr rfl
  have c1 : w.cell? ⟨g, 1, none⟩ = some (.int .i64 y) := RowN.at (k := 1) hr rfl
  have hBd : Below w.heap.size w w.drew := (Below.refl _ _).drew
  have hwr : IntKind.i64.wrap ((1 : Int) - 1) = 0 := by rw [IntKind.wrap_i64]; rfl
  have hwr0 : IntKind.i64.wrap (0 : Int) = 0 := by rw [IntKind.wrap_i64]; rfl
  have hle0 : (0 : Int) ≤ 0 := by omega
  have hlt0 : (0 : Int) < 2 := by omega
  have cE := hc y x w.drew hb.drew (Nat.le_of_lt hg) hy hx
  rw [he] at cE
  have Hr := Lib.hid hr
  clear hr hc he
  go_enter Tryz.func57, Tryz.ntmps57
  go_wp2
  refine wp_loop_rounds 1 ?_
  rw [rounds_succ]
  go_wp2_with fail
  go_region_held3 (fun w' => w'.cell? ⟨g, 0, none⟩ = some (.int .i64 x) ∧ w'.cell? ⟨g, 1, none⟩ = some (.int .i64 y))
    (first | go_keep | (exact ⟨(B4.cell hg).trans c0, (B4.cell hg).trans c1⟩))
    (first | (go_at_call 58; ((with_reducible refine cE.mono ?_); rintro e w4 ⟨rfl, hb4⟩; have B4 := bel_trans hBd hb4; have H4 := Lib.hid (Blk.below Hr.out B4))))
  have hg4 : w.grownBy w4 (some g) := gr_of_below B4 B4.tape
  have k1 : w4.cell? ⟨g, 1, none⟩ = some (.int .i64 y) := RowN.at (k := 1) H4.out rfl
  have kf : w4.frozen? ⟨g, 1, none⟩ = false := Blk.free H4.out 1
  have hcl : ∀ ty, (Builtin.clear_ #[71] ty #[.slice (some ⟨g, 1, none⟩) 1 (cap - 1)]).run Tryz.prog w4 = .ok (.tuple #[]) (w4.setCells g 1 (List.replicate 1 (.int .i64 0))) :=
    fun ty => Lib.run_clear_slice w4 71 3 ty (.int .i64 0) Tryz.underlying71 (fun w => by kernel_rfl) rfl rfl g 1 1 (cap - 1) (by omega) (fun j hj => by rw [show 1 + j = 1 by omega, k1]; rfl) (fun j hj => by rw [show 1 + j = 1 by omega]; exact kf)
  have HN := Lib.hid (RowN.set H4.out 1 0)
  go_wp2
  refine wp_loop_rounds 1 ?_
  rw [rounds_succ]
  go_wp2
  go_ret
  exact ⟨rfl, HN.out, gr_set hg4 1 (.int .i64 0)⟩
theorem sort_one (g x r cap : Nat) (hcap : 1 ≤ cap) (w : World) (hr : RowN w g [x, r]) :
    Calls Tryz.prog 59 #[.slice (some ⟨g, 0, none⟩) 1 cap] w fun e w' => (∃ v, e = .returned v) ∧ RowN w' g [x, r] ∧ w.grownBy w' (some g) := by
  have hh : Go.Sort.Holds (Value.int .i64) w g 0 (ints [x]).toArray := holds_of_blockI hr (by simp [ints])
  have hc := Tryz.slices_Sort_int g 0 cap (ints [x]) w hh (Blk.lt hr) (by simp [ints])
  rw [show (ints [x]).length = 1 from rfl, sort_ints (List.Perm.refl [x]) (by simp)] at hc
  refine hc.mono fun e w' ⟨he, n, os, hw⟩ => ?_
  subst hw
  refine ⟨⟨_, he⟩, ?_, grownBy_sortedI _⟩
  have hb := heap_sortedI (os := os) (n := n) (ints [x]).toArray hr
  unfold RowN Blk
  rw [hb]
  congr 2
end Go.Proofs.YtjjoebijkcmgiaaGreat.C
