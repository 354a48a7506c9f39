/-
  What is proved: the library's stable sort of fewer than twenty places; its CompactFunc where no two neighbours are alike.
-/
import Derived.Test.YtelepojpnkoelaaZTrmJ
namespace Go.Proofs.Ytelepojpnkoelaa.T
open Go.RowKit L
set_option linter.unusedVariables false
set_option linter.unusedSimpArgs false

set_option maxRecDepth 100000 in
set_option maxHeartbeats 8000000 in
theorem stable_few (g gc gl n : Nat) (l : List Tm) (w0 : World) (hc : CmpIn g gc gl n l w0) (zs : List Nat) (hlt : ∀ z ∈ zs, z < n) (N cap : Nat) (hN : N = zs.length) (hN2 : N < 20) (w : World) (hb : Below g w0 w) (hr : RowN w g zs) :
    Calls Try.prog 72 #[.slice (some ⟨g, 0, none⟩) N cap, .int .i64 N, .func (.func 46) #[] #[.pointer (some ⟨gc, 0, none⟩), .pointer (some ⟨gl, 0, none⟩)]] w fun e w' => (∃ v, e = .returned v) ∧ RowN w' g (isortR (fun i j => cmpT (atL l i) (atL l j)) [] zs).reverse ∧ w.grownBy w' (some g) := by
  have cI := insertion_any g gc gl n l w0 hc [] zs [] (by simpa using hlt) N cap (by simpa using hN) (by omega) w hb (by simpa using hr)
  simp only [List.length_nil, List.nil_append, List.append_nil] at cI
  rw [show ((0 : Nat) : Int) = 0 from rfl, Int.zero_add, ← hN] at cI
  have h1 : ¬ (20 : Int) ≤ (N : Int) := by omega
  have h2 : ¬ (20 : Int) < (N : Int) := by omega
  clear hr hc hlt hN
  generalize (isortR (fun i j => cmpT (atL l i) (atL l j)) [] zs).reverse = Z at *
  go_enter Try.func72, Try.ntmps72
  go_wp2
  refine wp_loop_rounds 1 ?_
  rw [rounds_succ]
  go_wp2_with (go_at_call 86; ((with_reducible refine cI.mono ?_); rintro e w1 ⟨⟨v, rfl⟩, hR, hG⟩; have HR := Lib.hid hR; clear hR))
  refine wp_loop_rounds 1 ?_
  rw [rounds_succ]
  go_wp2
  go_end0
  exact ⟨⟨_, rfl⟩, HR.out, hG⟩
theorem stableFunc_few (g gc gl n : Nat) (l : List Tm) (w0 : World) (hc : CmpIn g gc gl n l w0) (zs : List Nat) (hlt : ∀ z ∈ zs, z < n) (N cap : Nat) (hN : N = zs.length) (hN2 : N < 20) (w : World) (hb : Below g w0 w) (hr : RowN w g zs) :
    Calls Try.prog 45 #[.slice (some ⟨g, 0, none⟩) N cap, .func (.func 46) #[] #[.pointer (some ⟨gc, 0, none⟩), .pointer (some ⟨gl, 0, none⟩)]] w fun e w' => (∃ v, e = .returned v) ∧ RowN w' g (isortR (fun i j => cmpT (atL l i) (atL l j)) [] zs).reverse ∧ w.grownBy w' (some g) := by
  have cI := stable_few g gc gl n l w0 hc zs hlt N cap hN hN2 w hb hr
  clear hr hc hlt hN
  generalize (isortR (fun i j => cmpT (atL l i) (atL l j)) [] zs).reverse = Z at *
  go_enter Try.func45, Try.ntmps45
  go_wp2_with (go_at_call 72; ((with_reducible refine cI.mono ?_); rintro e w1 ⟨⟨v, rfl⟩, hR, hG⟩; have HR := Lib.hid hR; clear hR))
  go_end0
  exact ⟨⟨_, rfl⟩, HR.out, hG⟩
def EqIn (g gc gl n : Nat) (l : List Tm) (w0 : World) : Prop := ∀ (i j : Nat) (w : World), Below g w0 w → g ≤ w.heap.size → i < n → j < n →
  Calls Try.prog 48 #[.int .i64 i, .int .i64 j, .pointer (some ⟨gc, 0, none⟩), .pointer (some ⟨gl, 0, none⟩)] w fun e w' => e = .returned (.bool (eqT (atL l i) (atL l j))) ∧ Below w.heap.size w w'

set_option maxRecDepth 100000 in
set_option maxHeartbeats 8000000 in
theorem compact_apart (g gc gl n : Nat) (l : List Tm) (w0 : World) (hc : EqIn g gc gl n l w0) (zs : List Nat) (hlt : ∀ z ∈ zs, z < n) (hne : ∀ k x y, zs[k]? = some x → zs[k + 1]? = some y → eqT (atL l y) (atL l x) = false) (N cap : Nat) (hN : N = zs.length) (hN2 : N ≤ 1000000) (w : World) (hb : Below g w0 w) (hr : RowN w g zs) :
    Calls Try.prog 47 #[.slice (some ⟨g, 0, none⟩) N cap, .func (.func 48) #[] #[.pointer (some ⟨gc, 0, none⟩), .pointer (some ⟨gl, 0, none⟩)]] w fun e w' => e = .returned (.slice (some ⟨g, 0, none⟩) N cap) ∧ RowN w' g zs ∧ w.grownBy w' (some g) := by
  have hg := Blk.lt hr
  by_cases h2 : N < 2
  · have h2' : (N : Int) < 2 := by omega
    have Hr := Lib.hid hr
    clear hr hc hne hlt hN
    go_enter Try.func47, Try.ntmps47
    go_wp2
    go_ret
    exact ⟨rfl, Hr.out, World.grownBy.refl _ _⟩
  · have h2' : ¬ (N : Int) < 2 := by omega
    have HC := Lib.hid hc
    have Hlt := Lib.hid hlt
    have Hne := Lib.hid hne
    have HN := Lib.hid hN
    have Hr := Lib.hid hr
    clear hr hc hne hlt hN
    go_enter Try.func47, Try.ntmps47
    go_wp2
    go_loopw [5] (fun i wr0 => ∃ (wr : World) (k : Nat), wr = wr0 ∧ k < N ∧ i = .int .i64 ((k : Int) + 1) ∧ w.grownBy wr (some g) ∧ Hid (RowN wr g zs)) (fun i _ => N - (intOf i).toNat)
    case atStart => exact ⟨_, 0, rfl, by omega, rfl, World.grownBy.refl _ _, Hr⟩
    case round =>
      obtain ⟨wr, k, rfl, hk, rfl, hG, hR⟩ := hrel
      by_cases hlk : k + 1 < N
      · have hk0 : k < zs.length := by have := HN.out; omega
        have hk1 : k + 1 < zs.length := by have := HN.out; omega
        obtain ⟨x, hx⟩ : ∃ x, zs[k]? = some x := ⟨_, List.getElem?_eq_getElem hk0⟩
        obtain ⟨y, hy⟩ : ∃ y, zs[k + 1]? = some y := ⟨_, List.getElem?_eq_getElem hk1⟩
        have c0 := RowN.at hR.out hx
        have c1 := RowN.at hR.out hy
        have hgr := Blk.lt hR.out
        have hBd : Below wr.heap.size wr wr.drew := (Below.refl _ _).drew
        have hB2 : Below g w0 wr.drew := (hb.trans (gr_below hG (Nat.le_of_lt hg) (Nat.le_refl _))).drew
        have cE := HC.out y x wr.drew hB2 (Nat.le_of_lt hgr) (Hlt.out y (List.mem_of_getElem? hy)) (Hlt.out x (List.mem_of_getElem? hx))
        rw [Hne.out k x y hx hy] at cE
        clear hx hy hk0 hk1
        have hwr : IntKind.i64.wrap ((k : Int) + 1 - 1) = (k : Int) := by rw [IntKind.wrap_i64]; omega
        have hwr2 : IntKind.i64.wrap (k : Int) = (k : Int) := by rw [IntKind.wrap_i64]; omega
        have hi0 : 0 ≤ (k : Int) := by omega
        have hi1 : 0 ≤ (k : Int) + 1 := by omega
        have hi2 : (k : Int) + 1 < (N : Int) := by omega
        have hi3 : (k : Int) < (N : Int) := by omega
        go_wp2_with fail
        go_region_held3 (fun w' => w'.cell? ⟨g, k, none⟩ = some (.int .i64 x) ∧ w'.cell? ⟨g, k + 1, none⟩ = some (.int .i64 y))
          (first | go_keep | (exact ⟨(B4.cell hgr).trans c0, (B4.cell hgr).trans c1⟩))
          (first | (go_at_call 48; ((with_reducible refine cE.mono ?_); rintro e w4 ⟨rfl, hb4⟩; have B4 := bel_trans hBd hb4; have H4 := Lib.hid (Blk.below hR.out B4))))
        have hg4 : wr.grownBy w4 (some g) := gr_of_below B4 B4.tape
        go_wp2
        go_roundw
        case rel => exact ⟨_, k + 1, rfl, by omega, by go_num, hG.trans hg4, H4⟩
        case measure => simp [intOf]; omega
      · have hi2 : ¬ (k : Int) + 1 < (N : Int) := by omega
        go_wp2
        go_ret
        exact ⟨rfl, hR.out, hG⟩
end Go.Proofs.Ytelepojpnkoelaa.T
