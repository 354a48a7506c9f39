/-
  What is proved: the library's insertion sort of a row of places, by the comparison of the terms at them.
-/
import Derived.Test.YtelepojpnkoelaaZTrmI
import Derived.Test.YtelepojpnkoelaaZTrmS
namespace Go.Proofs.Ytelepojpnkoelaa.T
open Go.RowKit L
set_option linter.unusedVariables false
set_option linter.unusedSimpArgs false

/-! insertion, from the right -/
def insRev (c : Nat → Nat → Int) (x : Nat) : List Nat → List Nat
  | [] => [x]
  | y :: l => if c x y < 0 then y :: insRev c x l else x :: y :: l
def isortR (c : Nat → Nat → Int) (acc : List Nat) (l : List Nat) : List Nat := l.foldl (fun a x => insRev c x a) acc
theorem insRev_len (c : Nat → Nat → Int) (x : Nat) : ∀ l : List Nat, (insRev c x l).length = l.length + 1
  | [] => rfl
  | y :: l => by rw [insRev]; split <;> simp [insRev_len c x l]
theorem insRev_perm (c : Nat → Nat → Int) (x : Nat) : ∀ l : List Nat, (insRev c x l).Perm (x :: l)
  | [] => List.Perm.refl _
  | y :: l => by
    rw [insRev]; split
    · exact ((insRev_perm c x l).cons y).trans (List.Perm.swap _ _ _)
    · exact List.Perm.refl _
theorem isortR_len (c : Nat → Nat → Int) : ∀ (l acc : List Nat), (isortR c acc l).length = acc.length + l.length
  | [], acc => by simp [isortR]
  | x :: l, acc => by
    have := isortR_len c l (insRev c x acc)
    rw [insRev_len] at this
    simp only [isortR, List.foldl_cons, List.length_cons] at this ⊢
    omega
theorem isortR_snoc (c : Nat → Nat → Int) (acc l : List Nat) (x : Nat) : isortR c acc (l ++ [x]) = insRev c x (isortR c acc l) := by simp [isortR]
theorem isortR_perm (c : Nat → Nat → Int) : ∀ (l acc : List Nat), (isortR c acc l).Perm (acc ++ l)
  | [], acc => by simp [isortR]
  | x :: l, acc => by
    have h := isortR_perm c l (insRev c x acc)
    refine (show (isortR c acc (x :: l)).Perm (insRev c x acc ++ l) from h).trans ?_
    refine ((insRev_perm c x acc).append_right l).trans ?_
    exact (List.perm_middle (a := x) (l₁ := acc) (l₂ := l)).symm

/-! a row of places -/
def RowN (w : World) (g : Nat) (zs : List Nat) : Prop := Blk w g (zs.map (fun z : Nat => Value.int .i64 (z : Int))).toArray 3
theorem RowN.at {w : World} {g : Nat} {zs : List Nat} (h : RowN w g zs) {k z : Nat} (hk : zs[k]? = some z) : w.cell? ⟨g, k, none⟩ = some (.int .i64 z) := by
  rw [Blk.cell h k]
  simp [hk]
theorem RowN.set {w : World} {g : Nat} {zs : List Nat} (h : RowN w g zs) (k z : Nat) : RowN (w.setCell ⟨g, k, none⟩ (.int .i64 z)) g (zs.set k z) := by
  have := Blk.set h k (.int .i64 (z : Int))
  unfold RowN
  rw [List.map_set]
  simpa using this
theorem swap_list (X T : List Nat) (x y : Nat) : ((X ++ y :: x :: T).set (X.length + 1) y).set X.length x = X ++ x :: y :: T := by
  rw [List.set_append_right _ _ (by omega), List.set_append_right _ _ (by omega)]
  simp
theorem swap_list2 (X T : List Nat) (x y : Nat) : ((X ++ y :: x :: T).set X.length x).set (X.length + 1) y = X ++ x :: y :: T := by
  rw [List.set_append_right _ _ (by omega), List.set_append_right _ _ (by omega)]
  simp

theorem gr_drewN {W0 W : World} {g : Nat} (h : W0.grownBy W (some g)) (n : Nat) : W0.grownBy (W.drewN n) (some g) := h.trans ⟨rfl, rfl, rfl, Nat.le_refl _, fun _ _ _ => rfl⟩
theorem gr_drew {W0 W : World} {g : Nat} (h : W0.grownBy W (some g)) : W0.grownBy W.drew (some g) := h.trans ⟨rfl, rfl, rfl, Nat.le_refl _, fun _ _ _ => rfl⟩
theorem gr_of_below {W W' : World} {g : Nat} (h : Below W.heap.size W W') (ht : W'.tape = W.tape) : W.grownBy W' (some g) := ⟨h.os, ht, h.output, h.size, fun k hk _ => h.block k hk⟩
/-- what a sort's comparison is: the closure, in every world that has what lies below the row -/
def CmpIn (g gc gl n : Nat) (l : List Tm) (w0 : World) : Prop := ∀ (i j : Nat) (w : World), Below g w0 w → g ≤ w.heap.size → i < n → j < n →
  Calls Try.prog 46 #[.int .i64 i, .int .i64 j, .pointer (some ⟨gc, 0, none⟩), .pointer (some ⟨gl, 0, none⟩)] w fun e w' => e = .returned (.int .i64 (cmpT (atL l i) (atL l j))) ∧ Below w.heap.size w w'

set_option maxRecDepth 100000 in
set_option maxHeartbeats 8000000 in
theorem insertion_any (g gc gl n : Nat) (l : List Tm) (w0 : World) (hc : CmpIn g gc gl n l w0) (pre seg post : List Nat) (hlt : ∀ z ∈ pre ++ seg ++ post, z < n) (N cap : Nat) (hN : N = (pre ++ seg ++ post).length) (hN2 : N ≤ 1000000) (w : World) (hb : Below g w0 w) (hr : RowN w g (pre ++ seg ++ post)) :
    Calls Try.prog 86 #[.slice (some ⟨g, 0, none⟩) N cap, .int .i64 pre.length, .int .i64 ((pre.length : Int) + (seg.length : Int)), .func (.func 46) #[] #[.pointer (some ⟨gc, 0, none⟩), .pointer (some ⟨gl, 0, none⟩)]] w fun e w' => (∃ v, e = .returned v) ∧ RowN w' g (pre ++ (isortR (fun i j => cmpT (atL l i) (atL l j)) [] seg).reverse ++ post) ∧ w.grownBy w' (some g) := by
  have hg := Blk.lt hr
  have HC := Lib.hid hc
  have Hlt := Lib.hid hlt
  generalize hcf : (fun i j => cmpT (atL l i) (atL l j)) = cf at *
  have hcf2 : ∀ i j, cmpT (atL l i) (atL l j) = cf i j := fun i j => by rw [← hcf]
  have Hcf := Lib.hid hcf2
  clear hc hlt hcf hcf2
  have H0 : Hid (RowN w g (pre ++ (isortR cf [] (seg.take 1)).reverse ++ (seg.drop 1 ++ post))) := by
    cases seg with
    | nil => show RowN w g _; simpa [isortR] using hr
    | cons x s => show RowN w g _; simpa [isortR, insRev] using hr
  have hl1 : pre.length ≤ 1000000 := by simp at hN; omega
  have hl2 : pre.length + seg.length ≤ 1000000 := by simp at hN; omega
  have HN := Lib.hid hN
  clear hr hN
  go_enter Try.func86, Try.ntmps86
  go_wp2
  go_loopw [8] (fun i wr0 => ∃ (wr : World) (m : Nat), wr = wr0 ∧ 1 ≤ m ∧ (m ≤ seg.length ∨ m = 1) ∧ i = .int .i64 ((pre.length : Int) + (m : Int)) ∧ w.grownBy wr (some g) ∧ Hid (RowN wr g (pre ++ (isortR cf [] (seg.take m)).reverse ++ (seg.drop m ++ post)))) (fun i _ => pre.length + seg.length - (intOf i).toNat)
  case atStart => exact ⟨_, 1, rfl, by omega, .inr rfl, rfl, World.grownBy.refl _ _, H0⟩
  case round =>
    obtain ⟨wr, m, rfl, hm1, hm2, rfl, hG, hR⟩ := hrel
    by_cases hlt : m < seg.length
    · have hx : seg[m]? = some seg[m] := List.getElem?_eq_getElem hlt
      obtain ⟨x, hxx⟩ : ∃ x, seg[m] = x := ⟨_, rfl⟩
      rw [hxx] at hx
      obtain ⟨P0, hP0⟩ : ∃ P0, isortR cf [] (seg.take m) = P0 := ⟨_, rfl⟩
      obtain ⟨rest, hrest⟩ : ∃ rest, seg.drop (m + 1) ++ post = rest := ⟨_, rfl⟩
      have hlen0 : P0.length = m := by rw [← hP0, isortR_len]; simp; omega
      have hd : seg.drop m ++ post = x :: rest := by rw [← hrest, ← hxx, ← List.cons_append, ← List.drop_eq_getElem_cons hlt]
      have hins : insRev cf x P0 = isortR cf [] (seg.take (m + 1)) := by
        rw [List.take_add_one, hx, ← hP0]
        exact (isortR_snoc cf [] _ x).symm
      have hR0 : Hid (RowN wr g (pre ++ P0.reverse ++ x :: ([] ++ rest))) := by
        have := hR.out
        rw [hP0, hd] at this
        exact this
      have Hfin := Lib.hid (show ∀ (P Q : List Nat) (W : World), (insRev cf x P).reverse ++ Q = (insRev cf x P0).reverse → (insRev cf x P).reverse = P.reverse ++ [x] → RowN W g (pre ++ P.reverse ++ x :: (Q ++ rest)) → RowN W g (pre ++ (isortR cf [] (seg.take (m + 1))).reverse ++ (seg.drop (m + 1) ++ post)) from fun P Q W h1 h2 h3 => by
        rw [← hins, ← h1, h2, hrest]
        simpa using h3)
      have Hall := Lib.hid (show ∀ (P Q : List Nat), (insRev cf x P).reverse ++ Q = (insRev cf x P0).reverse → ∀ y ∈ x :: P, y < n from fun P Q h1 y hy => by
        have h2 : y ∈ (insRev cf x P0).reverse := by
          rw [← h1]
          refine List.mem_append_left _ (List.mem_reverse.2 ((insRev_perm cf x P).mem_iff.2 hy))
        rw [List.mem_reverse, hins] at h2
        have h3 := (isortR_perm cf (seg.take (m + 1)) []).mem_iff.1 h2
        exact Hlt.out y (List.mem_append_left _ (List.mem_append_right _ (List.take_subset _ _ (by simpa using h3)))))
      have Hlq := Lib.hid (show ∀ (P Q : List Nat), (insRev cf x P).reverse ++ Q = (insRev cf x P0).reverse → P.length + Q.length = m from fun P Q h1 => by
        have := congrArg List.length h1
        rw [List.length_append, List.length_reverse, List.length_reverse, insRev_len, insRev_len] at this
        omega)
      have Hlen0 := Lib.hid hlen0
      clear hx hxx hP0 hrest hd hins hR hlen0
      have hpm : (pre.length : Int) + m < pre.length + seg.length := by omega
      go_wp2
      go_loopw [9] (fun i wr0 => ∃ (w2 : World) (P Q : List Nat), w2 = wr0 ∧ i = .int .i64 ((pre.length : Int) + (P.length : Int)) ∧ w.grownBy w2 (some g) ∧ Hid ((insRev cf x P).reverse ++ Q = (insRev cf x P0).reverse ∧ RowN w2 g (pre ++ P.reverse ++ x :: (Q ++ rest)))) (fun i _ => (intOf i).toNat)
      case atStart => exact ⟨_, P0, [], rfl, by rw [Hlen0.out], hG, Lib.hid ⟨by simp, hR0.out⟩⟩
      case round =>
        obtain ⟨w2, P, Q, rfl, rfl, hG2, hR2⟩ := hrel
        have hlq := Hlq.out P Q hR2.out.1
        cases P with
        | nil =>
          have Hn := Lib.hid (Hfin.out [] Q w2 hR2.out.1 rfl hR2.out.2)
          have hpl : (pre.length : Int) + (([] : List Nat).length : Int) = (pre.length : Int) := by simp
          rw [hpl]
          clear hpl hlq
          have hgd : ¬ (pre.length : Int) < (pre.length : Int) := by omega
          clear hR2
          go_wp2_with fail
          go_quiet (fail)
          go_wp2
          go_roundw
          case rel => exact ⟨_, m + 1, rfl, by omega, by omega, by go_num, gr_drewN hG2 _, Lib.hid (show RowN _ _ _ from Hn.out)⟩
          case measure => simp [intOf]; omega
        | cons y P =>
          have hxn := Hall.out (y :: P) Q hR2.out.1 x (by simp)
          have hyn := Hall.out (y :: P) Q hR2.out.1 y (by simp)
          have hrow := hR2.out.2
          have hX : (pre ++ (y :: P).reverse ++ x :: (Q ++ rest)) = (pre ++ P.reverse) ++ y :: x :: (Q ++ rest) := by simp
          rw [hX] at hrow
          have hXl : (pre ++ P.reverse).length = pre.length + P.length := by simp
          obtain ⟨k, hk⟩ : ∃ k, pre.length + P.length = k := ⟨_, rfl⟩
          have e0 : ((pre ++ P.reverse) ++ y :: x :: (Q ++ rest))[k]? = some y := by rw [List.getElem?_append_right (by omega), hXl, hk, Nat.sub_self]; rfl
          have e1 : ((pre ++ P.reverse) ++ y :: x :: (Q ++ rest))[k + 1]? = some x := by rw [List.getElem?_append_right (by omega), hXl, hk, Nat.add_sub_cancel_left]; rfl
          have c0 := hrow.at e0
          have c1 := hrow.at e1
          have q0 := Blk.free hrow k
          have q1 := Blk.free hrow (k + 1)
          have hsw1 := Lib.hid (show ∀ W, RowN W g ((pre ++ P.reverse) ++ y :: x :: (Q ++ rest)) → RowN ((W.setCell ⟨g, k + 1, none⟩ (.int .i64 y)).setCell ⟨g, k, none⟩ (.int .i64 x)) g (pre ++ P.reverse ++ x :: (y :: Q ++ rest)) from fun W h => by
            have h1 := (h.set (k + 1) y).set k x
            rw [← hk, ← hXl, swap_list] at h1
            rw [← hk, ← hXl]; exact h1)
          have hsw2 := Lib.hid (show ∀ W, RowN W g ((pre ++ P.reverse) ++ y :: x :: (Q ++ rest)) → RowN ((W.setCell ⟨g, k, none⟩ (.int .i64 x)).setCell ⟨g, k + 1, none⟩ (.int .i64 y)) g (pre ++ P.reverse ++ x :: (y :: Q ++ rest)) from fun W h => by
            have h1 := (h.set k x).set (k + 1) y
            rw [← hk, ← hXl, swap_list2] at h1
            rw [← hk, ← hXl]; exact h1)
          have hkk := Lib.hid hk
          have hpl : (pre.length : Int) + ((y :: P).length : Int) = (k : Int) + 1 := by simp; omega
          rw [hpl]
          have hg2 := Blk.lt hrow
          have hB2 : Below g w0 w2.drew := (hb.trans (gr_below hG2 (Nat.le_of_lt hg) (Nat.le_refl _))).drew
          have cC := HC.out x y w2.drew hB2 (Nat.le_of_lt hg2) hxn hyn
          rw [Hcf.out] at cC
          have hkn : (pre.length : Int) < (k : Int) + 1 := by omega
          have hkN : (k : Int) + 1 < (N : Int) := by
            have h1 := HN.out
            have h2 := congrArg List.length (show (pre ++ seg ++ post) = (pre ++ seg ++ post) from rfl)
            have h3 : P.length + 1 + Q.length = m := by simpa using hlq
            simp at h1
            omega
          have hwr : IntKind.i64.wrap ((k : Int) + 1 - 1) = (k : Int) := by rw [IntKind.wrap_i64]; omega
          have hwr2 : IntKind.i64.wrap (k : Int) = (k : Int) := by rw [IntKind.wrap_i64]; omega
          have hk0 : 0 ≤ (k : Int) := by omega
          have hk1 : 0 ≤ (k : Int) + 1 := by omega
          have hkN0 : (k : Int) < (N : Int) := by omega
          have hB2d : Below w2.heap.size w2 w2.drew := (Below.refl _ _).drew
          have HR2 := Lib.hid hR2.out.1
          have Hrow := Lib.hid hrow
          clear hR2 hrow hX e0 e1 hlq hpl hXl hk
          by_cases hneg : cf x y < 0
          · have hi2 : Hid ((insRev cf x P).reverse ++ (y :: Q) = (insRev cf x P0).reverse) := by
              have h1 := HR2.out
              rw [insRev, if_pos hneg] at h1
              show _ = _
              rw [← h1]; simp
            generalize cf x y = R at *
            go_wp2_with fail
            go_region_held3 (fun w' => w'.cell? ⟨g, k, none⟩ = some (.int .i64 y) ∧ w'.cell? ⟨g, k + 1, none⟩ = some (.int .i64 x))
              (first | go_keep | (exact ⟨(B4.cell hg2).trans c0, (B4.cell hg2).trans c1⟩))
              (first | (go_at_call 46; ((with_reducible refine cC.mono ?_); rintro e w4 ⟨rfl, hb4⟩; have B4 := bel_trans hB2d hb4; have H4 := Lib.hid (Blk.below Hrow.out B4); have z0 := (B4.cell (p := ⟨g, k, none⟩) hg2).trans c0; have z1 := (B4.cell (p := ⟨g, k + 1, none⟩) hg2).trans c1; have p0 := (B4.frozen (p := ⟨g, k, none⟩) hg2).trans q0; have p1 := (B4.frozen (p := ⟨g, k + 1, none⟩) hg2).trans q1)))
            have hg4 : w2.grownBy w4 (some g) := gr_of_below B4 B4.tape
            go_wp2
            go_region
            go_wp2
            exact ⟨⟨_, P, y :: Q, rfl, by congr 1; have := hkk.out; omega, gr_drew (gr_set (gr_set (hG2.trans hg4) _ _) _ _), Lib.hid ⟨hi2.out, hsw1.out _ H4.out⟩⟩, by simp [intOf] <;> omega⟩
          · have Hn := Lib.hid (Hfin.out (y :: P) Q · HR2.out (by rw [insRev, if_neg hneg]; simp))
            generalize cf x y = R at *
            go_wp2_with fail
            go_region_held3 (fun w' => w'.cell? ⟨g, k, none⟩ = some (.int .i64 y) ∧ w'.cell? ⟨g, k + 1, none⟩ = some (.int .i64 x))
              (first | go_keep | (exact ⟨(B4.cell hg2).trans c0, (B4.cell hg2).trans c1⟩))
              (first | (go_at_call 46; ((with_reducible refine cC.mono ?_); rintro e w4 ⟨rfl, hb4⟩; have B4 := bel_trans hB2d hb4; have H4 := Lib.hid (Blk.below Hrow.out B4); have z0 := (B4.cell (p := ⟨g, k, none⟩) hg2).trans c0; have z1 := (B4.cell (p := ⟨g, k + 1, none⟩) hg2).trans c1; have p0 := (B4.frozen (p := ⟨g, k, none⟩) hg2).trans q0; have p1 := (B4.frozen (p := ⟨g, k + 1, none⟩) hg2).trans q1)))
            have hg4 : w2.grownBy w4 (some g) := gr_of_below B4 B4.tape
            go_wp2
            go_roundw
            case rel => exact ⟨_, m + 1, rfl, by omega, by omega, by go_num, hG2.trans hg4, Lib.hid (Hn.out _ (by
              have h := H4.out
              rw [show pre ++ (y :: P).reverse ++ x :: (Q ++ rest) = (pre ++ P.reverse) ++ y :: x :: (Q ++ rest) by simp]
              exact h))⟩
            case measure => simp [intOf]; omega
    · have Hn : Hid (RowN wr g (pre ++ (isortR cf [] seg).reverse ++ post)) := by
        have h := hR.out
        rw [List.take_of_length_le (by omega), List.drop_eq_nil_of_le (by omega)] at h
        exact h
      have hpm : ¬ (pre.length : Int) + m < pre.length + seg.length := by omega
      clear hR
      go_wp2
      go_end0
      exact ⟨⟨_, rfl⟩, by (have h := Hn.out; rwa [List.append_assoc] at h), hG⟩
end Go.Proofs.Ytelepojpnkoelaa.T
