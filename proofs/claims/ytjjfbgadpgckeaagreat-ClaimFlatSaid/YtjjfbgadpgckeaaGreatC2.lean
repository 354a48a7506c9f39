/-
  What is proved: the library's insertion sort of a row of places of claims.
  What is proved: the library's symMerge where the left row has one place (places of claims).
  What is proved: the library's symMerge where the right row has one place (places of claims).
  What is proved: the library's symMerge, any two rows side by side (places of claims).
  What is proved: what the comparison of claims at two places says.
-/
import Derived.Test.YtjjfbgadpgckeaaGreatB1
import Derived.Test.YtjjfbgadpgckeaaGreatC1
import Derived.Test.YtjjfbgadpgckeaaGreatB2
import Derived.Deep.DeepCutAuto
import Derived.Deep.CutRange
namespace Go.Proofs.YtjjfbgadpgckeaaGreat.K
open Go.RowKit L T
open C (Cl atC cmpC eqC CsW)
set_option linter.unusedVariables false
set_option linter.unusedSimpArgs false

/-- what a sort's comparison is: the closure, in every world that has what lies below the row -/
def CmpIn (g gc gl n : Nat) (l : List Cl) (w0 : World) : Prop := ∀ (i j : Nat) (w : World), Below g w0 w → g ≤ w.heap.size → i < n → j < n →
  Calls Tryz.prog 88 #[.int .i64 i, .int .i64 j, .pointer (some ⟨gc, 0, none⟩), .pointer (some ⟨gl, 0, none⟩)] w fun e w' => e = .returned (.int .i64 (cmpC (atC l i) (atC l j))) ∧ Below w.heap.size w w'

set_option maxRecDepth 100000 in
set_option maxHeartbeats 8000000 in
theorem insertion_any (g gc gl n : Nat) (l : List Cl) (w0 : World) (hc : CmpIn g gc gl n l w0) (pre seg post : List Nat) (hlt : ∀ z ∈ pre ++ seg ++ post, z < n) (N cap : Nat) (hN : N = (pre ++ seg ++ post).length) (hN2 : N ≤ 1000000) (w : World) (hb : Below g w0 w) (hr : RowN w g (pre ++ seg ++ post)) :
    Calls Tryz.prog 120 #[.slice (some ⟨g, 0, none⟩) N cap, .int .i64 pre.length, .int .i64 ((pre.length : Int) + (seg.length : Int)), .func (.func 88) #[] #[.pointer (some ⟨gc, 0, none⟩), .pointer (some ⟨gl, 0, none⟩)]] w fun e w' => (∃ v, e = .returned v) ∧ RowN w' g (pre ++ (isortR (fun i j => cmpC (atC l i) (atC l j)) [] seg).reverse ++ post) ∧ w.grownBy w' (some g) := by
  have hg := Blk.lt hr
  have HC := Lib.hid hc
  have Hlt := Lib.hid hlt
  generalize hcf : (fun i j => cmpC (atC l i) (atC l j)) = cf at *
  have hcf2 : ∀ i j, cmpC (atC l i) (atC l j) = cf i j := fun i j => by rw [← hcf]
  have Hcf := Lib.hid hcf2
  clear hc hlt hcf hcf2
  have H0 : Hid (RowN w g (pre ++ (isortR cf [] (seg.take 1)).reverse ++ (seg.drop 1 ++ post))) := by
    cases seg with
    | nil => show RowN w g _; simpa [isortR] using hr
    | cons x s => show RowN w g _; simpa [isortR, insRev] using hr
  have hl1 : pre.length ≤ 1000000 := by simp at hN; omega
  have hl2 : pre.length + seg.length ≤ 1000000 := by simp at hN; omega
  have HN := Lib.hid hN
  clear hr hN
  go_enter Tryz.func120, Tryz.ntmps120
  go_wp2
  go_loopw [8] (fun i wr0 => ∃ (wr : World) (m : Nat), wr = wr0 ∧ 1 ≤ m ∧ (m ≤ seg.length ∨ m = 1) ∧ i = .int .i64 ((pre.length : Int) + (m : Int)) ∧ w.grownBy wr (some g) ∧ Hid (RowN wr g (pre ++ (isortR cf [] (seg.take m)).reverse ++ (seg.drop m ++ post)))) (fun i _ => pre.length + seg.length - (intOf i).toNat)
  case atStart => exact ⟨_, 1, rfl, by omega, .inr rfl, rfl, World.grownBy.refl _ _, H0⟩
  case round =>
    obtain ⟨wr, m, rfl, hm1, hm2, rfl, hG, hR⟩ := hrel
    by_cases hlt : m < seg.length
    · have hx : seg[m]? = some seg[m] := List.getElem?_eq_getElem hlt
      obtain ⟨x, hxx⟩ : ∃ x, seg[m] = x := ⟨_, rfl⟩
      rw [hxx] at hx
      obtain ⟨P0, hP0⟩ : ∃ P0, isortR cf [] (seg.take m) = P0 := ⟨_, rfl⟩
      obtain ⟨rest, hrest⟩ : ∃ rest, seg.drop (m + 1) ++ post = rest := ⟨_, rfl⟩
      have hlen0 : P0.length = m := by rw [← hP0, isortR_len]; simp; omega
      have hd : seg.drop m ++ post = x :: rest := by rw [← hrest, ← hxx, ← List.cons_append, ← List.drop_eq_getElem_cons hlt]
      have hins : insRev cf x P0 = isortR cf [] (seg.take (m + 1)) := by
        rw [List.take_add_one, hx, ← hP0]
        exact (isortR_snoc cf [] _ x).symm
      have hR0 : Hid (RowN wr g (pre ++ P0.reverse ++ x :: ([] ++ rest))) := by
        have := hR.out
        rw [hP0, hd] at this
        exact this
      have Hfin := Lib.hid (show ∀ (P Q : List Nat) (W : World), (insRev cf x P).reverse ++ Q = (insRev cf x P0).reverse → (insRev cf x P).reverse = P.reverse ++ [x] → RowN W g (pre ++ P.reverse ++ x :: (Q ++ rest)) → RowN W g (pre ++ (isortR cf [] (seg.take (m + 1))).reverse ++ (seg.drop (m + 1) ++ post)) from fun P Q W h1 h2 h3 => by
        rw [← hins, ← h1, h2, hrest]
        simpa using h3)
      have Hall := Lib.hid (show ∀ (P Q : List Nat), (insRev cf x P).reverse ++ Q = (insRev cf x P0).reverse → ∀ y ∈ x :: P, y < n from fun P Q h1 y hy => by
        have h2 : y ∈ (insRev cf x P0).reverse := by
          rw [← h1]
          refine List.mem_append_left _ (List.mem_reverse.2 ((insRev_perm cf x P).mem_iff.2 hy))
        rw [List.mem_reverse, hins] at h2
        have h3 := (isortR_perm cf (seg.take (m + 1)) []).mem_iff.1 h2
        exact Hlt.out y (List.mem_append_left _ (List.mem_append_right _ (List.take_subset _ _ (by simpa using h3)))))
      have Hlq := Lib.hid (show ∀ (P Q : List Nat), (insRev cf x P).reverse ++ Q = (insRev cf x P0).reverse → P.length + Q.length = m from fun P Q h1 => by
        have := congrArg List.length h1
        rw [List.length_append, List.length_reverse, List.length_reverse, insRev_len, insRev_len] at this
        omega)
      have Hlen0 := Lib.hid hlen0
      clear hx hxx hP0 hrest hd hins hR hlen0
      have hpm : (pre.length : Int) + m < pre.length + seg.length := by omega
      go_wp2
      go_loopw [9] (fun i wr0 => ∃ (w2 : World) (P Q : List Nat), w2 = wr0 ∧ i = .int .i64 ((pre.length : Int) + (P.length : Int)) ∧ w.grownBy w2 (some g) ∧ Hid ((insRev cf x P).reverse ++ Q = (insRev cf x P0).reverse ∧ RowN w2 g (pre ++ P.reverse ++ x :: (Q ++ rest)))) (fun i _ => (intOf i).toNat)
      case atStart => exact ⟨_, P0, [], rfl, by rw [Hlen0.out], hG, Lib.hid ⟨by simp, hR0.out⟩⟩
      case round =>
        obtain ⟨w2, P, Q, rfl, rfl, hG2, hR2⟩ := hrel
        have hlq := Hlq.out P Q hR2.out.1
        cases P with
        | nil =>
          have Hn := Lib.hid (Hfin.out [] Q w2 hR2.out.1 rfl hR2.out.2)
          have hpl : (pre.length : Int) + (([] : List Nat).length : Int) = (pre.length : Int) := by simp
          rw [hpl]
          clear hpl hlq
          have hgd : ¬ (pre.length : Int) < (pre.length : Int) := by omega
          clear hR2
          go_wp2_with fail
          go_quiet (fail)
          go_wp2
          go_roundw
          case rel => exact ⟨_, m + 1, rfl, by omega, by omega, by go_num, gr_drewN hG2 _, Lib.hid (show RowN _ _ _ from Hn.out)⟩
          case measure => simp [intOf]; omega
        | cons y P =>
          have hxn := Hall.out (y :: P) Q hR2.out.1 x (by simp)
          have hyn := Hall.out (y :: P) Q hR2.out.1 y (by simp)
          have hrow := hR2.out.2
          have hX : (pre ++ (y :: P).reverse ++ x :: (Q ++ rest)) = (pre ++ P.reverse) ++ y :: x :: (Q ++ rest) := by simp
          rw [hX] at hrow
          have hXl : (pre ++ P.reverse).length = pre.length + P.length := by simp
          obtain ⟨k, hk⟩ : ∃ k, pre.length + P.length = k := ⟨_, rfl⟩
          have e0 : ((pre ++ P.reverse) ++ y :: x :: (Q ++ rest))[k]? = some y := by rw [List.getElem?_append_right (by omega), hXl, hk, Nat.sub_self]; rfl
          have e1 : ((pre ++ P.reverse) ++ y :: x :: (Q ++ rest))[k + 1]? = some x := by rw [List.getElem?_append_right (by omega), hXl, hk, Nat.add_sub_cancel_left]; rfl
          have c0 := hrow.at e0
          have c1 := hrow.at e1
          have q0 := Blk.free hrow k
          have q1 := Blk.free hrow (k + 1)
          have hsw1 := Lib.hid (show ∀ W, RowN W g ((pre ++ P.reverse) ++ y :: x :: (Q ++ rest)) → RowN ((W.setCell ⟨g, k + 1, none⟩ (.int .i64 y)).setCell ⟨g, k, none⟩ (.int .i64 x)) g (pre ++ P.reverse ++ x :: (y :: Q ++ rest)) from fun W h => by
            have h1 := (h.set (k + 1) y).set k x
            rw [← hk, ← hXl, swap_list] at h1
            rw [← hk, ← hXl]; exact h1)
          have hsw2 := Lib.hid (show ∀ W, RowN W g ((pre ++ P.reverse) ++ y :: x :: (Q ++ rest)) → RowN ((W.setCell ⟨g, k, none⟩ (.int .i64 x)).setCell ⟨g, k + 1, none⟩ (.int .i64 y)) g (pre ++ P.reverse ++ x :: (y :: Q ++ rest)) from fun W h => by
            have h1 := (h.set k x).set (k + 1) y
            rw [← hk, ← hXl, swap_list2] at h1
            rw [← hk, ← hXl]; exact h1)
          have hkk := Lib.hid hk
          have hpl : (pre.length : Int) + ((y :: P).length : Int) = (k : Int) + 1 := by simp; omega
          rw [hpl]
          have hg2 := Blk.lt hrow
          have hB2 : Below g w0 w2.drew := (hb.trans (gr_below hG2 (Nat.le_of_lt hg) (Nat.le_refl _))).drew
          have cC := HC.out x y w2.drew hB2 (Nat.le_of_lt hg2) hxn hyn
          rw [Hcf.out] at cC
          have hkn : (pre.length : Int) < (k : Int) + 1 := by omega
          have hkN : (k : Int) + 1 < (N : Int) := by
            have h1 := HN.out
            have h2 := congrArg List.length (show (pre ++ seg ++ post) = (pre ++ seg ++ post) from rfl)
            have h3 : P.length + 1 + Q.length = m := by simpa using hlq
            simp at h1
            omega
          have hwr : IntKind.i64.wrap ((k : Int) + 1 - 1) = (k : Int) := by rw [IntKind.wrap_i64]; omega
          have hwr2 : IntKind.i64.wrap (k : Int) = (k : Int) := by rw [IntKind.wrap_i64]; omega
          have hk0 : 0 ≤ (k : Int) := by omega
          have hk1 : 0 ≤ (k : Int) + 1 := by omega
          have hkN0 : (k : Int) < (N : Int) := by omega
          have hB2d : Below w2.heap.size w2 w2.drew := (Below.refl _ _).drew
          have HR2 := Lib.hid hR2.out.1
          have Hrow := Lib.hid hrow
          clear hR2 hrow hX e0 e1 hlq hpl hXl hk
          by_cases hneg : cf x y < 0
          · have hi2 : Hid ((insRev cf x P).reverse ++ (y :: Q) = (insRev cf x P0).reverse) := by
              have h1 := HR2.out
              rw [insRev, if_pos hneg] at h1
              show _ = _
              rw [← h1]; simp
            generalize cf x y = R at *
            go_wp2_with fail
            go_region_held3 (fun w' => w'.cell? ⟨g, k, none⟩ = some (.int .i64 y) ∧ w'.cell? ⟨g, k + 1, none⟩ = some (.int .i64 x))
              (first | go_keep | (exact ⟨(B4.cell hg2).trans c0, (B4.cell hg2).trans c1⟩))
              (first | (go_at_call 88; ((with_reducible refine cC.mono ?_); rintro e w4 ⟨rfl, hb4⟩; have B4 := bel_trans hB2d hb4; have H4 := Lib.hid (Blk.below Hrow.out B4); have z0 := (B4.cell (p := ⟨g, k, none⟩) hg2).trans c0; have z1 := (B4.cell (p := ⟨g, k + 1, none⟩) hg2).trans c1; have p0 := (B4.frozen (p := ⟨g, k, none⟩) hg2).trans q0; have p1 := (B4.frozen (p := ⟨g, k + 1, none⟩) hg2).trans q1)))
            have hg4 : w2.grownBy w4 (some g) := gr_of_below B4 B4.tape
            go_wp2
            go_region
            go_wp2
            exact ⟨⟨_, P, y :: Q, rfl, by congr 1; have := hkk.out; omega, gr_drew (gr_set (gr_set (hG2.trans hg4) _ _) _ _), Lib.hid ⟨hi2.out, hsw1.out _ H4.out⟩⟩, by simp [intOf] <;> omega⟩
          · have Hn := Lib.hid (Hfin.out (y :: P) Q · HR2.out (by rw [insRev, if_neg hneg]; simp))
            generalize cf x y = R at *
            go_wp2_with fail
            go_region_held3 (fun w' => w'.cell? ⟨g, k, none⟩ = some (.int .i64 y) ∧ w'.cell? ⟨g, k + 1, none⟩ = some (.int .i64 x))
              (first | go_keep | (exact ⟨(B4.cell hg2).trans c0, (B4.cell hg2).trans c1⟩))
              (first | (go_at_call 88; ((with_reducible refine cC.mono ?_); rintro e w4 ⟨rfl, hb4⟩; have B4 := bel_trans hB2d hb4; have H4 := Lib.hid (Blk.below Hrow.out B4); have z0 := (B4.cell (p := ⟨g, k, none⟩) hg2).trans c0; have z1 := (B4.cell (p := ⟨g, k + 1, none⟩) hg2).trans c1; have p0 := (B4.frozen (p := ⟨g, k, none⟩) hg2).trans q0; have p1 := (B4.frozen (p := ⟨g, k + 1, none⟩) hg2).trans q1)))
            have hg4 : w2.grownBy w4 (some g) := gr_of_below B4 B4.tape
            go_wp2
            go_roundw
            case rel => exact ⟨_, m + 1, rfl, by omega, by omega, by go_num, hG2.trans hg4, Lib.hid (Hn.out _ (by
              have h := H4.out
              rw [show pre ++ (y :: P).reverse ++ x :: (Q ++ rest) = (pre ++ P.reverse) ++ y :: x :: (Q ++ rest) by simp]
              exact h))⟩
            case measure => simp [intOf]; omega
    · have Hn : Hid (RowN wr g (pre ++ (isortR cf [] seg).reverse ++ post)) := by
        have h := hR.out
        rw [List.take_of_length_le (by omega), List.drop_eq_nil_of_le (by omega)] at h
        exact h
      have hpm : ¬ (pre.length : Int) + m < pre.length + seg.length := by omega
      clear hR
      go_wp2
      go_end0
      exact ⟨⟨_, rfl⟩, by (have h := Hn.out; rwa [List.append_assoc] at h), hG⟩

end Go.Proofs.YtjjfbgadpgckeaaGreat.K
namespace Go.Proofs.YtjjfbgadpgckeaaGreat.K
open Go.RowKit L T
open C (Cl atC cmpC eqC CsW)
set_option linter.unusedVariables false
set_option linter.unusedSimpArgs false

set_option maxRecDepth 100000 in
set_option maxHeartbeats 8000000 in
theorem sym_left (g gc gl n : Nat) (l : List Cl) (w0 : World) (hc : CmpIn g gc gl n l w0) (cf : Nat → Nat → Int) (hcf : ∀ i j, cmpC (atC l i) (atC l j) = cf i j) (h3 : Cmp3 cf) (X B Y : List Nat) (x : Nat) (hs : Srt cf B) (hx : ∀ y ∈ B, x < y) (hlt : ∀ z ∈ x :: B, z < n)
    (N cap a m b : Nat) (ha : a = X.length) (hm : m = a + 1) (hb : b = m + B.length) (hN : N = b + Y.length) (hN2 : N ≤ 1000000) (w : World) (hbw : Below g w0 w) (hr : RowN w g (X ++ x :: (B ++ Y))) :
    Calls Tryz.prog 121 #[.slice (some ⟨g, 0, none⟩) N cap, .int .i64 a, .int .i64 m, .int .i64 b, .func (.func 88) #[] #[.pointer (some ⟨gc, 0, none⟩), .pointer (some ⟨gl, 0, none⟩)]] w fun e w' => (∃ v, e = .returned v) ∧ (∃ M, RowN w' g (X ++ M ++ Y) ∧ M.Perm (x :: B) ∧ Srt cf M) ∧ w.grownBy w' (some g) := by
  have hg := Blk.lt hr
  have HC := Lib.hid hc
  have Hcf := Lib.hid hcf
  have Hlt := Lib.hid hlt
  have HX := Lib.hid ha
  have HZat := Lib.hid (show ∀ q, m ≤ q → q < b → ∃ y, B[q - m]? = some y ∧ (X ++ x :: (B ++ Y))[q]? = some y from fun q h1 h2 => by
    refine ⟨B[q - m]'(by omega), List.getElem?_eq_getElem _, ?_⟩
    rw [List.getElem?_append_right (by omega), show q - X.length = (q - m) + 1 by omega, List.getElem?_cons_succ, List.getElem?_append_left (by omega)]
    exact List.getElem?_eq_getElem _)
  have HZa := Lib.hid (show (X ++ x :: (B ++ Y))[a]? = some x from by rw [ha, List.getElem?_append_right (Nat.le_refl _), Nat.sub_self]; rfl)
  have HFin := Lib.hid (show ∀ (p : Nat) (w' : World), m ≤ p → p ≤ b → LoL cf B m x p → HiL cf B m b x p → RowN w' g (X ++ B.take (p - m) ++ x :: (B.drop (p - m) ++ Y)) → ∃ M, RowN w' g (X ++ M ++ Y) ∧ M.Perm (x :: B) ∧ Srt cf M from fun p w' h1 h2 k1 k2 hr2 => by
    refine ⟨B.take (p - m) ++ x :: B.drop (p - m), by simpa using hr2, put_perm B x (p - m), put_mid hs ?_ ?_⟩
    · have := cut_rl (A := [x]) (B := B) (s := 0) (e := p - m) h3 (List.pairwise_singleton _ _) hs (by
        rcases k1 with k1 | ⟨y, e1, e2⟩
        · exact .inr (.inl (by omega))
        · exact .inr (.inr ⟨x, y, rfl, by rw [show p - m - 1 = p - 1 - m by omega]; exact e1, e2⟩))
      exact fun y hy => this y hy x (by simp)
    · have := cut_lr (A := [x]) (B := B) (s := 1) (e := p - m) h3 (List.pairwise_singleton _ _) hs (fun z hz y hy => by rw [List.mem_singleton.1 hz]; exact hx y hy) (by
        rcases k2 with k2 | ⟨y, e1, e2⟩
        · exact .inr (.inl (by omega))
        · exact .inr (.inr ⟨x, y, rfl, e1, e2⟩))
      exact fun y hy => this x (by simp) y hy)
  have HSt := Lib.hid (show ∀ (k : Nat), a ≤ k → k + 1 < b → ∃ y, (X ++ B.take (k - a) ++ x :: (B.drop (k - a) ++ Y))[k]? = some x ∧ (X ++ B.take (k - a) ++ x :: (B.drop (k - a) ++ Y))[k + 1]? = some y ∧ ∀ W, RowN W g (X ++ B.take (k - a) ++ x :: (B.drop (k - a) ++ Y)) → RowN ((W.setCell ⟨g, k, none⟩ (.int .i64 y)).setCell ⟨g, k + 1, none⟩ (.int .i64 x)) g (X ++ B.take (k + 1 - a) ++ x :: (B.drop (k + 1 - a) ++ Y)) from fun k h1 h2 => by
    have hk : k - a < B.length := by omega
    have hl : (X ++ B.take (k - a)).length = k := by simp; omega
    have hd : B.drop (k - a) = B[k - a] :: B.drop (k + 1 - a) := by rw [List.drop_eq_getElem_cons hk]; congr 2; omega
    have ht : B.take (k + 1 - a) = B.take (k - a) ++ [B[k - a]] := by rw [show k + 1 - a = k - a + 1 by omega, List.take_add_one, List.getElem?_eq_getElem hk]; rfl
    refine ⟨B[k - a], by rw [List.getElem?_append_right (by omega), hl, Nat.sub_self]; rfl, by rw [List.getElem?_append_right (by omega), hl, hd, show k + 1 - k = 1 by omega]; rfl, fun W h => ?_⟩
    have h1 := (h.set k B[k - a]).set (k + 1) x
    rw [hd] at h1
    have := swap_list2 (X ++ B.take (k - a)) (B.drop (k + 1 - a) ++ Y) B[k - a] x
    rw [hl] at this
    rw [ht]
    have e : ∀ (T R : List Nat) (q : Nat), X ++ (T ++ [q]) ++ R = X ++ T ++ q :: R := by intro T R q; simp
    rw [e, ← this]
    exact h1)
  have H0 : Hid (RowN w g (X ++ x :: (B ++ Y)) ∧ LoL cf B m x m ∧ HiL cf B m b x b) := ⟨hr, .inl rfl, .inl rfl⟩
  have H1 := Lib.hid (show ∀ W, RowN W g (X ++ x :: (B ++ Y)) → RowN W g (X ++ B.take (a - a) ++ x :: (B.drop (a - a) ++ Y)) from fun W h => by simpa using h)
  have hw1 : IntKind.i64.wrap ((m : Int) - a) = 1 := by rw [IntKind.wrap_i64]; omega
  have hmb : m ≤ b := by omega
  have hbN : b ≤ N := by omega
  have hm1 : m ≤ a + 1 := by omega
  have hm2 : a + 1 ≤ m := by omega
  have hxn := hlt x (by simp)
  clear hr hc hcf hlt ha hs hx hb hm hN
  go_enter Tryz.func121, Tryz.ntmps121
  go_wp2
  go_loopw [10, 11] (fun I J wr0 => ∃ (wr : World) (i j : Nat), wr = wr0 ∧ m ≤ i ∧ i ≤ j ∧ j ≤ b ∧ I = .int .i64 i ∧ J = .int .i64 j ∧ w.grownBy wr (some g) ∧ Hid (RowN wr g (X ++ x :: (B ++ Y)) ∧ LoL cf B m x i ∧ HiL cf B m b x j)) (fun I J _ => (intOf J).toNat - (intOf I).toNat)
  case atStart => exact ⟨_, m, b, rfl, by omega, by omega, by omega, rfl, rfl, World.grownBy.refl _ _, H0⟩
  case round =>
    obtain ⟨wr, i, j, rfl, hi, hij, hj, rfl, rfl, hG, hR⟩ := hrel
    by_cases hlt : i < j
    · obtain ⟨h, hh⟩ : ∃ h, (i + j) / 2 = h := ⟨_, rfl⟩
      obtain ⟨hu, hd, hv⟩ := half_int (i := i) (j := j) (by omega)
      rw [hh] at hd hv
      have hwij : IntKind.i64.wrap ((i : Int) + j) = (i : Int) + j := by rw [IntKind.wrap_i64]; omega
      obtain ⟨y, hy1, hy2⟩ := HZat.out h (by omega) (by omega)
      have c0 := RowN.at hR.out.1 hy2
      have c1 := RowN.at hR.out.1 HZa.out
      have hgr := Blk.lt hR.out.1
      have hBd : Below wr.heap.size wr wr.drew := (Below.refl _ _).drew
      have hB2 : Below g w0 wr.drew := (hbw.trans (gr_below hG (Nat.le_of_lt hg) (Nat.le_refl _))).drew
      have cC := HC.out y x wr.drew hB2 (Nat.le_of_lt hgr) (Hlt.out y (List.mem_cons_of_mem _ (List.mem_of_getElem? hy1))) hxn
      rw [Hcf.out] at cC
      have b0 : 0 ≤ (h : Int) := by omega
      have b1 : (h : Int) < (N : Int) := by omega
      have b2 : 0 ≤ (a : Int) := by omega
      have b3 : (a : Int) < (N : Int) := by omega
      have b4 : (i : Int) < (j : Int) := by omega
      have HR1 := Lib.hid hR.out.1
      have HRl := Lib.hid hR.out.2.1
      have HRr := Lib.hid hR.out.2.2
      have Hy := Lib.hid hy1
      have Hh := Lib.hid hh
      clear hR hy1 hy2 hh
      by_cases hneg : cf y x < 0
      · have Hn := Lib.hid (show LoL cf B m x (h + 1) from .inr ⟨y, by rw [Nat.add_sub_cancel]; exact Hy.out, hneg⟩)
        generalize cf y x = R at *
        go_upto_region 5 with fail
        go_region_held3 (fun w' => w'.cell? ⟨g, h, none⟩ = some (.int .i64 y) ∧ w'.cell? ⟨g, a, none⟩ = some (.int .i64 x))
          (first | go_keep | (exact ⟨(B4.cell hgr).trans c0, (B4.cell hgr).trans c1⟩))
          (first | (go_at_call 88; ((with_reducible refine cC.mono ?_); rintro e w4 ⟨rfl, hb4⟩; have B4 := bel_trans hBd hb4; have z0 := (B4.cell (p := ⟨g, h, none⟩) hgr).trans c0; have z1 := (B4.cell (p := ⟨g, a, none⟩) hgr).trans c1)))
        have hg4 : wr.grownBy w4 (some g) := gr_of_below B4 B4.tape
        go_wp2
        all_goals go_roundw
        all_goals first | exact ⟨_, h + 1, j, rfl, by omega, by omega, by omega, by go_num, rfl, hG.trans hg4, Lib.hid ⟨HR1.out.grown B4, Hn.out, HRr.out⟩⟩ | (simp [intOf]; omega)
      · have Hn := Lib.hid (show HiL cf B m b x h from .inr ⟨y, Hy.out, hneg⟩)
        generalize cf y x = R at *
        go_wp2_with fail
        go_region_held3 (fun w' => w'.cell? ⟨g, h, none⟩ = some (.int .i64 y) ∧ w'.cell? ⟨g, a, none⟩ = some (.int .i64 x))
          (first | go_keep | (exact ⟨(B4.cell hgr).trans c0, (B4.cell hgr).trans c1⟩))
          (first | (go_at_call 88; ((with_reducible refine cC.mono ?_); rintro e w4 ⟨rfl, hb4⟩; have B4 := bel_trans hBd hb4; have z0 := (B4.cell (p := ⟨g, h, none⟩) hgr).trans c0; have z1 := (B4.cell (p := ⟨g, a, none⟩) hgr).trans c1)))
        have hg4 : wr.grownBy w4 (some g) := gr_of_below B4 B4.tape
        go_wp2
        all_goals go_roundw
        all_goals first | exact ⟨_, i, h, rfl, by omega, by omega, by omega, rfl, rfl, hG.trans hg4, Lib.hid ⟨HR1.out.grown B4, HRl.out, Hn.out⟩⟩ | (simp [intOf]; omega)
    · obtain rfl : i = j := by omega
      have Hend := Lib.hid (show ∀ w', RowN w' g (X ++ B.take (i - m) ++ x :: (B.drop (i - m) ++ Y)) → ∃ M, RowN w' g (X ++ M ++ Y) ∧ M.Perm (x :: B) ∧ Srt cf M from fun w' h => HFin.out i w' hi hj hR.out.2.1 hR.out.2.2 h)
      have H2 := Lib.hid (H1.out wr hR.out.1)
      have b4 : ¬ (i : Int) < (i : Int) := by omega
      have wi1 : IntKind.i64.wrap ((i : Int) - 1) = (i : Int) - 1 := by rw [IntKind.wrap_i64]; omega
      clear hR hij
      go_wp2
      go_loopw [13] (fun K wr0 => ∃ (w2 : World) (k : Nat), w2 = wr0 ∧ a ≤ k ∧ k + 1 ≤ i ∧ K = .int .i64 k ∧ w.grownBy w2 (some g) ∧ Hid (RowN w2 g (X ++ B.take (k - a) ++ x :: (B.drop (k - a) ++ Y)))) (fun K _ => i - (intOf K).toNat)
      case atStart => exact ⟨_, a, rfl, by omega, by omega, rfl, hG, H2⟩
      case round =>
        obtain ⟨w2, k, rfl, hk1, hk2, rfl, hG2, hR2⟩ := hrel
        by_cases hki : k + 1 < i
        · obtain ⟨y, e0, e1, hsw⟩ := HSt.out k hk1 (by omega)
          have c0 := RowN.at hR2.out e0
          have c1 := RowN.at hR2.out e1
          have q0 := Blk.free hR2.out k
          have q1 := Blk.free hR2.out (k + 1)
          have HS := Lib.hid (hsw _ hR2.out)
          have wk1 : IntKind.i64.wrap ((k : Int) + 1) = (k : Int) + 1 := by rw [IntKind.wrap_i64]; omega
          have g0 : (k : Int) < (i : Int) - 1 := by omega
          have g1 : 0 ≤ (k : Int) := by omega
          have g2 : 0 ≤ (k : Int) + 1 := by omega
          have g3 : (k : Int) < (N : Int) := by omega
          have g4 : (k : Int) + 1 < (N : Int) := by omega
          clear hR2 e0 e1 hsw
          go_wp2
          go_region
          go_wp2
          all_goals go_roundw
          all_goals first | exact ⟨_, k + 1, rfl, by omega, by omega, by go_num, gr_drew (gr_set (gr_set hG2 _ _) _ _), HS⟩ | exact ⟨_, k + 1, rfl, by omega, by omega, by go_num, gr_set (gr_set hG2 _ _) _ _, HS⟩ | (simp [intOf]; omega)
        · have hki2 : k - a = i - m := by omega
          have HE := Lib.hid (Hend.out w2 (by rw [← hki2]; exact hR2.out))
          have g0 : ¬ (k : Int) < (i : Int) - 1 := by omega
          clear hR2 hki2
          go_wp2
          refine bodyPost_ret (results_none rfl _ _ _) rfl ?_
          obtain ⟨M, h1, h2⟩ := HE.out
          exact ⟨⟨_, rfl⟩, ⟨M, by simpa using h1, h2⟩, hG2⟩

end Go.Proofs.YtjjfbgadpgckeaaGreat.K
namespace Go.Proofs.YtjjfbgadpgckeaaGreat.K
open Go.RowKit L T
open C (Cl atC cmpC eqC CsW)
set_option linter.unusedVariables false
set_option linter.unusedSimpArgs false

set_option maxRecDepth 100000 in
set_option maxHeartbeats 8000000 in
theorem sym_right (g gc gl n : Nat) (l : List Cl) (w0 : World) (hc : CmpIn g gc gl n l w0) (cf : Nat → Nat → Int) (hcf : ∀ i j, cmpC (atC l i) (atC l j) = cf i j) (h3 : Cmp3 cf) (X A Y : List Nat) (y : Nat) (hs : Srt cf A) (hx : ∀ x ∈ A, x < y) (hlt : ∀ z ∈ y :: A, z < n)
    (N cap a m b : Nat) (hA2 : A.length ≠ 1) (ha : a = X.length) (hm : m = a + A.length) (hb : b = m + 1) (hN : N = b + Y.length) (hN2 : N ≤ 1000000) (w : World) (hbw : Below g w0 w) (hr : RowN w g (X ++ (A ++ y :: Y))) :
    Calls Tryz.prog 121 #[.slice (some ⟨g, 0, none⟩) N cap, .int .i64 a, .int .i64 m, .int .i64 b, .func (.func 88) #[] #[.pointer (some ⟨gc, 0, none⟩), .pointer (some ⟨gl, 0, none⟩)]] w fun e w' => (∃ v, e = .returned v) ∧ (∃ M, RowN w' g (X ++ M ++ Y) ∧ M.Perm (y :: A) ∧ Srt cf M) ∧ w.grownBy w' (some g) := by
  have hg := Blk.lt hr
  have HC := Lib.hid hc
  have Hcf := Lib.hid hcf
  have Hlt := Lib.hid hlt
  have HZat := Lib.hid (show ∀ q, a ≤ q → q < m → ∃ z, A[q - a]? = some z ∧ (X ++ (A ++ y :: Y))[q]? = some z from fun q h1 h2 => by
    refine ⟨A[q - a]'(by omega), List.getElem?_eq_getElem _, ?_⟩
    rw [List.getElem?_append_right (by omega), ← ha, List.getElem?_append_left (by omega)]
    exact List.getElem?_eq_getElem _)
  have HZm := Lib.hid (show (X ++ (A ++ y :: Y))[m]? = some y from by rw [← List.append_assoc, List.getElem?_append_right (by simp; omega), show m - (X ++ A).length = 0 by simp; omega]; rfl)
  have HFin := Lib.hid (show ∀ (p : Nat) (w' : World), a ≤ p → p ≤ m → LoR cf A a y p → HiR cf A a m y p → RowN w' g (X ++ A.take (p - a) ++ y :: (A.drop (p - a) ++ Y)) → ∃ M, RowN w' g (X ++ M ++ Y) ∧ M.Perm (y :: A) ∧ Srt cf M from fun p w' h1 h2 k1 k2 hr2 => by
    refine ⟨A.take (p - a) ++ y :: A.drop (p - a), by simpa using hr2, put_perm A y (p - a), put_mid hs ?_ ?_⟩
    · have := cut_lr (A := A) (B := [y]) (s := p - a) (e := 0) h3 hs (List.pairwise_singleton _ _) (fun z hz y2 hy => by rw [List.mem_singleton.1 hy]; exact hx z hz) (by
        rcases k1 with k1 | ⟨z, e1, e2⟩
        · exact .inl (by omega)
        · exact .inr (.inr ⟨z, y, by rw [show p - a - 1 = p - 1 - a by omega]; exact e1, rfl, e2⟩))
      exact fun z hz => this z hz y (by simp)
    · have := cut_rl (A := A) (B := [y]) (s := p - a) (e := 1) h3 hs (List.pairwise_singleton _ _) (by
        rcases k2 with k2 | ⟨z, e1, e2⟩
        · exact .inl (by omega)
        · exact .inr (.inr ⟨z, y, e1, rfl, e2⟩))
      exact fun z hz => this y (by simp) z hz)
  have HSt := Lib.hid (show ∀ (k : Nat), a ≤ k → k < m → ∃ z, (X ++ A.take (k + 1 - a) ++ y :: (A.drop (k + 1 - a) ++ Y))[k]? = some z ∧ (X ++ A.take (k + 1 - a) ++ y :: (A.drop (k + 1 - a) ++ Y))[k + 1]? = some y ∧ ∀ W, RowN W g (X ++ A.take (k + 1 - a) ++ y :: (A.drop (k + 1 - a) ++ Y)) → RowN ((W.setCell ⟨g, k + 1, none⟩ (.int .i64 z)).setCell ⟨g, k, none⟩ (.int .i64 y)) g (X ++ A.take (k - a) ++ y :: (A.drop (k - a) ++ Y)) from fun k h1 h2 => by
    have hk : k - a < A.length := by omega
    have hl : (X ++ A.take (k - a)).length = k := by simp; omega
    have hd : A.drop (k - a) = A[k - a] :: A.drop (k + 1 - a) := by rw [List.drop_eq_getElem_cons hk]; congr 2; omega
    have ht : A.take (k + 1 - a) = A.take (k - a) ++ [A[k - a]] := by rw [show k + 1 - a = k - a + 1 by omega, List.take_add_one, List.getElem?_eq_getElem hk]; rfl
    have e : ∀ (T R : List Nat) (q : Nat), X ++ (T ++ [q]) ++ R = X ++ T ++ q :: R := by intro T R q; simp
    rw [ht, e]
    refine ⟨A[k - a], by rw [List.getElem?_append_right (by omega), hl, Nat.sub_self]; rfl, by rw [List.getElem?_append_right (by omega), hl, show k + 1 - k = 1 by omega]; rfl, fun W h => ?_⟩
    have h1 := (h.set (k + 1) A[k - a]).set k y
    have := swap_list (X ++ A.take (k - a)) (A.drop (k + 1 - a) ++ Y) y A[k - a]
    rw [hl] at this
    rw [this] at h1
    rw [hd]
    exact h1)
  have Hr := Lib.hid hr
  have H1 := Lib.hid (show ∀ W, RowN W g (X ++ (A ++ y :: Y)) → RowN W g (X ++ A.take (m - a) ++ y :: (A.drop (m - a) ++ Y)) from fun W h => by
    rw [show m - a = A.length by omega, List.take_length, List.drop_length]; simpa using h)
  have hw1 : IntKind.i64.wrap ((m : Int) - a) = (m : Int) - a := by rw [IntKind.wrap_i64]; omega
  have hw2 : IntKind.i64.wrap ((b : Int) - m) = 1 := by rw [IntKind.wrap_i64]; omega
  have hne : ¬ (m : Int) - a = 1 := by omega
  have hne2 : ((m : Int) - a == 1) = false := by simp; omega
  have ham : a ≤ m := by omega
  have hmN : m < N := by omega
  have hyn := hlt y (by simp)
  clear hr hc hcf hlt ha hs hx hb hm hN hA2
  go_enter Tryz.func121, Tryz.ntmps121
  go_wp2
  go_loopw [14, 15] (fun I J wr0 => ∃ (wr : World) (i j : Nat), wr = wr0 ∧ a ≤ i ∧ i ≤ j ∧ j ≤ m ∧ I = .int .i64 i ∧ J = .int .i64 j ∧ w.grownBy wr (some g) ∧ Hid (RowN wr g (X ++ (A ++ y :: Y)) ∧ LoR cf A a y i ∧ HiR cf A a m y j)) (fun I J _ => (intOf J).toNat - (intOf I).toNat)
  case atStart => exact ⟨_, a, m, rfl, by omega, by omega, by omega, rfl, rfl, World.grownBy.refl _ _, Lib.hid ⟨Hr.out, .inl rfl, .inl rfl⟩⟩
  case round =>
    obtain ⟨wr, i, j, rfl, hi, hij, hj, rfl, rfl, hG, hR⟩ := hrel
    by_cases hlt : i < j
    · obtain ⟨h, hh⟩ : ∃ h, (i + j) / 2 = h := ⟨_, rfl⟩
      obtain ⟨hu, hd, hv⟩ := half_int (i := i) (j := j) (by omega)
      rw [hh] at hd hv
      have hwij : IntKind.i64.wrap ((i : Int) + j) = (i : Int) + j := by rw [IntKind.wrap_i64]; omega
      obtain ⟨z, hy1, hy2⟩ := HZat.out h (by omega) (by omega)
      have c1 := RowN.at hR.out.1 hy2
      have c0 := RowN.at hR.out.1 HZm.out
      have hgr := Blk.lt hR.out.1
      have hBd : Below wr.heap.size wr wr.drew := (Below.refl _ _).drew
      have hB2 : Below g w0 wr.drew := (hbw.trans (gr_below hG (Nat.le_of_lt hg) (Nat.le_refl _))).drew
      have cC := HC.out y z wr.drew hB2 (Nat.le_of_lt hgr) hyn (Hlt.out z (List.mem_cons_of_mem _ (List.mem_of_getElem? hy1)))
      rw [Hcf.out] at cC
      have b0 : 0 ≤ (h : Int) := by omega
      have b1 : (h : Int) < (N : Int) := by omega
      have b2 : 0 ≤ (m : Int) := by omega
      have b3 : (m : Int) < (N : Int) := by omega
      have b4 : (i : Int) < (j : Int) := by omega
      have HR1 := Lib.hid hR.out.1
      have HRl := Lib.hid hR.out.2.1
      have HRr := Lib.hid hR.out.2.2
      have Hy := Lib.hid hy1
      have Hh := Lib.hid hh
      clear hR hy1 hy2 hh
      by_cases hneg : cf y z < 0
      · have Hn := Lib.hid (show HiR cf A a m y h from .inr ⟨z, Hy.out, hneg⟩)
        generalize cf y z = R at *
        go_upto_region 17 with fail
        go_region_held3 (fun w' => w'.cell? ⟨g, m, none⟩ = some (.int .i64 y) ∧ w'.cell? ⟨g, h, none⟩ = some (.int .i64 z))
          (first | go_keep | (exact ⟨(B4.cell hgr).trans c0, (B4.cell hgr).trans c1⟩))
          (first | (go_at_call 88; ((with_reducible refine cC.mono ?_); rintro e w4 ⟨rfl, hb4⟩; have B4 := bel_trans hBd hb4; have z0 := (B4.cell (p := ⟨g, m, none⟩) hgr).trans c0; have z1 := (B4.cell (p := ⟨g, h, none⟩) hgr).trans c1)))
        have hg4 : wr.grownBy w4 (some g) := gr_of_below B4 B4.tape
        go_wp2
        all_goals go_roundw
        all_goals first | exact ⟨_, i, h, rfl, by omega, by omega, by omega, rfl, rfl, hG.trans hg4, Lib.hid ⟨HR1.out.grown B4, HRl.out, Hn.out⟩⟩ | (simp [intOf]; omega)
      · have Hn := Lib.hid (show LoR cf A a y (h + 1) from .inr ⟨z, by rw [Nat.add_sub_cancel]; exact Hy.out, hneg⟩)
        generalize cf y z = R at *
        have hq1 : 0 ≤ R := by omega
        have hq2 : decide (R < 0) = false := by simp; omega
        have hq3 : (!decide (R < 0)) = true := by rw [hq2]; rfl
        go_upto_region 17 with fail
        go_region_held3 (fun w' => w'.cell? ⟨g, m, none⟩ = some (.int .i64 y) ∧ w'.cell? ⟨g, h, none⟩ = some (.int .i64 z))
          (first | go_keep | (exact ⟨(B4.cell hgr).trans c0, (B4.cell hgr).trans c1⟩))
          (first | (go_at_call 88; ((with_reducible refine cC.mono ?_); rintro e w4 ⟨rfl, hb4⟩; have B4 := bel_trans hBd hb4; have z0 := (B4.cell (p := ⟨g, m, none⟩) hgr).trans c0; have z1 := (B4.cell (p := ⟨g, h, none⟩) hgr).trans c1)))
        have hg4 : wr.grownBy w4 (some g) := gr_of_below B4 B4.tape
        go_wp2
        go_roundw
        case rel => exact ⟨_, h + 1, j, rfl, by omega, by omega, by omega, by go_num, rfl, hG.trans hg4, Lib.hid ⟨HR1.out.grown B4, Hn.out, HRr.out⟩⟩
        case measure => simp [intOf]; omega
    · obtain rfl : i = j := by omega
      have Hend := Lib.hid (show ∀ w', RowN w' g (X ++ A.take (i - a) ++ y :: (A.drop (i - a) ++ Y)) → ∃ M, RowN w' g (X ++ M ++ Y) ∧ M.Perm (y :: A) ∧ Srt cf M from fun w' h => HFin.out i w' hi hj hR.out.2.1 hR.out.2.2 h)
      have H2 := Lib.hid (H1.out wr hR.out.1)
      have b4 : ¬ (i : Int) < (i : Int) := by omega
      clear hR hij
      go_wp2
      go_loopw [17] (fun K wr0 => ∃ (w2 : World) (k : Nat), w2 = wr0 ∧ i ≤ k ∧ k ≤ m ∧ K = .int .i64 k ∧ w.grownBy w2 (some g) ∧ Hid (RowN w2 g (X ++ A.take (k - a) ++ y :: (A.drop (k - a) ++ Y)))) (fun K _ => (intOf K).toNat)
      case atStart => exact ⟨_, m, rfl, by omega, by omega, rfl, hG, H2⟩
      case round =>
        obtain ⟨w2, k, rfl, hk1, hk2, rfl, hG2, hR2⟩ := hrel
        by_cases hki : i < k
        · obtain ⟨k, rfl⟩ : ∃ k1, k = k1 + 1 := ⟨k - 1, by omega⟩
          obtain ⟨z, e0, e1, hsw⟩ := HSt.out k (by omega) (by omega)
          have c0 := RowN.at hR2.out e0
          have c1 := RowN.at hR2.out e1
          have q0 := Blk.free hR2.out k
          have q1 := Blk.free hR2.out (k + 1)
          have HS := Lib.hid (hsw _ hR2.out)
          have ek : ((k + 1 : Nat) : Int) = (k : Int) + 1 := by omega
          rw [ek]
          clear ek
          have wk1 : IntKind.i64.wrap ((k : Int) + 1 - 1) = (k : Int) := by rw [IntKind.wrap_i64]; omega
          have wk2 : IntKind.i64.wrap (k : Int) = (k : Int) := by rw [IntKind.wrap_i64]; omega
          have g0 : (i : Int) < (k : Int) + 1 := by omega
          have g1 : 0 ≤ (k : Int) := by omega
          have g2 : 0 ≤ (k : Int) + 1 := by omega
          have g3 : (k : Int) < (N : Int) := by omega
          have g4 : (k : Int) + 1 < (N : Int) := by omega
          clear hR2 e0 e1 hsw
          go_wp2
          go_region
          go_wp2
          all_goals go_roundw
          all_goals first | exact ⟨_, k, rfl, by omega, by omega, rfl, gr_drew (gr_set (gr_set hG2 _ _) _ _), HS⟩ | exact ⟨_, k, rfl, by omega, by omega, rfl, gr_set (gr_set hG2 _ _) _ _, HS⟩ | (simp [intOf] <;> omega)
        · obtain rfl : k = i := by omega
          have HE := Lib.hid (Hend.out w2 hR2.out)
          have g0 : ¬ (k : Int) < (k : Int) := by omega
          clear hR2
          go_wp2
          refine bodyPost_ret (results_none rfl _ _ _) rfl ?_
          obtain ⟨M, h1, h2⟩ := HE.out
          exact ⟨⟨_, rfl⟩, ⟨M, by simpa using h1, h2⟩, hG2⟩

end Go.Proofs.YtjjfbgadpgckeaaGreat.K
namespace Go.Proofs.YtjjfbgadpgckeaaGreat.K
open Go.RowKit L T
open C (Cl atC cmpC eqC CsW)
set_option linter.unusedVariables false
set_option linter.unusedSimpArgs false


/-- symMerge of two sorted rows side by side, of at most K places -/
def SymAt (g gc gl n N cap : Nat) (cf : Nat → Nat → Int) (w0 : World) (K : Nat) : Prop := ∀ (X A B Y : List Nat) (a m b : Nat) (w : World), A ≠ [] → B ≠ [] → A.length + B.length ≤ K → a = X.length → m = a + A.length → b = m + B.length → N = b + Y.length → Srt cf A → Srt cf B → (∀ x ∈ A, ∀ y ∈ B, x < y) → (∀ z ∈ A ++ B, z < n) → Below g w0 w → RowN w g (X ++ A ++ B ++ Y) →
  Calls Tryz.prog 121 #[.slice (some ⟨g, 0, none⟩) N cap, .int .i64 a, .int .i64 m, .int .i64 b, .func (.func 88) #[] #[.pointer (some ⟨gc, 0, none⟩), .pointer (some ⟨gl, 0, none⟩)]] w fun e w' => (∃ v, e = .returned v) ∧ (∃ M, RowN w' g (X ++ M ++ Y) ∧ M.Perm (A ++ B) ∧ Srt cf M) ∧ w.grownBy w' (some g)
theorem sym_parts (g gc gl n : Nat) (w0 : World) (cf : Nat → Nat → Int) (h3 : Cmp3 cf) (K N cap : Nat) (hN2 : N ≤ 1000000) (IH : SymAt g gc gl n N cap cf w0 K) (X A B Y : List Nat) (a m b mid nn i e : Nat) (w : World)
    (hK : A.length + B.length ≤ K + 1) (hA : A ≠ []) (hB : B ≠ []) (ha : a = X.length) (hm : m = a + A.length) (hb : b = m + B.length) (hN : N = b + Y.length) (hsA : Srt cf A) (hsB : Srt cf B) (hx : ∀ x ∈ A, ∀ y ∈ B, x < y) (hlt : ∀ z ∈ A ++ B, z < n) (hbw : Below g w0 w) (hg : g < w.heap.size)
    (hmid : (a + b) / 2 = mid) (hnn : mid + m = nn) (hi1 : a ≤ i) (hi2 : i ≤ m) (hi3 : i ≤ mid) (hi4 : nn ≤ b + i) (he : nn - i = e) (hLo : LoG cf A B a m b nn i) (hHi : HiG cf A B a m nn i) :
    ∃ (S0 S1 S2 : World → Prop), (∀ W, S2 W → ∃ M, RowN W g (X ++ M ++ Y) ∧ M.Perm (A ++ B) ∧ Srt cf M) ∧
      (i < m → i < mid → ∀ W, w.grownBy W (some g) → RowN W g (X ++ A ++ B ++ Y) → Calls Tryz.prog 145 #[.slice (some ⟨g, 0, none⟩) N cap, .int .i64 i, .int .i64 m, .int .i64 e, .func (.func 88) #[] #[.pointer (some ⟨gc, 0, none⟩), .pointer (some ⟨gl, 0, none⟩)]] W fun e w' => (∃ v, e = .returned v) ∧ S0 w' ∧ w.grownBy w' (some g)) ∧
      (¬ (i < m ∧ i < mid) → ∀ W, RowN W g (X ++ A ++ B ++ Y) → S0 W) ∧
      (a < i → i < mid → ∀ W, w.grownBy W (some g) → S0 W → Calls Tryz.prog 121 #[.slice (some ⟨g, 0, none⟩) N cap, .int .i64 a, .int .i64 i, .int .i64 mid, .func (.func 88) #[] #[.pointer (some ⟨gc, 0, none⟩), .pointer (some ⟨gl, 0, none⟩)]] W fun e w' => (∃ v, e = .returned v) ∧ S1 w' ∧ w.grownBy w' (some g)) ∧
      (¬ (a < i ∧ i < mid) → ∀ W, S0 W → S1 W) ∧
      (mid < e → e < b → ∀ W, w.grownBy W (some g) → S1 W → Calls Tryz.prog 121 #[.slice (some ⟨g, 0, none⟩) N cap, .int .i64 mid, .int .i64 e, .int .i64 b, .func (.func 88) #[] #[.pointer (some ⟨gc, 0, none⟩), .pointer (some ⟨gl, 0, none⟩)]] W fun e w' => (∃ v, e = .returned v) ∧ S2 w' ∧ w.grownBy w' (some g)) ∧
      (¬ (mid < e ∧ e < b) → ∀ W, S1 W → S2 W) := by
  have lA : 0 < A.length := List.length_pos_iff.2 hA
  have lB : 0 < B.length := List.length_pos_iff.2 hB
  obtain ⟨sA, hsa⟩ : ∃ sA, i - a = sA := ⟨_, rfl⟩
  obtain ⟨eB, heb⟩ : ∃ eB, e - m = eB := ⟨_, rfl⟩
  have hB1 : ∀ W, w.grownBy W (some g) → Below g w0 W := fun W h => hbw.trans (gr_below h (Nat.le_of_lt hg) (Nat.le_refl _))
  have d1 := cut_lr (s := sA) (e := eB) h3 hsA hsB hx (by
    rcases hLo with h | h | ⟨x, y, e1, e2, e3⟩
    · exact .inl (by omega)
    · exact .inr (.inl (by omega))
    · exact .inr (.inr ⟨x, y, by rw [show sA - 1 = i - 1 - a by omega]; exact e1, by rw [show eB = nn - i - m by omega]; exact e2, e3⟩))
  have d2 := cut_rl (s := sA) (e := eB) h3 hsA hsB (by
    rcases hHi with h | h | ⟨x, y, e1, e2, e3⟩
    · exact .inl (by omega)
    · exact .inr (.inl (by omega))
    · exact .inr (.inr ⟨x, y, by rw [← hsa]; exact e1, by rw [show eB - 1 = nn - 1 - i - m by omega]; exact e2, e3⟩))
  have lt1 : (A.take sA).length = sA := by simp; omega
  have lt2 : (B.take eB).length = eB := by simp; omega
  have ld1 : (A.drop sA).length = m - i := by simp; omega
  have ld2 : (B.drop eB).length = b - e := by simp; omega
  have tA : A.take sA ++ A.drop sA = A := List.take_append_drop _ _
  have tB : B.take eB ++ B.drop eB = B := List.take_append_drop _ _
  have e1 : X ++ A ++ B ++ Y = X ++ A.take sA ++ A.drop sA ++ B.take eB ++ (B.drop eB ++ Y) := by
    rw [List.append_assoc X (A.take sA), tA, List.append_assoc (X ++ A) (B.take eB) (B.drop eB ++ Y), ← List.append_assoc (B.take eB) (B.drop eB) Y, tB, List.append_assoc (X ++ A) B Y]
  refine ⟨fun W => RowN W g (X ++ A.take sA ++ B.take eB ++ (A.drop sA ++ B.drop eB ++ Y)), fun W => ∃ M1, RowN W g (X ++ M1 ++ (A.drop sA ++ B.drop eB ++ Y)) ∧ M1.Perm (A.take sA ++ B.take eB) ∧ Srt cf M1, fun W => ∃ M, RowN W g (X ++ M ++ Y) ∧ M.Perm (A ++ B) ∧ Srt cf M, fun W h => h, ?_, ?_, ?_, ?_, ?_, ?_⟩
  · intro h1 h2 W hG hR
    have h := rotate_any g (X ++ A.take sA) (A.drop sA) (B.take eB) (B.drop eB ++ Y) N cap i m e (.func (.func 88) #[] #[.pointer (some ⟨gc, 0, none⟩), .pointer (some ⟨gl, 0, none⟩)]) (by intro h; rw [h] at ld1; simp at ld1; omega) (by intro h; rw [h] at lt2; simp at lt2; omega) (by simp; omega) (by simp; omega) (by rw [lt2]; omega) (by simp; omega) hN2 W (by
      rw [e1] at hR; exact hR)
    exact h.mono fun e w' ⟨h1, h2, h3⟩ => ⟨h1, by simpa using h2, hG.trans h3⟩
  · intro h W hR
    show RowN W g _
    by_cases h1 : i < m
    · have e0 : eB = 0 := by omega
      rw [e0, List.take_zero, List.drop_zero, List.append_nil, show X ++ A.take sA ++ (A.drop sA ++ B ++ Y) = X ++ (A.take sA ++ A.drop sA) ++ B ++ Y by simp only [List.append_assoc], tA]
      exact hR
    · have e0 : sA = A.length := by omega
      rw [e0, List.take_length, List.drop_length, List.nil_append, show X ++ A ++ B.take eB ++ (B.drop eB ++ Y) = X ++ A ++ (B.take eB ++ B.drop eB) ++ Y by simp only [List.append_assoc], tB]
      exact hR
  · intro h1 h2 W hG hS
    have h := IH X (A.take sA) (B.take eB) (A.drop sA ++ B.drop eB ++ Y) a i mid W (by intro h; rw [h] at lt1; simp at lt1; omega) (by intro h; rw [h] at lt2; simp at lt2; omega) (by rw [lt1, lt2]; omega) ha (by rw [lt1]; omega) (by rw [lt2]; omega) (by simp; omega) (srt_take hsA _) (srt_take hsB _) (fun x hx1 y hy1 => hx x (List.take_subset _ _ hx1) y (List.take_subset _ _ hy1)) (fun z hz => by
      rcases List.mem_append.1 hz with hz | hz
      · exact hlt z (List.mem_append_left _ (List.take_subset _ _ hz))
      · exact hlt z (List.mem_append_right _ (List.take_subset _ _ hz))) (hB1 W hG) hS
    exact h.mono fun e w' ⟨h1, h2, h3⟩ => ⟨h1, h2, hG.trans h3⟩
  · intro h W hS
    refine ⟨A.take sA ++ B.take eB, by have : RowN W g _ := hS; simpa using this, List.Perm.refl _, ?_⟩
    by_cases h1 : a < i
    · have e0 : eB = 0 := by omega
      subst e0
      simpa using srt_take hsA sA
    · have e0 : sA = 0 := by omega
      subst e0
      simpa using srt_take hsB eB
  · rintro h1 h2 W hG ⟨M1, hS, hp, hs⟩
    have l1 : M1.length = sA + eB := by have := hp.length_eq; rw [List.length_append, lt1, lt2] at this; exact this
    have h := IH (X ++ M1) (A.drop sA) (B.drop eB) Y mid e b W (by intro h; rw [h] at ld1; simp at ld1; omega) (by intro h; rw [h] at ld2; simp at ld2; omega) (by rw [ld1, ld2]; omega) (by simp; omega) (by rw [ld1]; omega) (by rw [ld2]; omega) (by omega) (srt_drop hsA _) (srt_drop hsB _) (fun x hx1 y hy1 => hx x (List.drop_subset _ _ hx1) y (List.drop_subset _ _ hy1)) (fun z hz => by
      rcases List.mem_append.1 hz with hz | hz
      · exact hlt z (List.mem_append_left _ (List.drop_subset _ _ hz))
      · exact hlt z (List.mem_append_right _ (List.drop_subset _ _ hz))) (hB1 W hG) (by simpa using hS)
    refine h.mono fun e w' ⟨h1, ⟨M2, h2, p2, s2⟩, h3⟩ => ⟨h1, ⟨M1 ++ M2, by simpa using h2, ?_⟩, hG.trans h3⟩
    have := merged hp p2 hs s2 hsA hsB d1 d2
    exact ⟨this.2, this.1⟩
  · rintro h W ⟨M1, hS, hp, hs⟩
    have hs2 : Srt cf (A.drop sA ++ B.drop eB) := by
      by_cases h1 : e < b
      · have e0 : sA = A.length := by omega
        rw [e0, List.drop_length]
        simpa using srt_drop hsB eB
      · have e0 : eB = B.length := by omega
        rw [e0, List.drop_length]
        simpa using srt_drop hsA sA
    refine ⟨M1 ++ (A.drop sA ++ B.drop eB), by simpa using hS, ?_⟩
    have := merged hp (List.Perm.refl _) hs hs2 hsA hsB d1 d2
    exact ⟨this.2, this.1⟩


end Go.Proofs.YtjjfbgadpgckeaaGreat.K
namespace Go.Proofs.YtjjfbgadpgckeaaGreat.K
open Go.RowKit L T
open C (Cl atC cmpC eqC CsW)
set_option linter.unusedVariables false
set_option linter.unusedSimpArgs false

def EqIn (g gc gl n : Nat) (l : List Cl) (w0 : World) : Prop := ∀ (i j : Nat) (w : World), Below g w0 w → g ≤ w.heap.size → i < n → j < n →
  Calls Tryz.prog 89 #[.int .i64 i, .int .i64 j, .pointer (some ⟨gc, 0, none⟩), .pointer (some ⟨gl, 0, none⟩)] w fun e w' => e = .returned (.bool (eqC (atC l i) (atC l j))) ∧ Below w.heap.size w w'

end Go.Proofs.YtjjfbgadpgckeaaGreat.K
