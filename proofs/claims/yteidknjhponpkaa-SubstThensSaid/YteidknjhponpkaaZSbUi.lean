/-
  What is proved: the library's insertion sort of a part of a row of pairs.
-/
import Derived.Test.YteidknjhponpkaaU1
namespace Go.Proofs.Yteidknjhponpkaa.U
open Go.RowKit L T C B
set_option linter.unusedVariables false
set_option linter.unusedSimpArgs false

set_option maxRecDepth 100000 in
set_option maxHeartbeats 8000000 in
theorem insertionU2_any (H : Nat → Hu) (lo cp : Nat) (g n : Nat) (w0 : World) (cf : Nat → Nat → Int) (hc : CmpU H cf) (pre seg post : List Nat) (hlt : ∀ z ∈ pre ++ seg ++ post, z < n) (N cap : Nat) (hN : N = (pre ++ seg ++ post).length) (hN2 : N ≤ 1000000) (w : World) (hb : Below g w0 w) (hr : RowH H lo cp w g (pre ++ seg ++ post)) :
    Calls Try.prog 88 #[.slice (some ⟨g, 0, none⟩) N cap, .int .i64 pre.length, .int .i64 ((pre.length : Int) + (seg.length : Int)), .func (.func 55) #[] #[]] w fun e w' => (∃ v, e = .returned v) ∧ RowH H lo cp w' g (pre ++ (isortR cf [] seg).reverse ++ post) ∧ w.grownBy w' (some g) := by
  have hg := RowU.lt hr.row
  have HC := Lib.hid hc
  have Hlt := Lib.hid hlt
  clear hc hlt
  have H0 : Hid (RowH H lo cp w g (pre ++ (isortR cf [] (seg.take 1)).reverse ++ (seg.drop 1 ++ post))) := by
    cases seg with
    | nil => show RowH H lo cp w g _; simpa [isortR] using hr
    | cons x s => show RowH H lo cp w g _; simpa [isortR, insRev] using hr
  have hl1 : pre.length ≤ 1000000 := by simp at hN; omega
  have hl2 : pre.length + seg.length ≤ 1000000 := by simp at hN; omega
  have HN := Lib.hid hN
  clear hr hN
  go_enter Try.func88, Try.ntmps88
  go_wp2
  go_loopw [8] (fun i wr0 => ∃ (wr : World) (m : Nat), wr = wr0 ∧ 1 ≤ m ∧ (m ≤ seg.length ∨ m = 1) ∧ i = .int .i64 ((pre.length : Int) + (m : Int)) ∧ w.grownBy wr (some g) ∧ Hid (RowH H lo cp wr g (pre ++ (isortR cf [] (seg.take m)).reverse ++ (seg.drop m ++ post)))) (fun i _ => pre.length + seg.length - (intOf i).toNat)
  case atStart => exact ⟨_, 1, rfl, by omega, .inr rfl, rfl, World.grownBy.refl _ _, H0⟩
  case round =>
    obtain ⟨wr, m, rfl, hm1, hm2, rfl, hG, hR⟩ := hrel
    by_cases hlt : m < seg.length
    · have hx : seg[m]? = some seg[m] := List.getElem?_eq_getElem hlt
      obtain ⟨x, hxx⟩ : ∃ x, seg[m] = x := ⟨_, rfl⟩
      rw [hxx] at hx
      obtain ⟨P0, hP0⟩ : ∃ P0, isortR cf [] (seg.take m) = P0 := ⟨_, rfl⟩
      obtain ⟨rest, hrest⟩ : ∃ rest, seg.drop (m + 1) ++ post = rest := ⟨_, rfl⟩
      have hlen0 : P0.length = m := by rw [← hP0, isortR_len]; simp; omega
      have hd : seg.drop m ++ post = x :: rest := by rw [← hrest, ← hxx, ← List.cons_append, ← List.drop_eq_getElem_cons hlt]
      have hins : insRev cf x P0 = isortR cf [] (seg.take (m + 1)) := by
        rw [List.take_add_one, hx, ← hP0]
        exact (isortR_snoc cf [] _ x).symm
      have hR0 : Hid (RowH H lo cp wr g (pre ++ P0.reverse ++ x :: ([] ++ rest))) := by
        have := hR.out
        rw [hP0, hd] at this
        exact this
      have Hfin := Lib.hid (show ∀ (P Q : List Nat) (W : World), (insRev cf x P).reverse ++ Q = (insRev cf x P0).reverse → (insRev cf x P).reverse = P.reverse ++ [x] → RowH H lo cp W g (pre ++ P.reverse ++ x :: (Q ++ rest)) → RowH H lo cp W g (pre ++ (isortR cf [] (seg.take (m + 1))).reverse ++ (seg.drop (m + 1) ++ post)) from fun P Q W h1 h2 h3 => by
        rw [← hins, ← h1, h2, hrest]
        simpa using h3)
      have Hall := Lib.hid (show ∀ (P Q : List Nat), (insRev cf x P).reverse ++ Q = (insRev cf x P0).reverse → ∀ y ∈ x :: P, y < n from fun P Q h1 y hy => by
        have h2 : y ∈ (insRev cf x P0).reverse := by
          rw [← h1]
          refine List.mem_append_left _ (List.mem_reverse.2 ((insRev_perm cf x P).mem_iff.2 hy))
        rw [List.mem_reverse, hins] at h2
        have h3 := (isortR_perm cf (seg.take (m + 1)) []).mem_iff.1 h2
        exact Hlt.out y (List.mem_append_left _ (List.mem_append_right _ (List.take_subset _ _ (by simpa using h3)))))
      have Hlq := Lib.hid (show ∀ (P Q : List Nat), (insRev cf x P).reverse ++ Q = (insRev cf x P0).reverse → P.length + Q.length = m from fun P Q h1 => by
        have := congrArg List.length h1
        rw [List.length_append, List.length_reverse, List.length_reverse, insRev_len, insRev_len] at this
        omega)
      have Hlen0 := Lib.hid hlen0
      clear hx hxx hP0 hrest hd hins hR hlen0
      have hpm : (pre.length : Int) + m < pre.length + seg.length := by omega
      go_wp2
      go_loopw [9] (fun i wr0 => ∃ (w2 : World) (P Q : List Nat), w2 = wr0 ∧ i = .int .i64 ((pre.length : Int) + (P.length : Int)) ∧ w.grownBy w2 (some g) ∧ Hid ((insRev cf x P).reverse ++ Q = (insRev cf x P0).reverse ∧ RowH H lo cp w2 g (pre ++ P.reverse ++ x :: (Q ++ rest)))) (fun i _ => (intOf i).toNat)
      case atStart => exact ⟨_, P0, [], rfl, by rw [Hlen0.out], hG, Lib.hid ⟨by simp, hR0.out⟩⟩
      case round =>
        obtain ⟨w2, P, Q, rfl, rfl, hG2, hR2⟩ := hrel
        have hlq := Hlq.out P Q hR2.out.1
        cases P with
        | nil =>
          have Hn := Lib.hid (Hfin.out [] Q w2 hR2.out.1 rfl hR2.out.2)
          have hpl : (pre.length : Int) + (([] : List Nat).length : Int) = (pre.length : Int) := by simp
          rw [hpl]
          clear hpl hlq
          have hgd : ¬ (pre.length : Int) < (pre.length : Int) := by omega
          clear hR2
          go_wp2_with fail
          go_quiet (fail)
          go_wp2
          go_roundw
          case rel => exact ⟨_, m + 1, rfl, by omega, by omega, by go_num, gr_drewN hG2 _, Lib.hid (show RowH H lo cp _ g _ from Hn.out)⟩
          case measure => simp [intOf]; omega
        | cons y P =>
          have hxn := Hall.out (y :: P) Q hR2.out.1 x (by simp)
          have hyn := Hall.out (y :: P) Q hR2.out.1 y (by simp)
          have hrow := hR2.out.2
          have hX : (pre ++ (y :: P).reverse ++ x :: (Q ++ rest)) = (pre ++ P.reverse) ++ y :: x :: (Q ++ rest) := by simp
          rw [hX] at hrow
          have hXl : (pre ++ P.reverse).length = pre.length + P.length := by simp
          obtain ⟨k, hk⟩ : ∃ k, pre.length + P.length = k := ⟨_, rfl⟩
          have e0 : ((pre ++ P.reverse) ++ y :: x :: (Q ++ rest))[k]? = some y := by rw [List.getElem?_append_right (by omega), hXl, hk, Nat.sub_self]; rfl
          have e1 : ((pre ++ P.reverse) ++ y :: x :: (Q ++ rest))[k + 1]? = some x := by rw [List.getElem?_append_right (by omega), hXl, hk, Nat.add_sub_cancel_left]; rfl
          obtain ⟨c0, c1, c2, c3, c4⟩ := hrow.at e0
          obtain ⟨d0, d1, d2, d3, d4⟩ := hrow.at e1
          have hsw1 := Lib.hid (show ∀ W, RowH H lo cp W g ((pre ++ P.reverse) ++ y :: x :: (Q ++ rest)) → RowH H lo cp (setU (setU W g (k + 1) (H y)) g k (H x)) g (pre ++ P.reverse ++ x :: (y :: Q ++ rest)) from fun W h => by
            have h1 := (h.set (k + 1) y (by simp; omega)).set k x (by simp; omega)
            rw [← hk, ← hXl, swap_list] at h1
            rw [← hk, ← hXl]; exact h1)
          have hkk := Lib.hid hk
          have hpl : (pre.length : Int) + ((y :: P).length : Int) = (k : Int) + 1 := by simp; omega
          rw [hpl]
          have hg2 := RowU.lt hrow.row
          have hB2 : Below g w0 w2.drew := (hb.trans (gr_below hG2 (Nat.le_of_lt hg) (Nat.le_refl _))).drew
          have cC := HC.out x y w2.drew
          have hkn : (pre.length : Int) < (k : Int) + 1 := by omega
          have hkN : (k : Int) + 1 < (N : Int) := by
            have h1 := HN.out
            have h2 := congrArg List.length (show (pre ++ seg ++ post) = (pre ++ seg ++ post) from rfl)
            have h3 : P.length + 1 + Q.length = m := by simpa using hlq
            simp at h1
            omega
          have hwr : IntKind.i64.wrap ((k : Int) + 1 - 1) = (k : Int) := by rw [IntKind.wrap_i64]; omega
          have hwr2 : IntKind.i64.wrap (k : Int) = (k : Int) := by rw [IntKind.wrap_i64]; omega
          have hk0 : 0 ≤ (k : Int) := by omega
          have hk1 : 0 ≤ (k : Int) + 1 := by omega
          have hkN0 : (k : Int) < (N : Int) := by omega
          have hB2d : Below w2.heap.size w2 w2.drew := (Below.refl _ _).drew
          have HR2 := Lib.hid hR2.out.1
          have Hrow := Lib.hid hrow
          clear hR2 hrow hX e0 e1 hlq hpl hXl hk
          generalize H y = hy at c0 c1 c2 c3 c4 cC hsw1
          generalize H x = hx at d0 d1 d2 d3 d4 cC hsw1
          obtain ⟨yy0, yy1, yy2, yy3, yy4, yy5, yy6⟩ := hy
          obtain ⟨xx0, xx1, xx2, xx3, xx4, xx5, xx6⟩ := hx
          dsimp only at c0 c1 c2 c3 c4 d0 d1 d2 d3 d4 cC
          by_cases hneg : cf x y < 0
          · have hi2 : Hid ((insRev cf x P).reverse ++ (y :: Q) = (insRev cf x P0).reverse) := by
              have h1 := HR2.out
              rw [insRev, if_pos hneg] at h1
              show _ = _
              rw [← h1]; simp
            generalize cf x y = R at *
            go_wp2_with fail
            go_region_held3 (fun w' => w'.cell? ⟨g, k * 5, none⟩ = some (.string yy0) ∧ w'.cell? ⟨g, k * 5 + 1, none⟩ = some (.int .i64 yy1) ∧ w'.cell? ⟨g, k * 5 + 1 + 1, none⟩ = some (.string yy2) ∧ w'.cell? ⟨g, k * 5 + 1 + 1 + 1, none⟩ = some (.int .i64 yy3) ∧ w'.cell? ⟨g, k * 5 + 1 + 1 + 1 + 1, none⟩ = some (.slice yy4 yy5 yy6) ∧ w'.cell? ⟨g, (k + 1) * 5, none⟩ = some (.string xx0) ∧ w'.cell? ⟨g, (k + 1) * 5 + 1, none⟩ = some (.int .i64 xx1) ∧ w'.cell? ⟨g, (k + 1) * 5 + 1 + 1, none⟩ = some (.string xx2) ∧ w'.cell? ⟨g, (k + 1) * 5 + 1 + 1 + 1, none⟩ = some (.int .i64 xx3) ∧ w'.cell? ⟨g, (k + 1) * 5 + 1 + 1 + 1 + 1, none⟩ = some (.slice xx4 xx5 xx6))
              (first | go_keep | (exact ⟨(B4.cell hg2).trans c0, (B4.cell hg2).trans c1, (B4.cell hg2).trans c2, (B4.cell hg2).trans c3, (B4.cell hg2).trans c4, (B4.cell hg2).trans d0, (B4.cell hg2).trans d1, (B4.cell hg2).trans d2, (B4.cell hg2).trans d3, (B4.cell hg2).trans d4⟩))
              (first | (go_at_call 55; ((with_reducible refine cC.mono ?_); rintro e w4 ⟨rfl, hb4⟩; have B4 := bel_trans hB2d hb4; have H4 := Lib.hid (RowH.below Hrow.out B4); have zc0 := (B4.cell (p := ⟨g, _, none⟩) hg2).trans c0; have zc1 := (B4.cell (p := ⟨g, _, none⟩) hg2).trans c1; have zc2 := (B4.cell (p := ⟨g, _, none⟩) hg2).trans c2; have zc3 := (B4.cell (p := ⟨g, _, none⟩) hg2).trans c3; have zc4 := (B4.cell (p := ⟨g, _, none⟩) hg2).trans c4; have zd0 := (B4.cell (p := ⟨g, _, none⟩) hg2).trans d0; have zd1 := (B4.cell (p := ⟨g, _, none⟩) hg2).trans d1; have zd2 := (B4.cell (p := ⟨g, _, none⟩) hg2).trans d2; have zd3 := (B4.cell (p := ⟨g, _, none⟩) hg2).trans d3; have zd4 := (B4.cell (p := ⟨g, _, none⟩) hg2).trans d4; have fq0 := RowU.free H4.out.row (k * 5); have fq1 := RowU.free H4.out.row (k * 5 + 1); have fq2 := RowU.free H4.out.row (k * 5 + 2); have fq3 := RowU.free H4.out.row (k * 5 + 3); have fq4 := RowU.free H4.out.row (k * 5 + 4); have fp0 := RowU.free H4.out.row ((k + 1) * 5); have fp1 := RowU.free H4.out.row ((k + 1) * 5 + 1); have fp2 := RowU.free H4.out.row ((k + 1) * 5 + 2); have fp3 := RowU.free H4.out.row ((k + 1) * 5 + 3); have fp4 := RowU.free H4.out.row ((k + 1) * 5 + 4))))
            have hg4 : w2.grownBy w4 (some g) := gr_of_below B4 B4.tape
            have HH := Lib.hid (hsw1.out _ H4.out)
            clear c0 c1 c2 c3 c4 d0 d1 d2 d3 d4 zc0 zc1 zc2 zc3 zc4 zd0 zd1 zd2 zd3 zd4 H4 hsw1
            unfold setU at HH
            go_wp2
            go_region
            go_wp2
            refine ⟨⟨_, P, y :: Q, rfl, by congr 1; have := hkk.out; omega, ?hgg, Lib.hid ⟨hi2.out, ?hrr⟩⟩, ?hmm⟩
            case hmm => simp [intOf] <;> omega
            case hgg => exact gr_drew (gr_set (gr_set (gr_set (gr_set (gr_set (gr_set (gr_set (gr_set (gr_set (gr_set (hG2.trans hg4) _ _) _ _) _ _) _ _) _ _) _ _) _ _) _ _) _ _) _ _)
            case hrr => exact RowH.below HH.out ((Below.refl _ _).drew)
          · have Hn := Lib.hid (Hfin.out (y :: P) Q · HR2.out (by rw [insRev, if_neg hneg]; simp))
            generalize cf x y = R at *
            go_wp2_with fail
            go_region_held3 (fun w' => w'.cell? ⟨g, k * 5, none⟩ = some (.string yy0) ∧ w'.cell? ⟨g, k * 5 + 1, none⟩ = some (.int .i64 yy1) ∧ w'.cell? ⟨g, k * 5 + 1 + 1, none⟩ = some (.string yy2) ∧ w'.cell? ⟨g, k * 5 + 1 + 1 + 1, none⟩ = some (.int .i64 yy3) ∧ w'.cell? ⟨g, k * 5 + 1 + 1 + 1 + 1, none⟩ = some (.slice yy4 yy5 yy6) ∧ w'.cell? ⟨g, (k + 1) * 5, none⟩ = some (.string xx0) ∧ w'.cell? ⟨g, (k + 1) * 5 + 1, none⟩ = some (.int .i64 xx1) ∧ w'.cell? ⟨g, (k + 1) * 5 + 1 + 1, none⟩ = some (.string xx2) ∧ w'.cell? ⟨g, (k + 1) * 5 + 1 + 1 + 1, none⟩ = some (.int .i64 xx3) ∧ w'.cell? ⟨g, (k + 1) * 5 + 1 + 1 + 1 + 1, none⟩ = some (.slice xx4 xx5 xx6))
              (first | go_keep | (exact ⟨(B4.cell hg2).trans c0, (B4.cell hg2).trans c1, (B4.cell hg2).trans c2, (B4.cell hg2).trans c3, (B4.cell hg2).trans c4, (B4.cell hg2).trans d0, (B4.cell hg2).trans d1, (B4.cell hg2).trans d2, (B4.cell hg2).trans d3, (B4.cell hg2).trans d4⟩))
              (first | (go_at_call 55; ((with_reducible refine cC.mono ?_); rintro e w4 ⟨rfl, hb4⟩; have B4 := bel_trans hB2d hb4; have H4 := Lib.hid (RowH.below Hrow.out B4); have zc0 := (B4.cell (p := ⟨g, _, none⟩) hg2).trans c0; have zc1 := (B4.cell (p := ⟨g, _, none⟩) hg2).trans c1; have zc2 := (B4.cell (p := ⟨g, _, none⟩) hg2).trans c2; have zc3 := (B4.cell (p := ⟨g, _, none⟩) hg2).trans c3; have zc4 := (B4.cell (p := ⟨g, _, none⟩) hg2).trans c4; have zd0 := (B4.cell (p := ⟨g, _, none⟩) hg2).trans d0; have zd1 := (B4.cell (p := ⟨g, _, none⟩) hg2).trans d1; have zd2 := (B4.cell (p := ⟨g, _, none⟩) hg2).trans d2; have zd3 := (B4.cell (p := ⟨g, _, none⟩) hg2).trans d3; have zd4 := (B4.cell (p := ⟨g, _, none⟩) hg2).trans d4; have fq0 := RowU.free H4.out.row (k * 5); have fq1 := RowU.free H4.out.row (k * 5 + 1); have fq2 := RowU.free H4.out.row (k * 5 + 2); have fq3 := RowU.free H4.out.row (k * 5 + 3); have fq4 := RowU.free H4.out.row (k * 5 + 4); have fp0 := RowU.free H4.out.row ((k + 1) * 5); have fp1 := RowU.free H4.out.row ((k + 1) * 5 + 1); have fp2 := RowU.free H4.out.row ((k + 1) * 5 + 2); have fp3 := RowU.free H4.out.row ((k + 1) * 5 + 3); have fp4 := RowU.free H4.out.row ((k + 1) * 5 + 4))))
            have hg4 : w2.grownBy w4 (some g) := gr_of_below B4 B4.tape
            clear c0 c1 c2 c3 c4 d0 d1 d2 d3 d4 zc0 zc1 zc2 zc3 zc4 zd0 zd1 zd2 zd3 zd4 hsw1
            go_wp2
            go_roundw
            case rel => exact ⟨_, m + 1, rfl, by omega, by omega, by go_num, hG2.trans hg4, Lib.hid (Hn.out _ (by
              have h := H4.out
              rw [show pre ++ (y :: P).reverse ++ x :: (Q ++ rest) = (pre ++ P.reverse) ++ y :: x :: (Q ++ rest) by simp]
              exact h))⟩
            case measure => simp [intOf]; omega
    · have Hn : Hid (RowH H lo cp wr g (pre ++ (isortR cf [] seg).reverse ++ post)) := by
        have h := hR.out
        rw [List.take_of_length_le (by omega), List.drop_eq_nil_of_le (by omega)] at h
        exact h
      have hpm : ¬ (pre.length : Int) + m < pre.length + seg.length := by omega
      clear hR
      go_wp2
      go_end0
      exact ⟨⟨_, rfl⟩, by (have h := Hn.out; rwa [List.append_assoc] at h), hG⟩
end Go.Proofs.Yteidknjhponpkaa.U
