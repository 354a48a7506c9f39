/-
  What is proved: the library's symMerge where the right row has one place.
-/
import Derived.Test.YtelepojpnkoelaaZTrmSl
namespace Go.Proofs.Ytelepojpnkoelaa.T
open Go.RowKit L
set_option linter.unusedVariables false
set_option linter.unusedSimpArgs false

def LoR (c : Nat → Nat → Int) (A : List Nat) (a y i : Nat) : Prop := i = a ∨ ∃ x, A[i - 1 - a]? = some x ∧ ¬ c y x < 0
def HiR (c : Nat → Nat → Int) (A : List Nat) (a m y j : Nat) : Prop := j = m ∨ ∃ x, A[j - a]? = some x ∧ c y x < 0
set_option maxRecDepth 100000 in
set_option maxHeartbeats 8000000 in
theorem sym_right (g gc gl n : Nat) (l : List Tm) (w0 : World) (hc : CmpIn g gc gl n l w0) (cf : Nat → Nat → Int) (hcf : ∀ i j, cmpT (atL l i) (atL l j) = cf i j) (h3 : Cmp3 cf) (X A Y : List Nat) (y : Nat) (hs : Srt cf A) (hx : ∀ x ∈ A, x < y) (hlt : ∀ z ∈ y :: A, z < n)
    (N cap a m b : Nat) (hA2 : A.length ≠ 1) (ha : a = X.length) (hm : m = a + A.length) (hb : b = m + 1) (hN : N = b + Y.length) (hN2 : N ≤ 1000000) (w : World) (hbw : Below g w0 w) (hr : RowN w g (X ++ (A ++ y :: Y))) :
    Calls Try.prog 87 #[.slice (some ⟨g, 0, none⟩) N cap, .int .i64 a, .int .i64 m, .int .i64 b, .func (.func 46) #[] #[.pointer (some ⟨gc, 0, none⟩), .pointer (some ⟨gl, 0, none⟩)]] w fun e w' => (∃ v, e = .returned v) ∧ (∃ M, RowN w' g (X ++ M ++ Y) ∧ M.Perm (y :: A) ∧ Srt cf M) ∧ w.grownBy w' (some g) := by
  have hg := Blk.lt hr
  have HC := Lib.hid hc
  have Hcf := Lib.hid hcf
  have Hlt := Lib.hid hlt
  have HZat := Lib.hid (show ∀ q, a ≤ q → q < m → ∃ z, A[q - a]? = some z ∧ (X ++ (A ++ y :: Y))[q]? = some z from fun q h1 h2 => by
    refine ⟨A[q - a]'(by omega), List.getElem?_eq_getElem _, ?_⟩
    rw [List.getElem?_append_right (by omega), ← ha, List.getElem?_append_left (by omega)]
    exact List.getElem?_eq_getElem _)
  have HZm := Lib.hid (show (X ++ (A ++ y :: Y))[m]? = some y from by rw [← List.append_assoc, List.getElem?_append_right (by simp; omega), show m - (X ++ A).length = 0 by simp; omega]; rfl)
  have HFin := Lib.hid (show ∀ (p : Nat) (w' : World), a ≤ p → p ≤ m → LoR cf A a y p → HiR cf A a m y p → RowN w' g (X ++ A.take (p - a) ++ y :: (A.drop (p - a) ++ Y)) → ∃ M, RowN w' g (X ++ M ++ Y) ∧ M.Perm (y :: A) ∧ Srt cf M from fun p w' h1 h2 k1 k2 hr2 => by
    refine ⟨A.take (p - a) ++ y :: A.drop (p - a), by simpa using hr2, put_perm A y (p - a), put_mid hs ?_ ?_⟩
    · have := cut_lr (A := A) (B := [y]) (s := p - a) (e := 0) h3 hs (List.pairwise_singleton _ _) (fun z hz y2 hy => by rw [List.mem_singleton.1 hy]; exact hx z hz) (by
        rcases k1 with k1 | ⟨z, e1, e2⟩
        · exact .inl (by omega)
        · exact .inr (.inr ⟨z, y, by rw [show p - a - 1 = p - 1 - a by omega]; exact e1, rfl, e2⟩))
      exact fun z hz => this z hz y (by simp)
    · have := cut_rl (A := A) (B := [y]) (s := p - a) (e := 1) h3 hs (List.pairwise_singleton _ _) (by
        rcases k2 with k2 | ⟨z, e1, e2⟩
        · exact .inl (by omega)
        · exact .inr (.inr ⟨z, y, e1, rfl, e2⟩))
      exact fun z hz => this y (by simp) z hz)
  have HSt := Lib.hid (show ∀ (k : Nat), a ≤ k → k < m → ∃ z, (X ++ A.take (k + 1 - a) ++ y :: (A.drop (k + 1 - a) ++ Y))[k]? = some z ∧ (X ++ A.take (k + 1 - a) ++ y :: (A.drop (k + 1 - a) ++ Y))[k + 1]? = some y ∧ ∀ W, RowN W g (X ++ A.take (k + 1 - a) ++ y :: (A.drop (k + 1 - a) ++ Y)) → RowN ((W.setCell ⟨g, k + 1, none⟩ (.int .i64 z)).setCell ⟨g, k, none⟩ (.int .i64 y)) g (X ++ A.take (k - a) ++ y :: (A.drop (k - a) ++ Y)) from fun k h1 h2 => by
    have hk : k - a < A.length := by omega
    have hl : (X ++ A.take (k - a)).length = k := by simp; omega
    have hd : A.drop (k - a) = A[k - a] :: A.drop (k + 1 - a) := by rw [List.drop_eq_getElem_cons hk]; congr 2; omega
    have ht : A.take (k + 1 - a) = A.take (k - a) ++ [A[k - a]] := by rw [show k + 1 - a = k - a + 1 by omega, List.take_add_one, List.getElem?_eq_getElem hk]; rfl
    have e : ∀ (T R : List Nat) (q : Nat), X ++ (T ++ [q]) ++ R = X ++ T ++ q :: R := by intro T R q; simp
    rw [ht, e]
    refine ⟨A[k - a], by rw [List.getElem?_append_right (by omega), hl, Nat.sub_self]; rfl, by rw [List.getElem?_append_right (by omega), hl, show k + 1 - k = 1 by omega]; rfl, fun W h => ?_⟩
    have h1 := (h.set (k + 1) A[k - a]).set k y
    have := swap_list (X ++ A.take (k - a)) (A.drop (k + 1 - a) ++ Y) y A[k - a]
    rw [hl] at this
    rw [this] at h1
    rw [hd]
    exact h1)
  have Hr := Lib.hid hr
  have H1 := Lib.hid (show ∀ W, RowN W g (X ++ (A ++ y :: Y)) → RowN W g (X ++ A.take (m - a) ++ y :: (A.drop (m - a) ++ Y)) from fun W h => by
    rw [show m - a = A.length by omega, List.take_length, List.drop_length]; simpa using h)
  have hw1 : IntKind.i64.wrap ((m : Int) - a) = (m : Int) - a := by rw [IntKind.wrap_i64]; omega
  have hw2 : IntKind.i64.wrap ((b : Int) - m) = 1 := by rw [IntKind.wrap_i64]; omega
  have hne : ¬ (m : Int) - a = 1 := by omega
  have hne2 : ((m : Int) - a == 1) = false := by simp; omega
  have ham : a ≤ m := by omega
  have hmN : m < N := by omega
  have hyn := hlt y (by simp)
  clear hr hc hcf hlt ha hs hx hb hm hN hA2
  go_enter Try.func87, Try.ntmps87
  go_wp2
  go_loopw [14, 15] (fun I J wr0 => ∃ (wr : World) (i j : Nat), wr = wr0 ∧ a ≤ i ∧ i ≤ j ∧ j ≤ m ∧ I = .int .i64 i ∧ J = .int .i64 j ∧ w.grownBy wr (some g) ∧ Hid (RowN wr g (X ++ (A ++ y :: Y)) ∧ LoR cf A a y i ∧ HiR cf A a m y j)) (fun I J _ => (intOf J).toNat - (intOf I).toNat)
  case atStart => exact ⟨_, a, m, rfl, by omega, by omega, by omega, rfl, rfl, World.grownBy.refl _ _, Lib.hid ⟨Hr.out, .inl rfl, .inl rfl⟩⟩
  case round =>
    obtain ⟨wr, i, j, rfl, hi, hij, hj, rfl, rfl, hG, hR⟩ := hrel
    by_cases hlt : i < j
    · obtain ⟨h, hh⟩ : ∃ h, (i + j) / 2 = h := ⟨_, rfl⟩
      obtain ⟨hu, hd, hv⟩ := half_int (i := i) (j := j) (by omega)
      rw [hh] at hd hv
      have hwij : IntKind.i64.wrap ((i : Int) + j) = (i : Int) + j := by rw [IntKind.wrap_i64]; omega
      obtain ⟨z, hy1, hy2⟩ := HZat.out h (by omega) (by omega)
      have c1 := RowN.at hR.out.1 hy2
      have c0 := RowN.at hR.out.1 HZm.out
      have hgr := Blk.lt hR.out.1
      have hBd : Below wr.heap.size wr wr.drew := (Below.refl _ _).drew
      have hB2 : Below g w0 wr.drew := (hbw.trans (gr_below hG (Nat.le_of_lt hg) (Nat.le_refl _))).drew
      have cC := HC.out y z wr.drew hB2 (Nat.le_of_lt hgr) hyn (Hlt.out z (List.mem_cons_of_mem _ (List.mem_of_getElem? hy1)))
      rw [Hcf.out] at cC
      have b0 : 0 ≤ (h : Int) := by omega
      have b1 : (h : Int) < (N : Int) := by omega
      have b2 : 0 ≤ (m : Int) := by omega
      have b3 : (m : Int) < (N : Int) := by omega
      have b4 : (i : Int) < (j : Int) := by omega
      have HR1 := Lib.hid hR.out.1
      have HRl := Lib.hid hR.out.2.1
      have HRr := Lib.hid hR.out.2.2
      have Hy := Lib.hid hy1
      have Hh := Lib.hid hh
      clear hR hy1 hy2 hh
      by_cases hneg : cf y z < 0
      · have Hn := Lib.hid (show HiR cf A a m y h from .inr ⟨z, Hy.out, hneg⟩)
        generalize cf y z = R at *
        go_upto_region 17 with fail
        go_region_held3 (fun w' => w'.cell? ⟨g, m, none⟩ = some (.int .i64 y) ∧ w'.cell? ⟨g, h, none⟩ = some (.int .i64 z))
          (first | go_keep | (exact ⟨(B4.cell hgr).trans c0, (B4.cell hgr).trans c1⟩))
          (first | (go_at_call 46; ((with_reducible refine cC.mono ?_); rintro e w4 ⟨rfl, hb4⟩; have B4 := bel_trans hBd hb4; have z0 := (B4.cell (p := ⟨g, m, none⟩) hgr).trans c0; have z1 := (B4.cell (p := ⟨g, h, none⟩) hgr).trans c1)))
        have hg4 : wr.grownBy w4 (some g) := gr_of_below B4 B4.tape
        go_wp2
        all_goals go_roundw
        all_goals first | exact ⟨_, i, h, rfl, by omega, by omega, by omega, rfl, rfl, hG.trans hg4, Lib.hid ⟨HR1.out.grown B4, HRl.out, Hn.out⟩⟩ | (simp [intOf]; omega)
      · have Hn := Lib.hid (show LoR cf A a y (h + 1) from .inr ⟨z, by rw [Nat.add_sub_cancel]; exact Hy.out, hneg⟩)
        generalize cf y z = R at *
        have hq1 : 0 ≤ R := by omega
        have hq2 : decide (R < 0) = false := by simp; omega
        have hq3 : (!decide (R < 0)) = true := by rw [hq2]; rfl
        go_upto_region 17 with fail
        go_region_held3 (fun w' => w'.cell? ⟨g, m, none⟩ = some (.int .i64 y) ∧ w'.cell? ⟨g, h, none⟩ = some (.int .i64 z))
          (first | go_keep | (exact ⟨(B4.cell hgr).trans c0, (B4.cell hgr).trans c1⟩))
          (first | (go_at_call 46; ((with_reducible refine cC.mono ?_); rintro e w4 ⟨rfl, hb4⟩; have B4 := bel_trans hBd hb4; have z0 := (B4.cell (p := ⟨g, m, none⟩) hgr).trans c0; have z1 := (B4.cell (p := ⟨g, h, none⟩) hgr).trans c1)))
        have hg4 : wr.grownBy w4 (some g) := gr_of_below B4 B4.tape
        go_wp2
        go_roundw
        case rel => exact ⟨_, h + 1, j, rfl, by omega, by omega, by omega, by go_num, rfl, hG.trans hg4, Lib.hid ⟨HR1.out.grown B4, Hn.out, HRr.out⟩⟩
        case measure => simp [intOf]; omega
    · obtain rfl : i = j := by omega
      have Hend := Lib.hid (show ∀ w', RowN w' g (X ++ A.take (i - a) ++ y :: (A.drop (i - a) ++ Y)) → ∃ M, RowN w' g (X ++ M ++ Y) ∧ M.Perm (y :: A) ∧ Srt cf M from fun w' h => HFin.out i w' hi hj hR.out.2.1 hR.out.2.2 h)
      have H2 := Lib.hid (H1.out wr hR.out.1)
      have b4 : ¬ (i : Int) < (i : Int) := by omega
      clear hR hij
      go_wp2
      go_loopw [17] (fun K wr0 => ∃ (w2 : World) (k : Nat), w2 = wr0 ∧ i ≤ k ∧ k ≤ m ∧ K = .int .i64 k ∧ w.grownBy w2 (some g) ∧ Hid (RowN w2 g (X ++ A.take (k - a) ++ y :: (A.drop (k - a) ++ Y)))) (fun K _ => (intOf K).toNat)
      case atStart => exact ⟨_, m, rfl, by omega, by omega, rfl, hG, H2⟩
      case round =>
        obtain ⟨w2, k, rfl, hk1, hk2, rfl, hG2, hR2⟩ := hrel
        by_cases hki : i < k
        · obtain ⟨k, rfl⟩ : ∃ k1, k = k1 + 1 := ⟨k - 1, by omega⟩
          obtain ⟨z, e0, e1, hsw⟩ := HSt.out k (by omega) (by omega)
          have c0 := RowN.at hR2.out e0
          have c1 := RowN.at hR2.out e1
          have q0 := Blk.free hR2.out k
          have q1 := Blk.free hR2.out (k + 1)
          have HS := Lib.hid (hsw _ hR2.out)
          have ek : ((k + 1 : Nat) : Int) = (k : Int) + 1 := by omega
          rw [ek]
          clear ek
          have wk1 : IntKind.i64.wrap ((k : Int) + 1 - 1) = (k : Int) := by rw [IntKind.wrap_i64]; omega
          have wk2 : IntKind.i64.wrap (k : Int) = (k : Int) := by rw [IntKind.wrap_i64]; omega
          have g0 : (i : Int) < (k : Int) + 1 := by omega
          have g1 : 0 ≤ (k : Int) := by omega
          have g2 : 0 ≤ (k : Int) + 1 := by omega
          have g3 : (k : Int) < (N : Int) := by omega
          have g4 : (k : Int) + 1 < (N : Int) := by omega
          clear hR2 e0 e1 hsw
          go_wp2
          go_region
          go_wp2
          all_goals go_roundw
          all_goals first | exact ⟨_, k, rfl, by omega, by omega, rfl, gr_drew (gr_set (gr_set hG2 _ _) _ _), HS⟩ | exact ⟨_, k, rfl, by omega, by omega, rfl, gr_set (gr_set hG2 _ _) _ _, HS⟩ | (simp [intOf] <;> omega)
        · obtain rfl : k = i := by omega
          have HE := Lib.hid (Hend.out w2 hR2.out)
          have g0 : ¬ (k : Int) < (k : Int) := by omega
          clear hR2
          go_wp2
          refine bodyPost_ret (results_none rfl _ _ _) rfl ?_
          obtain ⟨M, h1, h2⟩ := HE.out
          exact ⟨⟨_, rfl⟩, ⟨M, by simpa using h1, h2⟩, hG2⟩
end Go.Proofs.Ytelepojpnkoelaa.T
