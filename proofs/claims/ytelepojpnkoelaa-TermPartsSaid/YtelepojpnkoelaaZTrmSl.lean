/-
  What is proved: the library's symMerge where the left row has one place.
-/
import Derived.Test.YtelepojpnkoelaaZTrmSr
import Derived.Deep.DeepCutAuto
import Derived.Deep.CutRange
namespace Go.Proofs.Ytelepojpnkoelaa.T
open Go.RowKit L
set_option linter.unusedVariables false
set_option linter.unusedSimpArgs false

theorem RowN.grown {w w' : World} {g : Nat} {zs : List Nat} (h : RowN w g zs) (hb : Below w.heap.size w w') : RowN w' g zs := Blk.below h hb
theorem half_int {i j : Nat} (h1 : i + j ≤ 2000000) : IntKind.u64.wrap ((i : Int) + j) = (i : Int) + j ∧ ((i : Int) + j) / 2 = (((i + j) / 2 : Nat) : Int) ∧ IntKind.i64.wrap ((((i + j) / 2 : Nat) : Int)) = (((i + j) / 2 : Nat) : Int) := by
  refine ⟨?_, by omega, by rw [IntKind.wrap_i64]; omega⟩
  simp [IntKind.wrap, IntKind.bits, IntKind.signed]
  omega
/-- what a search for x's place knows of its lower end, and of its upper one -/
def LoL (c : Nat → Nat → Int) (B : List Nat) (m x i : Nat) : Prop := i = m ∨ ∃ y, B[i - 1 - m]? = some y ∧ c y x < 0
def HiL (c : Nat → Nat → Int) (B : List Nat) (m b x j : Nat) : Prop := j = b ∨ ∃ y, B[j - m]? = some y ∧ ¬ c y x < 0
set_option maxRecDepth 100000 in
set_option maxHeartbeats 8000000 in
theorem sym_left (g gc gl n : Nat) (l : List Tm) (w0 : World) (hc : CmpIn g gc gl n l w0) (cf : Nat → Nat → Int) (hcf : ∀ i j, cmpT (atL l i) (atL l j) = cf i j) (h3 : Cmp3 cf) (X B Y : List Nat) (x : Nat) (hs : Srt cf B) (hx : ∀ y ∈ B, x < y) (hlt : ∀ z ∈ x :: B, z < n)
    (N cap a m b : Nat) (ha : a = X.length) (hm : m = a + 1) (hb : b = m + B.length) (hN : N = b + Y.length) (hN2 : N ≤ 1000000) (w : World) (hbw : Below g w0 w) (hr : RowN w g (X ++ x :: (B ++ Y))) :
    Calls Try.prog 87 #[.slice (some ⟨g, 0, none⟩) N cap, .int .i64 a, .int .i64 m, .int .i64 b, .func (.func 46) #[] #[.pointer (some ⟨gc, 0, none⟩), .pointer (some ⟨gl, 0, none⟩)]] w fun e w' => (∃ v, e = .returned v) ∧ (∃ M, RowN w' g (X ++ M ++ Y) ∧ M.Perm (x :: B) ∧ Srt cf M) ∧ w.grownBy w' (some g) := by
  have hg := Blk.lt hr
  have HC := Lib.hid hc
  have Hcf := Lib.hid hcf
  have Hlt := Lib.hid hlt
  have HX := Lib.hid ha
  have HZat := Lib.hid (show ∀ q, m ≤ q → q < b → ∃ y, B[q - m]? = some y ∧ (X ++ x :: (B ++ Y))[q]? = some y from fun q h1 h2 => by
    refine ⟨B[q - m]'(by omega), List.getElem?_eq_getElem _, ?_⟩
    rw [List.getElem?_append_right (by omega), show q - X.length = (q - m) + 1 by omega, List.getElem?_cons_succ, List.getElem?_append_left (by omega)]
    exact List.getElem?_eq_getElem _)
  have HZa := Lib.hid (show (X ++ x :: (B ++ Y))[a]? = some x from by rw [ha, List.getElem?_append_right (Nat.le_refl _), Nat.sub_self]; rfl)
  have HFin := Lib.hid (show ∀ (p : Nat) (w' : World), m ≤ p → p ≤ b → LoL cf B m x p → HiL cf B m b x p → RowN w' g (X ++ B.take (p - m) ++ x :: (B.drop (p - m) ++ Y)) → ∃ M, RowN w' g (X ++ M ++ Y) ∧ M.Perm (x :: B) ∧ Srt cf M from fun p w' h1 h2 k1 k2 hr2 => by
    refine ⟨B.take (p - m) ++ x :: B.drop (p - m), by simpa using hr2, put_perm B x (p - m), put_mid hs ?_ ?_⟩
    · have := cut_rl (A := [x]) (B := B) (s := 0) (e := p - m) h3 (List.pairwise_singleton _ _) hs (by
        rcases k1 with k1 | ⟨y, e1, e2⟩
        · exact .inr (.inl (by omega))
        · exact .inr (.inr ⟨x, y, rfl, by rw [show p - m - 1 = p - 1 - m by omega]; exact e1, e2⟩))
      exact fun y hy => this y hy x (by simp)
    · have := cut_lr (A := [x]) (B := B) (s := 1) (e := p - m) h3 (List.pairwise_singleton _ _) hs (fun z hz y hy => by rw [List.mem_singleton.1 hz]; exact hx y hy) (by
        rcases k2 with k2 | ⟨y, e1, e2⟩
        · exact .inr (.inl (by omega))
        · exact .inr (.inr ⟨x, y, rfl, e1, e2⟩))
      exact fun y hy => this x (by simp) y hy)
  have HSt := Lib.hid (show ∀ (k : Nat), a ≤ k → k + 1 < b → ∃ y, (X ++ B.take (k - a) ++ x :: (B.drop (k - a) ++ Y))[k]? = some x ∧ (X ++ B.take (k - a) ++ x :: (B.drop (k - a) ++ Y))[k + 1]? = some y ∧ ∀ W, RowN W g (X ++ B.take (k - a) ++ x :: (B.drop (k - a) ++ Y)) → RowN ((W.setCell ⟨g, k, none⟩ (.int .i64 y)).setCell ⟨g, k + 1, none⟩ (.int .i64 x)) g (X ++ B.take (k + 1 - a) ++ x :: (B.drop (k + 1 - a) ++ Y)) from fun k h1 h2 => by
    have hk : k - a < B.length := by omega
    have hl : (X ++ B.take (k - a)).length = k := by simp; omega
    have hd : B.drop (k - a) = B[k - a] :: B.drop (k + 1 - a) := by rw [List.drop_eq_getElem_cons hk]; congr 2; omega
    have ht : B.take (k + 1 - a) = B.take (k - a) ++ [B[k - a]] := by rw [show k + 1 - a = k - a + 1 by omega, List.take_add_one, List.getElem?_eq_getElem hk]; rfl
    refine ⟨B[k - a], by rw [List.getElem?_append_right (by omega), hl, Nat.sub_self]; rfl, by rw [List.getElem?_append_right (by omega), hl, hd, show k + 1 - k = 1 by omega]; rfl, fun W h => ?_⟩
    have h1 := (h.set k B[k - a]).set (k + 1) x
    rw [hd] at h1
    have := swap_list2 (X ++ B.take (k - a)) (B.drop (k + 1 - a) ++ Y) B[k - a] x
    rw [hl] at this
    rw [ht]
    have e : ∀ (T R : List Nat) (q : Nat), X ++ (T ++ [q]) ++ R = X ++ T ++ q :: R := by intro T R q; simp
    rw [e, ← this]
    exact h1)
  have H0 : Hid (RowN w g (X ++ x :: (B ++ Y)) ∧ LoL cf B m x m ∧ HiL cf B m b x b) := ⟨hr, .inl rfl, .inl rfl⟩
  have H1 := Lib.hid (show ∀ W, RowN W g (X ++ x :: (B ++ Y)) → RowN W g (X ++ B.take (a - a) ++ x :: (B.drop (a - a) ++ Y)) from fun W h => by simpa using h)
  have hw1 : IntKind.i64.wrap ((m : Int) - a) = 1 := by rw [IntKind.wrap_i64]; omega
  have hmb : m ≤ b := by omega
  have hbN : b ≤ N := by omega
  have hm1 : m ≤ a + 1 := by omega
  have hm2 : a + 1 ≤ m := by omega
  have hxn := hlt x (by simp)
  clear hr hc hcf hlt ha hs hx hb hm hN
  go_enter Try.func87, Try.ntmps87
  go_wp2
  go_loopw [10, 11] (fun I J wr0 => ∃ (wr : World) (i j : Nat), wr = wr0 ∧ m ≤ i ∧ i ≤ j ∧ j ≤ b ∧ I = .int .i64 i ∧ J = .int .i64 j ∧ w.grownBy wr (some g) ∧ Hid (RowN wr g (X ++ x :: (B ++ Y)) ∧ LoL cf B m x i ∧ HiL cf B m b x j)) (fun I J _ => (intOf J).toNat - (intOf I).toNat)
  case atStart => exact ⟨_, m, b, rfl, by omega, by omega, by omega, rfl, rfl, World.grownBy.refl _ _, H0⟩
  case round =>
    obtain ⟨wr, i, j, rfl, hi, hij, hj, rfl, rfl, hG, hR⟩ := hrel
    by_cases hlt : i < j
    · obtain ⟨h, hh⟩ : ∃ h, (i + j) / 2 = h := ⟨_, rfl⟩
      obtain ⟨hu, hd, hv⟩ := half_int (i := i) (j := j) (by omega)
      rw [hh] at hd hv
      have hwij : IntKind.i64.wrap ((i : Int) + j) = (i : Int) + j := by rw [IntKind.wrap_i64]; omega
      obtain ⟨y, hy1, hy2⟩ := HZat.out h (by omega) (by omega)
      have c0 := RowN.at hR.out.1 hy2
      have c1 := RowN.at hR.out.1 HZa.out
      have hgr := Blk.lt hR.out.1
      have hBd : Below wr.heap.size wr wr.drew := (Below.refl _ _).drew
      have hB2 : Below g w0 wr.drew := (hbw.trans (gr_below hG (Nat.le_of_lt hg) (Nat.le_refl _))).drew
      have cC := HC.out y x wr.drew hB2 (Nat.le_of_lt hgr) (Hlt.out y (List.mem_cons_of_mem _ (List.mem_of_getElem? hy1))) hxn
      rw [Hcf.out] at cC
      have b0 : 0 ≤ (h : Int) := by omega
      have b1 : (h : Int) < (N : Int) := by omega
      have b2 : 0 ≤ (a : Int) := by omega
      have b3 : (a : Int) < (N : Int) := by omega
      have b4 : (i : Int) < (j : Int) := by omega
      have HR1 := Lib.hid hR.out.1
      have HRl := Lib.hid hR.out.2.1
      have HRr := Lib.hid hR.out.2.2
      have Hy := Lib.hid hy1
      have Hh := Lib.hid hh
      clear hR hy1 hy2 hh
      by_cases hneg : cf y x < 0
      · have Hn := Lib.hid (show LoL cf B m x (h + 1) from .inr ⟨y, by rw [Nat.add_sub_cancel]; exact Hy.out, hneg⟩)
        generalize cf y x = R at *
        go_upto_region 5 with fail
        go_region_held3 (fun w' => w'.cell? ⟨g, h, none⟩ = some (.int .i64 y) ∧ w'.cell? ⟨g, a, none⟩ = some (.int .i64 x))
          (first | go_keep | (exact ⟨(B4.cell hgr).trans c0, (B4.cell hgr).trans c1⟩))
          (first | (go_at_call 46; ((with_reducible refine cC.mono ?_); rintro e w4 ⟨rfl, hb4⟩; have B4 := bel_trans hBd hb4; have z0 := (B4.cell (p := ⟨g, h, none⟩) hgr).trans c0; have z1 := (B4.cell (p := ⟨g, a, none⟩) hgr).trans c1)))
        have hg4 : wr.grownBy w4 (some g) := gr_of_below B4 B4.tape
        go_wp2
        all_goals go_roundw
        all_goals first | exact ⟨_, h + 1, j, rfl, by omega, by omega, by omega, by go_num, rfl, hG.trans hg4, Lib.hid ⟨HR1.out.grown B4, Hn.out, HRr.out⟩⟩ | (simp [intOf]; omega)
      · have Hn := Lib.hid (show HiL cf B m b x h from .inr ⟨y, Hy.out, hneg⟩)
        generalize cf y x = R at *
        go_wp2_with fail
        go_region_held3 (fun w' => w'.cell? ⟨g, h, none⟩ = some (.int .i64 y) ∧ w'.cell? ⟨g, a, none⟩ = some (.int .i64 x))
          (first | go_keep | (exact ⟨(B4.cell hgr).trans c0, (B4.cell hgr).trans c1⟩))
          (first | (go_at_call 46; ((with_reducible refine cC.mono ?_); rintro e w4 ⟨rfl, hb4⟩; have B4 := bel_trans hBd hb4; have z0 := (B4.cell (p := ⟨g, h, none⟩) hgr).trans c0; have z1 := (B4.cell (p := ⟨g, a, none⟩) hgr).trans c1)))
        have hg4 : wr.grownBy w4 (some g) := gr_of_below B4 B4.tape
        go_wp2
        all_goals go_roundw
        all_goals first | exact ⟨_, i, h, rfl, by omega, by omega, by omega, rfl, rfl, hG.trans hg4, Lib.hid ⟨HR1.out.grown B4, HRl.out, Hn.out⟩⟩ | (simp [intOf]; omega)
    · obtain rfl : i = j := by omega
      have Hend := Lib.hid (show ∀ w', RowN w' g (X ++ B.take (i - m) ++ x :: (B.drop (i - m) ++ Y)) → ∃ M, RowN w' g (X ++ M ++ Y) ∧ M.Perm (x :: B) ∧ Srt cf M from fun w' h => HFin.out i w' hi hj hR.out.2.1 hR.out.2.2 h)
      have H2 := Lib.hid (H1.out wr hR.out.1)
      have b4 : ¬ (i : Int) < (i : Int) := by omega
      have wi1 : IntKind.i64.wrap ((i : Int) - 1) = (i : Int) - 1 := by rw [IntKind.wrap_i64]; omega
      clear hR hij
      go_wp2
      go_loopw [13] (fun K wr0 => ∃ (w2 : World) (k : Nat), w2 = wr0 ∧ a ≤ k ∧ k + 1 ≤ i ∧ K = .int .i64 k ∧ w.grownBy w2 (some g) ∧ Hid (RowN w2 g (X ++ B.take (k - a) ++ x :: (B.drop (k - a) ++ Y)))) (fun K _ => i - (intOf K).toNat)
      case atStart => exact ⟨_, a, rfl, by omega, by omega, rfl, hG, H2⟩
      case round =>
        obtain ⟨w2, k, rfl, hk1, hk2, rfl, hG2, hR2⟩ := hrel
        by_cases hki : k + 1 < i
        · obtain ⟨y, e0, e1, hsw⟩ := HSt.out k hk1 (by omega)
          have c0 := RowN.at hR2.out e0
          have c1 := RowN.at hR2.out e1
          have q0 := Blk.free hR2.out k
          have q1 := Blk.free hR2.out (k + 1)
          have HS := Lib.hid (hsw _ hR2.out)
          have wk1 : IntKind.i64.wrap ((k : Int) + 1) = (k : Int) + 1 := by rw [IntKind.wrap_i64]; omega
          have g0 : (k : Int) < (i : Int) - 1 := by omega
          have g1 : 0 ≤ (k : Int) := by omega
          have g2 : 0 ≤ (k : Int) + 1 := by omega
          have g3 : (k : Int) < (N : Int) := by omega
          have g4 : (k : Int) + 1 < (N : Int) := by omega
          clear hR2 e0 e1 hsw
          go_wp2
          go_region
          go_wp2
          all_goals go_roundw
          all_goals first | exact ⟨_, k + 1, rfl, by omega, by omega, by go_num, gr_drew (gr_set (gr_set hG2 _ _) _ _), HS⟩ | exact ⟨_, k + 1, rfl, by omega, by omega, by go_num, gr_set (gr_set hG2 _ _) _ _, HS⟩ | (simp [intOf]; omega)
        · have hki2 : k - a = i - m := by omega
          have HE := Lib.hid (Hend.out w2 (by rw [← hki2]; exact hR2.out))
          have g0 : ¬ (k : Int) < (i : Int) - 1 := by omega
          clear hR2 hki2
          go_wp2
          refine bodyPost_ret (results_none rfl _ _ _) rfl ?_
          obtain ⟨M, h1, h2⟩ := HE.out
          exact ⟨⟨_, rfl⟩, ⟨M, by simpa using h1, h2⟩, hG2⟩
end Go.Proofs.Ytelepojpnkoelaa.T
