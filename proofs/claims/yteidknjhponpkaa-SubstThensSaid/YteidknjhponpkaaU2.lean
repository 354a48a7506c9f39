/-
  What is proved: the library's symMerge where the left row has one place.
  What is proved: the library's symMerge where the right row has one place.
  What is proved: the library's symMerge, any two rows side by side.
-/
import Derived.Test.YteidknjhponpkaaU1
namespace Go.Proofs.Yteidknjhponpkaa.U
open Go.RowKit L T C B
set_option linter.unusedVariables false
set_option linter.unusedSimpArgs false

theorem half_int {i j : Nat} (h1 : i + j ≤ 2000000) : IntKind.u64.wrap ((i : Int) + j) = (i : Int) + j ∧ ((i : Int) + j) / 2 = (((i + j) / 2 : Nat) : Int) ∧ IntKind.i64.wrap ((((i + j) / 2 : Nat) : Int)) = (((i + j) / 2 : Nat) : Int) := by
  refine ⟨?_, by omega, by rw [IntKind.wrap_i64]; omega⟩
  simp [IntKind.wrap, IntKind.bits, IntKind.signed]
  omega
/-- what a search for x's place knows of its lower end, and of its upper one -/
def LoL (c : Nat → Nat → Int) (B : List Nat) (m x i : Nat) : Prop := i = m ∨ ∃ y, B[i - 1 - m]? = some y ∧ c y x < 0
def HiL (c : Nat → Nat → Int) (B : List Nat) (m b x j : Nat) : Prop := j = b ∨ ∃ y, B[j - m]? = some y ∧ ¬ c y x < 0
set_option maxRecDepth 100000 in
set_option maxHeartbeats 8000000 in
theorem sym_left (H : Nat → Hu) (lo cp : Nat) (g n : Nat) (w0 : World) (cf : Nat → Nat → Int) (hc : CmpU H cf) (h3 : Cmp3 cf) (X B Y : List Nat) (x : Nat) (hs : Srt cf B) (hx : ∀ y ∈ B, x < y) (hlt : ∀ z ∈ x :: B, z < n)
    (N cap a m b : Nat) (ha : a = X.length) (hm : m = a + 1) (hb : b = m + B.length) (hN : N = b + Y.length) (hN2 : N ≤ 1000000) (w : World) (hbw : Below g w0 w) (hr : RowH H lo cp w g (X ++ x :: (B ++ Y))) :
    Calls Try.prog 89 #[.slice (some ⟨g, 0, none⟩) N cap, .int .i64 a, .int .i64 m, .int .i64 b, .func (.func 55) #[] #[]] w fun e w' => (∃ v, e = .returned v) ∧ (∃ M, RowH H lo cp w' g (X ++ M ++ Y) ∧ M.Perm (x :: B) ∧ Srt cf M) ∧ w.grownBy w' (some g) := by
  have hg := RowU.lt hr.row
  have HC := Lib.hid hc
  have Hlt := Lib.hid hlt
  have HX := Lib.hid ha
  have HZat := Lib.hid (show ∀ q, m ≤ q → q < b → ∃ y, B[q - m]? = some y ∧ (X ++ x :: (B ++ Y))[q]? = some y from fun q h1 h2 => by
    refine ⟨B[q - m]'(by omega), List.getElem?_eq_getElem _, ?_⟩
    rw [List.getElem?_append_right (by omega), show q - X.length = (q - m) + 1 by omega, List.getElem?_cons_succ, List.getElem?_append_left (by omega)]
    exact List.getElem?_eq_getElem _)
  have HZa := Lib.hid (show (X ++ x :: (B ++ Y))[a]? = some x from by rw [ha, List.getElem?_append_right (Nat.le_refl _), Nat.sub_self]; rfl)
  have HFin := Lib.hid (show ∀ (p : Nat) (w' : World), m ≤ p → p ≤ b → LoL cf B m x p → HiL cf B m b x p → RowH H lo cp w' g (X ++ B.take (p - m) ++ x :: (B.drop (p - m) ++ Y)) → ∃ M, RowH H lo cp w' g (X ++ M ++ Y) ∧ M.Perm (x :: B) ∧ Srt cf M from fun p w' h1 h2 k1 k2 hr2 => by
    refine ⟨B.take (p - m) ++ x :: B.drop (p - m), by simpa using hr2, put_perm B x (p - m), put_mid hs ?_ ?_⟩
    · have := cut_rl (A := [x]) (B := B) (s := 0) (e := p - m) h3 (List.pairwise_singleton _ _) hs (by
        rcases k1 with k1 | ⟨y, e1, e2⟩
        · exact .inr (.inl (by omega))
        · exact .inr (.inr ⟨x, y, rfl, by rw [show p - m - 1 = p - 1 - m by omega]; exact e1, e2⟩))
      exact fun y hy => this y hy x (by simp)
    · have := cut_lr (A := [x]) (B := B) (s := 1) (e := p - m) h3 (List.pairwise_singleton _ _) hs (fun z hz y hy => by rw [List.mem_singleton.1 hz]; exact hx y hy) (by
        rcases k2 with k2 | ⟨y, e1, e2⟩
        · exact .inr (.inl (by omega))
        · exact .inr (.inr ⟨x, y, rfl, e1, e2⟩))
      exact fun y hy => this x (by simp) y hy)
  have HSt := Lib.hid (show ∀ (k : Nat), a ≤ k → k + 1 < b → ∃ y, (X ++ B.take (k - a) ++ x :: (B.drop (k - a) ++ Y))[k]? = some x ∧ (X ++ B.take (k - a) ++ x :: (B.drop (k - a) ++ Y))[k + 1]? = some y ∧ ∀ W, RowH H lo cp W g (X ++ B.take (k - a) ++ x :: (B.drop (k - a) ++ Y)) → RowH H lo cp (setU (setU W g k (H y)) g (k + 1) (H x)) g (X ++ B.take (k + 1 - a) ++ x :: (B.drop (k + 1 - a) ++ Y)) from fun k h1 h2 => by
    have hk : k - a < B.length := by omega
    have hl : (X ++ B.take (k - a)).length = k := by simp; omega
    have hd : B.drop (k - a) = B[k - a] :: B.drop (k + 1 - a) := by rw [List.drop_eq_getElem_cons hk]; congr 2; omega
    have ht : B.take (k + 1 - a) = B.take (k - a) ++ [B[k - a]] := by rw [show k + 1 - a = k - a + 1 by omega, List.take_add_one, List.getElem?_eq_getElem hk]; rfl
    refine ⟨B[k - a], by rw [List.getElem?_append_right (by omega), hl, Nat.sub_self]; rfl, by rw [List.getElem?_append_right (by omega), hl, hd, show k + 1 - k = 1 by omega]; rfl, fun W h => ?_⟩
    have h1 := (h.set k B[k - a] (by simp; omega)).set (k + 1) x (by simp; omega)
    rw [hd] at h1
    have := swap_list2 (X ++ B.take (k - a)) (B.drop (k + 1 - a) ++ Y) B[k - a] x
    rw [hl] at this
    rw [ht]
    have e : ∀ (T R : List Nat) (q : Nat), X ++ (T ++ [q]) ++ R = X ++ T ++ q :: R := by intro T R q; simp
    rw [e, ← this]
    exact h1)
  have H0 : Hid (RowH H lo cp w g (X ++ x :: (B ++ Y)) ∧ LoL cf B m x m ∧ HiL cf B m b x b) := ⟨hr, .inl rfl, .inl rfl⟩
  have H1 := Lib.hid (show ∀ W, RowH H lo cp W g (X ++ x :: (B ++ Y)) → RowH H lo cp W g (X ++ B.take (a - a) ++ x :: (B.drop (a - a) ++ Y)) from fun W h => by simpa using h)
  have hw1 : IntKind.i64.wrap ((m : Int) - a) = 1 := by rw [IntKind.wrap_i64]; omega
  have hmb : m ≤ b := by omega
  have hbN : b ≤ N := by omega
  have hm1 : m ≤ a + 1 := by omega
  have hm2 : a + 1 ≤ m := by omega
  have hxn := hlt x (by simp)
  clear hr hc hlt ha hs hx hb hm hN
  go_enter Try.func89, Try.ntmps89
  go_wp2
  go_loopw [10, 11] (fun I J wr0 => ∃ (wr : World) (i j : Nat), wr = wr0 ∧ m ≤ i ∧ i ≤ j ∧ j ≤ b ∧ I = .int .i64 i ∧ J = .int .i64 j ∧ w.grownBy wr (some g) ∧ Hid (RowH H lo cp wr g (X ++ x :: (B ++ Y)) ∧ LoL cf B m x i ∧ HiL cf B m b x j)) (fun I J _ => (intOf J).toNat - (intOf I).toNat)
  case atStart => exact ⟨_, m, b, rfl, by omega, by omega, by omega, rfl, rfl, World.grownBy.refl _ _, H0⟩
  case round =>
    obtain ⟨wr, i, j, rfl, hi, hij, hj, rfl, rfl, hG, hR⟩ := hrel
    by_cases hlt : i < j
    · obtain ⟨h, hh⟩ : ∃ h, (i + j) / 2 = h := ⟨_, rfl⟩
      obtain ⟨hu, hd, hv⟩ := half_int (i := i) (j := j) (by omega)
      rw [hh] at hd hv
      have hwij : IntKind.i64.wrap ((i : Int) + j) = (i : Int) + j := by rw [IntKind.wrap_i64]; omega
      obtain ⟨y, hy1, hy2⟩ := HZat.out h (by omega) (by omega)
      obtain ⟨c0, c1, c2, c3, c4⟩ := RowH.at hR.out.1 hy2
      obtain ⟨d0, d1, d2, d3, d4⟩ := RowH.at hR.out.1 HZa.out
      have hgr := RowU.lt hR.out.1.row
      have hBd : Below wr.heap.size wr wr.drew := (Below.refl _ _).drew
      have hB2 : Below g w0 wr.drew := (hbw.trans (gr_below hG (Nat.le_of_lt hg) (Nat.le_refl _))).drew
      have cC := HC.out y x wr.drew
      have b0 : 0 ≤ (h : Int) := by omega
      have b1 : (h : Int) < (N : Int) := by omega
      have b2 : 0 ≤ (a : Int) := by omega
      have b3 : (a : Int) < (N : Int) := by omega
      have b4 : (i : Int) < (j : Int) := by omega
      have HR1 := Lib.hid hR.out.1
      have HRl := Lib.hid hR.out.2.1
      have HRr := Lib.hid hR.out.2.2
      have Hy := Lib.hid hy1
      have Hh := Lib.hid hh
      clear hR hy1 hy2 hh
      by_cases hneg : cf y x < 0
      · have Hn := Lib.hid (show LoL cf B m x (h + 1) from .inr ⟨y, by rw [Nat.add_sub_cancel]; exact Hy.out, hneg⟩)
        generalize cf y x = R at *
        go_upto_region 5 with fail
        go_region_held3 (fun w' => w'.cell? ⟨g, h * 5, none⟩ = some (.string (H y).nm) ∧ w'.cell? ⟨g, h * 5 + 1, none⟩ = some (.int .i64 (H y).op) ∧ w'.cell? ⟨g, h * 5 + 1 + 1, none⟩ = some (.string (H y).s) ∧ w'.cell? ⟨g, h * 5 + 1 + 1 + 1, none⟩ = some (.int .i64 (H y).z) ∧ w'.cell? ⟨g, h * 5 + 1 + 1 + 1 + 1, none⟩ = some (.slice (H y).a (H y).n (H y).c) ∧ w'.cell? ⟨g, a * 5, none⟩ = some (.string (H x).nm) ∧ w'.cell? ⟨g, a * 5 + 1, none⟩ = some (.int .i64 (H x).op) ∧ w'.cell? ⟨g, a * 5 + 1 + 1, none⟩ = some (.string (H x).s) ∧ w'.cell? ⟨g, a * 5 + 1 + 1 + 1, none⟩ = some (.int .i64 (H x).z) ∧ w'.cell? ⟨g, a * 5 + 1 + 1 + 1 + 1, none⟩ = some (.slice (H x).a (H x).n (H x).c))
          (first | go_keep | (exact ⟨(B4.cell hgr).trans c0, (B4.cell hgr).trans c1, (B4.cell hgr).trans c2, (B4.cell hgr).trans c3, (B4.cell hgr).trans c4, (B4.cell hgr).trans d0, (B4.cell hgr).trans d1, (B4.cell hgr).trans d2, (B4.cell hgr).trans d3, (B4.cell hgr).trans d4⟩))
          (first | (go_at_call 55; ((with_reducible refine cC.mono ?_); rintro e w4 ⟨rfl, hb4⟩; have B4 := bel_trans hBd hb4)))
        have hg4 : wr.grownBy w4 (some g) := gr_of_below B4 B4.tape
        go_wp2
        all_goals go_roundw
        all_goals first | exact ⟨_, h + 1, j, rfl, by omega, by omega, by omega, by go_num, rfl, hG.trans hg4, Lib.hid ⟨HR1.out.below B4, Hn.out, HRr.out⟩⟩ | (simp [intOf]; omega)
      · have Hn := Lib.hid (show HiL cf B m b x h from .inr ⟨y, Hy.out, hneg⟩)
        generalize cf y x = R at *
        go_wp2_with fail
        go_region_held3 (fun w' => w'.cell? ⟨g, h * 5, none⟩ = some (.string (H y).nm) ∧ w'.cell? ⟨g, h * 5 + 1, none⟩ = some (.int .i64 (H y).op) ∧ w'.cell? ⟨g, h * 5 + 1 + 1, none⟩ = some (.string (H y).s) ∧ w'.cell? ⟨g, h * 5 + 1 + 1 + 1, none⟩ = some (.int .i64 (H y).z) ∧ w'.cell? ⟨g, h * 5 + 1 + 1 + 1 + 1, none⟩ = some (.slice (H y).a (H y).n (H y).c) ∧ w'.cell? ⟨g, a * 5, none⟩ = some (.string (H x).nm) ∧ w'.cell? ⟨g, a * 5 + 1, none⟩ = some (.int .i64 (H x).op) ∧ w'.cell? ⟨g, a * 5 + 1 + 1, none⟩ = some (.string (H x).s) ∧ w'.cell? ⟨g, a * 5 + 1 + 1 + 1, none⟩ = some (.int .i64 (H x).z) ∧ w'.cell? ⟨g, a * 5 + 1 + 1 + 1 + 1, none⟩ = some (.slice (H x).a (H x).n (H x).c))
          (first | go_keep | (exact ⟨(B4.cell hgr).trans c0, (B4.cell hgr).trans c1, (B4.cell hgr).trans c2, (B4.cell hgr).trans c3, (B4.cell hgr).trans c4, (B4.cell hgr).trans d0, (B4.cell hgr).trans d1, (B4.cell hgr).trans d2, (B4.cell hgr).trans d3, (B4.cell hgr).trans d4⟩))
          (first | (go_at_call 55; ((with_reducible refine cC.mono ?_); rintro e w4 ⟨rfl, hb4⟩; have B4 := bel_trans hBd hb4)))
        have hg4 : wr.grownBy w4 (some g) := gr_of_below B4 B4.tape
        go_wp2
        all_goals go_roundw
        all_goals first | exact ⟨_, i, h, rfl, by omega, by omega, by omega, rfl, rfl, hG.trans hg4, Lib.hid ⟨HR1.out.below B4, HRl.out, Hn.out⟩⟩ | (simp [intOf]; omega)
    · obtain rfl : i = j := by omega
      have Hend := Lib.hid (show ∀ w', RowH H lo cp w' g (X ++ B.take (i - m) ++ x :: (B.drop (i - m) ++ Y)) → ∃ M, RowH H lo cp w' g (X ++ M ++ Y) ∧ M.Perm (x :: B) ∧ Srt cf M from fun w' h => HFin.out i w' hi hj hR.out.2.1 hR.out.2.2 h)
      have H2 := Lib.hid (H1.out wr hR.out.1)
      have b4 : ¬ (i : Int) < (i : Int) := by omega
      have wi1 : IntKind.i64.wrap ((i : Int) - 1) = (i : Int) - 1 := by rw [IntKind.wrap_i64]; omega
      clear hR hij
      go_wp2
      go_loopw [13] (fun K wr0 => ∃ (w2 : World) (k : Nat), w2 = wr0 ∧ a ≤ k ∧ k + 1 ≤ i ∧ K = .int .i64 k ∧ w.grownBy w2 (some g) ∧ Hid (RowH H lo cp w2 g (X ++ B.take (k - a) ++ x :: (B.drop (k - a) ++ Y)))) (fun K _ => i - (intOf K).toNat)
      case atStart => exact ⟨_, a, rfl, by omega, by omega, rfl, hG, H2⟩
      case round =>
        obtain ⟨w2, k, rfl, hk1, hk2, rfl, hG2, hR2⟩ := hrel
        by_cases hki : k + 1 < i
        · obtain ⟨y, e0, e1, hsw⟩ := HSt.out k hk1 (by omega)
          obtain ⟨c0, c1, c2, c3, c4⟩ := RowH.at hR2.out e0
          obtain ⟨d0, d1, d2, d3, d4⟩ := RowH.at hR2.out e1
          have hfr := fun (i : Nat) => RowU.free hR2.out.row i
          have q0 := hfr (k * 5)
          have q1 := hfr (k * 5 + 1)
          have q2 := hfr (k * 5 + 2)
          have q3 := hfr (k * 5 + 3)
          have q4 := hfr (k * 5 + 4)
          have p0 := hfr ((k + 1) * 5)
          have p1 := hfr ((k + 1) * 5 + 1)
          have p2 := hfr ((k + 1) * 5 + 2)
          have p3 := hfr ((k + 1) * 5 + 3)
          have p4 := hfr ((k + 1) * 5 + 4)
          have HS := Lib.hid (hsw _ hR2.out)
          unfold setU at HS
          have wk1 : IntKind.i64.wrap ((k : Int) + 1) = (k : Int) + 1 := by rw [IntKind.wrap_i64]; omega
          have g0 : (k : Int) < (i : Int) - 1 := by omega
          have g1 : 0 ≤ (k : Int) := by omega
          have g2 : 0 ≤ (k : Int) + 1 := by omega
          have g3 : (k : Int) < (N : Int) := by omega
          have g4 : (k : Int) + 1 < (N : Int) := by omega
          clear hR2 e0 e1 hsw hfr
          go_wp2
          go_region
          go_wp2
          all_goals go_roundw
          all_goals first | exact ⟨_, k + 1, rfl, by omega, by omega, by go_num, gr_drew (gr_set (gr_set (gr_set (gr_set (gr_set (gr_set (gr_set (gr_set (gr_set (gr_set hG2 _ _) _ _) _ _) _ _) _ _) _ _) _ _) _ _) _ _) _ _), Lib.hid (RowH.below HS.out ((Below.refl _ _).drew))⟩ | exact ⟨_, k + 1, rfl, by omega, by omega, by go_num, gr_set (gr_set (gr_set (gr_set (gr_set (gr_set (gr_set (gr_set (gr_set (gr_set hG2 _ _) _ _) _ _) _ _) _ _) _ _) _ _) _ _) _ _) _ _, HS⟩ | (simp [intOf]; omega)
        · have hki2 : k - a = i - m := by omega
          have HE := Lib.hid (Hend.out w2 (by rw [← hki2]; exact hR2.out))
          have g0 : ¬ (k : Int) < (i : Int) - 1 := by omega
          clear hR2 hki2
          go_wp2
          refine bodyPost_ret (results_none rfl _ _ _) rfl ?_
          obtain ⟨M, h1, h2⟩ := HE.out
          exact ⟨⟨_, rfl⟩, ⟨M, by simpa using h1, h2⟩, hG2⟩
end Go.Proofs.Yteidknjhponpkaa.U
namespace Go.Proofs.Yteidknjhponpkaa.U
open Go.RowKit L T C B
set_option linter.unusedVariables false
set_option linter.unusedSimpArgs false

def LoR (c : Nat → Nat → Int) (A : List Nat) (a y i : Nat) : Prop := i = a ∨ ∃ x, A[i - 1 - a]? = some x ∧ ¬ c y x < 0
def HiR (c : Nat → Nat → Int) (A : List Nat) (a m y j : Nat) : Prop := j = m ∨ ∃ x, A[j - a]? = some x ∧ c y x < 0
set_option maxRecDepth 100000 in
set_option maxHeartbeats 8000000 in
theorem sym_right (H : Nat → Hu) (lo cp : Nat) (g n : Nat) (w0 : World) (cf : Nat → Nat → Int) (hc : CmpU H cf) (h3 : Cmp3 cf) (X A Y : List Nat) (y : Nat) (hs : Srt cf A) (hx : ∀ x ∈ A, x < y) (hlt : ∀ z ∈ y :: A, z < n)
    (N cap a m b : Nat) (hA2 : A.length ≠ 1) (ha : a = X.length) (hm : m = a + A.length) (hb : b = m + 1) (hN : N = b + Y.length) (hN2 : N ≤ 1000000) (w : World) (hbw : Below g w0 w) (hr : RowH H lo cp w g (X ++ (A ++ y :: Y))) :
    Calls Try.prog 89 #[.slice (some ⟨g, 0, none⟩) N cap, .int .i64 a, .int .i64 m, .int .i64 b, .func (.func 55) #[] #[]] w fun e w' => (∃ v, e = .returned v) ∧ (∃ M, RowH H lo cp w' g (X ++ M ++ Y) ∧ M.Perm (y :: A) ∧ Srt cf M) ∧ w.grownBy w' (some g) := by
  have hg := RowU.lt hr.row
  have HC := Lib.hid hc
  have Hlt := Lib.hid hlt
  have HZat := Lib.hid (show ∀ q, a ≤ q → q < m → ∃ z, A[q - a]? = some z ∧ (X ++ (A ++ y :: Y))[q]? = some z from fun q h1 h2 => by
    refine ⟨A[q - a]'(by omega), List.getElem?_eq_getElem _, ?_⟩
    rw [List.getElem?_append_right (by omega), ← ha, List.getElem?_append_left (by omega)]
    exact List.getElem?_eq_getElem _)
  have HZm := Lib.hid (show (X ++ (A ++ y :: Y))[m]? = some y from by rw [← List.append_assoc, List.getElem?_append_right (by simp; omega), show m - (X ++ A).length = 0 by simp; omega]; rfl)
  have HFin := Lib.hid (show ∀ (p : Nat) (w' : World), a ≤ p → p ≤ m → LoR cf A a y p → HiR cf A a m y p → RowH H lo cp w' g (X ++ A.take (p - a) ++ y :: (A.drop (p - a) ++ Y)) → ∃ M, RowH H lo cp w' g (X ++ M ++ Y) ∧ M.Perm (y :: A) ∧ Srt cf M from fun p w' h1 h2 k1 k2 hr2 => by
    refine ⟨A.take (p - a) ++ y :: A.drop (p - a), by simpa using hr2, put_perm A y (p - a), put_mid hs ?_ ?_⟩
    · have := cut_lr (A := A) (B := [y]) (s := p - a) (e := 0) h3 hs (List.pairwise_singleton _ _) (fun z hz y2 hy => by rw [List.mem_singleton.1 hy]; exact hx z hz) (by
        rcases k1 with k1 | ⟨z, e1, e2⟩
        · exact .inl (by omega)
        · exact .inr (.inr ⟨z, y, by rw [show p - a - 1 = p - 1 - a by omega]; exact e1, rfl, e2⟩))
      exact fun z hz => this z hz y (by simp)
    · have := cut_rl (A := A) (B := [y]) (s := p - a) (e := 1) h3 hs (List.pairwise_singleton _ _) (by
        rcases k2 with k2 | ⟨z, e1, e2⟩
        · exact .inl (by omega)
        · exact .inr (.inr ⟨z, y, e1, rfl, e2⟩))
      exact fun z hz => this y (by simp) z hz)
  have HSt := Lib.hid (show ∀ (k : Nat), a ≤ k → k < m → ∃ z, (X ++ A.take (k + 1 - a) ++ y :: (A.drop (k + 1 - a) ++ Y))[k]? = some z ∧ (X ++ A.take (k + 1 - a) ++ y :: (A.drop (k + 1 - a) ++ Y))[k + 1]? = some y ∧ ∀ W, RowH H lo cp W g (X ++ A.take (k + 1 - a) ++ y :: (A.drop (k + 1 - a) ++ Y)) → RowH H lo cp (setU (setU W g (k + 1) (H z)) g k (H y)) g (X ++ A.take (k - a) ++ y :: (A.drop (k - a) ++ Y)) from fun k h1 h2 => by
    have hk : k - a < A.length := by omega
    have hl : (X ++ A.take (k - a)).length = k := by simp; omega
    have hd : A.drop (k - a) = A[k - a] :: A.drop (k + 1 - a) := by rw [List.drop_eq_getElem_cons hk]; congr 2; omega
    have ht : A.take (k + 1 - a) = A.take (k - a) ++ [A[k - a]] := by rw [show k + 1 - a = k - a + 1 by omega, List.take_add_one, List.getElem?_eq_getElem hk]; rfl
    have e : ∀ (T R : List Nat) (q : Nat), X ++ (T ++ [q]) ++ R = X ++ T ++ q :: R := by intro T R q; simp
    rw [ht, e]
    refine ⟨A[k - a], by rw [List.getElem?_append_right (by omega), hl, Nat.sub_self]; rfl, by rw [List.getElem?_append_right (by omega), hl, show k + 1 - k = 1 by omega]; rfl, fun W h => ?_⟩
    have h1 := (h.set (k + 1) A[k - a] (by simp; omega)).set k y (by simp; omega)
    have := swap_list (X ++ A.take (k - a)) (A.drop (k + 1 - a) ++ Y) y A[k - a]
    rw [hl] at this
    rw [this] at h1
    rw [hd]
    exact h1)
  have Hr := Lib.hid hr
  have H1 := Lib.hid (show ∀ W, RowH H lo cp W g (X ++ (A ++ y :: Y)) → RowH H lo cp W g (X ++ A.take (m - a) ++ y :: (A.drop (m - a) ++ Y)) from fun W h => by
    rw [show m - a = A.length by omega, List.take_length, List.drop_length]; simpa using h)
  have hw1 : IntKind.i64.wrap ((m : Int) - a) = (m : Int) - a := by rw [IntKind.wrap_i64]; omega
  have hw2 : IntKind.i64.wrap ((b : Int) - m) = 1 := by rw [IntKind.wrap_i64]; omega
  have hne : ¬ (m : Int) - a = 1 := by omega
  have hne2 : ((m : Int) - a == 1) = false := by simp; omega
  have ham : a ≤ m := by omega
  have hmN : m < N := by omega
  have hyn := hlt y (by simp)
  clear hr hc hlt ha hs hx hb hm hN hA2
  go_enter Try.func89, Try.ntmps89
  go_wp2
  go_loopw [14, 15] (fun I J wr0 => ∃ (wr : World) (i j : Nat), wr = wr0 ∧ a ≤ i ∧ i ≤ j ∧ j ≤ m ∧ I = .int .i64 i ∧ J = .int .i64 j ∧ w.grownBy wr (some g) ∧ Hid (RowH H lo cp wr g (X ++ (A ++ y :: Y)) ∧ LoR cf A a y i ∧ HiR cf A a m y j)) (fun I J _ => (intOf J).toNat - (intOf I).toNat)
  case atStart => exact ⟨_, a, m, rfl, by omega, by omega, by omega, rfl, rfl, World.grownBy.refl _ _, Lib.hid ⟨Hr.out, .inl rfl, .inl rfl⟩⟩
  case round =>
    obtain ⟨wr, i, j, rfl, hi, hij, hj, rfl, rfl, hG, hR⟩ := hrel
    by_cases hlt : i < j
    · obtain ⟨h, hh⟩ : ∃ h, (i + j) / 2 = h := ⟨_, rfl⟩
      obtain ⟨hu, hd, hv⟩ := half_int (i := i) (j := j) (by omega)
      rw [hh] at hd hv
      have hwij : IntKind.i64.wrap ((i : Int) + j) = (i : Int) + j := by rw [IntKind.wrap_i64]; omega
      obtain ⟨z, hy1, hy2⟩ := HZat.out h (by omega) (by omega)
      obtain ⟨d0, d1, d2, d3, d4⟩ := RowH.at hR.out.1 hy2
      obtain ⟨c0, c1, c2, c3, c4⟩ := RowH.at hR.out.1 HZm.out
      have hgr := RowU.lt hR.out.1.row
      have hBd : Below wr.heap.size wr wr.drew := (Below.refl _ _).drew
      have hB2 : Below g w0 wr.drew := (hbw.trans (gr_below hG (Nat.le_of_lt hg) (Nat.le_refl _))).drew
      have cC := HC.out y z wr.drew
      have b0 : 0 ≤ (h : Int) := by omega
      have b1 : (h : Int) < (N : Int) := by omega
      have b2 : 0 ≤ (m : Int) := by omega
      have b3 : (m : Int) < (N : Int) := by omega
      have b4 : (i : Int) < (j : Int) := by omega
      have HR1 := Lib.hid hR.out.1
      have HRl := Lib.hid hR.out.2.1
      have HRr := Lib.hid hR.out.2.2
      have Hy := Lib.hid hy1
      have Hh := Lib.hid hh
      clear hR hy1 hy2 hh
      by_cases hneg : cf y z < 0
      · have Hn := Lib.hid (show HiR cf A a m y h from .inr ⟨z, Hy.out, hneg⟩)
        generalize cf y z = R at *
        go_upto_region 17 with fail
        go_region_held3 (fun w' => w'.cell? ⟨g, m * 5, none⟩ = some (.string (H y).nm) ∧ w'.cell? ⟨g, m * 5 + 1, none⟩ = some (.int .i64 (H y).op) ∧ w'.cell? ⟨g, m * 5 + 1 + 1, none⟩ = some (.string (H y).s) ∧ w'.cell? ⟨g, m * 5 + 1 + 1 + 1, none⟩ = some (.int .i64 (H y).z) ∧ w'.cell? ⟨g, m * 5 + 1 + 1 + 1 + 1, none⟩ = some (.slice (H y).a (H y).n (H y).c) ∧ w'.cell? ⟨g, h * 5, none⟩ = some (.string (H z).nm) ∧ w'.cell? ⟨g, h * 5 + 1, none⟩ = some (.int .i64 (H z).op) ∧ w'.cell? ⟨g, h * 5 + 1 + 1, none⟩ = some (.string (H z).s) ∧ w'.cell? ⟨g, h * 5 + 1 + 1 + 1, none⟩ = some (.int .i64 (H z).z) ∧ w'.cell? ⟨g, h * 5 + 1 + 1 + 1 + 1, none⟩ = some (.slice (H z).a (H z).n (H z).c))
          (first | go_keep | (exact ⟨(B4.cell hgr).trans c0, (B4.cell hgr).trans c1, (B4.cell hgr).trans c2, (B4.cell hgr).trans c3, (B4.cell hgr).trans c4, (B4.cell hgr).trans d0, (B4.cell hgr).trans d1, (B4.cell hgr).trans d2, (B4.cell hgr).trans d3, (B4.cell hgr).trans d4⟩))
          (first | (go_at_call 55; ((with_reducible refine cC.mono ?_); rintro e w4 ⟨rfl, hb4⟩; have B4 := bel_trans hBd hb4)))
        have hg4 : wr.grownBy w4 (some g) := gr_of_below B4 B4.tape
        go_wp2
        all_goals go_roundw
        all_goals first | exact ⟨_, i, h, rfl, by omega, by omega, by omega, rfl, rfl, hG.trans hg4, Lib.hid ⟨HR1.out.below B4, HRl.out, Hn.out⟩⟩ | (simp [intOf]; omega)
      · have Hn := Lib.hid (show LoR cf A a y (h + 1) from .inr ⟨z, by rw [Nat.add_sub_cancel]; exact Hy.out, hneg⟩)
        generalize cf y z = R at *
        have hq1 : 0 ≤ R := by omega
        have hq2 : decide (R < 0) = false := by simp; omega
        have hq3 : (!decide (R < 0)) = true := by rw [hq2]; rfl
        go_upto_region 17 with fail
        go_region_held3 (fun w' => w'.cell? ⟨g, m * 5, none⟩ = some (.string (H y).nm) ∧ w'.cell? ⟨g, m * 5 + 1, none⟩ = some (.int .i64 (H y).op) ∧ w'.cell? ⟨g, m * 5 + 1 + 1, none⟩ = some (.string (H y).s) ∧ w'.cell? ⟨g, m * 5 + 1 + 1 + 1, none⟩ = some (.int .i64 (H y).z) ∧ w'.cell? ⟨g, m * 5 + 1 + 1 + 1 + 1, none⟩ = some (.slice (H y).a (H y).n (H y).c) ∧ w'.cell? ⟨g, h * 5, none⟩ = some (.string (H z).nm) ∧ w'.cell? ⟨g, h * 5 + 1, none⟩ = some (.int .i64 (H z).op) ∧ w'.cell? ⟨g, h * 5 + 1 + 1, none⟩ = some (.string (H z).s) ∧ w'.cell? ⟨g, h * 5 + 1 + 1 + 1, none⟩ = some (.int .i64 (H z).z) ∧ w'.cell? ⟨g, h * 5 + 1 + 1 + 1 + 1, none⟩ = some (.slice (H z).a (H z).n (H z).c))
          (first | go_keep | (exact ⟨(B4.cell hgr).trans c0, (B4.cell hgr).trans c1, (B4.cell hgr).trans c2, (B4.cell hgr).trans c3, (B4.cell hgr).trans c4, (B4.cell hgr).trans d0, (B4.cell hgr).trans d1, (B4.cell hgr).trans d2, (B4.cell hgr).trans d3, (B4.cell hgr).trans d4⟩))
          (first | (go_at_call 55; ((with_reducible refine cC.mono ?_); rintro e w4 ⟨rfl, hb4⟩; have B4 := bel_trans hBd hb4)))
        have hg4 : wr.grownBy w4 (some g) := gr_of_below B4 B4.tape
        go_wp2
        go_roundw
        case rel => exact ⟨_, h + 1, j, rfl, by omega, by omega, by omega, by go_num, rfl, hG.trans hg4, Lib.hid ⟨HR1.out.below B4, Hn.out, HRr.out⟩⟩
        case measure => simp [intOf]; omega
    · obtain rfl : i = j := by omega
      have Hend := Lib.hid (show ∀ w', RowH H lo cp w' g (X ++ A.take (i - a) ++ y :: (A.drop (i - a) ++ Y)) → ∃ M, RowH H lo cp w' g (X ++ M ++ Y) ∧ M.Perm (y :: A) ∧ Srt cf M from fun w' h => HFin.out i w' hi hj hR.out.2.1 hR.out.2.2 h)
      have H2 := Lib.hid (H1.out wr hR.out.1)
      have b4 : ¬ (i : Int) < (i : Int) := by omega
      clear hR hij
      go_wp2
      go_loopw [17] (fun K wr0 => ∃ (w2 : World) (k : Nat), w2 = wr0 ∧ i ≤ k ∧ k ≤ m ∧ K = .int .i64 k ∧ w.grownBy w2 (some g) ∧ Hid (RowH H lo cp w2 g (X ++ A.take (k - a) ++ y :: (A.drop (k - a) ++ Y)))) (fun K _ => (intOf K).toNat)
      case atStart => exact ⟨_, m, rfl, by omega, by omega, rfl, hG, H2⟩
      case round =>
        obtain ⟨w2, k, rfl, hk1, hk2, rfl, hG2, hR2⟩ := hrel
        by_cases hki : i < k
        · obtain ⟨k, rfl⟩ : ∃ k1, k = k1 + 1 := ⟨k - 1, by omega⟩
          obtain ⟨z, e0, e1, hsw⟩ := HSt.out k (by omega) (by omega)
          obtain ⟨c0, c1, c2, c3, c4⟩ := RowH.at hR2.out e0
          obtain ⟨d0, d1, d2, d3, d4⟩ := RowH.at hR2.out e1
          have hfr := fun (i : Nat) => RowU.free hR2.out.row i
          have q0 := hfr (k * 5)
          have q1 := hfr (k * 5 + 1)
          have q2 := hfr (k * 5 + 2)
          have q3 := hfr (k * 5 + 3)
          have q4 := hfr (k * 5 + 4)
          have p0 := hfr ((k + 1) * 5)
          have p1 := hfr ((k + 1) * 5 + 1)
          have p2 := hfr ((k + 1) * 5 + 2)
          have p3 := hfr ((k + 1) * 5 + 3)
          have p4 := hfr ((k + 1) * 5 + 4)
          have HS := Lib.hid (hsw _ hR2.out)
          unfold setU at HS
          have ek : ((k + 1 : Nat) : Int) = (k : Int) + 1 := by omega
          rw [ek]
          clear ek
          have wk1 : IntKind.i64.wrap ((k : Int) + 1 - 1) = (k : Int) := by rw [IntKind.wrap_i64]; omega
          have wk2 : IntKind.i64.wrap (k : Int) = (k : Int) := by rw [IntKind.wrap_i64]; omega
          have g0 : (i : Int) < (k : Int) + 1 := by omega
          have g1 : 0 ≤ (k : Int) := by omega
          have g2 : 0 ≤ (k : Int) + 1 := by omega
          have g3 : (k : Int) < (N : Int) := by omega
          have g4 : (k : Int) + 1 < (N : Int) := by omega
          clear hR2 e0 e1 hsw hfr
          go_wp2
          go_region
          go_wp2
          all_goals go_roundw
          all_goals first | exact ⟨_, k, rfl, by omega, by omega, rfl, gr_drew (gr_set (gr_set (gr_set (gr_set (gr_set (gr_set (gr_set (gr_set (gr_set (gr_set hG2 _ _) _ _) _ _) _ _) _ _) _ _) _ _) _ _) _ _) _ _), Lib.hid (RowH.below HS.out ((Below.refl _ _).drew))⟩ | exact ⟨_, k, rfl, by omega, by omega, rfl, gr_set (gr_set (gr_set (gr_set (gr_set (gr_set (gr_set (gr_set (gr_set (gr_set hG2 _ _) _ _) _ _) _ _) _ _) _ _) _ _) _ _) _ _) _ _, HS⟩ | (simp [intOf] <;> omega)
        · obtain rfl : k = i := by omega
          have HE := Lib.hid (Hend.out w2 hR2.out)
          have g0 : ¬ (k : Int) < (k : Int) := by omega
          clear hR2
          go_wp2
          refine bodyPost_ret (results_none rfl _ _ _) rfl ?_
          obtain ⟨M, h1, h2⟩ := HE.out
          exact ⟨⟨_, rfl⟩, ⟨M, by simpa using h1, h2⟩, hG2⟩
end Go.Proofs.Yteidknjhponpkaa.U
namespace Go.Proofs.Yteidknjhponpkaa.U
open Go.RowKit L T C B
set_option linter.unusedVariables false
set_option linter.unusedSimpArgs false

/-- symMerge of two sorted rows side by side, of at most K places -/
def SymAt (H : Nat → Hu) (lo cp : Nat) (g n N cap : Nat) (cf : Nat → Nat → Int) (w0 : World) (K : Nat) : Prop := ∀ (X A B Y : List Nat) (a m b : Nat) (w : World), A ≠ [] → B ≠ [] → A.length + B.length ≤ K → a = X.length → m = a + A.length → b = m + B.length → N = b + Y.length → Srt cf A → Srt cf B → (∀ x ∈ A, ∀ y ∈ B, x < y) → (∀ z ∈ A ++ B, z < n) → Below g w0 w → RowH H lo cp w g (X ++ A ++ B ++ Y) →
  Calls Try.prog 89 #[.slice (some ⟨g, 0, none⟩) N cap, .int .i64 a, .int .i64 m, .int .i64 b, .func (.func 55) #[] #[]] w fun e w' => (∃ v, e = .returned v) ∧ (∃ M, RowH H lo cp w' g (X ++ M ++ Y) ∧ M.Perm (A ++ B) ∧ Srt cf M) ∧ w.grownBy w' (some g)
def LoG (c : Nat → Nat → Int) (A B : List Nat) (a m b nn i : Nat) : Prop := i ≤ a ∨ b ≤ nn - i ∨ ∃ x y, A[i - 1 - a]? = some x ∧ B[nn - i - m]? = some y ∧ ¬ c y x < 0
def HiG (c : Nat → Nat → Int) (A B : List Nat) (a m nn j : Nat) : Prop := m ≤ j ∨ nn - j ≤ m ∨ ∃ x y, A[j - a]? = some x ∧ B[nn - 1 - j - m]? = some y ∧ c y x < 0

theorem sym_parts (H : Nat → Hu) (lo cp : Nat) (g n : Nat) (w0 : World) (cf : Nat → Nat → Int) (h3 : Cmp3 cf) (K N cap : Nat) (hN2 : N ≤ 1000000) (IH : SymAt H lo cp g n N cap cf w0 K) (X A B Y : List Nat) (a m b mid nn i e : Nat) (w : World)
    (hK : A.length + B.length ≤ K + 1) (hA : A ≠ []) (hB : B ≠ []) (ha : a = X.length) (hm : m = a + A.length) (hb : b = m + B.length) (hN : N = b + Y.length) (hsA : Srt cf A) (hsB : Srt cf B) (hx : ∀ x ∈ A, ∀ y ∈ B, x < y) (hlt : ∀ z ∈ A ++ B, z < n) (hbw : Below g w0 w) (hg : g < w.heap.size)
    (hmid : (a + b) / 2 = mid) (hnn : mid + m = nn) (hi1 : a ≤ i) (hi2 : i ≤ m) (hi3 : i ≤ mid) (hi4 : nn ≤ b + i) (he : nn - i = e) (hLo : LoG cf A B a m b nn i) (hHi : HiG cf A B a m nn i) :
    ∃ (S0 S1 S2 : World → Prop), (∀ W, S2 W → ∃ M, RowH H lo cp W g (X ++ M ++ Y) ∧ M.Perm (A ++ B) ∧ Srt cf M) ∧
      (i < m → i < mid → ∀ W, w.grownBy W (some g) → RowH H lo cp W g (X ++ A ++ B ++ Y) → Calls Try.prog 106 #[.slice (some ⟨g, 0, none⟩) N cap, .int .i64 i, .int .i64 m, .int .i64 e, .func (.func 55) #[] #[]] W fun e w' => (∃ v, e = .returned v) ∧ S0 w' ∧ w.grownBy w' (some g)) ∧
      (¬ (i < m ∧ i < mid) → ∀ W, RowH H lo cp W g (X ++ A ++ B ++ Y) → S0 W) ∧
      (a < i → i < mid → ∀ W, w.grownBy W (some g) → S0 W → Calls Try.prog 89 #[.slice (some ⟨g, 0, none⟩) N cap, .int .i64 a, .int .i64 i, .int .i64 mid, .func (.func 55) #[] #[]] W fun e w' => (∃ v, e = .returned v) ∧ S1 w' ∧ w.grownBy w' (some g)) ∧
      (¬ (a < i ∧ i < mid) → ∀ W, S0 W → S1 W) ∧
      (mid < e → e < b → ∀ W, w.grownBy W (some g) → S1 W → Calls Try.prog 89 #[.slice (some ⟨g, 0, none⟩) N cap, .int .i64 mid, .int .i64 e, .int .i64 b, .func (.func 55) #[] #[]] W fun e w' => (∃ v, e = .returned v) ∧ S2 w' ∧ w.grownBy w' (some g)) ∧
      (¬ (mid < e ∧ e < b) → ∀ W, S1 W → S2 W) := by
  have lA : 0 < A.length := List.length_pos_iff.2 hA
  have lB : 0 < B.length := List.length_pos_iff.2 hB
  obtain ⟨sA, hsa⟩ : ∃ sA, i - a = sA := ⟨_, rfl⟩
  obtain ⟨eB, heb⟩ : ∃ eB, e - m = eB := ⟨_, rfl⟩
  have hB1 : ∀ W, w.grownBy W (some g) → Below g w0 W := fun W h => hbw.trans (gr_below h (Nat.le_of_lt hg) (Nat.le_refl _))
  have d1 := cut_lr (s := sA) (e := eB) h3 hsA hsB hx (by
    rcases hLo with h | h | ⟨x, y, e1, e2, e3⟩
    · exact .inl (by omega)
    · exact .inr (.inl (by omega))
    · exact .inr (.inr ⟨x, y, by rw [show sA - 1 = i - 1 - a by omega]; exact e1, by rw [show eB = nn - i - m by omega]; exact e2, e3⟩))
  have d2 := cut_rl (s := sA) (e := eB) h3 hsA hsB (by
    rcases hHi with h | h | ⟨x, y, e1, e2, e3⟩
    · exact .inl (by omega)
    · exact .inr (.inl (by omega))
    · exact .inr (.inr ⟨x, y, by rw [← hsa]; exact e1, by rw [show eB - 1 = nn - 1 - i - m by omega]; exact e2, e3⟩))
  have lt1 : (A.take sA).length = sA := by simp; omega
  have lt2 : (B.take eB).length = eB := by simp; omega
  have ld1 : (A.drop sA).length = m - i := by simp; omega
  have ld2 : (B.drop eB).length = b - e := by simp; omega
  have tA : A.take sA ++ A.drop sA = A := List.take_append_drop _ _
  have tB : B.take eB ++ B.drop eB = B := List.take_append_drop _ _
  have e1 : X ++ A ++ B ++ Y = X ++ A.take sA ++ A.drop sA ++ B.take eB ++ (B.drop eB ++ Y) := by
    rw [List.append_assoc X (A.take sA), tA, List.append_assoc (X ++ A) (B.take eB) (B.drop eB ++ Y), ← List.append_assoc (B.take eB) (B.drop eB) Y, tB, List.append_assoc (X ++ A) B Y]
  refine ⟨fun W => RowH H lo cp W g (X ++ A.take sA ++ B.take eB ++ (A.drop sA ++ B.drop eB ++ Y)), fun W => ∃ M1, RowH H lo cp W g (X ++ M1 ++ (A.drop sA ++ B.drop eB ++ Y)) ∧ M1.Perm (A.take sA ++ B.take eB) ∧ Srt cf M1, fun W => ∃ M, RowH H lo cp W g (X ++ M ++ Y) ∧ M.Perm (A ++ B) ∧ Srt cf M, fun W h => h, ?_, ?_, ?_, ?_, ?_, ?_⟩
  · intro h1 h2 W hG hR
    have h := rotateU_any H lo cp g (X ++ A.take sA) (A.drop sA) (B.take eB) (B.drop eB ++ Y) N cap i m e (.func (.func 55) #[] #[]) (by intro h; rw [h] at ld1; simp at ld1; omega) (by intro h; rw [h] at lt2; simp at lt2; omega) (by simp; omega) (by simp; omega) (by rw [lt2]; omega) (by simp; omega) hN2 W (by
      rw [e1] at hR; exact hR)
    exact h.mono fun e w' ⟨h1, h2, h3⟩ => ⟨h1, by simpa using h2, hG.trans h3⟩
  · intro h W hR
    show RowH H lo cp W g _
    by_cases h1 : i < m
    · have e0 : eB = 0 := by omega
      rw [e0, List.take_zero, List.drop_zero, List.append_nil, show X ++ A.take sA ++ (A.drop sA ++ B ++ Y) = X ++ (A.take sA ++ A.drop sA) ++ B ++ Y by simp only [List.append_assoc], tA]
      exact hR
    · have e0 : sA = A.length := by omega
      rw [e0, List.take_length, List.drop_length, List.nil_append, show X ++ A ++ B.take eB ++ (B.drop eB ++ Y) = X ++ A ++ (B.take eB ++ B.drop eB) ++ Y by simp only [List.append_assoc], tB]
      exact hR
  · intro h1 h2 W hG hS
    have h := IH X (A.take sA) (B.take eB) (A.drop sA ++ B.drop eB ++ Y) a i mid W (by intro h; rw [h] at lt1; simp at lt1; omega) (by intro h; rw [h] at lt2; simp at lt2; omega) (by rw [lt1, lt2]; omega) ha (by rw [lt1]; omega) (by rw [lt2]; omega) (by simp; omega) (srt_take hsA _) (srt_take hsB _) (fun x hx1 y hy1 => hx x (List.take_subset _ _ hx1) y (List.take_subset _ _ hy1)) (fun z hz => by
      rcases List.mem_append.1 hz with hz | hz
      · exact hlt z (List.mem_append_left _ (List.take_subset _ _ hz))
      · exact hlt z (List.mem_append_right _ (List.take_subset _ _ hz))) (hB1 W hG) hS
    exact h.mono fun e w' ⟨h1, h2, h3⟩ => ⟨h1, h2, hG.trans h3⟩
  · intro h W hS
    refine ⟨A.take sA ++ B.take eB, by have : RowH H lo cp W g _ := hS; simpa using this, List.Perm.refl _, ?_⟩
    by_cases h1 : a < i
    · have e0 : eB = 0 := by omega
      subst e0
      simpa using srt_take hsA sA
    · have e0 : sA = 0 := by omega
      subst e0
      simpa using srt_take hsB eB
  · rintro h1 h2 W hG ⟨M1, hS, hp, hs⟩
    have l1 : M1.length = sA + eB := by have := hp.length_eq; rw [List.length_append, lt1, lt2] at this; exact this
    have h := IH (X ++ M1) (A.drop sA) (B.drop eB) Y mid e b W (by intro h; rw [h] at ld1; simp at ld1; omega) (by intro h; rw [h] at ld2; simp at ld2; omega) (by rw [ld1, ld2]; omega) (by simp; omega) (by rw [ld1]; omega) (by rw [ld2]; omega) (by omega) (srt_drop hsA _) (srt_drop hsB _) (fun x hx1 y hy1 => hx x (List.drop_subset _ _ hx1) y (List.drop_subset _ _ hy1)) (fun z hz => by
      rcases List.mem_append.1 hz with hz | hz
      · exact hlt z (List.mem_append_left _ (List.drop_subset _ _ hz))
      · exact hlt z (List.mem_append_right _ (List.drop_subset _ _ hz))) (hB1 W hG) (by simpa using hS)
    refine h.mono fun e w' ⟨h1, ⟨M2, h2, p2, s2⟩, h3⟩ => ⟨h1, ⟨M1 ++ M2, by simpa using h2, ?_⟩, hG.trans h3⟩
    have := merged hp p2 hs s2 hsA hsB d1 d2
    exact ⟨this.2, this.1⟩
  · rintro h W ⟨M1, hS, hp, hs⟩
    have hs2 : Srt cf (A.drop sA ++ B.drop eB) := by
      by_cases h1 : e < b
      · have e0 : sA = A.length := by omega
        rw [e0, List.drop_length]
        simpa using srt_drop hsB eB
      · have e0 : eB = B.length := by omega
        rw [e0, List.drop_length]
        simpa using srt_drop hsA sA
    refine ⟨M1 ++ (A.drop sA ++ B.drop eB), by simpa using hS, ?_⟩
    have := merged hp (List.Perm.refl _) hs hs2 hsA hsB d1 d2
    exact ⟨this.2, this.1⟩

end Go.Proofs.Yteidknjhponpkaa.U
