/-
  What is proved: the library's swapRange and rotate over a row of places.
  What is proved: the library's symMerge where the left row has one place.
  What is proved: the library's symMerge where the right row has one place.
-/
import Derived.Test.YthchjceibpcgbaaGreatDoorFA
import Derived.Test.YthchjceibpcgbaaGreatDoorLO
import Derived.Deep.DeepCutAuto
import Derived.Deep.CutRange
namespace Go.Proofs.YthchjceibpcgbaaGreatDoor.Fi
open Go.RowKit L Lt Cn
set_option linter.unusedVariables false
set_option linter.unusedSimpArgs false


set_option maxRecDepth 100000 in
set_option maxHeartbeats 8000000 in
theorem swapRange_any (g : Nat) (zs : List Nat) (N cap a b n : Nat) (f : Value) (hN : N = zs.length) (hN2 : N ≤ 1000000) (hab : a + n ≤ b) (hb : b + n ≤ N) (w : World) (hr : RowN w g zs) :
    Calls Tryz.prog 145 #[.slice (some ⟨g, 0, none⟩) N cap, .int .i64 a, .int .i64 b, .int .i64 n, f] w fun e w' => (∃ v, e = .returned v) ∧ RowN w' g (swapL a b zs n) ∧ w.grownBy w' (some g) := by
  have HN := Lib.hid hN
  have H0 : Hid (RowN w g (swapL a b zs 0)) := hr
  clear hr hN
  go_enter Tryz.func145, Tryz.ntmps145
  go_wp2
  go_loopw [10] (fun i wr0 => ∃ (wr : World) (k : Nat), wr = wr0 ∧ k ≤ n ∧ i = .int .i64 k ∧ w.grownBy wr (some g) ∧ Hid (RowN wr g (swapL a b zs k))) (fun i _ => n - (intOf i).toNat)
  case atStart => exact ⟨_, 0, rfl, by omega, rfl, World.grownBy.refl _ _, H0⟩
  case round =>
    obtain ⟨wr, k, rfl, hk, rfl, hG, hR⟩ := hrel
    by_cases hlt : k < n
    · have hl : (swapL a b zs k).length = N := by rw [swapL_len, HN.out]
      obtain ⟨x, hx⟩ : ∃ x, (swapL a b zs k)[a + k]? = some x := ⟨_, List.getElem?_eq_getElem (by omega)⟩
      obtain ⟨y, hy⟩ : ∃ y, (swapL a b zs k)[b + k]? = some y := ⟨_, List.getElem?_eq_getElem (by omega)⟩
      have c0 := RowN.at hR.out hx
      have c1 := RowN.at hR.out hy
      have q0 := Blk.free hR.out (a + k)
      have q1 := Blk.free hR.out (b + k)
      have c3 : (wr.setCell ⟨g, a + k, none⟩ (.int .i64 y)).cell? ⟨g, b + k, none⟩ = some (.int .i64 y) := RowN.at (hR.out.set (a + k) y) (by rw [List.getElem?_set_ne (by omega)]; exact hy)
      have q3 := Blk.free (RowN.set hR.out (a + k) y) (b + k)
      have hsw := Lib.hid (show ∀ W, RowN W g (swapL a b zs k) → RowN ((W.setCell ⟨g, a + k, none⟩ (.int .i64 y)).setCell ⟨g, b + k, none⟩ (.int .i64 x)) g (swapL a b zs (k + 1)) from fun W h => by
        have e1 : (swapL a b zs k).getD (b + k) 0 = y := by rw [List.getD_eq_getElem?_getD, hy]; rfl
        have e2 : (swapL a b zs k).getD (a + k) 0 = x := by rw [List.getD_eq_getElem?_getD, hx]; rfl
        rw [swapL, e1, e2]
        exact (h.set (a + k) y).set (b + k) x)
      have w0 : IntKind.i64.wrap ((a : Int) + k) = (a : Int) + k := by rw [IntKind.wrap_i64]; omega
      have w1 : IntKind.i64.wrap ((b : Int) + k) = (b : Int) + k := by rw [IntKind.wrap_i64]; omega
      have e0 : ((a : Int) + k).toNat = a + k := by omega
      have e1 : ((b : Int) + k).toNat = b + k := by omega
      have f0 : 0 ≤ (a : Int) + k := by omega
      have f1 : 0 ≤ (b : Int) + k := by omega
      have f2 : (a : Int) + k < (N : Int) := by omega
      have f3 : (b : Int) + k < (N : Int) := by omega
      have hk0 : (k : Int) < (n : Int) := by omega
      have HR := Lib.hid hR.out
      clear hR hx hy hl
      go_wp2
      go_region
      go_wp2
      all_goals go_roundw
      all_goals first | exact ⟨_, k + 1, rfl, by omega, by go_num, gr_drew (gr_set (gr_set hG _ _) _ _), Lib.hid (hsw.out _ HR.out)⟩ | exact ⟨_, k + 1, rfl, by omega, by go_num, gr_set (gr_set hG _ _) _ _, Lib.hid (hsw.out _ HR.out)⟩ | (simp [intOf]; omega)
    · obtain rfl : k = n := by omega
      have hk0 : ¬ (k : Int) < (k : Int) := by omega
      go_wp2
      go_end0
      exact ⟨⟨_, rfl⟩, hR.out, hG⟩
set_option maxRecDepth 100000 in
set_option maxHeartbeats 8000000 in
/-- two rows side by side change places -/
theorem rotate_any (g : Nat) (P U V S : List Nat) (N cap a m b : Nat) (f : Value) (hU : U ≠ []) (hV : V ≠ []) (ha : a = P.length) (hm : m = a + U.length) (hbb : b = m + V.length) (hN : N = b + S.length) (hN2 : N ≤ 1000000) (w : World) (hr : RowN w g (P ++ U ++ V ++ S)) :
    Calls Tryz.prog 131 #[.slice (some ⟨g, 0, none⟩) N cap, .int .i64 a, .int .i64 m, .int .i64 b, f] w fun e w' => (∃ v, e = .returned v) ∧ RowN w' g (P ++ V ++ U ++ S) ∧ w.grownBy w' (some g) := by
  have hUl : 0 < U.length := List.length_pos_iff.2 hU
  have hVl : 0 < V.length := List.length_pos_iff.2 hV
  have H0 : Hid (∃ P1 U1 V1 S1, RowN w g (P1 ++ U1 ++ V1 ++ S1) ∧ P1 ++ V1 ++ U1 ++ S1 = P ++ V ++ U ++ S ∧ U1.length = m - a ∧ V1.length = b - m ∧ P1.length + U1.length = m) := ⟨P, U, V, S, hr, rfl, by omega, by omega, by omega⟩
  have hlen : (P ++ V ++ U ++ S).length = N := by simp; omega
  have HLn := Lib.hid hlen
  generalize P ++ V ++ U ++ S = T at *
  have hw0 : IntKind.i64.wrap ((m : Int) - a) = (m : Int) - a := by rw [IntKind.wrap_i64]; omega
  have hw1 : IntKind.i64.wrap ((b : Int) - m) = (b : Int) - m := by rw [IntKind.wrap_i64]; omega
  have h1 : a < m := by omega
  have h2 : m < b := by omega
  have h3 : b ≤ N := by omega
  clear hr hU hV hUl hVl hlen ha hbb hN hm
  clear P U V S
  go_enter Tryz.func131, Tryz.ntmps131
  go_wp2
  go_loopw [10, 11] (fun i j wr0 => ∃ (wr : World) (x y : Nat), wr = wr0 ∧ 0 < x ∧ 0 < y ∧ x ≤ m ∧ m + y ≤ N ∧ i = .int .i64 x ∧ j = .int .i64 y ∧ w.grownBy wr (some g) ∧ Hid (∃ P1 U1 V1 S1, RowN wr g (P1 ++ U1 ++ V1 ++ S1) ∧ P1 ++ V1 ++ U1 ++ S1 = T ∧ U1.length = x ∧ V1.length = y ∧ P1.length + U1.length = m)) (fun i j _ => (intOf i).toNat + (intOf j).toNat)
  case atStart => exact ⟨_, m - a, b - m, rfl, by omega, by omega, by omega, by omega, by congr 1; omega, by congr 1; omega, World.grownBy.refl _ _, H0⟩
  case round =>
    obtain ⟨wr, x, y, rfl, hx, hy, hxm, hyn, rfl, rfl, hG, hR⟩ := hrel
    obtain ⟨P1, U1, V1, S1, hrow, hT, hu, hv, hpm⟩ := hR.out
    have hrl : (P1 ++ U1 ++ V1 ++ S1).length = N := by rw [← HLn.out, ← hT]; simp; omega
    have wx : IntKind.i64.wrap ((m : Int) - x) = (m : Int) - x := by rw [IntKind.wrap_i64]; omega
    have ex : ((m : Int) - x) = ((m - x : Nat) : Int) := by omega
    have hp1 : P1.length = m - x := by omega
    rcases Nat.lt_trichotomy x y with hxy | hxy | hxy
    · -- the last of V before U
      have hV : V1.take (y - x) ++ V1.drop (y - x) = V1 := List.take_append_drop _ _
      have hl1 : (V1.take (y - x)).length = y - x := by simp; omega
      have hl2 : (V1.drop (y - x)).length = x := by simp; omega
      have cs := swapRange_any g (P1 ++ U1 ++ V1 ++ S1) N cap (m - x) (m + y - x) x f (by omega) (by omega) (by omega) (by omega) wr hrow
      have hsw : swapL (m - x) (m + y - x) (P1 ++ U1 ++ V1 ++ S1) x = P1 ++ V1.drop (y - x) ++ V1.take (y - x) ++ U1 ++ S1 := by
        have := swapL_all P1 U1 (V1.take (y - x)) (V1.drop (y - x)) S1 (by omega)
        rw [hl1, hu, hp1] at this
        rw [← this]
        congr 1
        · omega
        · rw [show P1 ++ U1 ++ V1.take (y - x) ++ V1.drop (y - x) ++ S1 = P1 ++ U1 ++ (V1.take (y - x) ++ V1.drop (y - x)) ++ S1 by simp, hV]
      rw [hsw] at cs
      have hT2 : P1 ++ V1.take (y - x) ++ V1.drop (y - x) ++ (U1 ++ S1) = T := by
        rw [← hT, show P1 ++ V1.take (y - x) ++ V1.drop (y - x) ++ (U1 ++ S1) = P1 ++ (V1.take (y - x) ++ V1.drop (y - x)) ++ U1 ++ S1 by simp, hV]
      have HT2 := Lib.hid hT2
      have HL := Lib.hid (show (V1.drop (y - x)).length = x ∧ (V1.take (y - x)).length = y - x ∧ P1.length + (V1.drop (y - x)).length = m from ⟨hl2, hl1, by omega⟩)
      have d1 : ((x : Int) != (y : Int)) = true := by simp; omega
      have d2 : ¬ (y : Int) < (x : Int) := by omega
      have wy : IntKind.i64.wrap ((m : Int) + y) = (m : Int) + y := by rw [IntKind.wrap_i64]; omega
      have wy2 : IntKind.i64.wrap ((m : Int) + y - x) = (m : Int) + y - x := by rw [IntKind.wrap_i64]; omega
      have wy3 : IntKind.i64.wrap ((y : Int) - x) = (y : Int) - x := by rw [IntKind.wrap_i64]; omega
      rw [show ((m - x : Nat) : Int) = (m : Int) - x by omega, show ((m + y - x : Nat) : Int) = (m : Int) + y - x by omega] at cs
      generalize V1.drop (y - x) = Vd at *
      generalize V1.take (y - x) = Vt at *
      clear hR hrow hT hV hsw hT2 hl1 hl2 hrl hpm hp1 hu hv ex
      go_wp2_with (go_at_call 145; ((with_reducible refine cs.mono ?_); rintro e w4 ⟨⟨v, rfl⟩, hR4, hG4⟩; have H4 := Lib.hid hR4; clear hR4))
      go_roundw
      case rel => exact ⟨_, x, y - x, rfl, by omega, by omega, by omega, by omega, rfl, by congr 1; omega, hG.trans hG4, Lib.hid ⟨P1, Vd, Vt, U1 ++ S1, by have h := H4.out; simpa using h, HT2.out, HL.out⟩⟩
      case measure => simp [intOf]; omega
    · subst hxy
      have cs := swapRange_any g (P1 ++ U1 ++ V1 ++ S1) N cap (m - x) m x f (by omega) (by omega) (by omega) (by omega) wr hrow
      have hsw : swapL (m - x) m (P1 ++ U1 ++ V1 ++ S1) x = P1 ++ V1 ++ U1 ++ S1 := by
        have := swapL_all P1 U1 [] V1 S1 (by omega)
        simp only [List.append_nil, List.length_nil, Nat.add_zero] at this
        rw [hu, hp1, show m - x + x = m by omega] at this
        exact this
      rw [hsw, hT] at cs
      have d1 : ((x : Int) != (x : Int)) = false := by simp
      rw [show ((m - x : Nat) : Int) = (m : Int) - x by omega] at cs
      clear hR hrow hT hsw hrl hpm hp1 hu hv ex
      go_wp2_with (go_at_call 145; ((with_reducible refine cs.mono ?_); rintro e w4 ⟨⟨v, rfl⟩, hR4, hG4⟩; have H4 := Lib.hid hR4; clear hR4))
      go_end0
      exact ⟨⟨_, rfl⟩, H4.out, hG.trans hG4⟩
    · -- the first of U behind V
      have hU : U1.take y ++ U1.drop y = U1 := List.take_append_drop _ _
      have hl1 : (U1.take y).length = y := by simp; omega
      have hl2 : (U1.drop y).length = x - y := by simp; omega
      have cs := swapRange_any g (P1 ++ U1 ++ V1 ++ S1) N cap (m - x) m y f (by omega) (by omega) (by omega) (by omega) wr hrow
      have hsw : swapL (m - x) m (P1 ++ U1 ++ V1 ++ S1) y = P1 ++ V1 ++ U1.drop y ++ U1.take y ++ S1 := by
        have := swapL_all P1 (U1.take y) (U1.drop y) V1 S1 (by omega)
        rw [hl1, hl2, hp1, show m - x + y + (x - y) = m by omega] at this
        rw [← this, show P1 ++ U1.take y ++ U1.drop y ++ V1 ++ S1 = P1 ++ (U1.take y ++ U1.drop y) ++ V1 ++ S1 by simp, hU]
      rw [hsw] at cs
      have HT2 := Lib.hid (show P1 ++ V1 ++ U1.take y ++ U1.drop y ++ S1 = T from by
        rw [← hT, show P1 ++ V1 ++ U1.take y ++ U1.drop y ++ S1 = P1 ++ V1 ++ (U1.take y ++ U1.drop y) ++ S1 by simp, hU])
      have HL := Lib.hid (show (U1.drop y).length = x - y ∧ (U1.take y).length = y ∧ (P1 ++ V1).length + (U1.drop y).length = m from ⟨hl2, hl1, by simp; omega⟩)
      have d1 : ((x : Int) != (y : Int)) = true := by simp; omega
      have d2 : (y : Int) < (x : Int) := by omega
      have wy3 : IntKind.i64.wrap ((x : Int) - y) = (x : Int) - y := by rw [IntKind.wrap_i64]; omega
      rw [show ((m - x : Nat) : Int) = (m : Int) - x by omega] at cs
      generalize U1.drop y = Ud at *
      generalize U1.take y = Ut at *
      clear hR hrow hT hU hsw hl1 hl2 hrl hpm hp1 hu hv ex
      go_wp2_with (go_at_call 145; ((with_reducible refine cs.mono ?_); rintro e w4 ⟨⟨v, rfl⟩, hR4, hG4⟩; have H4 := Lib.hid hR4; clear hR4))
      go_roundw
      case rel => exact ⟨_, x - y, y, rfl, by omega, by omega, by omega, by omega, by congr 1; omega, rfl, hG.trans hG4, Lib.hid ⟨P1 ++ V1, Ud, Ut, S1, by have h := H4.out; simpa using h, HT2.out, HL.out⟩⟩
      case measure => simp [intOf]; omega

end Go.Proofs.YthchjceibpcgbaaGreatDoor.Fi
namespace Go.Proofs.YthchjceibpcgbaaGreatDoor.Fi
open Go.RowKit L Lt Cn
set_option linter.unusedVariables false
set_option linter.unusedSimpArgs false


theorem RowN.grown {w w' : World} {g : Nat} {zs : List Nat} (h : RowN w g zs) (hb : Below w.heap.size w w') : RowN w' g zs := Blk.below h hb
theorem half_int {i j : Nat} (h1 : i + j ≤ 2000000) : IntKind.u64.wrap ((i : Int) + j) = (i : Int) + j ∧ ((i : Int) + j) / 2 = (((i + j) / 2 : Nat) : Int) ∧ IntKind.i64.wrap ((((i + j) / 2 : Nat) : Int)) = (((i + j) / 2 : Nat) : Int) := by
  refine ⟨?_, by omega, by rw [IntKind.wrap_i64]; omega⟩
  simp [IntKind.wrap, IntKind.bits, IntKind.signed]
  omega
/-- what a search for x's place knows of its lower end, and of its upper one -/
def LoL (c : Nat → Nat → Int) (B : List Nat) (m x i : Nat) : Prop := i = m ∨ ∃ y, B[i - 1 - m]? = some y ∧ c y x < 0
def HiL (c : Nat → Nat → Int) (B : List Nat) (m b x j : Nat) : Prop := j = b ∨ ∃ y, B[j - m]? = some y ∧ ¬ c y x < 0
set_option maxRecDepth 100000 in
set_option maxHeartbeats 8000000 in
theorem sym_left (g gc gl n : Nat) (l : List (List Int)) (w0 : World) (hc : CmpIn g gc gl n l w0) (cf : Nat → Nat → Int) (hcf : ∀ i j, cmR (atL l i) (atL l j) = cf i j) (h3 : Cmp3 cf) (X B Y : List Nat) (x : Nat) (hs : Srt cf B) (hx : ∀ y ∈ B, x < y) (hlt : ∀ z ∈ x :: B, z < n)
    (N cap a m b : Nat) (ha : a = X.length) (hm : m = a + 1) (hb : b = m + B.length) (hN : N = b + Y.length) (hN2 : N ≤ 1000000) (w : World) (hbw : Below g w0 w) (hr : RowN w g (X ++ x :: (B ++ Y))) :
    Calls Tryz.prog 109 #[.slice (some ⟨g, 0, none⟩) N cap, .int .i64 a, .int .i64 m, .int .i64 b, .func (.func 59) #[] #[.pointer (some ⟨gc, 0, none⟩), .pointer (some ⟨gl, 0, none⟩)]] w fun e w' => (∃ v, e = .returned v) ∧ (∃ M, RowN w' g (X ++ M ++ Y) ∧ M.Perm (x :: B) ∧ Srt cf M) ∧ w.grownBy w' (some g) := by
  have hg := Blk.lt hr
  have HC := Lib.hid hc
  have Hcf := Lib.hid hcf
  have Hlt := Lib.hid hlt
  have HX := Lib.hid ha
  have HZat := Lib.hid (show ∀ q, m ≤ q → q < b → ∃ y, B[q - m]? = some y ∧ (X ++ x :: (B ++ Y))[q]? = some y from fun q h1 h2 => by
    refine ⟨B[q - m]'(by omega), List.getElem?_eq_getElem _, ?_⟩
    rw [List.getElem?_append_right (by omega), show q - X.length = (q - m) + 1 by omega, List.getElem?_cons_succ, List.getElem?_append_left (by omega)]
    exact List.getElem?_eq_getElem _)
  have HZa := Lib.hid (show (X ++ x :: (B ++ Y))[a]? = some x from by rw [ha, List.getElem?_append_right (Nat.le_refl _), Nat.sub_self]; rfl)
  have HFin := Lib.hid (show ∀ (p : Nat) (w' : World), m ≤ p → p ≤ b → LoL cf B m x p → HiL cf B m b x p → RowN w' g (X ++ B.take (p - m) ++ x :: (B.drop (p - m) ++ Y)) → ∃ M, RowN w' g (X ++ M ++ Y) ∧ M.Perm (x :: B) ∧ Srt cf M from fun p w' h1 h2 k1 k2 hr2 => by
    refine ⟨B.take (p - m) ++ x :: B.drop (p - m), by simpa using hr2, put_perm B x (p - m), put_mid hs ?_ ?_⟩
    · have := cut_rl (A := [x]) (B := B) (s := 0) (e := p - m) h3 (List.pairwise_singleton _ _) hs (by
        rcases k1 with k1 | ⟨y, e1, e2⟩
        · exact .inr (.inl (by omega))
        · exact .inr (.inr ⟨x, y, rfl, by rw [show p - m - 1 = p - 1 - m by omega]; exact e1, e2⟩))
      exact fun y hy => this y hy x (by simp)
    · have := cut_lr (A := [x]) (B := B) (s := 1) (e := p - m) h3 (List.pairwise_singleton _ _) hs (fun z hz y hy => by rw [List.mem_singleton.1 hz]; exact hx y hy) (by
        rcases k2 with k2 | ⟨y, e1, e2⟩
        · exact .inr (.inl (by omega))
        · exact .inr (.inr ⟨x, y, rfl, e1, e2⟩))
      exact fun y hy => this x (by simp) y hy)
  have HSt := Lib.hid (show ∀ (k : Nat), a ≤ k → k + 1 < b → ∃ y, (X ++ B.take (k - a) ++ x :: (B.drop (k - a) ++ Y))[k]? = some x ∧ (X ++ B.take (k - a) ++ x :: (B.drop (k - a) ++ Y))[k + 1]? = some y ∧ ∀ W, RowN W g (X ++ B.take (k - a) ++ x :: (B.drop (k - a) ++ Y)) → RowN ((W.setCell ⟨g, k, none⟩ (.int .i64 y)).setCell ⟨g, k + 1, none⟩ (.int .i64 x)) g (X ++ B.take (k + 1 - a) ++ x :: (B.drop (k + 1 - a) ++ Y)) from fun k h1 h2 => by
    have hk : k - a < B.length := by omega
    have hl : (X ++ B.take (k - a)).length = k := by simp; omega
    have hd : B.drop (k - a) = B[k - a] :: B.drop (k + 1 - a) := by rw [List.drop_eq_getElem_cons hk]; congr 2; omega
    have ht : B.take (k + 1 - a) = B.take (k - a) ++ [B[k - a]] := by rw [show k + 1 - a = k - a + 1 by omega, List.take_add_one, List.getElem?_eq_getElem hk]; rfl
    refine ⟨B[k - a], by rw [List.getElem?_append_right (by omega), hl, Nat.sub_self]; rfl, by rw [List.getElem?_append_right (by omega), hl, hd, show k + 1 - k = 1 by omega]; rfl, fun W h => ?_⟩
    have h1 := (h.set k B[k - a]).set (k + 1) x
    rw [hd] at h1
    have := swap_list2 (X ++ B.take (k - a)) (B.drop (k + 1 - a) ++ Y) B[k - a] x
    rw [hl] at this
    rw [ht]
    have e : ∀ (T R : List Nat) (q : Nat), X ++ (T ++ [q]) ++ R = X ++ T ++ q :: R := by intro T R q; simp
    rw [e, ← this]
    exact h1)
  have H0 : Hid (RowN w g (X ++ x :: (B ++ Y)) ∧ LoL cf B m x m ∧ HiL cf B m b x b) := ⟨hr, .inl rfl, .inl rfl⟩
  have H1 := Lib.hid (show ∀ W, RowN W g (X ++ x :: (B ++ Y)) → RowN W g (X ++ B.take (a - a) ++ x :: (B.drop (a - a) ++ Y)) from fun W h => by simpa using h)
  have hw1 : IntKind.i64.wrap ((m : Int) - a) = 1 := by rw [IntKind.wrap_i64]; omega
  have hmb : m ≤ b := by omega
  have hbN : b ≤ N := by omega
  have hm1 : m ≤ a + 1 := by omega
  have hm2 : a + 1 ≤ m := by omega
  have hxn := hlt x (by simp)
  clear hr hc hcf hlt ha hs hx hb hm hN
  go_enter Tryz.func109, Tryz.ntmps109
  go_wp2
  go_loopw [10, 11] (fun I J wr0 => ∃ (wr : World) (i j : Nat), wr = wr0 ∧ m ≤ i ∧ i ≤ j ∧ j ≤ b ∧ I = .int .i64 i ∧ J = .int .i64 j ∧ w.grownBy wr (some g) ∧ Hid (RowN wr g (X ++ x :: (B ++ Y)) ∧ LoL cf B m x i ∧ HiL cf B m b x j)) (fun I J _ => (intOf J).toNat - (intOf I).toNat)
  case atStart => exact ⟨_, m, b, rfl, by omega, by omega, by omega, rfl, rfl, World.grownBy.refl _ _, H0⟩
  case round =>
    obtain ⟨wr, i, j, rfl, hi, hij, hj, rfl, rfl, hG, hR⟩ := hrel
    by_cases hlt : i < j
    · obtain ⟨h, hh⟩ : ∃ h, (i + j) / 2 = h := ⟨_, rfl⟩
      obtain ⟨hu, hd, hv⟩ := half_int (i := i) (j := j) (by omega)
      rw [hh] at hd hv
      have hwij : IntKind.i64.wrap ((i : Int) + j) = (i : Int) + j := by rw [IntKind.wrap_i64]; omega
      obtain ⟨y, hy1, hy2⟩ := HZat.out h (by omega) (by omega)
      have c0 := RowN.at hR.out.1 hy2
      have c1 := RowN.at hR.out.1 HZa.out
      have hgr := Blk.lt hR.out.1
      have hBd : Below wr.heap.size wr wr.drew := (Below.refl _ _).drew
      have hB2 : Below g w0 wr.drew := (hbw.trans (gr_below hG (Nat.le_of_lt hg) (Nat.le_refl _))).drew
      have cC := HC.out y x wr.drew hB2 (Nat.le_of_lt hgr) (Hlt.out y (List.mem_cons_of_mem _ (List.mem_of_getElem? hy1))) hxn
      rw [Hcf.out] at cC
      have b0 : 0 ≤ (h : Int) := by omega
      have b1 : (h : Int) < (N : Int) := by omega
      have b2 : 0 ≤ (a : Int) := by omega
      have b3 : (a : Int) < (N : Int) := by omega
      have b4 : (i : Int) < (j : Int) := by omega
      have HR1 := Lib.hid hR.out.1
      have HRl := Lib.hid hR.out.2.1
      have HRr := Lib.hid hR.out.2.2
      have Hy := Lib.hid hy1
      have Hh := Lib.hid hh
      clear hR hy1 hy2 hh
      by_cases hneg : cf y x < 0
      · have Hn := Lib.hid (show LoL cf B m x (h + 1) from .inr ⟨y, by rw [Nat.add_sub_cancel]; exact Hy.out, hneg⟩)
        generalize cf y x = R at *
        go_upto_region 5 with fail
        go_region_held3 (fun w' => w'.cell? ⟨g, h, none⟩ = some (.int .i64 y) ∧ w'.cell? ⟨g, a, none⟩ = some (.int .i64 x))
          (first | go_keep | (exact ⟨(B4.cell hgr).trans c0, (B4.cell hgr).trans c1⟩))
          (first | (go_at_call 59; ((with_reducible refine cC.mono ?_); rintro e w4 ⟨rfl, hb4⟩; have B4 := bel_trans hBd hb4; have z0 := (B4.cell (p := ⟨g, h, none⟩) hgr).trans c0; have z1 := (B4.cell (p := ⟨g, a, none⟩) hgr).trans c1)))
        have hg4 : wr.grownBy w4 (some g) := gr_of_below B4 B4.tape
        go_wp2
        all_goals go_roundw
        all_goals first | exact ⟨_, h + 1, j, rfl, by omega, by omega, by omega, by go_num, rfl, hG.trans hg4, Lib.hid ⟨HR1.out.grown B4, Hn.out, HRr.out⟩⟩ | (simp [intOf]; omega)
      · have Hn := Lib.hid (show HiL cf B m b x h from .inr ⟨y, Hy.out, hneg⟩)
        generalize cf y x = R at *
        go_wp2_with fail
        go_region_held3 (fun w' => w'.cell? ⟨g, h, none⟩ = some (.int .i64 y) ∧ w'.cell? ⟨g, a, none⟩ = some (.int .i64 x))
          (first | go_keep | (exact ⟨(B4.cell hgr).trans c0, (B4.cell hgr).trans c1⟩))
          (first | (go_at_call 59; ((with_reducible refine cC.mono ?_); rintro e w4 ⟨rfl, hb4⟩; have B4 := bel_trans hBd hb4; have z0 := (B4.cell (p := ⟨g, h, none⟩) hgr).trans c0; have z1 := (B4.cell (p := ⟨g, a, none⟩) hgr).trans c1)))
        have hg4 : wr.grownBy w4 (some g) := gr_of_below B4 B4.tape
        go_wp2
        all_goals go_roundw
        all_goals first | exact ⟨_, i, h, rfl, by omega, by omega, by omega, rfl, rfl, hG.trans hg4, Lib.hid ⟨HR1.out.grown B4, HRl.out, Hn.out⟩⟩ | (simp [intOf]; omega)
    · obtain rfl : i = j := by omega
      have Hend := Lib.hid (show ∀ w', RowN w' g (X ++ B.take (i - m) ++ x :: (B.drop (i - m) ++ Y)) → ∃ M, RowN w' g (X ++ M ++ Y) ∧ M.Perm (x :: B) ∧ Srt cf M from fun w' h => HFin.out i w' hi hj hR.out.2.1 hR.out.2.2 h)
      have H2 := Lib.hid (H1.out wr hR.out.1)
      have b4 : ¬ (i : Int) < (i : Int) := by omega
      have wi1 : IntKind.i64.wrap ((i : Int) - 1) = (i : Int) - 1 := by rw [IntKind.wrap_i64]; omega
      clear hR hij
      go_wp2
      go_loopw [13] (fun K wr0 => ∃ (w2 : World) (k : Nat), w2 = wr0 ∧ a ≤ k ∧ k + 1 ≤ i ∧ K = .int .i64 k ∧ w.grownBy w2 (some g) ∧ Hid (RowN w2 g (X ++ B.take (k - a) ++ x :: (B.drop (k - a) ++ Y)))) (fun K _ => i - (intOf K).toNat)
      case atStart => exact ⟨_, a, rfl, by omega, by omega, rfl, hG, H2⟩
      case round =>
        obtain ⟨w2, k, rfl, hk1, hk2, rfl, hG2, hR2⟩ := hrel
        by_cases hki : k + 1 < i
        · obtain ⟨y, e0, e1, hsw⟩ := HSt.out k hk1 (by omega)
          have c0 := RowN.at hR2.out e0
          have c1 := RowN.at hR2.out e1
          have q0 := Blk.free hR2.out k
          have q1 := Blk.free hR2.out (k + 1)
          have HS := Lib.hid (hsw _ hR2.out)
          have wk1 : IntKind.i64.wrap ((k : Int) + 1) = (k : Int) + 1 := by rw [IntKind.wrap_i64]; omega
          have g0 : (k : Int) < (i : Int) - 1 := by omega
          have g1 : 0 ≤ (k : Int) := by omega
          have g2 : 0 ≤ (k : Int) + 1 := by omega
          have g3 : (k : Int) < (N : Int) := by omega
          have g4 : (k : Int) + 1 < (N : Int) := by omega
          clear hR2 e0 e1 hsw
          go_wp2
          go_region
          go_wp2
          all_goals go_roundw
          all_goals first | exact ⟨_, k + 1, rfl, by omega, by omega, by go_num, gr_drew (gr_set (gr_set hG2 _ _) _ _), HS⟩ | exact ⟨_, k + 1, rfl, by omega, by omega, by go_num, gr_set (gr_set hG2 _ _) _ _, HS⟩ | (simp [intOf]; omega)
        · have hki2 : k - a = i - m := by omega
          have HE := Lib.hid (Hend.out w2 (by rw [← hki2]; exact hR2.out))
          have g0 : ¬ (k : Int) < (i : Int) - 1 := by omega
          clear hR2 hki2
          go_wp2
          refine bodyPost_ret (results_none rfl _ _ _) rfl ?_
          obtain ⟨M, h1, h2⟩ := HE.out
          exact ⟨⟨_, rfl⟩, ⟨M, by simpa using h1, h2⟩, hG2⟩

end Go.Proofs.YthchjceibpcgbaaGreatDoor.Fi
namespace Go.Proofs.YthchjceibpcgbaaGreatDoor.Fi
open Go.RowKit L Lt Cn
set_option linter.unusedVariables false
set_option linter.unusedSimpArgs false


def LoR (c : Nat → Nat → Int) (A : List Nat) (a y i : Nat) : Prop := i = a ∨ ∃ x, A[i - 1 - a]? = some x ∧ ¬ c y x < 0
def HiR (c : Nat → Nat → Int) (A : List Nat) (a m y j : Nat) : Prop := j = m ∨ ∃ x, A[j - a]? = some x ∧ c y x < 0
set_option maxRecDepth 100000 in
set_option maxHeartbeats 8000000 in
theorem sym_right (g gc gl n : Nat) (l : List (List Int)) (w0 : World) (hc : CmpIn g gc gl n l w0) (cf : Nat → Nat → Int) (hcf : ∀ i j, cmR (atL l i) (atL l j) = cf i j) (h3 : Cmp3 cf) (X A Y : List Nat) (y : Nat) (hs : Srt cf A) (hx : ∀ x ∈ A, x < y) (hlt : ∀ z ∈ y :: A, z < n)
    (N cap a m b : Nat) (hA2 : A.length ≠ 1) (ha : a = X.length) (hm : m = a + A.length) (hb : b = m + 1) (hN : N = b + Y.length) (hN2 : N ≤ 1000000) (w : World) (hbw : Below g w0 w) (hr : RowN w g (X ++ (A ++ y :: Y))) :
    Calls Tryz.prog 109 #[.slice (some ⟨g, 0, none⟩) N cap, .int .i64 a, .int .i64 m, .int .i64 b, .func (.func 59) #[] #[.pointer (some ⟨gc, 0, none⟩), .pointer (some ⟨gl, 0, none⟩)]] w fun e w' => (∃ v, e = .returned v) ∧ (∃ M, RowN w' g (X ++ M ++ Y) ∧ M.Perm (y :: A) ∧ Srt cf M) ∧ w.grownBy w' (some g) := by
  have hg := Blk.lt hr
  have HC := Lib.hid hc
  have Hcf := Lib.hid hcf
  have Hlt := Lib.hid hlt
  have HZat := Lib.hid (show ∀ q, a ≤ q → q < m → ∃ z, A[q - a]? = some z ∧ (X ++ (A ++ y :: Y))[q]? = some z from fun q h1 h2 => by
    refine ⟨A[q - a]'(by omega), List.getElem?_eq_getElem _, ?_⟩
    rw [List.getElem?_append_right (by omega), ← ha, List.getElem?_append_left (by omega)]
    exact List.getElem?_eq_getElem _)
  have HZm := Lib.hid (show (X ++ (A ++ y :: Y))[m]? = some y from by rw [← List.append_assoc, List.getElem?_append_right (by simp; omega), show m - (X ++ A).length = 0 by simp; omega]; rfl)
  have HFin := Lib.hid (show ∀ (p : Nat) (w' : World), a ≤ p → p ≤ m → LoR cf A a y p → HiR cf A a m y p → RowN w' g (X ++ A.take (p - a) ++ y :: (A.drop (p - a) ++ Y)) → ∃ M, RowN w' g (X ++ M ++ Y) ∧ M.Perm (y :: A) ∧ Srt cf M from fun p w' h1 h2 k1 k2 hr2 => by
    refine ⟨A.take (p - a) ++ y :: A.drop (p - a), by simpa using hr2, put_perm A y (p - a), put_mid hs ?_ ?_⟩
    · have := cut_lr (A := A) (B := [y]) (s := p - a) (e := 0) h3 hs (List.pairwise_singleton _ _) (fun z hz y2 hy => by rw [List.mem_singleton.1 hy]; exact hx z hz) (by
        rcases k1 with k1 | ⟨z, e1, e2⟩
        · exact .inl (by omega)
        · exact .inr (.inr ⟨z, y, by rw [show p - a - 1 = p - 1 - a by omega]; exact e1, rfl, e2⟩))
      exact fun z hz => this z hz y (by simp)
    · have := cut_rl (A := A) (B := [y]) (s := p - a) (e := 1) h3 hs (List.pairwise_singleton _ _) (by
        rcases k2 with k2 | ⟨z, e1, e2⟩
        · exact .inl (by omega)
        · exact .inr (.inr ⟨z, y, e1, rfl, e2⟩))
      exact fun z hz => this y (by simp) z hz)
  have HSt := Lib.hid (show ∀ (k : Nat), a ≤ k → k < m → ∃ z, (X ++ A.take (k + 1 - a) ++ y :: (A.drop (k + 1 - a) ++ Y))[k]? = some z ∧ (X ++ A.take (k + 1 - a) ++ y :: (A.drop (k + 1 - a) ++ Y))[k + 1]? = some y ∧ ∀ W, RowN W g (X ++ A.take (k + 1 - a) ++ y :: (A.drop (k + 1 - a) ++ Y)) → RowN ((W.setCell ⟨g, k + 1, none⟩ (.int .i64 z)).setCell ⟨g, k, none⟩ (.int .i64 y)) g (X ++ A.take (k - a) ++ y :: (A.drop (k - a) ++ Y)) from fun k h1 h2 => by
    have hk : k - a < A.length := by omega
    have hl : (X ++ A.take (k - a)).length = k := by simp; omega
    have hd : A.drop (k - a) = A[k - a] :: A.drop (k + 1 - a) := by rw [List.drop_eq_getElem_cons hk]; congr 2; omega
    have ht : A.take (k + 1 - a) = A.take (k - a) ++ [A[k - a]] := by rw [show k + 1 - a = k - a + 1 by omega, List.take_add_one, List.getElem?_eq_getElem hk]; rfl
    have e : ∀ (T R : List Nat) (q : Nat), X ++ (T ++ [q]) ++ R = X ++ T ++ q :: R := by intro T R q; simp
    rw [ht, e]
    refine ⟨A[k - a], by rw [List.getElem?_append_right (by omega), hl, Nat.sub_self]; rfl, by rw [List.getElem?_append_right (by omega), hl, show k + 1 - k = 1 by omega]; rfl, fun W h => ?_⟩
    have h1 := (h.set (k + 1) A[k - a]).set k y
    have := swap_list (X ++ A.take (k - a)) (A.drop (k + 1 - a) ++ Y) y A[k - a]
    rw [hl] at this
    rw [this] at h1
    rw [hd]
    exact h1)
  have Hr := Lib.hid hr
  have H1 := Lib.hid (show ∀ W, RowN W g (X ++ (A ++ y :: Y)) → RowN W g (X ++ A.take (m - a) ++ y :: (A.drop (m - a) ++ Y)) from fun W h => by
    rw [show m - a = A.length by omega, List.take_length, List.drop_length]; simpa using h)
  have hw1 : IntKind.i64.wrap ((m : Int) - a) = (m : Int) - a := by rw [IntKind.wrap_i64]; omega
  have hw2 : IntKind.i64.wrap ((b : Int) - m) = 1 := by rw [IntKind.wrap_i64]; omega
  have hne : ¬ (m : Int) - a = 1 := by omega
  have hne2 : ((m : Int) - a == 1) = false := by simp; omega
  have ham : a ≤ m := by omega
  have hmN : m < N := by omega
  have hyn := hlt y (by simp)
  clear hr hc hcf hlt ha hs hx hb hm hN hA2
  go_enter Tryz.func109, Tryz.ntmps109
  go_wp2
  go_loopw [14, 15] (fun I J wr0 => ∃ (wr : World) (i j : Nat), wr = wr0 ∧ a ≤ i ∧ i ≤ j ∧ j ≤ m ∧ I = .int .i64 i ∧ J = .int .i64 j ∧ w.grownBy wr (some g) ∧ Hid (RowN wr g (X ++ (A ++ y :: Y)) ∧ LoR cf A a y i ∧ HiR cf A a m y j)) (fun I J _ => (intOf J).toNat - (intOf I).toNat)
  case atStart => exact ⟨_, a, m, rfl, by omega, by omega, by omega, rfl, rfl, World.grownBy.refl _ _, Lib.hid ⟨Hr.out, .inl rfl, .inl rfl⟩⟩
  case round =>
    obtain ⟨wr, i, j, rfl, hi, hij, hj, rfl, rfl, hG, hR⟩ := hrel
    by_cases hlt : i < j
    · obtain ⟨h, hh⟩ : ∃ h, (i + j) / 2 = h := ⟨_, rfl⟩
      obtain ⟨hu, hd, hv⟩ := half_int (i := i) (j := j) (by omega)
      rw [hh] at hd hv
      have hwij : IntKind.i64.wrap ((i : Int) + j) = (i : Int) + j := by rw [IntKind.wrap_i64]; omega
      obtain ⟨z, hy1, hy2⟩ := HZat.out h (by omega) (by omega)
      have c1 := RowN.at hR.out.1 hy2
      have c0 := RowN.at hR.out.1 HZm.out
      have hgr := Blk.lt hR.out.1
      have hBd : Below wr.heap.size wr wr.drew := (Below.refl _ _).drew
      have hB2 : Below g w0 wr.drew := (hbw.trans (gr_below hG (Nat.le_of_lt hg) (Nat.le_refl _))).drew
      have cC := HC.out y z wr.drew hB2 (Nat.le_of_lt hgr) hyn (Hlt.out z (List.mem_cons_of_mem _ (List.mem_of_getElem? hy1)))
      rw [Hcf.out] at cC
      have b0 : 0 ≤ (h : Int) := by omega
      have b1 : (h : Int) < (N : Int) := by omega
      have b2 : 0 ≤ (m : Int) := by omega
      have b3 : (m : Int) < (N : Int) := by omega
      have b4 : (i : Int) < (j : Int) := by omega
      have HR1 := Lib.hid hR.out.1
      have HRl := Lib.hid hR.out.2.1
      have HRr := Lib.hid hR.out.2.2
      have Hy := Lib.hid hy1
      have Hh := Lib.hid hh
      clear hR hy1 hy2 hh
      by_cases hneg : cf y z < 0
      · have Hn := Lib.hid (show HiR cf A a m y h from .inr ⟨z, Hy.out, hneg⟩)
        generalize cf y z = R at *
        go_upto_region 17 with fail
        go_region_held3 (fun w' => w'.cell? ⟨g, m, none⟩ = some (.int .i64 y) ∧ w'.cell? ⟨g, h, none⟩ = some (.int .i64 z))
          (first | go_keep | (exact ⟨(B4.cell hgr).trans c0, (B4.cell hgr).trans c1⟩))
          (first | (go_at_call 59; ((with_reducible refine cC.mono ?_); rintro e w4 ⟨rfl, hb4⟩; have B4 := bel_trans hBd hb4; have z0 := (B4.cell (p := ⟨g, m, none⟩) hgr).trans c0; have z1 := (B4.cell (p := ⟨g, h, none⟩) hgr).trans c1)))
        have hg4 : wr.grownBy w4 (some g) := gr_of_below B4 B4.tape
        go_wp2
        all_goals go_roundw
        all_goals first | exact ⟨_, i, h, rfl, by omega, by omega, by omega, rfl, rfl, hG.trans hg4, Lib.hid ⟨HR1.out.grown B4, HRl.out, Hn.out⟩⟩ | (simp [intOf]; omega)
      · have Hn := Lib.hid (show LoR cf A a y (h + 1) from .inr ⟨z, by rw [Nat.add_sub_cancel]; exact Hy.out, hneg⟩)
        generalize cf y z = R at *
        have hq1 : 0 ≤ R := by omega
        have hq2 : decide (R < 0) = false := by simp; omega
        have hq3 : (!decide (R < 0)) = true := by rw [hq2]; rfl
        go_upto_region 17 with fail
        go_region_held3 (fun w' => w'.cell? ⟨g, m, none⟩ = some (.int .i64 y) ∧ w'.cell? ⟨g, h, none⟩ = some (.int .i64 z))
          (first | go_keep | (exact ⟨(B4.cell hgr).trans c0, (B4.cell hgr).trans c1⟩))
          (first | (go_at_call 59; ((with_reducible refine cC.mono ?_); rintro e w4 ⟨rfl, hb4⟩; have B4 := bel_trans hBd hb4; have z0 := (B4.cell (p := ⟨g, m, none⟩) hgr).trans c0; have z1 := (B4.cell (p := ⟨g, h, none⟩) hgr).trans c1)))
        have hg4 : wr.grownBy w4 (some g) := gr_of_below B4 B4.tape
        go_wp2
        go_roundw
        case rel => exact ⟨_, h + 1, j, rfl, by omega, by omega, by omega, by go_num, rfl, hG.trans hg4, Lib.hid ⟨HR1.out.grown B4, Hn.out, HRr.out⟩⟩
        case measure => simp [intOf]; omega
    · obtain rfl : i = j := by omega
      have Hend := Lib.hid (show ∀ w', RowN w' g (X ++ A.take (i - a) ++ y :: (A.drop (i - a) ++ Y)) → ∃ M, RowN w' g (X ++ M ++ Y) ∧ M.Perm (y :: A) ∧ Srt cf M from fun w' h => HFin.out i w' hi hj hR.out.2.1 hR.out.2.2 h)
      have H2 := Lib.hid (H1.out wr hR.out.1)
      have b4 : ¬ (i : Int) < (i : Int) := by omega
      clear hR hij
      go_wp2
      go_loopw [17] (fun K wr0 => ∃ (w2 : World) (k : Nat), w2 = wr0 ∧ i ≤ k ∧ k ≤ m ∧ K = .int .i64 k ∧ w.grownBy w2 (some g) ∧ Hid (RowN w2 g (X ++ A.take (k - a) ++ y :: (A.drop (k - a) ++ Y)))) (fun K _ => (intOf K).toNat)
      case atStart => exact ⟨_, m, rfl, by omega, by omega, rfl, hG, H2⟩
      case round =>
        obtain ⟨w2, k, rfl, hk1, hk2, rfl, hG2, hR2⟩ := hrel
        by_cases hki : i < k
        · obtain ⟨k, rfl⟩ : ∃ k1, k = k1 + 1 := ⟨k - 1, by omega⟩
          obtain ⟨z, e0, e1, hsw⟩ := HSt.out k (by omega) (by omega)
          have c0 := RowN.at hR2.out e0
          have c1 := RowN.at hR2.out e1
          have q0 := Blk.free hR2.out k
          have q1 := Blk.free hR2.out (k + 1)
          have HS := Lib.hid (hsw _ hR2.out)
          have ek : ((k + 1 : Nat) : Int) = (k : Int) + 1 := by omega
          rw [ek]
          clear ek
          have wk1 : IntKind.i64.wrap ((k : Int) + 1 - 1) = (k : Int) := by rw [IntKind.wrap_i64]; omega
          have wk2 : IntKind.i64.wrap (k : Int) = (k : Int) := by rw [IntKind.wrap_i64]; omega
          have g0 : (i : Int) < (k : Int) + 1 := by omega
          have g1 : 0 ≤ (k : Int) := by omega
          have g2 : 0 ≤ (k : Int) + 1 := by omega
          have g3 : (k : Int) < (N : Int) := by omega
          have g4 : (k : Int) + 1 < (N : Int) := by omega
          clear hR2 e0 e1 hsw
          go_wp2
          go_region
          go_wp2
          all_goals go_roundw
          all_goals first | exact ⟨_, k, rfl, by omega, by omega, rfl, gr_drew (gr_set (gr_set hG2 _ _) _ _), HS⟩ | exact ⟨_, k, rfl, by omega, by omega, rfl, gr_set (gr_set hG2 _ _) _ _, HS⟩ | (simp [intOf] <;> omega)
        · obtain rfl : k = i := by omega
          have HE := Lib.hid (Hend.out w2 hR2.out)
          have g0 : ¬ (k : Int) < (k : Int) := by omega
          clear hR2
          go_wp2
          refine bodyPost_ret (results_none rfl _ _ _) rfl ?_
          obtain ⟨M, h1, h2⟩ := HE.out
          exact ⟨⟨_, rfl⟩, ⟨M, by simpa using h1, h2⟩, hG2⟩

end Go.Proofs.YthchjceibpcgbaaGreatDoor.Fi
