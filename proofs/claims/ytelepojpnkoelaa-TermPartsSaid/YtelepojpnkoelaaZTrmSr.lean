/-
  What is proved: the library's swapRange and rotate over a row of places.
-/
import Derived.Test.YtelepojpnkoelaaZTrmJ
import Derived.Test.YtelepojpnkoelaaZLibSo
namespace Go.Proofs.Ytelepojpnkoelaa.T
open Go.RowKit L
set_option linter.unusedVariables false
set_option linter.unusedSimpArgs false

set_option maxRecDepth 100000 in
set_option maxHeartbeats 8000000 in
theorem swapRange_any (g : Nat) (zs : List Nat) (N cap a b n : Nat) (f : Value) (hN : N = zs.length) (hN2 : N ≤ 1000000) (hab : a + n ≤ b) (hb : b + n ≤ N) (w : World) (hr : RowN w g zs) :
    Calls Try.prog 114 #[.slice (some ⟨g, 0, none⟩) N cap, .int .i64 a, .int .i64 b, .int .i64 n, f] w fun e w' => (∃ v, e = .returned v) ∧ RowN w' g (swapL a b zs n) ∧ w.grownBy w' (some g) := by
  have HN := Lib.hid hN
  have H0 : Hid (RowN w g (swapL a b zs 0)) := hr
  clear hr hN
  go_enter Try.func114, Try.ntmps114
  go_wp2
  go_loopw [10] (fun i wr0 => ∃ (wr : World) (k : Nat), wr = wr0 ∧ k ≤ n ∧ i = .int .i64 k ∧ w.grownBy wr (some g) ∧ Hid (RowN wr g (swapL a b zs k))) (fun i _ => n - (intOf i).toNat)
  case atStart => exact ⟨_, 0, rfl, by omega, rfl, World.grownBy.refl _ _, H0⟩
  case round =>
    obtain ⟨wr, k, rfl, hk, rfl, hG, hR⟩ := hrel
    by_cases hlt : k < n
    · have hl : (swapL a b zs k).length = N := by rw [swapL_len, HN.out]
      obtain ⟨x, hx⟩ : ∃ x, (swapL a b zs k)[a + k]? = some x := ⟨_, List.getElem?_eq_getElem (by omega)⟩
      obtain ⟨y, hy⟩ : ∃ y, (swapL a b zs k)[b + k]? = some y := ⟨_, List.getElem?_eq_getElem (by omega)⟩
      have c0 := RowN.at hR.out hx
      have c1 := RowN.at hR.out hy
      have q0 := Blk.free hR.out (a + k)
      have q1 := Blk.free hR.out (b + k)
      have c3 : (wr.setCell ⟨g, a + k, none⟩ (.int .i64 y)).cell? ⟨g, b + k, none⟩ = some (.int .i64 y) := RowN.at (hR.out.set (a + k) y) (by rw [List.getElem?_set_ne (by omega)]; exact hy)
      have q3 := Blk.free (RowN.set hR.out (a + k) y) (b + k)
      have hsw := Lib.hid (show ∀ W, RowN W g (swapL a b zs k) → RowN ((W.setCell ⟨g, a + k, none⟩ (.int .i64 y)).setCell ⟨g, b + k, none⟩ (.int .i64 x)) g (swapL a b zs (k + 1)) from fun W h => by
        have e1 : (swapL a b zs k).getD (b + k) 0 = y := by rw [List.getD_eq_getElem?_getD, hy]; rfl
        have e2 : (swapL a b zs k).getD (a + k) 0 = x := by rw [List.getD_eq_getElem?_getD, hx]; rfl
        rw [swapL, e1, e2]
        exact (h.set (a + k) y).set (b + k) x)
      have w0 : IntKind.i64.wrap ((a : Int) + k) = (a : Int) + k := by rw [IntKind.wrap_i64]; omega
      have w1 : IntKind.i64.wrap ((b : Int) + k) = (b : Int) + k := by rw [IntKind.wrap_i64]; omega
      have e0 : ((a : Int) + k).toNat = a + k := by omega
      have e1 : ((b : Int) + k).toNat = b + k := by omega
      have f0 : 0 ≤ (a : Int) + k := by omega
      have f1 : 0 ≤ (b : Int) + k := by omega
      have f2 : (a : Int) + k < (N : Int) := by omega
      have f3 : (b : Int) + k < (N : Int) := by omega
      have hk0 : (k : Int) < (n : Int) := by omega
      have HR := Lib.hid hR.out
      clear hR hx hy hl
      go_wp2
      go_region
      go_wp2
      all_goals go_roundw
      all_goals first | exact ⟨_, k + 1, rfl, by omega, by go_num, gr_drew (gr_set (gr_set hG _ _) _ _), Lib.hid (hsw.out _ HR.out)⟩ | exact ⟨_, k + 1, rfl, by omega, by go_num, gr_set (gr_set hG _ _) _ _, Lib.hid (hsw.out _ HR.out)⟩ | (simp [intOf]; omega)
    · obtain rfl : k = n := by omega
      have hk0 : ¬ (k : Int) < (k : Int) := by omega
      go_wp2
      go_end0
      exact ⟨⟨_, rfl⟩, hR.out, hG⟩
set_option maxRecDepth 100000 in
set_option maxHeartbeats 8000000 in
/-- two rows side by side change places -/
theorem rotate_any (g : Nat) (P U V S : List Nat) (N cap a m b : Nat) (f : Value) (hU : U ≠ []) (hV : V ≠ []) (ha : a = P.length) (hm : m = a + U.length) (hbb : b = m + V.length) (hN : N = b + S.length) (hN2 : N ≤ 1000000) (w : World) (hr : RowN w g (P ++ U ++ V ++ S)) :
    Calls Try.prog 105 #[.slice (some ⟨g, 0, none⟩) N cap, .int .i64 a, .int .i64 m, .int .i64 b, f] w fun e w' => (∃ v, e = .returned v) ∧ RowN w' g (P ++ V ++ U ++ S) ∧ w.grownBy w' (some g) := by
  have hUl : 0 < U.length := List.length_pos_iff.2 hU
  have hVl : 0 < V.length := List.length_pos_iff.2 hV
  have H0 : Hid (∃ P1 U1 V1 S1, RowN w g (P1 ++ U1 ++ V1 ++ S1) ∧ P1 ++ V1 ++ U1 ++ S1 = P ++ V ++ U ++ S ∧ U1.length = m - a ∧ V1.length = b - m ∧ P1.length + U1.length = m) := ⟨P, U, V, S, hr, rfl, by omega, by omega, by omega⟩
  have hlen : (P ++ V ++ U ++ S).length = N := by simp; omega
  have HLn := Lib.hid hlen
  generalize P ++ V ++ U ++ S = T at *
  have hw0 : IntKind.i64.wrap ((m : Int) - a) = (m : Int) - a := by rw [IntKind.wrap_i64]; omega
  have hw1 : IntKind.i64.wrap ((b : Int) - m) = (b : Int) - m := by rw [IntKind.wrap_i64]; omega
  have h1 : a < m := by omega
  have h2 : m < b := by omega
  have h3 : b ≤ N := by omega
  clear hr hU hV hUl hVl hlen ha hbb hN hm
  clear P U V S
  go_enter Try.func105, Try.ntmps105
  go_wp2
  go_loopw [10, 11] (fun i j wr0 => ∃ (wr : World) (x y : Nat), wr = wr0 ∧ 0 < x ∧ 0 < y ∧ x ≤ m ∧ m + y ≤ N ∧ i = .int .i64 x ∧ j = .int .i64 y ∧ w.grownBy wr (some g) ∧ Hid (∃ P1 U1 V1 S1, RowN wr g (P1 ++ U1 ++ V1 ++ S1) ∧ P1 ++ V1 ++ U1 ++ S1 = T ∧ U1.length = x ∧ V1.length = y ∧ P1.length + U1.length = m)) (fun i j _ => (intOf i).toNat + (intOf j).toNat)
  case atStart => exact ⟨_, m - a, b - m, rfl, by omega, by omega, by omega, by omega, by congr 1; omega, by congr 1; omega, World.grownBy.refl _ _, H0⟩
  case round =>
    obtain ⟨wr, x, y, rfl, hx, hy, hxm, hyn, rfl, rfl, hG, hR⟩ := hrel
    obtain ⟨P1, U1, V1, S1, hrow, hT, hu, hv, hpm⟩ := hR.out
    have hrl : (P1 ++ U1 ++ V1 ++ S1).length = N := by rw [← HLn.out, ← hT]; simp; omega
    have wx : IntKind.i64.wrap ((m : Int) - x) = (m : Int) - x := by rw [IntKind.wrap_i64]; omega
    have ex : ((m : Int) - x) = ((m - x : Nat) : Int) := by omega
    have hp1 : P1.length = m - x := by omega
    rcases Nat.lt_trichotomy x y with hxy | hxy | hxy
    · -- the last of V before U
      have hV : V1.take (y - x) ++ V1.drop (y - x) = V1 := List.take_append_drop _ _
      have hl1 : (V1.take (y - x)).length = y - x := by simp; omega
      have hl2 : (V1.drop (y - x)).length = x := by simp; omega
      have cs := swapRange_any g (P1 ++ U1 ++ V1 ++ S1) N cap (m - x) (m + y - x) x f (by omega) (by omega) (by omega) (by omega) wr hrow
      have hsw : swapL (m - x) (m + y - x) (P1 ++ U1 ++ V1 ++ S1) x = P1 ++ V1.drop (y - x) ++ V1.take (y - x) ++ U1 ++ S1 := by
        have := swapL_all P1 U1 (V1.take (y - x)) (V1.drop (y - x)) S1 (by omega)
        rw [hl1, hu, hp1] at this
        rw [← this]
        congr 1
        · omega
        · rw [show P1 ++ U1 ++ V1.take (y - x) ++ V1.drop (y - x) ++ S1 = P1 ++ U1 ++ (V1.take (y - x) ++ V1.drop (y - x)) ++ S1 by simp, hV]
      rw [hsw] at cs
      have hT2 : P1 ++ V1.take (y - x) ++ V1.drop (y - x) ++ (U1 ++ S1) = T := by
        rw [← hT, show P1 ++ V1.take (y - x) ++ V1.drop (y - x) ++ (U1 ++ S1) = P1 ++ (V1.take (y - x) ++ V1.drop (y - x)) ++ U1 ++ S1 by simp, hV]
      have HT2 := Lib.hid hT2
      have HL := Lib.hid (show (V1.drop (y - x)).length = x ∧ (V1.take (y - x)).length = y - x ∧ P1.length + (V1.drop (y - x)).length = m from ⟨hl2, hl1, by omega⟩)
      have d1 : ((x : Int) != (y : Int)) = true := by simp; omega
      have d2 : ¬ (y : Int) < (x : Int) := by omega
      have wy : IntKind.i64.wrap ((m : Int) + y) = (m : Int) + y := by rw [IntKind.wrap_i64]; omega
      have wy2 : IntKind.i64.wrap ((m : Int) + y - x) = (m : Int) + y - x := by rw [IntKind.wrap_i64]; omega
      have wy3 : IntKind.i64.wrap ((y : Int) - x) = (y : Int) - x := by rw [IntKind.wrap_i64]; omega
      rw [show ((m - x : Nat) : Int) = (m : Int) - x by omega, show ((m + y - x : Nat) : Int) = (m : Int) + y - x by omega] at cs
      generalize V1.drop (y - x) = Vd at *
      generalize V1.take (y - x) = Vt at *
      clear hR hrow hT hV hsw hT2 hl1 hl2 hrl hpm hp1 hu hv ex
      go_wp2_with (go_at_call 114; ((with_reducible refine cs.mono ?_); rintro e w4 ⟨⟨v, rfl⟩, hR4, hG4⟩; have H4 := Lib.hid hR4; clear hR4))
      go_roundw
      case rel => exact ⟨_, x, y - x, rfl, by omega, by omega, by omega, by omega, rfl, by congr 1; omega, hG.trans hG4, Lib.hid ⟨P1, Vd, Vt, U1 ++ S1, by have h := H4.out; simpa using h, HT2.out, HL.out⟩⟩
      case measure => simp [intOf]; omega
    · subst hxy
      have cs := swapRange_any g (P1 ++ U1 ++ V1 ++ S1) N cap (m - x) m x f (by omega) (by omega) (by omega) (by omega) wr hrow
      have hsw : swapL (m - x) m (P1 ++ U1 ++ V1 ++ S1) x = P1 ++ V1 ++ U1 ++ S1 := by
        have := swapL_all P1 U1 [] V1 S1 (by omega)
        simp only [List.append_nil, List.length_nil, Nat.add_zero] at this
        rw [hu, hp1, show m - x + x = m by omega] at this
        exact this
      rw [hsw, hT] at cs
      have d1 : ((x : Int) != (x : Int)) = false := by simp
      rw [show ((m - x : Nat) : Int) = (m : Int) - x by omega] at cs
      clear hR hrow hT hsw hrl hpm hp1 hu hv ex
      go_wp2_with (go_at_call 114; ((with_reducible refine cs.mono ?_); rintro e w4 ⟨⟨v, rfl⟩, hR4, hG4⟩; have H4 := Lib.hid hR4; clear hR4))
      go_end0
      exact ⟨⟨_, rfl⟩, H4.out, hG.trans hG4⟩
    · -- the first of U behind V
      have hU : U1.take y ++ U1.drop y = U1 := List.take_append_drop _ _
      have hl1 : (U1.take y).length = y := by simp; omega
      have hl2 : (U1.drop y).length = x - y := by simp; omega
      have cs := swapRange_any g (P1 ++ U1 ++ V1 ++ S1) N cap (m - x) m y f (by omega) (by omega) (by omega) (by omega) wr hrow
      have hsw : swapL (m - x) m (P1 ++ U1 ++ V1 ++ S1) y = P1 ++ V1 ++ U1.drop y ++ U1.take y ++ S1 := by
        have := swapL_all P1 (U1.take y) (U1.drop y) V1 S1 (by omega)
        rw [hl1, hl2, hp1, show m - x + y + (x - y) = m by omega] at this
        rw [← this, show P1 ++ U1.take y ++ U1.drop y ++ V1 ++ S1 = P1 ++ (U1.take y ++ U1.drop y) ++ V1 ++ S1 by simp, hU]
      rw [hsw] at cs
      have HT2 := Lib.hid (show P1 ++ V1 ++ U1.take y ++ U1.drop y ++ S1 = T from by
        rw [← hT, show P1 ++ V1 ++ U1.take y ++ U1.drop y ++ S1 = P1 ++ V1 ++ (U1.take y ++ U1.drop y) ++ S1 by simp, hU])
      have HL := Lib.hid (show (U1.drop y).length = x - y ∧ (U1.take y).length = y ∧ (P1 ++ V1).length + (U1.drop y).length = m from ⟨hl2, hl1, by simp; omega⟩)
      have d1 : ((x : Int) != (y : Int)) = true := by simp; omega
      have d2 : (y : Int) < (x : Int) := by omega
      have wy3 : IntKind.i64.wrap ((x : Int) - y) = (x : Int) - y := by rw [IntKind.wrap_i64]; omega
      rw [show ((m - x : Nat) : Int) = (m : Int) - x by omega] at cs
      generalize U1.drop y = Ud at *
      generalize U1.take y = Ut at *
      clear hR hrow hT hU hsw hl1 hl2 hrl hpm hp1 hu hv ex
      go_wp2_with (go_at_call 114; ((with_reducible refine cs.mono ?_); rintro e w4 ⟨⟨v, rfl⟩, hR4, hG4⟩; have H4 := Lib.hid hR4; clear hR4))
      go_roundw
      case rel => exact ⟨_, x - y, y, rfl, by omega, by omega, by omega, by omega, by congr 1; omega, rfl, hG.trans hG4, Lib.hid ⟨P1 ++ V1, Ud, Ut, S1, by have h := H4.out; simpa using h, HT2.out, HL.out⟩⟩
      case measure => simp [intOf]; omega
end Go.Proofs.Ytelepojpnkoelaa.T
