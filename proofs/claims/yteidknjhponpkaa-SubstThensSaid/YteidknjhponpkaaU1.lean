/-
  What is proved: rows of pairs as rows of places; the library's swapRange over such a row.
  What is proved: the library's rotate over a row of pairs.
-/
import Derived.Test.YteidknjhponpkaaZSbOw
import Derived.Test.YteidknjhponpkaaBL
import Derived.Test.YteidknjhponpkaaBD
import Derived.Deep.RegionHeld3
import Derived.Deep.DeepCutAuto
import Derived.Deep.CutRange
namespace Go.Proofs.Yteidknjhponpkaa.U
open Go.RowKit L T C B
set_option linter.unusedVariables false
set_option linter.unusedSimpArgs false

/-- the row's k-th pair is the one at place zs[k]: a row of the call's own -/
def RowH (H : Nat → Hu) (lo cp : Nat) (w : World) (g : Nat) (zs : List Nat) : Prop := OwnU w lo (.slice (some ⟨g, 0, none⟩) zs.length cp) (zs.map H)
theorem RowH.row {H : Nat → Hu} {lo cp : Nat} {w : World} {g : Nat} {zs : List Nat} (h : RowH H lo cp w g zs) : RowU w g (zs.map H) := OwnU.row h
theorem RowH.at {H : Nat → Hu} {lo cp : Nat} {w : World} {g : Nat} {zs : List Nat} (h : RowH H lo cp w g zs) {k z : Nat} (hk : zs[k]? = some z) :
    w.cell? ⟨g, k * 5, none⟩ = some (.string (H z).nm) ∧ w.cell? ⟨g, k * 5 + 1, none⟩ = some (.int .i64 (H z).op) ∧ w.cell? ⟨g, k * 5 + 1 + 1, none⟩ = some (.string (H z).s) ∧ w.cell? ⟨g, k * 5 + 1 + 1 + 1, none⟩ = some (.int .i64 (H z).z) ∧ w.cell? ⟨g, k * 5 + 1 + 1 + 1 + 1, none⟩ = some (.slice (H z).a (H z).n (H z).c) := by
  obtain ⟨h1, h2⟩ := List.getElem?_eq_some_iff.1 hk
  have := RowU.at h.row (k := k) (by simpa using h1)
  simp only [List.getElem_map, h2] at this
  exact this
theorem RowH.set {H : Nat → Hu} {lo cp : Nat} {w : World} {g : Nat} {zs : List Nat} (h : RowH H lo cp w g zs) (k z : Nat) (hk : k < zs.length) : RowH H lo cp (setU w g k (H z)) g (zs.set k z) := by
  have := OwnU.set h k (H z) (by simpa using hk)
  unfold RowH
  rw [List.map_set, List.length_set]
  exact this
theorem RowH.below {H : Nat → Hu} {lo cp : Nat} {w w' : World} {g : Nat} {zs : List Nat} (h : RowH H lo cp w g zs) (hb : Below w.heap.size w w') : RowH H lo cp w' g zs := OwnU.below h hb
theorem gr_setU {w0 w : World} {g : Nat} (h : w0.grownBy w (some g)) (k : Nat) (x : Hu) : w0.grownBy (setU w g k x) (some g) := gr_set (gr_set (gr_set (gr_set (gr_set h _ _) _ _) _ _) _ _) _ _
set_option maxRecDepth 100000 in
set_option maxHeartbeats 16000000 in
theorem swapRangeU_any (H : Nat → Hu) (lo cp : Nat) (g : Nat) (zs : List Nat) (N cap a b n : Nat) (f : Value) (hN : N = zs.length) (hN2 : N ≤ 1000000) (hab : a + n ≤ b) (hb : b + n ≤ N) (w : World) (hr : RowH H lo cp w g zs) :
    Calls Try.prog 115 #[.slice (some ⟨g, 0, none⟩) N cap, .int .i64 a, .int .i64 b, .int .i64 n, f] w fun e w' => (∃ v, e = .returned v) ∧ RowH H lo cp w' g (swapL a b zs n) ∧ w.grownBy w' (some g) := by
  have HN := Lib.hid hN
  have H0 : Hid (RowH H lo cp w g (swapL a b zs 0)) := hr
  clear hr hN
  go_enter Try.func115, Try.ntmps115
  go_wp2
  go_loopw [10] (fun i wr0 => ∃ (wr : World) (k : Nat), wr = wr0 ∧ k ≤ n ∧ i = .int .i64 k ∧ w.grownBy wr (some g) ∧ Hid (RowH H lo cp wr g (swapL a b zs k))) (fun i _ => n - (intOf i).toNat)
  case atStart => exact ⟨_, 0, rfl, by omega, rfl, World.grownBy.refl _ _, H0⟩
  case round =>
    obtain ⟨wr, k, rfl, hk, rfl, hG, hR⟩ := hrel
    by_cases hlt : k < n
    · have hl : (swapL a b zs k).length = N := by rw [swapL_len, HN.out]
      obtain ⟨x, hx⟩ : ∃ x, (swapL a b zs k)[a + k]? = some x := ⟨_, List.getElem?_eq_getElem (by omega)⟩
      obtain ⟨y, hy⟩ : ∃ y, (swapL a b zs k)[b + k]? = some y := ⟨_, List.getElem?_eq_getElem (by omega)⟩
      have hsw := Lib.hid (show ∀ W, RowH H lo cp W g (swapL a b zs k) → RowH H lo cp (setU (setU W g (a + k) (H y)) g (b + k) (H x)) g (swapL a b zs (k + 1)) from fun W h => by
        have e1 : (swapL a b zs k).getD (b + k) 0 = y := by rw [List.getD_eq_getElem?_getD, hy]; rfl
        have e2 : (swapL a b zs k).getD (a + k) 0 = x := by rw [List.getD_eq_getElem?_getD, hx]; rfl
        rw [swapL, e1, e2]
        exact (h.set (a + k) y (by omega)).set (b + k) x (by rw [List.length_set]; omega))
      have HS := Lib.hid (hsw.out _ hR.out)
      obtain ⟨c0, c1, c2, c3, c4⟩ := RowH.at hR.out hx
      obtain ⟨d0, d1, d2, d3, d4⟩ := RowH.at hR.out hy
      have hfr := fun (i : Nat) => RowU.free hR.out.row i
      obtain ⟨A, hA⟩ : ∃ A, a + k = A := ⟨_, rfl⟩
      obtain ⟨B, hB⟩ : ∃ B, b + k = B := ⟨_, rfl⟩
      rw [hA, hB] at HS
      rw [hA] at c0 c1 c2 c3 c4
      rw [hB] at d0 d1 d2 d3 d4
      have w0 : IntKind.i64.wrap ((a : Int) + k) = (A : Int) := by rw [IntKind.wrap_i64]; omega
      have w1 : IntKind.i64.wrap ((b : Int) + k) = (B : Int) := by rw [IntKind.wrap_i64]; omega
      have f0 : 0 ≤ (A : Int) := by omega
      have f1 : 0 ≤ (B : Int) := by omega
      have f2 : (A : Int) < (N : Int) := by omega
      have f3 : (B : Int) < (N : Int) := by omega
      have hk0 : (k : Int) < (n : Int) := by omega
      have hAB : A < B := by omega
      have n00 : ¬ B = A := by omega
      have n01 : ¬ A = B := by omega
      have n10 : ¬ B * 5 + 1 = A * 5 := by omega
      have n11 : ¬ A * 5 = B * 5 + 1 := by omega
      have n12 : ¬ B * 5 = A * 5 + 1 := by omega
      have n13 : ¬ A * 5 + 1 = B * 5 := by omega
      have n20 : ¬ B * 5 + 2 = A * 5 := by omega
      have n21 : ¬ A * 5 = B * 5 + 2 := by omega
      have n22 : ¬ B * 5 = A * 5 + 2 := by omega
      have n23 : ¬ A * 5 + 2 = B * 5 := by omega
      have n30 : ¬ B * 5 + 3 = A * 5 := by omega
      have n31 : ¬ A * 5 = B * 5 + 3 := by omega
      have n32 : ¬ B * 5 = A * 5 + 3 := by omega
      have n33 : ¬ A * 5 + 3 = B * 5 := by omega
      have n40 : ¬ B * 5 + 4 = A * 5 := by omega
      have n41 : ¬ A * 5 = B * 5 + 4 := by omega
      have n42 : ¬ B * 5 = A * 5 + 4 := by omega
      have n43 : ¬ A * 5 + 4 = B * 5 := by omega
      clear hsw hR hx hy hl hA hB hAB
      unfold setU at HS
      have qA0 := hfr (A * 5)
      have qA1 := hfr (A * 5 + 1)
      have qA2 := hfr (A * 5 + 2)
      have qA3 := hfr (A * 5 + 3)
      have qA4 := hfr (A * 5 + 4)
      have qB0 := hfr (B * 5)
      have qB1 := hfr (B * 5 + 1)
      have qB2 := hfr (B * 5 + 2)
      have qB3 := hfr (B * 5 + 3)
      have qB4 := hfr (B * 5 + 4)
      clear hfr
      go_wp2
      go_region
      go_wp2
      all_goals go_roundw
      all_goals first | exact ⟨_, k + 1, rfl, by omega, by go_num, gr_drew (gr_set (gr_set (gr_set (gr_set (gr_set (gr_set (gr_set (gr_set (gr_set (gr_set hG _ _) _ _) _ _) _ _) _ _) _ _) _ _) _ _) _ _) _ _), Lib.hid (RowH.below HS.out ((Below.refl _ _).drew))⟩ | (simp [intOf]; omega)
    · obtain rfl : k = n := by omega
      have hk0 : ¬ (k : Int) < (k : Int) := by omega
      go_wp2
      go_end0
      exact ⟨⟨_, rfl⟩, hR.out, hG⟩
end Go.Proofs.Yteidknjhponpkaa.U
namespace Go.Proofs.Yteidknjhponpkaa.U
open Go.RowKit L T C B
set_option linter.unusedVariables false
set_option linter.unusedSimpArgs false

/-- what the sort's comparison says of the pairs at two places -/
def CmpU (H : Nat → Hu) (cf : Nat → Nat → Int) : Prop := ∀ (i j : Nat) (w : World), Calls Try.prog 55 #[.agg #[.string (H i).nm, .int .i64 (H i).op, .string (H i).s, .int .i64 (H i).z, .slice (H i).a (H i).n (H i).c], .agg #[.string (H j).nm, .int .i64 (H j).op, .string (H j).s, .int .i64 (H j).z, .slice (H j).a (H j).n (H j).c]] w fun e w' => e = .returned (.int .i64 (cf i j)) ∧ Below w.heap.size w w'
set_option maxRecDepth 100000 in
set_option maxHeartbeats 8000000 in
/-- two rows side by side change places -/
theorem rotateU_any (H : Nat → Hu) (lo cp : Nat) (g : Nat) (P U V S : List Nat) (N cap a m b : Nat) (f : Value) (hU : U ≠ []) (hV : V ≠ []) (ha : a = P.length) (hm : m = a + U.length) (hbb : b = m + V.length) (hN : N = b + S.length) (hN2 : N ≤ 1000000) (w : World) (hr : RowH H lo cp w g (P ++ U ++ V ++ S)) :
    Calls Try.prog 106 #[.slice (some ⟨g, 0, none⟩) N cap, .int .i64 a, .int .i64 m, .int .i64 b, f] w fun e w' => (∃ v, e = .returned v) ∧ RowH H lo cp w' g (P ++ V ++ U ++ S) ∧ w.grownBy w' (some g) := by
  have hUl : 0 < U.length := List.length_pos_iff.2 hU
  have hVl : 0 < V.length := List.length_pos_iff.2 hV
  have H0 : Hid (∃ P1 U1 V1 S1, RowH H lo cp w g (P1 ++ U1 ++ V1 ++ S1) ∧ P1 ++ V1 ++ U1 ++ S1 = P ++ V ++ U ++ S ∧ U1.length = m - a ∧ V1.length = b - m ∧ P1.length + U1.length = m) := ⟨P, U, V, S, hr, rfl, by omega, by omega, by omega⟩
  have hlen : (P ++ V ++ U ++ S).length = N := by simp; omega
  have HLn := Lib.hid hlen
  generalize P ++ V ++ U ++ S = T at *
  have hw0 : IntKind.i64.wrap ((m : Int) - a) = (m : Int) - a := by rw [IntKind.wrap_i64]; omega
  have hw1 : IntKind.i64.wrap ((b : Int) - m) = (b : Int) - m := by rw [IntKind.wrap_i64]; omega
  have h1 : a < m := by omega
  have h2 : m < b := by omega
  have h3 : b ≤ N := by omega
  clear hr hU hV hUl hVl hlen ha hbb hN hm
  clear P U V S
  go_enter Try.func106, Try.ntmps106
  go_wp2
  go_loopw [10, 11] (fun i j wr0 => ∃ (wr : World) (x y : Nat), wr = wr0 ∧ 0 < x ∧ 0 < y ∧ x ≤ m ∧ m + y ≤ N ∧ i = .int .i64 x ∧ j = .int .i64 y ∧ w.grownBy wr (some g) ∧ Hid (∃ P1 U1 V1 S1, RowH H lo cp wr g (P1 ++ U1 ++ V1 ++ S1) ∧ P1 ++ V1 ++ U1 ++ S1 = T ∧ U1.length = x ∧ V1.length = y ∧ P1.length + U1.length = m)) (fun i j _ => (intOf i).toNat + (intOf j).toNat)
  case atStart => exact ⟨_, m - a, b - m, rfl, by omega, by omega, by omega, by omega, by congr 1; omega, by congr 1; omega, World.grownBy.refl _ _, H0⟩
  case round =>
    obtain ⟨wr, x, y, rfl, hx, hy, hxm, hyn, rfl, rfl, hG, hR⟩ := hrel
    obtain ⟨P1, U1, V1, S1, hrow, hT, hu, hv, hpm⟩ := hR.out
    have hrl : (P1 ++ U1 ++ V1 ++ S1).length = N := by rw [← HLn.out, ← hT]; simp; omega
    have wx : IntKind.i64.wrap ((m : Int) - x) = (m : Int) - x := by rw [IntKind.wrap_i64]; omega
    have ex : ((m : Int) - x) = ((m - x : Nat) : Int) := by omega
    have hp1 : P1.length = m - x := by omega
    rcases Nat.lt_trichotomy x y with hxy | hxy | hxy
    · -- the last of V before U
      have hV : V1.take (y - x) ++ V1.drop (y - x) = V1 := List.take_append_drop _ _
      have hl1 : (V1.take (y - x)).length = y - x := by simp; omega
      have hl2 : (V1.drop (y - x)).length = x := by simp; omega
      have cs := swapRangeU_any H lo cp g (P1 ++ U1 ++ V1 ++ S1) N cap (m - x) (m + y - x) x f (by omega) (by omega) (by omega) (by omega) wr hrow
      have hsw : swapL (m - x) (m + y - x) (P1 ++ U1 ++ V1 ++ S1) x = P1 ++ V1.drop (y - x) ++ V1.take (y - x) ++ U1 ++ S1 := by
        have := swapL_all P1 U1 (V1.take (y - x)) (V1.drop (y - x)) S1 (by omega)
        rw [hl1, hu, hp1] at this
        rw [← this]
        congr 1
        · omega
        · rw [show P1 ++ U1 ++ V1.take (y - x) ++ V1.drop (y - x) ++ S1 = P1 ++ U1 ++ (V1.take (y - x) ++ V1.drop (y - x)) ++ S1 by simp, hV]
      rw [hsw] at cs
      have hT2 : P1 ++ V1.take (y - x) ++ V1.drop (y - x) ++ (U1 ++ S1) = T := by
        rw [← hT, show P1 ++ V1.take (y - x) ++ V1.drop (y - x) ++ (U1 ++ S1) = P1 ++ (V1.take (y - x) ++ V1.drop (y - x)) ++ U1 ++ S1 by simp, hV]
      have HT2 := Lib.hid hT2
      have HL := Lib.hid (show (V1.drop (y - x)).length = x ∧ (V1.take (y - x)).length = y - x ∧ P1.length + (V1.drop (y - x)).length = m from ⟨hl2, hl1, by omega⟩)
      have d1 : ((x : Int) != (y : Int)) = true := by simp; omega
      have d2 : ¬ (y : Int) < (x : Int) := by omega
      have wy : IntKind.i64.wrap ((m : Int) + y) = (m : Int) + y := by rw [IntKind.wrap_i64]; omega
      have wy2 : IntKind.i64.wrap ((m : Int) + y - x) = (m : Int) + y - x := by rw [IntKind.wrap_i64]; omega
      have wy3 : IntKind.i64.wrap ((y : Int) - x) = (y : Int) - x := by rw [IntKind.wrap_i64]; omega
      rw [show ((m - x : Nat) : Int) = (m : Int) - x by omega, show ((m + y - x : Nat) : Int) = (m : Int) + y - x by omega] at cs
      generalize V1.drop (y - x) = Vd at *
      generalize V1.take (y - x) = Vt at *
      clear hR hrow hT hV hsw hT2 hl1 hl2 hrl hpm hp1 hu hv ex
      go_wp2_with (go_at_call 115; ((with_reducible refine cs.mono ?_); rintro e w4 ⟨⟨v, rfl⟩, hR4, hG4⟩; have H4 := Lib.hid hR4; clear hR4))
      go_roundw
      case rel => exact ⟨_, x, y - x, rfl, by omega, by omega, by omega, by omega, rfl, by congr 1; omega, hG.trans hG4, Lib.hid ⟨P1, Vd, Vt, U1 ++ S1, by have h := H4.out; simpa using h, HT2.out, HL.out⟩⟩
      case measure => simp [intOf]; omega
    · subst hxy
      have cs := swapRangeU_any H lo cp g (P1 ++ U1 ++ V1 ++ S1) N cap (m - x) m x f (by omega) (by omega) (by omega) (by omega) wr hrow
      have hsw : swapL (m - x) m (P1 ++ U1 ++ V1 ++ S1) x = P1 ++ V1 ++ U1 ++ S1 := by
        have := swapL_all P1 U1 [] V1 S1 (by omega)
        simp only [List.append_nil, List.length_nil, Nat.add_zero] at this
        rw [hu, hp1, show m - x + x = m by omega] at this
        exact this
      rw [hsw, hT] at cs
      have d1 : ((x : Int) != (x : Int)) = false := by simp
      rw [show ((m - x : Nat) : Int) = (m : Int) - x by omega] at cs
      clear hR hrow hT hsw hrl hpm hp1 hu hv ex
      go_wp2_with (go_at_call 115; ((with_reducible refine cs.mono ?_); rintro e w4 ⟨⟨v, rfl⟩, hR4, hG4⟩; have H4 := Lib.hid hR4; clear hR4))
      go_end0
      exact ⟨⟨_, rfl⟩, H4.out, hG.trans hG4⟩
    · -- the first of U behind V
      have hU : U1.take y ++ U1.drop y = U1 := List.take_append_drop _ _
      have hl1 : (U1.take y).length = y := by simp; omega
      have hl2 : (U1.drop y).length = x - y := by simp; omega
      have cs := swapRangeU_any H lo cp g (P1 ++ U1 ++ V1 ++ S1) N cap (m - x) m y f (by omega) (by omega) (by omega) (by omega) wr hrow
      have hsw : swapL (m - x) m (P1 ++ U1 ++ V1 ++ S1) y = P1 ++ V1 ++ U1.drop y ++ U1.take y ++ S1 := by
        have := swapL_all P1 (U1.take y) (U1.drop y) V1 S1 (by omega)
        rw [hl1, hl2, hp1, show m - x + y + (x - y) = m by omega] at this
        rw [← this, show P1 ++ U1.take y ++ U1.drop y ++ V1 ++ S1 = P1 ++ (U1.take y ++ U1.drop y) ++ V1 ++ S1 by simp, hU]
      rw [hsw] at cs
      have HT2 := Lib.hid (show P1 ++ V1 ++ U1.take y ++ U1.drop y ++ S1 = T from by
        rw [← hT, show P1 ++ V1 ++ U1.take y ++ U1.drop y ++ S1 = P1 ++ V1 ++ (U1.take y ++ U1.drop y) ++ S1 by simp, hU])
      have HL := Lib.hid (show (U1.drop y).length = x - y ∧ (U1.take y).length = y ∧ (P1 ++ V1).length + (U1.drop y).length = m from ⟨hl2, hl1, by simp; omega⟩)
      have d1 : ((x : Int) != (y : Int)) = true := by simp; omega
      have d2 : (y : Int) < (x : Int) := by omega
      have wy3 : IntKind.i64.wrap ((x : Int) - y) = (x : Int) - y := by rw [IntKind.wrap_i64]; omega
      rw [show ((m - x : Nat) : Int) = (m : Int) - x by omega] at cs
      generalize U1.drop y = Ud at *
      generalize U1.take y = Ut at *
      clear hR hrow hT hU hsw hl1 hl2 hrl hpm hp1 hu hv ex
      go_wp2_with (go_at_call 115; ((with_reducible refine cs.mono ?_); rintro e w4 ⟨⟨v, rfl⟩, hR4, hG4⟩; have H4 := Lib.hid hR4; clear hR4))
      go_roundw
      case rel => exact ⟨_, x - y, y, rfl, by omega, by omega, by omega, by omega, by congr 1; omega, rfl, hG.trans hG4, Lib.hid ⟨P1 ++ V1, Ud, Ut, S1, by have h := H4.out; simpa using h, HT2.out, HL.out⟩⟩
      case measure => simp [intOf]; omega
end Go.Proofs.Yteidknjhponpkaa.U
