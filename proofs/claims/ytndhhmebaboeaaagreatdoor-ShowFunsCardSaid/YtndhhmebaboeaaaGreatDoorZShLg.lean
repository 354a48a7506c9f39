/-
  What is proved: the text of a function is the document's, whatever the input.
-/
import Derived.Test.YtndhhmebaboeaaaGreatDoorZShFu
namespace Go.Proofs.YtndhhmebaboeaaaGreatDoor.Sh
open Go.RowKit L T C
set_option linter.unusedVariables false
set_option linter.unusedSimpArgs false
set_option maxRecDepth 100000

theorem tot_le : ∀ (X : List ByteArray), (∀ i (h : i < X.length), X[i].size ≤ 100) → tot X ≤ 100 * X.length
  | [], _ => by rw [tot]; omega
  | x :: X, h => by
    have h0 := h 0 (by simp)
    simp only [List.getElem_cons_zero] at h0
    have := tot_le X fun i hi => by have := h (i + 1) (by simpa using hi); simpa using this
    rw [tot, List.length_cons]; omega
set_option maxHeartbeats 16000000 in
theorem showFuns (f : Fv) (W : World) (hf : f.ok W) (E : Env W) :
    Calls Tryz.prog 6 #[f.val] W fun e w' => e = .returned (.bool true) ∧ Below W.heap.size W w' := by
  obtain ⟨s, a, n, c, X, r⟩ := f
  obtain ⟨hS, hs, hr, hz, hn⟩ := hf
  dsimp only at hS hs hr hz hn
  unfold Fv.val
  dsimp only
  obtain ⟨W2, hW2, hB2, hs2, S2⟩ := fbox W s a n c r
  have cA := fun (w' : World) (h : Below W2.heap.size W2 w') => alive_any E w' ((hB2.trans (h.mono hB2.size)))
  have hS2 := hS.below hB2
  have hXl : n = X.length := hS.1.1
  have c0 := Blk.cell S2 0
  have c1 := Blk.cell S2 1
  have c2 := Blk.cell S2 2
  simp only [List.getElem?_toArray, List.getElem?_cons_zero, List.getElem?_cons_succ] at c0 c1 c2
  have HS := Lib.hid (show ∀ w', Below W2.heap.size W2 w' → (w'.cell? ⟨W.heap.size, 0, none⟩ = some (.string s) ∧ w'.cell? ⟨W.heap.size, 1, none⟩ = some (.slice a n c) ∧ w'.cell? ⟨W.heap.size, 2, none⟩ = some (.string r)) from fun w' h =>
    ⟨(h.cell (p := ⟨W.heap.size, 0, none⟩) (Blk.lt S2)).trans c0, (h.cell (p := ⟨W.heap.size, 1, none⟩) (Blk.lt S2)).trans c1, (h.cell (p := ⟨W.heap.size, 2, none⟩) (Blk.lt S2)).trans c2⟩)
  have HA := Lib.hid cA
  have ca := cA W2 (Below.refl _ _)
  clear cA
  by_cases hg1 : n ≤ 20
  · have hd1 : decide ((n : Int) > 20) = false := decide_eq_false (by omega)
    by_cases hg2 : s.size ≤ 100
    · have hd2 : decide ((s.size : Int) > 100) = false := decide_eq_false (by omega)
      by_cases hg3 : r.size ≤ 100
      · have hd3 : decide ((r.size : Int) > 100) = false := decide_eq_false (by omega)
        have hrow : ∀ i, i < n → ∃ bb o x, a = some ⟨bb, o, none⟩ ∧ W2.cell? ⟨bb, o + i, none⟩ = some (.string x) ∧ x.size ≤ 9223372036854775807 ∧ X[i]? = some x := fun i hi => by
          obtain ⟨bb, o, h1, h2, h3⟩ := hS2.1.2 (by omega)
          have hil : i < X.length := by omega
          exact ⟨bb, o, X[i], h1, h3 i hil, hz _ (List.getElem_mem hil), List.getElem?_eq_getElem hil⟩
        have cEnd : (∀ j x, j < n → X[j]? = some x → x.size ≤ 100) → ∀ (w' : World), Below W2.heap.size W2 w' →
            Calls Tryz.prog 22 #[.agg #[.string s, .slice a n c, .string r]] w' (fun e w2 => e = .returned (.string (funT s X r)) ∧ Below w'.heap.size w' w2) ∧ Calls Tryz.prog 23 #[.agg #[.string s, .slice a n c, .string r]] w' (fun e w2 => e = .returned (.string (funT s X r)) ∧ Below w'.heap.size w' w2) := fun h w' hb => by
          have h1 := tot_le X fun i hi => h i _ (by omega) (List.getElem?_eq_getElem hi)
          exact ⟨Fun_any s a n c X r w' (hS2.below hb) hg2 hg3 hg1 (by omega), RFun_any s a n c X r w' (hS2.below hb) hg2 hg3 hg1 (by omega)⟩
        generalize funT s X r = R at *
        have HR := Lib.hid hrow
        have HE := Lib.hid cEnd
        clear hrow cEnd hS hS2 hz hXl S2 E hg1 hg2 hg3 ca
        go_enter Tryz.func6, Tryz.ntmps6
        go_wp2
        go_loopw [25] (fun i wr0 => ∃ (wr : World) (k : Nat), wr = wr0 ∧ wr = W2 ∧ k ≤ n ∧ i = .int .i64 k ∧ Hid (∀ j x, j < k → X[j]? = some x → x.size ≤ 100)) (fun i _ => n - (intOf i).toNat)
        case atStart => exact ⟨_, 0, rfl, rfl, by omega, rfl, Lib.hid fun j x h => by omega⟩
        case round =>
          obtain ⟨wr, k, rfl, rfl, hk, rfl, hall⟩ := hrel
          by_cases hlt : k < n
          · obtain ⟨bb, o, x, rfl, y0, hx, hXk⟩ := HR.out k hlt
            have hk0 : 0 ≤ (k : Int) := by omega
            have hk1 : (k : Int) < (n : Int) := by omega
            clear HR HE
            by_cases hs1 : x.size ≤ 100
            · have hd4 : decide ((x.size : Int) > 100) = false := decide_eq_false (by omega)
              have hall2 := Lib.hid (show ∀ j y, j < k + 1 → X[j]? = some y → y.size ≤ 100 from fun j y hj hy => by
                by_cases e : j = k
                · subst e; rw [hXk] at hy; injection hy with hy; rw [← hy]; exact hs1
                · exact hall.out j y (by omega) hy)
              clear hXk hall hs1
              go_wp2
              go_roundw
              case rel => exact ⟨_, k + 1, rfl, rfl, by omega, by go_num, hall2⟩
              case measure => simp [intOf]; omega
            · have hd4 : decide ((x.size : Int) > 100) = true := decide_eq_true (by omega)
              have ca := HA.out _ (Below.refl _ _)
              clear hXk hall hs1
              go_wp2_with (go_at_call 12; ((with_reducible refine ca.mono ?_); rintro e w4 ⟨rfl, hb4⟩))
              go_ret
              exact ⟨rfl, bel_trans hB2 hb4⟩
          · obtain rfl : k = n := by omega
            have HT := Lib.hid (HE.out hall.out)
            clear HE HR hall
            have B5d : Below wr.heap.size wr wr.drew := (Below.refl _ _).drew
            go_wp2
            go_region_held3 (fun w' => w'.cell? ⟨W.heap.size, 0, none⟩ = some (.string s) ∧ w'.cell? ⟨W.heap.size, 1, none⟩ = some (.slice a k c) ∧ w'.cell? ⟨W.heap.size, 2, none⟩ = some (.string r))
              (first | exact HS.out _ B5d | exact HS.out _ BT | exact HS.out _ BX | exact HS.out _ BTX | exact HS.out _ BA | go_keep)
              (first
                | (go_at_call 22; ((with_reducible refine (HT.out _ B5d).1.mono ?_); rintro e w6 ⟨rfl, hb6⟩; have BT := bel_trans B5d hb6))
                | (go_at_call 23; ((with_reducible refine (HT.out _ BT).2.mono ?_); rintro e w7 ⟨rfl, hb7⟩; have BTX := bel_trans BT hb7))
                | (go_at_call 23; ((with_reducible refine (HT.out _ B5d).2.mono ?_); rintro e w8 ⟨rfl, hb8⟩; have BX := bel_trans B5d hb8))
                | (go_at_call 22; ((with_reducible refine (HT.out _ BX).1.mono ?_); rintro e w9 ⟨rfl, hb9⟩; have BTX := bel_trans BX hb9))
                | (go_at_call 12; ((with_reducible refine (HA.out _ BTX).mono ?_); rintro e w10 ⟨rfl, hb10⟩; have BA := bel_trans BTX hb10)))
            all_goals go_wp2
            all_goals go_ret
            all_goals exact ⟨rfl, bel_trans hB2 BA⟩
      · have hd3 : decide ((r.size : Int) > 100) = true := decide_eq_true (by omega)
        clear hS hS2 hz hXl S2 E
        go_enter Tryz.func6, Tryz.ntmps6
        go_wp2_with (go_at_call 12; ((with_reducible refine ca.mono ?_); rintro e w4 ⟨rfl, hb4⟩))
        go_ret
        exact ⟨rfl, bel_trans hB2 hb4⟩
    · have hd2 : decide ((s.size : Int) > 100) = true := decide_eq_true (by omega)
      clear hS hS2 hz hXl S2 E
      go_enter Tryz.func6, Tryz.ntmps6
      go_wp2_with (go_at_call 12; ((with_reducible refine ca.mono ?_); rintro e w4 ⟨rfl, hb4⟩))
      go_ret
      exact ⟨rfl, bel_trans hB2 hb4⟩
  · have hd1 : decide ((n : Int) > 20) = true := decide_eq_true (by omega)
    clear hS hS2 hz hXl S2 E
    go_enter Tryz.func6, Tryz.ntmps6
    go_wp2_with (go_at_call 12; ((with_reducible refine ca.mono ?_); rintro e w4 ⟨rfl, hb4⟩))
    go_ret
    exact ⟨rfl, bel_trans hB2 hb4⟩
end Go.Proofs.YtndhhmebaboeaaaGreatDoor.Sh
