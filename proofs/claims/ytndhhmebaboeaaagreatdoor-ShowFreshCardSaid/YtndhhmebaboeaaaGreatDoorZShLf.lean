/-
  What is proved: Fresh's answer is the document's, is not taken, and is the base where that is not taken.
-/
import Derived.Test.YtndhhmebaboeaaaGreatDoorZShAl
import Derived.Test.YtndhhmebaboeaaaGreatDoorZLibV
namespace Go.Proofs.YtndhhmebaboeaaaGreatDoor.Sh
open Go.RowKit L T C
set_option linter.unusedVariables false
set_option linter.unusedSimpArgs false
set_option maxRecDepth 100000

theorem frB_free (X : List ByteArray) (b : ByteArray) : hasS X (frB X b) = false := (frN_first X b).1
theorem frB_self {X : List ByteArray} {b : ByteArray} (h : hasS X b = false) : frB X b = b := by
  unfold frB; rw [frN_is (n := 0) ⟨h, fun m hm => by omega⟩, ixN_zero]
set_option maxHeartbeats 8000000 in
theorem showFresh (b : ByteArray) (a : Option Addr) (n c : Nat) (X : List ByteArray) (W : World) (hb : b.size ≤ 9223372036854775807) (hn : n ≤ 9223372036854775807) (hX : SlS W a n c X ∧ sizedS X) (E : Env W) :
    Calls Tryz.prog 7 #[.string b, .slice a n c] W fun e w' => e = .returned (.bool true) ∧ Below W.heap.size W w' := by
  obtain ⟨hS, hz⟩ := hX
  have cA := fun (w' : World) (h : Below W.heap.size W w') => alive_any E w' h
  have HA := Lib.hid cA
  have HI := Lib.hid hS
  clear cA
  by_cases hb1 : b.size ≤ 100
  · have hd1 : decide ((b.size : Int) > 100) = false := decide_eq_false (by omega)
    by_cases hn1 : n ≤ 60
    · have hd2 : decide ((n : Int) > 60) = false := decide_eq_false (by omega)
      have hzs : ∀ (i : Nat) (h : i < X.length), X[i].size ≤ 9223372036854775807 := fun i h => by have := hz _ (List.getElem_mem h); unfold maxLen at this; omega
      have cF := Fresh_any E b (by omega) X (fun x hx => hz x hx) a n c W (Below.refl _ _) hS.1 (by omega)
      have cG := fun (w' : World) (h : Below W.heap.size W w') => RFresh_any b (by omega) X a n c w' (hS.1.below h) (by omega)
      have cH1 := fun (w' : World) (h : Below W.heap.size W w') => Has_any a n c X (frB X b) w' (hS.1.below h) (by omega)
      have cH2 := fun (w' : World) (h : Below W.heap.size W w') => Has_any a n c X b w' (hS.1.below h) (by omega)
      rw [frB_free] at cH1
      have hself : hasS X b = false → frB X b = b := frB_self
      have hN : n = X.length := hS.1.1
      have hrow : ∀ i, i < n → ∃ bb o s, a = some ⟨bb, o, none⟩ ∧ W.cell? ⟨bb, o + i, none⟩ = some (.string s) ∧ s.size ≤ 9223372036854775807 := fun i hi => by
        obtain ⟨bb, o, h1, h2, h3⟩ := hS.1.2 (by omega)
        exact ⟨bb, o, X[i]'(by omega), h1, h3 i (by omega), hzs i (by omega)⟩
      have HR := Lib.hid hrow
      have HG := Lib.hid cG
      have H1 := Lib.hid cH1
      have H2 := Lib.hid cH2
      have HF := Lib.hid cF
      clear hrow cG cH1 cH2 cF hzs hz hS hN HI
      generalize hasS X b = T at *
      generalize frB X b = R at *
      clear E
      go_enter Tryz.func7, Tryz.ntmps7
      go_wp2
      go_loopw [19] (fun i wr0 => ∃ (k : Nat), wr0 = W ∧ k ≤ n ∧ i = .int .i64 k) (fun i _ => n - (intOf i).toNat)
      case atStart => exact ⟨0, rfl, by omega, rfl⟩
      case round =>
        obtain ⟨k, rfl, hk, rfl⟩ := hrel
        by_cases hlt : k < n
        · obtain ⟨bb, o, s, rfl, y0, hs⟩ := HR.out k hlt
          have hk0 : 0 ≤ (k : Int) := by omega
          have hk1 : (k : Int) < (n : Int) := by omega
          clear HR HG H1 H2 HF hself
          by_cases hs1 : s.size ≤ 100
          · have hd3 : decide ((s.size : Int) > 100) = false := decide_eq_false (by omega)
            go_wp2
            go_roundw
            case rel => exact ⟨k + 1, (by first | rfl | trivial), by omega, by go_num⟩
            case measure => simp [intOf]; omega
          · have hd3 : decide ((s.size : Int) > 100) = true := decide_eq_true (by omega)
            have ca := HA.out _ (Below.refl _ _)
            go_wp2_with (go_at_call 12; ((with_reducible refine ca.mono ?_); rintro e w4 ⟨rfl, hb4⟩))
            go_ret
            exact ⟨rfl, hb4⟩
        · have cF := HF.out
          clear HR HF
          cases hT : T with
          | true =>
            rw [hT] at H2
            clear hself hT
            go_wp2_with (first
              | (go_at_call 24; ((with_reducible refine cF.mono ?_); rintro e w3 ⟨rfl, hb3⟩; have cg := HG.out w3 hb3))
              | (go_at_call 25; ((with_reducible refine cg.mono ?_); rintro e w4 ⟨rfl, hb4⟩; have h34 := bel_trans hb3 hb4; have ch := H1.out w4 h34))
              | (go_at_call 26; ((with_reducible refine ch.mono ?_); rintro e w5 ⟨rfl, rfl⟩; clear ch; have ci := H2.out w4 h34))
              | (go_at_call 26; ((with_reducible refine ci.mono ?_); rintro e w6 ⟨rfl, rfl⟩; have ca := HA.out w4 h34))
              | (go_at_call 12; ((with_reducible refine ca.mono ?_); rintro e w7 ⟨rfl, hb7⟩)))
            go_ret
            exact ⟨rfl, bel_trans h34 hb7⟩
          | false =>
            obtain rfl := hself hT
            rw [hT] at H2
            clear hself hT
            go_wp2_with (first
              | (go_at_call 24; ((with_reducible refine cF.mono ?_); rintro e w3 ⟨rfl, hb3⟩; have cg := HG.out w3 hb3))
              | (go_at_call 25; ((with_reducible refine cg.mono ?_); rintro e w4 ⟨rfl, hb4⟩; have h34 := bel_trans hb3 hb4; have ch := H1.out w4 h34))
              | (go_at_call 26; ((with_reducible refine ch.mono ?_); rintro e w5 ⟨rfl, rfl⟩; clear ch; have ci := H2.out w4 h34))
              | (go_at_call 26; ((with_reducible refine ci.mono ?_); rintro e w6 ⟨rfl, rfl⟩; have ca := HA.out w4 h34))
              | (go_at_call 12; ((with_reducible refine ca.mono ?_); rintro e w7 ⟨rfl, hb7⟩)))
            go_ret
            exact ⟨rfl, bel_trans h34 hb7⟩
    · have hd2 : decide ((n : Int) > 60) = true := decide_eq_true (by omega)
      have ca := HA.out _ (Below.refl _ _)
      clear hz hS HI E
      go_enter Tryz.func7, Tryz.ntmps7
      go_wp2_with (go_at_call 12; ((with_reducible refine ca.mono ?_); rintro e w4 ⟨rfl, hb4⟩))
      go_ret
      exact ⟨rfl, hb4⟩
  · have hd1 : decide ((b.size : Int) > 100) = true := decide_eq_true (by omega)
    have ca := HA.out _ (Below.refl _ _)
    clear hz hS HI E
    go_enter Tryz.func7, Tryz.ntmps7
    go_wp2_with (go_at_call 12; ((with_reducible refine ca.mono ?_); rintro e w4 ⟨rfl, hb4⟩))
    go_ret
    exact ⟨rfl, hb4⟩
end Go.Proofs.YtndhhmebaboeaaaGreatDoor.Sh
