/-
  What is proved: the laws on places, and on what is put in, walked.
-/
import Derived.Test.YtfamlimnanehnaaSrtP
namespace Go.Proofs.Ytfamlimnanehnaa.Srt
open Go.RowKit L
set_option linter.unusedVariables false
set_option linter.unusedSimpArgs false

def AllSl (Z : List ByteArray) (N : Nat) (w : World) (e : Ending) (w' : World) : Prop := ∃ A d, e = .returned (.slice A N d) ∧ SlS w' A N d Z ∧ Below w.heap.size w w'
theorem allSl {Z : List ByteArray} {w : World} {e : Ending} {w' : World} (h : ∃ v, e = .returned v ∧ OwnS w' w.heap.size v Z ∧ Below w.heap.size w w') : AllSl Z Z.length w e w' := by
  obtain ⟨v, he, ho, hb⟩ := h
  obtain ⟨A, c, rfl, hS⟩ := ho.slS
  exact ⟨A, c, he, hS, hb⟩

set_option maxHeartbeats 4000000 in
theorem places_walk (a : Option Addr) (n c : Nat) (X : List ByteArray) (s : ByteArray) (w : World) (hn : n ≤ 9223372036854775807) (h : SlS w a n c X ∧ sizedS X) (hs : s.size ≤ 9223372036854775807) :
    Calls Try.prog 5 #[.slice a n c, .string s] w fun e w' => e = .returned (.bool true) ∧ Below w.heap.size w w' := by
  obtain ⟨hX, hz⟩ := h
  have ca := fun (w : World) => alive_any w
  have cf := few_any a n c X w hX.1 hn hz
  cases hf : fewB X with
  | false =>
    rw [hf] at cf
    clear hX hz
    go_enter Try.func5, Try.ntmps5
    go_wp2_with (first
      | (go_at_call 8; ((with_reducible refine cf.mono ?_); rintro e w' ⟨rfl, rfl⟩))
      | (go_at_call 9; ((with_reducible refine (ca _).mono ?_); rintro e w3 ⟨rfl, hb3⟩)))
    go_ret
    exact ⟨rfl, hb3⟩
  | true =>
    rw [hf] at cf
    obtain ⟨h200, hok⟩ := few_okZ hf
    have hn2 : n ≤ 200 := by rw [hX.1.1]; exact h200
    by_cases hs2 : s.size ≤ 200
    · have hs3 : ¬ 200 < (s.size : Int) := by omega
      have c1 : ∀ w', Below w.heap.size w w' → Calls Try.prog 15 #[.slice a n c] w' (AllSl (BI ++ X) (BI ++ X).length w') := fun w' h => (All_any a n c X w' (hX.below h) (by omega)).mono fun _ _ => allSl
      have c2 : ∀ w', Below w.heap.size w w' → Calls Try.prog 16 #[.slice a n c] w' (AllSl (BI ++ X) (BI ++ X).length w') := fun w' h => (refAll_any a n c X w' (hX.below h) (by omega)).mono fun _ _ => allSl
      have c3 := fun (w' : World) (h : Below w.heap.size w w') => Place_any a n c X s w' (hX.below h).1 (by omega)
      have c4 := fun (w' : World) (h : Below w.heap.size w w') => refPlace_any a n c X s w' (hX.below h) (by omega)
      have c5 := fun (w' : World) (h : Below w.heap.size w w') => Known_any a n c X s w' (hX.below h).1 (by omega)
      have cs := strings_same
      have hN : (BI ++ X).length ≤ 1000000000 := by have := hX.1.1; simp [BI]; omega
      have hb0 := Below.refl w.heap.size w
      clear hz hok h200 hf hX
      generalize placeI X s = V at *
      generalize BI ++ X = Z at *
      generalize Z.length = N at *
      go_enter Try.func5, Try.ntmps5
      go_wp2_with (first
        | (go_at_call 8; ((with_reducible refine cf.mono ?_); rintro e w' ⟨rfl, rfl⟩))
        | (go_at_call 15; ((with_reducible refine (c1 _ hb0).mono ?_); rintro e w1 ⟨A1, d1, rfl, hS1, hb1⟩))
        | (go_at_call 16; ((with_reducible refine (c2 _ hb1).mono ?_); rintro e w2 ⟨A2, d2, rfl, hS2, hb2⟩; have hb12 := bel_trans hb1 hb2; have hT := hS1.below hb2))
        | (go_at_call 14; ((with_reducible refine (cs _ _ _ _ _ _ _ hT hS2 hN).mono ?_); rintro e w3 ⟨rfl, hb3⟩; have hb13 := bel_trans hb12 hb3))
        | (go_at_call 17; ((with_reducible refine (c3 _ hb13).mono ?_); rintro e w4 ⟨rfl, hb4⟩; have hb14 := bel_trans hb13 hb4))
        | (go_at_call 18; ((with_reducible refine (c4 _ hb14).mono ?_); rintro e w5 ⟨rfl, hb5⟩; have hb15 := bel_trans hb14 hb5; replace hb14 := True.intro))
        | (go_at_call 19; ((with_reducible refine (c5 _ hb15).mono ?_); rintro e w6 ⟨rfl, hb6⟩; have hb16 := bel_trans hb15 hb6))
        | (go_at_call 18; ((with_reducible refine (c4 _ hb16).mono ?_); rintro e w7 ⟨rfl, hb7⟩; have hb17 := bel_trans hb16 hb7))
        | (go_at_call 9; ((with_reducible refine (ca _).mono ?_); rintro e w8 ⟨rfl, hb8⟩)))
      go_ret
      exact ⟨rfl, bel_trans hb17 hb8⟩
    · have hs3 : 200 < (s.size : Int) := by omega
      clear hX hz
      go_enter Try.func5, Try.ntmps5
      go_wp2_with (first
        | (go_at_call 8; ((with_reducible refine cf.mono ?_); rintro e w' ⟨rfl, rfl⟩))
        | (go_at_call 9; ((with_reducible refine (ca _).mono ?_); rintro e w3 ⟨rfl, hb3⟩)))
      go_ret
      exact ⟨rfl, hb3⟩

/-- all sorts of a list into which s was put: the last one is s -/
def AllAt (s : ByteArray) (N M : Nat) (w : World) (e : Ending) (w' : World) : Prop := ∃ b o d, e = .returned (.slice (some ⟨b, o, none⟩) M d) ∧ b < w'.heap.size ∧ w'.cell? ⟨b, o + N, none⟩ = some (.string s) ∧ Below w.heap.size w w'
theorem allAt {X : List ByteArray} {s : ByteArray} {w : World} {e : Ending} {w' : World} (h : AllSl (BI ++ (X ++ [s])) (BI ++ (X ++ [s])).length w e w') : AllAt s (X.length + 2) (X.length + 3) w e w' := by
  obtain ⟨A, d, he, hS, hb⟩ := h
  have hl : (BI ++ (X ++ [s])).length = X.length + 3 := by simp [BI]
  rw [hl] at hS he
  obtain ⟨b, o, x, rfl, hlt, hc, hx, _⟩ := hS.1.at (k := X.length + 2) (by omega)
  have e1 : (BI ++ (X ++ [s]))[X.length + 2]? = some s := by
    rw [List.getElem?_append_right (by simp [BI]), show X.length + 2 - BI.length = X.length by simp [BI]]
    simp
  rw [e1] at hx
  injection hx with hx
  subst hx
  exact ⟨b, o, d, he, hlt, hc, hb⟩

set_option maxHeartbeats 4000000 in
theorem keeps_walk (a : Option Addr) (n c : Nat) (X : List ByteArray) (s : ByteArray) (w : World) (hn : n ≤ 9223372036854775807) (h : SlS w a n c X ∧ sizedS X) (hs : s.size ≤ 9223372036854775807) :
    Calls Try.prog 6 #[.slice a n c, .string s] w fun e w' => e = .returned (.bool true) ∧ Below w.heap.size w w' := by
  obtain ⟨hX, hz⟩ := h
  have ca := fun (w : World) => alive_any w
  have cf := few_any a n c X w hX.1 hn hz
  cases hf : fewB X with
  | false =>
    rw [hf] at cf
    clear hX hz
    go_enter Try.func6, Try.ntmps6
    go_wp2_with (first
      | (go_at_call 8; ((with_reducible refine cf.mono ?_); rintro e w' ⟨rfl, rfl⟩))
      | (go_at_call 9; ((with_reducible refine (ca _).mono ?_); rintro e w3 ⟨rfl, hb3⟩)))
    go_ret
    exact ⟨rfl, hb3⟩
  | true =>
    rw [hf] at cf
    obtain ⟨h200, hok⟩ := few_okZ hf
    have hn2 : n ≤ 200 := by rw [hX.1.1]; exact h200
    by_cases hs2 : s.size ≤ 200
    · have hs3 : ¬ 200 < (s.size : Int) := by omega
      have hb0 := Below.refl w.heap.size w
      have c1 := Right_any a n c X w hX.1 hok (by omega)
      by_cases hR : rightV X = 0
      · rw [hR] at c1
        have c2 : ∀ w', Below w.heap.size w w' → Calls Try.prog 12 #[.slice a n c, .string s] w' (PutSl (putE X s) (putX X s) (putX X s).length w') := fun w' h => (Put_any a n c X s w' (hX.below h) (by omega) (by omega)).mono fun _ _ => putSl
        by_cases hE : putE X s = 0
        · obtain ⟨hv, hh, h64⟩ := put_ok' hE
          have hZ : putX X s = X ++ [s] := by unfold putX; rw [if_pos hE]
          have hlen : X.length = n := hX.1.1.symm
          have hZl : (X ++ [s]).length = n + 1 := by simp [hlen]
          rw [hE, hZ, hZl] at c2
          have hR2 := right_put hR hE
          have hP := place_put hE
          have hK : decide (0 ≤ placeI X s) = false := by rw [known_has hv]; exact hh
          have hK2 : decide (0 ≤ placeI (X ++ [s]) s) = true := by rw [hP]; exact decide_eq_true (by omega)
          rw [hlen] at hP
          have hok2 : okZ (X ++ [s]) := fun x hx => by
            rcases List.mem_append.1 hx with h | h
            · exact hok x h
            · rw [List.mem_singleton.1 h]; omega
          have c3 : ∀ (A : Option Addr) (d : Nat) (w' : World), SlS w' A (n + 1) d (X ++ [s]) → Calls Try.prog 15 #[.slice A (n + 1) d] w' (AllAt s (n + 2) (n + 3) w') := fun A d w' h => by
            rw [← hlen] at h ⊢
            exact (All_any A _ d (X ++ [s]) w' h (by omega)).mono fun _ _ h => allAt (allSl h)
          have c4 : ∀ (A : Option Addr) (d : Nat) (w' : World), SlS w' A (n + 1) d (X ++ [s]) → Calls Try.prog 10 #[.slice A (n + 1) d] w' fun e w1 => e = .returned (.int .i64 0) ∧ Below w'.heap.size w' w1 := fun A d w' h => by
            have := Right_any A (n + 1) d (X ++ [s]) w' h.1 hok2 (by omega)
            rw [hR2] at this; exact this
          have c5 : ∀ (A : Option Addr) (d : Nat) (w' : World), SlS w' A (n + 1) d (X ++ [s]) → Calls Try.prog 19 #[.slice A (n + 1) d, .string s] w' fun e w1 => e = .returned (.bool true) ∧ Below w'.heap.size w' w1 := fun A d w' h => by
            have := Known_any A (n + 1) d (X ++ [s]) s w' h.1 (by omega)
            rw [hK2] at this; exact this
          have c6 : ∀ (A : Option Addr) (d : Nat) (w' : World), SlS w' A (n + 1) d (X ++ [s]) → Calls Try.prog 17 #[.slice A (n + 1) d, .string s] w' fun e w1 => e = .returned (.int .i64 (2 + (n : Int))) ∧ Below w'.heap.size w' w1 := fun A d w' h => by
            have := Place_any A (n + 1) d (X ++ [s]) s w' h.1 (by omega)
            rw [hP] at this; exact this
          have c7 : ∀ w', Below w.heap.size w w' → Calls Try.prog 19 #[.slice a n c, .string s] w' fun e w1 => e = .returned (.bool false) ∧ Below w'.heap.size w' w1 := fun w' h => by
            have := Known_any a n c X s w' (hX.below h).1 (by omega)
            rw [hK] at this; exact this
          have m1 : (2 + (n : Int) == (n : Int) + 2) = true := beq_yes' (by omega)
          have m2 : ((n : Int) + 3 == (n : Int) + 1 + 2) = true := beq_yes' (by omega)
          have m3 : (n : Int) + 3 - 1 = (n : Int) + 2 := by omega
          have m4 : ((n : Int) + 2).toNat = n + 2 := by omega
          generalize X ++ [s] = Z at *
          clear hz hok h200 hf hX hR hE hv hh h64 hZ hlen hZl hR2 hP hK hK2 hok2
          go_enter Try.func6, Try.ntmps6
          go_wp2_with (first
            | (go_at_call 8; ((with_reducible refine cf.mono ?_); rintro e w' ⟨rfl, rfl⟩))
            | (go_at_call 10; ((with_reducible refine c1.mono ?_); rintro e w1 ⟨rfl, hb1⟩))
            | (go_at_call 12; ((with_reducible refine (c2 _ hb1).mono ?_); rintro e w2 ⟨A, d, rfl, hS2, hb2⟩; have hb12 := bel_trans hb1 hb2))
            | (go_at_call 15; ((with_reducible refine (c3 _ _ _ hS2).mono ?_); rintro e w3 ⟨b, o, d3, rfl, hlt, hc, hb3⟩; have hb13 := bel_trans hb12 hb3; have hS3 := hS2.below hb3))
            | (go_at_call 10; ((with_reducible refine (c4 _ _ _ hS3).mono ?_); rintro e w4 ⟨rfl, hb4⟩; have hb14 := bel_trans hb13 hb4; have hS4 := hS3.below hb4))
            | (go_at_call 19; ((with_reducible refine (c7 _ hb14).mono ?_); rintro e w5 ⟨rfl, hb5⟩; have hb15 := bel_trans hb14 hb5; have hS5 := hS4.below hb5))
            | (go_at_call 19; ((with_reducible refine (c5 _ _ _ hS5).mono ?_); rintro e w6 ⟨rfl, hb6⟩; have hb16 := bel_trans hb15 hb6; have hS6 := hS5.below hb6))
            | (go_at_call 17; ((with_reducible refine (c6 _ _ _ hS6).mono ?_); rintro e w7 ⟨rfl, hb7⟩; have hb17 := bel_trans hb16 hb7; have hb37 := bel_trans (bel_trans (bel_trans hb4 hb5) hb6) hb7; have hcell : w7.cell? ⟨b, o + (n + 2), none⟩ = some (.string s) := (hb37.cell (p := ⟨b, o + (n + 2), none⟩) hlt).trans hc))
            | (go_at_call 9; ((with_reducible refine (ca _).mono ?_); rintro e w8 ⟨rfl, hb8⟩)))
          go_ret
          exact ⟨rfl, bel_trans hb17 hb8⟩
        · have hZ : putX X s = [] := by unfold putX; rw [if_neg hE]
          rw [hZ] at c2
          have hE1 : (putE X s != 0) = true := by simp [hE]
          have hE2 : (putE X s == 0) = false := by simp [hE]
          generalize putE X s = E at *
          clear hz hok h200 hf hX hR hE hZ
          go_enter Try.func6, Try.ntmps6
          go_wp2_with (first
            | (go_at_call 8; ((with_reducible refine cf.mono ?_); rintro e w' ⟨rfl, rfl⟩))
            | (go_at_call 10; ((with_reducible refine c1.mono ?_); rintro e w1 ⟨rfl, hb1⟩))
            | (go_at_call 12; ((with_reducible refine (c2 _ hb1).mono ?_); rintro e w2 ⟨A, d, rfl, hS2, hb2⟩; have hb12 := bel_trans hb1 hb2))
            | (go_at_call 9; ((with_reducible refine (ca _).mono ?_); rintro e w8 ⟨rfl, hb8⟩)))
          go_ret
          exact ⟨rfl, bel_trans hb12 hb8⟩
      · have hR1 : (rightV X != 0) = true := by simp [hR]
        generalize rightV X = R at *
        clear hz hok h200 hf hX
        go_enter Try.func6, Try.ntmps6
        go_wp2_with (first
          | (go_at_call 8; ((with_reducible refine cf.mono ?_); rintro e w' ⟨rfl, rfl⟩))
          | (go_at_call 10; ((with_reducible refine c1.mono ?_); rintro e w1 ⟨rfl, hb1⟩))
          | (go_at_call 9; ((with_reducible refine (ca _).mono ?_); rintro e w8 ⟨rfl, hb8⟩)))
        go_ret
        exact ⟨rfl, bel_trans hb1 hb8⟩
    · have hs3 : 200 < (s.size : Int) := by omega
      clear hX hz
      go_enter Try.func6, Try.ntmps6
      go_wp2_with (first
        | (go_at_call 8; ((with_reducible refine cf.mono ?_); rintro e w' ⟨rfl, rfl⟩))
        | (go_at_call 9; ((with_reducible refine (ca _).mono ?_); rintro e w3 ⟨rfl, hb3⟩)))
      go_ret
      exact ⟨rfl, hb3⟩
end Go.Proofs.Ytfamlimnanehnaa.Srt
