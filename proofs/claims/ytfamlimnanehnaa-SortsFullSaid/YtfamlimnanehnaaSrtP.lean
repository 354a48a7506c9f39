/-
  What is proved: the laws on the first error of a list, on a sort put into a list, on places, and on what is put in, walked.
-/
import Derived.Test.YtfamlimnanehnaaSrtE
import Derived.Test.YtfamlimnanehnaaLibV
namespace Go.Proofs.Ytfamlimnanehnaa.Srt
open Go.RowKit L
set_option linter.unusedVariables false
set_option linter.unusedSimpArgs false




set_option maxHeartbeats 2000000 in
theorem right_walk (a : Option Addr) (n c : Nat) (X : List ByteArray) (w : World) (hn : n ≤ 9223372036854775807) (h : SlS w a n c X ∧ sizedS X) :
    Calls Try.prog 3 #[.slice a n c] w fun e w' => e = .returned (.bool true) ∧ Below w.heap.size w w' := by
  obtain ⟨hX, hz⟩ := h
  have ca := fun (w : World) => alive_any w
  have cf := fun (w' : World) (h : Below w.heap.size w w') => few_any a n c X w' (hX.1.below h) hn hz
  cases hf : fewB X with
  | true =>
    obtain ⟨h200, hok⟩ := few_okZ hf
    have c1 := fun (w' : World) (h : Below w.heap.size w w') => Right_any a n c X w' (hX.1.below h) hok (by rw [hX.1.1]; omega)
    have c2 := fun (w' : World) (h : Below w.heap.size w w') => refRight_any a n c X w' (hX.below h) hok (by rw [hX.1.1]; omega)
    rw [hf] at cf
    have hb0 := Below.refl w.heap.size w
    clear hX hz hok
    generalize rightV X = R at *
    go_enter Try.func3, Try.ntmps3
    go_wp2_with (first
      | (go_at_call 8; ((with_reducible refine (cf _ hb0).mono ?_); rintro e w' ⟨rfl, rfl⟩))
      | (go_at_call 10; ((with_reducible refine (c1 _ hb0).mono ?_); rintro e w1 ⟨rfl, hb1⟩))
      | (go_at_call 11; ((with_reducible refine (c2 _ hb1).mono ?_); rintro e w2 ⟨rfl, hb2⟩))
      | (go_at_call 9; ((with_reducible refine (ca _).mono ?_); rintro e w3 ⟨rfl, hb3⟩)))
    go_ret
    exact ⟨rfl, bel_trans (bel_trans hb1 hb2) hb3⟩
  | false =>
    rw [hf] at cf
    have hb0 := Below.refl w.heap.size w
    clear hX hz
    go_enter Try.func3, Try.ntmps3
    go_wp2_with (first
      | (go_at_call 8; ((with_reducible refine (cf _ hb0).mono ?_); rintro e w' ⟨rfl, rfl⟩))
      | (go_at_call 9; ((with_reducible refine (ca _).mono ?_); rintro e w3 ⟨rfl, hb3⟩)))
    go_ret
    exact ⟨rfl, hb3⟩

theorem strings_same (A A' : Option Addr) (n c c' : Nat) (X : List ByteArray) (w : World) (h1 : SlS w A n c X) (h2 : SlS w A' n c' X) (hn : n ≤ 1000000000) :
    Calls Try.prog 14 #[.slice A n c, .slice A' n c'] w fun e w' => e = .returned (.bool true) ∧ Below w.heap.size w w' := by
  have := Strings_any A A' n n c c' X X w h1.1 h2.1 hn hn
  rw [eqL_refl] at this
  exact this

/-- what a sort put into a list returns, as a slice that can be read -/
def PutSl (E : Int) (Z : List ByteArray) (N : Nat) (w : World) (e : Ending) (w' : World) : Prop :=
  ∃ A c, e = .returned (.tuple #[.slice A N c, .int .i64 E]) ∧ SlS w' A N c Z ∧ Below w.heap.size w w'
theorem putSl {X : List ByteArray} {s : ByteArray} {w : World} {e : Ending} {w' : World} (h : PutPost X s w e w') : PutSl (putE X s) (putX X s) (putX X s).length w e w' := by
  obtain ⟨v, he, ho, hb⟩ := h
  obtain ⟨A, c, rfl, hS⟩ := ho.slS
  exact ⟨A, c, he, hS, hb⟩
theorem putX_len (X : List ByteArray) (s : ByteArray) : (putX X s).length ≤ X.length + 1 := by unfold putX; split <;> simp

set_option maxHeartbeats 4000000 in
theorem put_walk (a : Option Addr) (n c : Nat) (X : List ByteArray) (s : ByteArray) (w : World) (hn : n ≤ 9223372036854775807) (h : SlS w a n c X ∧ sizedS X) (hs : s.size ≤ 9223372036854775807) :
    Calls Try.prog 4 #[.slice a n c, .string s] w fun e w' => e = .returned (.bool true) ∧ Below w.heap.size w w' := by
  obtain ⟨hX, hz⟩ := h
  have ca := fun (w : World) => alive_any w
  have cf := few_any a n c X w hX.1 hn hz
  cases hf : fewB X with
  | false =>
    rw [hf] at cf
    clear hX hz
    go_enter Try.func4, Try.ntmps4
    go_wp2_with (first
      | (go_at_call 8; ((with_reducible refine cf.mono ?_); rintro e w' ⟨rfl, rfl⟩))
      | (go_at_call 9; ((with_reducible refine (ca _).mono ?_); rintro e w3 ⟨rfl, hb3⟩)))
    go_ret
    exact ⟨rfl, hb3⟩
  | true =>
    rw [hf] at cf
    obtain ⟨h200, hok⟩ := few_okZ hf
    have hn2 : n ≤ 200 := by rw [hX.1.1]; exact h200
    by_cases hs2 : s.size ≤ 200
    · have hs3 : ¬ 200 < (s.size : Int) := by omega
      have hX0 : SlS (w.alloc (.cells #[] 9)) a n c X := hX.below (bel_alloc (Below.refl _ _) _)
      have ho0 : OwnS (w.alloc (.cells #[] 9)) w.heap.size (.slice (some ⟨w.heap.size, 0, none⟩) 0 0) [] := OwnS.made w [] w.heap.size (Nat.le_refl _) (by unfold maxLen; simp)
      have hbA : Below w.heap.size w (w.alloc (.cells #[] 9)) := bel_alloc (Below.refl _ _) _
      have hsA := hbA.size
      have hl0 : ([] : List ByteArray).length + n ≤ 1000000000 := by simp; omega
      have e0 : ([] : List ByteArray) ++ X = X := rfl
      have c1 : ∀ w', Below w.heap.size w w' → Calls Try.prog 12 #[.slice a n c, .string s] w' (PutSl (putE X s) (putX X s) (putX X s).length w') := fun w' h => (Put_any a n c X s w' (hX.below h) (by omega) (by omega)).mono fun _ _ => putSl
      have c2 : ∀ w', Below w.heap.size w w' → Calls Try.prog 13 #[.slice a n c, .string s] w' (PutSl (putE X s) (putX X s) (putX X s).length w') := fun w' h => (refPut_any a n c X s w' (hX.below h) (by omega) (by omega)).mono fun _ _ => putSl
      have cs := strings_same
      have hN : (putX X s).length ≤ 1000000000 := by have := putX_len X s; omega
      have hn9 : n ≤ 1000000000 := by omega
      have hlen : X.length = n := hX.1.1.symm
      generalize putE X s = E at *
      generalize putX X s = Z at *
      generalize Z.length = N at *
      clear hz hok h200 hf
      go_enter Try.func4, Try.ntmps4
      go_wp2_with (first
        | (go_at_call 8; ((with_reducible refine cf.mono ?_); rintro e w' ⟨rfl, rfl⟩))
        | (at_builtin; ((refine app_strs rfl (.tmp 19) (.tmp 20) rfl w.heap.size _ [] rfl ho0 _ _ _ X rfl hX0 hl0 hsA ?_); intro v1 w1 ho1 hg1; rw [e0] at ho1; obtain ⟨A1, d1, rfl, hS1⟩ := ho1.slS; rw [hlen] at hS1; have hb1 := hbA.grown hg1 hsA (fun k hk => (ho0.lt k hk).1)))
        | (go_at_call 12; ((with_reducible refine (c1 _ hb1).mono ?_); rintro e w2 ⟨A2, d2, rfl, hS2, hb2⟩; have hb12 := bel_trans hb1 hb2))
        | (go_at_call 13; ((with_reducible refine (c2 _ hb12).mono ?_); rintro e w3 ⟨A3, d3, rfl, hS3, hb3⟩; have hb13 := bel_trans hb12 hb3; have hT := hS2.below hb3))
        | (go_at_call 14; ((with_reducible refine (cs _ _ _ _ _ _ _ hT hS3 hN).mono ?_); rintro e w4 ⟨rfl, hb4⟩; have hb14 := bel_trans hb13 hb4; have hU := hX.below hb14; have hV := ((hS1.below hb2).below hb3).below hb4))
        | (go_at_call 14; ((with_reducible refine (cs _ _ _ _ _ _ _ hU hV hn9).mono ?_); rintro e w5 ⟨rfl, hb5⟩))
        | (go_at_call 9; ((with_reducible refine (ca _).mono ?_); rintro e w6 ⟨rfl, hb6⟩)))
      go_ret
      exact ⟨rfl, bel_trans (bel_trans hb14 hb5) hb6⟩
    · have hs3 : 200 < (s.size : Int) := by omega
      clear hX hz
      go_enter Try.func4, Try.ntmps4
      go_wp2_with (first
        | (go_at_call 8; ((with_reducible refine cf.mono ?_); rintro e w' ⟨rfl, rfl⟩))
        | (go_at_call 9; ((with_reducible refine (ca _).mono ?_); rintro e w3 ⟨rfl, hb3⟩)))
      go_ret
      exact ⟨rfl, hb3⟩
end Go.Proofs.Ytfamlimnanehnaa.Srt
