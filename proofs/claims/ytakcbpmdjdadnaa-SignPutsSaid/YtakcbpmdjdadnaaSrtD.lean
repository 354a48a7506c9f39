/-
  What is proved: a sort put into a list, by package sorts and by the document's answer; the sizes that the laws speak of; the chapter's examples.
-/
import Derived.Test.YtakcbpmdjdadnaaSrtC
namespace Go.Proofs.Ytakcbpmdjdadnaa.Srt
open Go.RowKit L
set_option linter.unusedVariables false
set_option linter.unusedSimpArgs false

def putE (X : List ByteArray) (s : ByteArray) : Int := if validS s = false then 10 else if hasS X s = true then 4 else if 64 ≤ X.length then 2 else 0
def putX (X : List ByteArray) (s : ByteArray) : List ByteArray := if putE X s = 0 then X ++ [s] else []
def PutPost (X : List ByteArray) (s : ByteArray) (w : World) (e : Ending) (w' : World) : Prop :=
  ∃ v, e = .returned (.tuple #[v, .int .i64 (putE X s)]) ∧ OwnS w' w.heap.size v (putX X s) ∧ Below w.heap.size w w'
theorem known_has {X : List ByteArray} {s : ByteArray} (hv : validS s = true) : decide (0 ≤ placeI X s) = hasS X s := by
  obtain ⟨h1, h2⟩ := valid_not hv
  rw [Bool.eq_iff_iff, decide_eq_true_eq]
  unfold placeI idxI
  rw [if_neg h1, if_neg h2]
  have hi : idxN X s < X.length ↔ hasS X s = true := by
    unfold idxN hasS
    rw [List.findIdx_lt_length, List.any_eq_true]
  rw [← hi]
  by_cases h : idxN X s < X.length
  · rw [if_pos h, if_pos (by omega)]; exact ⟨fun _ => h, fun _ => by omega⟩
  · rw [if_neg h, if_neg (by omega)]; exact ⟨fun h2 => by omega, fun h2 => absurd h2 h⟩
theorem put_err {X : List ByteArray} {s : ByteArray} {w w' : World} {E : Int} (hE : putE X s = E) (h0 : E ≠ 0) (hb : Below w.heap.size w w') : PutPost X s w (.returned (.tuple #[.slice none 0 0, .int .i64 E])) w' := by
  refine ⟨_, by rw [hE], ?_, hb⟩
  unfold putX
  rw [if_neg (by omega)]
  exact OwnS.nil _ _
theorem put_ok {X : List ByteArray} {s : ByteArray} {w w1 w' : World} {v : Value} {b : Nat} (hE : putE X s = 0) (ho : OwnS w' b v (X ++ [s])) (hb0 : w.heap.size ≤ b) (hb : Below w.heap.size w w') : PutPost X s w (.returned (.tuple #[v, .int .i64 0])) w' := by
  refine ⟨_, by rw [hE], ?_, hb⟩
  unfold putX
  rw [if_pos hE]
  exact ho.base hb0
theorem one_new (w : World) (s : ByteArray) : OwnS (w.alloc (.cells #[.string s] 9)) w.heap.size (.slice (some ⟨w.heap.size, 0, none⟩) 1 1) [s] := OwnS.made w [s] w.heap.size (Nat.le_refl _) (by unfold maxLen; simp)
theorem slS_one (w : World) (s : ByteArray) : SlS (w.alloc (.cells #[.string s] 9)) (some ⟨w.heap.size, 0, none⟩) 1 1 [s] := by
  obtain ⟨A, c, hv, h⟩ := (one_new w s).slS
  injection hv with h1 h2 h3
  subst h1 h3
  exact h
theorem concat_one (a : Option Addr) (n c : Nat) (X : List ByteArray) (s : ByteArray) (w : World) (hX : SlS w a n c X) (hn : n ≤ 100000000) :
    Calls Try.prog 59 #[.slice (some ⟨w.heap.size + 1, 0, none⟩) 2 2] ((w.alloc (.cells #[.string s] 9)).alloc (.cells #[.slice a n c, .slice (some ⟨w.heap.size, 0, none⟩) 1 1] 22)) fun e w' => ∃ v, e = .returned v ∧ OwnS w' w.heap.size v (X ++ [s]) ∧ Below w.heap.size w w' := by
  have hb1 : Below w.heap.size w (w.alloc (.cells #[.string s] 9)) := bel_alloc (Below.refl _ _) _
  have hs := slS_one w s
  obtain ⟨w1, h1⟩ : ∃ w1, w.alloc (.cells #[.string s] 9) = w1 := ⟨_, rfl⟩
  have hsz : w1.heap.size = w.heap.size + 1 := by rw [← h1]; simp
  rw [h1] at hb1 hs ⊢
  have hb2 : Below w1.heap.size w1 (w1.alloc (.cells #[.slice a n c, .slice (some ⟨w.heap.size, 0, none⟩) 1 1] 22)) := bel_alloc (Below.refl _ _) _
  have ht : Two (w1.alloc (.cells #[.slice a n c, .slice (some ⟨w.heap.size, 0, none⟩) 1 1] 22)) w1.heap.size (.slice a n c) (.slice (some ⟨w.heap.size, 0, none⟩) 1 1) := by
    constructor <;> (rw [World.cell?_alloc_at _ _ _ _ rfl]; rfl)
  rw [← hsz]
  refine (Concat_two w1.heap.size a (some ⟨w.heap.size, 0, none⟩) n 1 c 1 X [s] _ (by simp) ht ((hX.below hb1).below hb2) (hs.below hb2) hn (by omega) (by omega)).mono fun e w' ⟨v, he, ho, hb⟩ => ?_
  exact ⟨v, he, ho.base (by simp; omega), bel_trans (bel_trans hb1 hb2) hb⟩

set_option maxHeartbeats 2000000 in
theorem Put_any (a : Option Addr) (n c : Nat) (X : List ByteArray) (s : ByteArray) (w : World) (hX : SlS w a n c X) (hn : n ≤ 100000000) (hs : s.size ≤ 9223372036854775000) :
    Calls Try.prog 41 #[.slice a n c, .string s] w (PutPost X s w) := by
  have c1 := fun (w : World) => valid_any s w hs
  have c2 : ∀ w', Below w.heap.size w w' → Calls Try.prog 34 #[.slice a n c, .string s] w' fun e w1 => e = .returned (.bool (decide (0 ≤ placeI X s))) ∧ Below w'.heap.size w' w1 := fun w' h => Known_any a n c X s w' (hX.below h).1 (by omega)
  have c3 : ∀ w', Below w.heap.size w w' → _ := fun w' h => concat_one a n c X s w' (hX.below h) hn
  have hE : putE X s = if validS s = false then 10 else if hasS X s = true then 4 else if 64 ≤ n then 2 else 0 := by unfold putE; rw [← hX.1.1]
  have hk := @known_has X s
  clear hX
  cases hv : validS s with
  | false =>
    rw [hv] at c1 hE
    rw [if_pos rfl] at hE
    have HE := Lib.hid hE
    clear hE hk c2 c3
    go_enter Try.func41, Try.ntmps41
    go_wp2_with (go_at_call 51; ((with_reducible refine (c1 _).mono ?_); rintro e w1 ⟨rfl, hb1⟩))
    go_ret2
    exact put_err HE.out (by decide) hb1
  | true =>
    rw [hv] at c1 hE
    rw [if_neg (by simp)] at hE
    rw [hk hv] at c2
    clear hk
    cases hh : hasS X s with
    | true =>
      rw [hh] at c2 hE
      rw [if_pos rfl] at hE
      have HE := Lib.hid hE
      clear hE c3
      go_enter Try.func41, Try.ntmps41
      go_wp2_with (first
        | (go_at_call 51; ((with_reducible refine (c1 _).mono ?_); rintro e w1 ⟨rfl, hb1⟩))
        | (go_at_call 34; ((with_reducible refine (c2 _ hb1).mono ?_); rintro e w2 ⟨rfl, hb2⟩)))
      go_ret2
      exact put_err HE.out (by decide) (bel_trans hb1 hb2)
    | false =>
      rw [hh] at c2 hE
      rw [if_neg (by simp)] at hE
      by_cases h64 : 64 ≤ n
      · rw [if_pos h64] at hE
        have HE := Lib.hid hE
        have h65 : 64 ≤ (n : Int) := by omega
        clear hE c3
        go_enter Try.func41, Try.ntmps41
        go_wp2_with (first
          | (go_at_call 51; ((with_reducible refine (c1 _).mono ?_); rintro e w1 ⟨rfl, hb1⟩))
          | (go_at_call 34; ((with_reducible refine (c2 _ hb1).mono ?_); rintro e w2 ⟨rfl, hb2⟩)))
        go_ret2
        exact put_err HE.out (by decide) (bel_trans hb1 hb2)
      · rw [if_neg h64] at hE
        have HE := Lib.hid hE
        have h65 : ¬ 64 ≤ (n : Int) := by omega
        clear hE
        go_enter Try.func41, Try.ntmps41
        go_wp2_with (first
          | (go_at_call 51; ((with_reducible refine (c1 _).mono ?_); rintro e w1 ⟨rfl, hb1⟩))
          | (go_at_call 34; ((with_reducible refine (c2 _ hb1).mono ?_); rintro e w2 ⟨rfl, hb2⟩; have hb12 := bel_trans hb1 hb2))
          | (go_at_call 59; ((with_reducible refine (c3 _ hb12).mono ?_); rintro e w3 ⟨v, rfl, ho, hb3⟩)))
        go_ret2
        exact put_ok (w1 := w) HE.out ho hb12.size (bel_trans hb12 hb3)

set_option maxHeartbeats 2000000 in
theorem refPut_any (a : Option Addr) (n c : Nat) (X : List ByteArray) (s : ByteArray) (w : World) (hX : SlS w a n c X) (hn : n ≤ 100000000) (hs : s.size ≤ 9223372036854775000) :
    Calls Try.prog 43 #[.slice a n c, .string s] w (PutPost X s w) := by
  have c1 := fun (w : World) => refName_any s w hs
  have c2 : ∀ w', Below w.heap.size w w' → Calls Try.prog 27 #[.slice a n c, .string s] w' fun e w1 => e = .returned (.bool (hasS X s)) ∧ w' = w1 := fun w' h => Has_any a n c X s w' (hX.below h).1 (by omega)
  have hE : putE X s = if validS s = false then 10 else if hasS X s = true then 4 else if 64 ≤ n then 2 else 0 := by unfold putE; rw [← hX.1.1]
  cases hv : validS s with
  | false =>
    rw [hv] at c1 hE
    rw [if_pos rfl] at hE
    have HE := Lib.hid hE
    clear hE c2 hX
    go_enter Try.func43, Try.ntmps43
    go_wp2_with (go_at_call 54; ((with_reducible refine (c1 _).mono ?_); rintro e w1 ⟨rfl, hb1⟩))
    go_ret2
    exact put_err HE.out (by decide) hb1
  | true =>
    rw [hv] at c1 hE
    rw [if_neg (by simp)] at hE
    cases hh : hasS X s with
    | true =>
      rw [hh] at c2 hE
      rw [if_pos rfl] at hE
      have HE := Lib.hid hE
      clear hE hX
      go_enter Try.func43, Try.ntmps43
      go_wp2_with (first
        | (go_at_call 54; ((with_reducible refine (c1 _).mono ?_); rintro e w1 ⟨rfl, hb1⟩))
        | (go_at_call 27; ((with_reducible refine (c2 _ hb1).mono ?_); rintro e w' ⟨rfl, rfl⟩)))
      go_ret2
      exact put_err HE.out (by decide) hb1
    | false =>
      rw [hh] at c2 hE
      rw [if_neg (by simp)] at hE
      by_cases h64 : 64 ≤ n
      · rw [if_pos h64] at hE
        have HE := Lib.hid hE
        have h65 : 64 ≤ (n : Int) := by omega
        clear hE hX
        go_enter Try.func43, Try.ntmps43
        go_wp2_with (first
          | (go_at_call 54; ((with_reducible refine (c1 _).mono ?_); rintro e w1 ⟨rfl, hb1⟩))
          | (go_at_call 27; ((with_reducible refine (c2 _ hb1).mono ?_); rintro e w' ⟨rfl, rfl⟩)))
        go_ret2
        exact put_err HE.out (by decide) hb1
      · rw [if_neg h64] at hE
        have HE := Lib.hid hE
        have h65 : ¬ 64 ≤ (n : Int) := by omega
        have hl0 : ([] : List ByteArray).length + n ≤ 1000000000 := by simp; omega
        have hl1 : ([] ++ X).length + 1 ≤ 1000000000 := by have := hX.1.1; simp; omega
        clear hE
        go_enter Try.func43, Try.ntmps43
        go_wp2_with (first
          | (go_at_call 54; ((with_reducible refine (c1 _).mono ?_); rintro e w1 ⟨rfl, hb1⟩; have hX1 := hX.below hb1; have hs1 := hb1.size))
          | (go_at_call 27; ((with_reducible refine (c2 _ hb1).mono ?_); rintro e w' ⟨rfl, rfl⟩))
          | (at_builtin; ((refine app_strs rfl (.tmp 16) (.tmp 17) rfl w.heap.size _ [] rfl (OwnS.nil _ _) _ _ _ X rfl hX1 hl0 hs1 ?_); intro v2 w2 ho2 hg2; have hb2 := hb1.grown hg2 hs1 (fun k hk => ((OwnS.nil w1 w.heap.size).lt k hk).1); have hb3 := bel_alloc hb2 (.cells #[.string s] 9); have ho3 := World.ownsRow.alloc ho2 (.cells #[.string s] 9); have hn3 := slS_one w2 s; have hs3 := hb3.size))
          | (at_builtin; ((refine app_strs rfl (.tmp 19) (.tmp 21) rfl w.heap.size v2 ([] ++ X) rfl ho3 _ _ _ [s] rfl hn3 hl1 hs3 ?_); intro v4 w4 ho4 hg4)))
        go_ret2
        exact put_ok (w1 := w) HE.out ho4 (Nat.le_refl _) (hb3.grown hg4 hs3 (fun k hk => (World.ownsRow.lt ho3 k hk).1))
end Go.Proofs.Ytakcbpmdjdadnaa.Srt
