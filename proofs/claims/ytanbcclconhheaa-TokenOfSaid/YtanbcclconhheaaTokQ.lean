/-
  What is proved: the laws on words and signs, on the tokens of a text, and on the text of tokens, walked.
-/
import Derived.Test.YtanbcclconhheaaTokP
import Derived.Test.YtanbcclconhheaaTokN
namespace Go.Proofs.Ytanbcclconhheaa.Tok
open Go.RowKit
set_option linter.unusedVariables false
set_option linter.unusedSimpArgs false

set_option maxHeartbeats 2000000 in
theorem words_walk (s : ByteArray) (w : World) (hs : s.size ≤ 9223372036854775807) :
    Calls Try.prog 4 #[.string s] w fun e w' => e = .returned (.bool true) ∧ Below w.heap.size w w' := by
  have ca := alive_any
  by_cases h : s.size ≤ 300
  · have c1 := fun (w : World) => Name_any s w hs
    have c2 := fun (w : World) => refName_any s w hs
    have c3 := fun (w : World) => Word_any s w (by omega)
    have c4 := fun (w : World) => refWord_any s w
    have c5 := fun (w : World) => Signs_any w
    have c6 := fun (w : World) => refSigns_any w
    have c7 : ∀ W : World, Calls Try.prog 17 #[.slice (some ⟨W.heap.size, 0, none⟩) 27 27, .slice (some ⟨W.heap.size + 1, 0, none⟩) 27 27] ((W.alloc (.cells SGc 9)).alloc (.cells SGc 9)) fun e w' => e = .returned (.bool true) ∧ Below W.heap.size W w' := fun W => by
      have h1 : SAt ((W.alloc (.cells SGc 9)).alloc (.cells SGc 9)) W.heap.size SGb := (SGc_at (heap_alloc_new W _)).below (bel_alloc (Below.refl _ _) _)
      have h2 : SAt ((W.alloc (.cells SGc 9)).alloc (.cells SGc 9)) (W.heap.size + 1) SGb := by
        have := SGc_at (heap_alloc_new (W.alloc (.cells SGc 9)) (.cells SGc 9))
        have e : (W.alloc (.cells SGc 9)).heap.size = W.heap.size + 1 := by simp
        rw [e] at this; exact this
      exact (Strings_gen _ _ SGb _ (by decide) h1 h2).mono fun e w' ⟨he, hb⟩ => ⟨he, bel_trans (bel_alloc (bel_alloc (Below.refl _ _) _) _) hb⟩
    have hwn := @word_name s.data.toList
    generalize nameB s.data.toList = N at *
    generalize wordB s.data.toList = B at *
    generalize SGc = C at *
    cases B with
    | true =>
      obtain rfl := hwn rfl
      clear hwn
      go_enter Try.func4, Try.ntmps4
      go_wp2_with (first
        | (go_at_call 9; ((with_reducible refine (ca _).mono ?_); rintro e w1 ⟨rfl, hb1⟩))
        | (go_at_call 13; ((with_reducible refine (c1 _).mono ?_); rintro e w' ⟨rfl, rfl⟩))
        | (go_at_call 14; ((with_reducible refine (c2 _).mono ?_); rintro e w' ⟨rfl, rfl⟩))
        | (go_at_call 15; ((with_reducible refine (c3 _).mono ?_); rintro e w2 ⟨rfl, hb2⟩; replace hb1 := bel_trans hb1 hb2))
        | (go_at_call 16; ((with_reducible refine (c4 _).mono ?_); rintro e w3 ⟨rfl, hb3⟩; replace hb1 := bel_trans hb1 hb3))
        | (go_at_call 18; ((with_reducible refine (c5 _).mono ?_); rintro e w' ⟨rfl, rfl⟩))
        | (go_at_call 19; ((with_reducible refine (c6 _).mono ?_); rintro e w' ⟨rfl, rfl⟩))
        | (go_at_call 17; ((with_reducible refine (c7 _).mono ?_); rintro e w7 ⟨rfl, hb7⟩)))
      go_ret
      exact ⟨rfl, bel_trans hb1 hb7⟩
    | false =>
      clear hwn
      generalize hN : N = N' at *
      go_enter Try.func4, Try.ntmps4
      go_wp2_with (first
        | (go_at_call 9; ((with_reducible refine (ca _).mono ?_); rintro e w1 ⟨rfl, hb1⟩))
        | (go_at_call 13; ((with_reducible refine (c1 _).mono ?_); rintro e w' ⟨rfl, rfl⟩))
        | (go_at_call 14; ((with_reducible refine (c2 _).mono ?_); rintro e w' ⟨rfl, rfl⟩))
        | (go_at_call 15; ((with_reducible refine (c3 _).mono ?_); rintro e w2 ⟨rfl, hb2⟩; replace hb1 := bel_trans hb1 hb2))
        | (go_at_call 16; ((with_reducible refine (c4 _).mono ?_); rintro e w3 ⟨rfl, hb3⟩; replace hb1 := bel_trans hb1 hb3))
        | (go_at_call 18; ((with_reducible refine (c5 _).mono ?_); rintro e w' ⟨rfl, rfl⟩))
        | (go_at_call 19; ((with_reducible refine (c6 _).mono ?_); rintro e w' ⟨rfl, rfl⟩))
        | (go_at_call 17; ((with_reducible refine (c7 _).mono ?_); rintro e w7 ⟨rfl, hb7⟩)))
      go_ret
      exact ⟨rfl, bel_trans hb1 hb7⟩
  · have h1 : ¬ (s.size : Int) ≤ 300 := by omega
    go_enter Try.func4, Try.ntmps4
    go_wp2_with (go_at_call 9; ((with_reducible refine (ca _).mono ?_); rintro e w1 ⟨rfl, hb1⟩))
    go_ret
    exact ⟨rfl, hb1⟩

set_option maxHeartbeats 2000000 in
theorem of_walk (s : ByteArray) (w : World) (hs : s.size ≤ 9223372036854775807) :
    Calls Try.prog 3 #[.string s] w fun e w' => e = .returned (.bool true) ∧ Below w.heap.size w w' := by
  have ca := alive_any
  by_cases h : s.size ≤ 600
  · have c1 : ∀ w : World, Calls Try.prog 10 #[.string s] w fun e w' => ∃ A c, e = .returned (.tuple #[.slice A (ofS s.data.toList).T.length c, .int .i64 ((ofS s.data.toList).A : Nat), .int .i64 (ofS s.data.toList).E]) ∧ IsY w' A (ofS s.data.toList).T.length (tokY (ofS s.data.toList).T) ∧ Below w.heap.size w w' := fun w => by
      refine (Of_any s w (by omega)).mono fun e w' ⟨v, he, ho, hb⟩ => ?_
      obtain ⟨A, c, rfl, hY⟩ := own_isY ho
      exact ⟨A, c, he, hY, hb⟩
    have c2 : ∀ w : World, Calls Try.prog 11 #[.string s] w fun e w' => ∃ A c, e = .returned (.tuple #[.slice A (ofS s.data.toList).T.length c, .int .i64 ((ofS s.data.toList).A : Nat), .int .i64 (ofS s.data.toList).E]) ∧ IsY w' A (ofS s.data.toList).T.length (tokY (ofS s.data.toList).T) ∧ Below w.heap.size w w' := fun w => by
      refine (refOf_any s w (by omega)).mono fun e w' ⟨v, he, ho, hb⟩ => ?_
      obtain ⟨A, c, rfl, hY⟩ := own_isY ho
      exact ⟨A, c, he, hY, hb⟩
    have c3 := fun (a a' : Option Addr) (n c c' : Nat) Y (w : World) => Tokens_any a a' n c c' Y w
    have hlen : (ofS s.data.toList).T.length ≤ 100000000 := by have := ofS_len s.data.toList; rw [len_list] at this; omega
    generalize (ofS s.data.toList).T.length = n at *
    generalize tokY (ofS s.data.toList).T = Y at *
    generalize (ofS s.data.toList).A = a at *
    generalize (ofS s.data.toList).E = x at *
    go_enter Try.func3, Try.ntmps3
    go_wp2_with (first
      | (go_at_call 9; ((with_reducible refine (ca _).mono ?_); rintro e w1 ⟨rfl, hb1⟩))
      | (go_at_call 10; ((with_reducible refine (c1 _).mono ?_); rintro e w2 ⟨A1, k1, rfl, hY1, hb2⟩))
      | (go_at_call 11; ((with_reducible refine (c2 _).mono ?_); rintro e w3 ⟨A2, k2, rfl, hY2, hb3⟩; have hY3 := hY1.below hb3))
      | (go_at_call 12; ((with_reducible refine (c3 _ _ _ _ _ _ _ hY3 hY2 hlen).mono ?_); rintro e w4 ⟨rfl, hb4⟩)))
    go_ret
    exact ⟨rfl, bel_trans (bel_trans (bel_trans hb1 hb2) hb3) hb4⟩
  · have h1 : ¬ (s.size : Int) ≤ 600 := by omega
    go_enter Try.func3, Try.ntmps3
    go_wp2_with (go_at_call 9; ((with_reducible refine (ca _).mono ?_); rintro e w1 ⟨rfl, hb1⟩))
    go_ret
    exact ⟨rfl, hb1⟩

theorem jn_len {Y : List (Int × ByteArray × Int)} (h : ∀ i (h : i < Y.length), Y[i].2.1.size ≤ 100) : (jn Y).length ≤ 101 * Y.length := by
  have key : ∀ Y : List (Int × ByteArray × Int), (∀ i (h : i < Y.length), Y[i].2.1.size ≤ 100) → (Lib.joinTail [32] (tls Y)).length ≤ 101 * Y.length := by
    intro Y
    induction Y with
    | nil => intro _; exact Nat.le_refl _
    | cons y Y ih =>
      intro h
      have h0 := h 0 (by simp)
      have h1 := ih (fun i hi => by have := h (i + 1) (by simp; omega); simpa using this)
      have e : Lib.joinTail [32] (tls (y :: Y)) = 32 :: (y.2.1.data.toList ++ Lib.joinTail [32] (tls Y)) := by simp [Lib.joinTail, tls]
      rw [e, List.length_cons, List.length_append, len_list, List.length_cons]
      simp only [List.getElem_cons_zero] at h0
      omega
  cases Y with
  | nil => exact Nat.zero_le _
  | cons y Y =>
    have h1 := key _ h
    have e : Lib.joinTail [32] (tls (y :: Y)) = 32 :: jn (y :: Y) := by simp [jn, tls, Lib.join_cons, Lib.joinTail]
    rw [e, List.length_cons] at h1
    omega

set_option maxHeartbeats 2000000 in
theorem texts_some (b o c : Nat) (Y : List (Int × ByteArray × Int)) (w : World) (hn : Y.length ≤ 9223372036854775807) (hb : b < w.heap.size) (hr : RowY w b o Y) :
    Calls Try.prog 5 #[.slice (some ⟨b, o, none⟩) Y.length c] w fun e w' => e = .returned (.bool true) ∧ Below w.heap.size w w' := by
  have ca := alive_any
  by_cases h : Y.length ≤ 60
  · have c1 : ∀ w' : World, Below w.heap.size w w' → (∀ i (h : i < Y.length), Y[i].2.1.size ≤ 100) → Calls Try.prog 20 #[.slice (some ⟨b, o, none⟩) Y.length c] w' fun e w'' => e = .returned (.string (BA (jn Y))) ∧ Below w'.heap.size w' w'' := fun w' hB hs =>
      Text_some b o c Y w' (by omega) (hr.below hB hb) (Nat.lt_of_lt_of_le hb hB.size) (by have := jn_len hs; omega)
    have c2 : ∀ w' : World, Below w.heap.size w w' → (∀ i (h : i < Y.length), Y[i].2.1.size ≤ 100) → Calls Try.prog 21 #[.slice (some ⟨b, o, none⟩) Y.length c] w' fun e w'' => e = .returned (.string (BA (jn Y))) ∧ Below w'.heap.size w' w'' := fun w' hB hs =>
      refText_some b o c Y w' (by omega) (hr.below hB hb) (Nat.lt_of_lt_of_le hb hB.size) (by have := jn_len hs; omega)
    have Hr := Lib.hid hr
    clear hr
    generalize jn Y = J at *
    go_enter Try.func5, Try.ntmps5
    go_wp2_with (go_at_call 9; ((with_reducible refine (ca _).mono ?_); rintro e w1 ⟨rfl, hb1⟩))
    go_loopw [12] (fun i wr0 => ∃ (wr : World) (k : Nat), wr = wr0 ∧ k ≤ Y.length ∧ i = .int .i64 k ∧ Below w.heap.size w wr ∧ Hid (∀ j (h : j < Y.length), j < k → Y[j].2.1.size ≤ 100)) (fun i _ => Y.length - (intOf i).toNat)
    case atStart => exact ⟨_, 0, rfl, by omega, rfl, hb1, Lib.hid (fun j _ h => absurd h (by omega))⟩
    case round =>
      obtain ⟨wr, k, rfl, hk, rfl, hB, hs⟩ := hrel
      by_cases hlt : k < Y.length
      · obtain ⟨y1, y2, y3⟩ := Hr.out.below hB hb k hlt
        by_cases h100 : Y[k].2.1.size ≤ 100
        · have hnew : Hid (∀ j (h : j < Y.length), j < k + 1 → Y[j].2.1.size ≤ 100) := by
            intro j hj hjk
            by_cases e : j = k
            · subst e; exact h100
            · exact hs.out j hj (by omega)
          clear hs
          go_wp2
          go_roundw
          case rel => exact ⟨_, k + 1, rfl, by omega, by go_num, bel_alloc hB _, hnew⟩
          case measure => simp [intOf]; omega
        · have h101 : ¬ (Y[k].2.1.size : Int) ≤ 100 := by omega
          clear hs
          go_wp2
          go_ret
          exact ⟨rfl, bel_alloc hB _⟩
      · have hs2 := fun j hj => hs.out j hj (by omega)
        have Hs2 := Lib.hid hs2
        clear hs2 hs
        go_wp2_with (first
          | (go_at_call 20; ((with_reducible refine (c1 _ hB Hs2.out).mono ?_); rintro e w2 ⟨rfl, hb2⟩; have hB2 := bel_trans hB hb2))
          | (go_at_call 21; ((with_reducible refine (c2 _ hB2 Hs2.out).mono ?_); rintro e w3 ⟨rfl, hb3⟩)))
        go_ret
        exact ⟨rfl, bel_trans hB2 hb3⟩
  · have h1 : ¬ (Y.length : Int) ≤ 60 := by omega
    go_enter Try.func5, Try.ntmps5
    go_wp2_with (go_at_call 9; ((with_reducible refine (ca _).mono ?_); rintro e w1 ⟨rfl, hb1⟩))
    go_ret
    exact ⟨rfl, hb1⟩
theorem texts_none (a : Option Addr) (c : Nat) (w : World) :
    Calls Try.prog 5 #[.slice a 0 c] w fun e w' => e = .returned (.bool true) ∧ Below w.heap.size w w' := by
  have ca := alive_any
  have c1 := fun (w : World) => Text_none a c w
  have c2 := fun (w : World) => refText_none a c w
  go_enter Try.func5, Try.ntmps5
  go_wp2_with (go_at_call 9; ((with_reducible refine (ca _).mono ?_); rintro e w1 ⟨rfl, hb1⟩))
  go_loop [12] (fun i => i = .int .i64 0) (fun i => 0)
  case atStart => rfl
  case round =>
    obtain rfl := hrel
    go_wp2_with (first
      | (go_at_call 20; ((with_reducible refine (c1 _).mono ?_); rintro e w2 ⟨rfl, hb2⟩))
      | (go_at_call 21; ((with_reducible refine (c2 _).mono ?_); rintro e w3 ⟨rfl, hb3⟩)))
    go_ret
    exact ⟨rfl, bel_trans (bel_trans hb1 hb2) hb3⟩
theorem texts_walk (a : Option Addr) (n c : Nat) (Y : List (Int × ByteArray × Int)) (w : World) (hn : n ≤ 9223372036854775807) (hY : IsY w a n Y) :
    Calls Try.prog 5 #[.slice a n c] w fun e w' => e = .returned (.bool true) ∧ Below w.heap.size w w' := by
  obtain ⟨rfl, h⟩ := hY
  by_cases h0 : Y = []
  · subst h0
    exact texts_none a c w
  · obtain ⟨b, o, rfl, hb, hr⟩ := h (List.length_pos_iff.2 h0)
    exact texts_some b o c Y w hn hb hr
end Go.Proofs.Ytanbcclconhheaa.Tok
