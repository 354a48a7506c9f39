/-
  What is proved: the laws on the tokens of a text's tokens' text, on what lies between tokens, and on the limits, walked.
-/
import Derived.Test.YtanbcclconhheaaTokQ
namespace Go.Proofs.Ytanbcclconhheaa.Tok
open Go.RowKit
set_option linter.unusedVariables false
set_option linter.unusedSimpArgs false

theorem of_err {s : ByteArray} {a : Nat} {x : Int} (hs : s.size ≤ 9223372036854775000) (h : ofS s.data.toList = .err a x) (w : World) :
    Calls Try.prog 10 #[.string s] w fun e w' => ∃ A c, e = .returned (.tuple #[.slice A 0 c, .int .i64 a, .int .i64 x]) ∧ Below w.heap.size w w' := by
  have h1 := Of_any s w hs
  rw [h] at h1
  refine h1.mono fun e w' ⟨v, he, ho, hb⟩ => ?_
  obtain ⟨A, c, rfl, hY⟩ := own_isY ho
  exact ⟨A, c, he, hb⟩
theorem of_none {s : ByteArray} (hs : s.size ≤ 9223372036854775000) (h : ofS s.data.toList = .ok []) (w : World) :
    Calls Try.prog 10 #[.string s] w fun e w' => ∃ A c, e = .returned (.tuple #[.slice A 0 c, .int .i64 0, .int .i64 0]) ∧ Below w.heap.size w w' := by
  have h1 := Of_any s w hs
  rw [h] at h1
  refine h1.mono fun e w' ⟨v, he, ho, hb⟩ => ?_
  obtain ⟨A, c, rfl, hY⟩ := own_isY ho
  exact ⟨A, c, he, hb⟩
theorem of_some {s : ByteArray} {T : List Tok} (hs : s.size ≤ 9223372036854775000) (h : ofS s.data.toList = .ok T) (hT : T ≠ []) (w : World) :
    Calls Try.prog 10 #[.string s] w fun e w' => ∃ g c, e = .returned (.tuple #[.slice (some ⟨g, 0, none⟩) T.length c, .int .i64 0, .int .i64 0]) ∧ g < w'.heap.size ∧ RowY w' g 0 (tokY T) ∧ Below w.heap.size w w' := by
  have h1 := Of_any s w hs
  rw [h] at h1
  have hp : 0 < T.length := List.length_pos_iff.2 hT
  refine h1.mono fun e w' ⟨v, he, ho, hb⟩ => ?_
  obtain ⟨A, c, rfl, hY⟩ := own_isY ho
  obtain ⟨g, o, hA, hg, hr⟩ := hY.2 hp
  obtain ⟨g', cap, hv, _, _⟩ := World.ownsRow.form ho hp
  injection hv with hv1 hv2 hv3
  subst hv1
  injection hA with hA
  injection hA with hA1 hA2
  subst hA1 hA2
  exact ⟨_, _, he, hg, hr, hb⟩
theorem jn_tok (T : List Tok) : jn (tokY T) = jt T := by
  unfold jn jt tls tokY
  rw [List.map_map]; rfl

set_option maxHeartbeats 2000000 in
theorem again_walk (s : ByteArray) (w : World) (hs : s.size ≤ 9223372036854775807) :
    Calls Try.prog 6 #[.string s] w fun e w' => e = .returned (.bool true) ∧ Below w.heap.size w w' := by
  have ca := alive_any
  by_cases h : s.size ≤ 600
  · cases hO : ofS s.data.toList with
    | err a x =>
      have c1 := of_err (by omega) hO
      have hx := ofS_errE hO
      have hx1 : (x == 0) = false := beq_no' hx
      have hx2 : (x != 0) = true := by simp [hx]
      clear hO hx
      go_enter Try.func6, Try.ntmps6
      go_wp2_with (first
        | (go_at_call 9; ((with_reducible refine (ca _).mono ?_); rintro e w1 ⟨rfl, hb1⟩))
        | (go_at_call 10; ((with_reducible refine (c1 _).mono ?_); rintro e w2 ⟨A, c, rfl, hb2⟩)))
      go_ret
      exact ⟨rfl, bel_trans hb1 hb2⟩
    | ok T =>
      have hlen := toks_len (ofS_toks hO).2
      rw [List.length_drop, len_list] at hlen
      have hjl := jt_le (ofS_toks hO).2
      rw [List.length_drop, len_list] at hjl
      obtain ⟨T', hO', hkt⟩ := ofS_again hO (by rw [len_list]; omega)
      have hO' : ofS (BA (jt T)).data.toList = .ok T' := hO'
      have hjs : (BA (jt T)).size ≤ 9223372036854775000 := by rw [BA_size]; omega
      have hn : T'.length = T.length := by have := congrArg List.length hkt; simpa [kt] using this
      have hjt : jt T' = jt T := by
        have e : ∀ T : List Tok, T.map (·.t) = (kt T).map (·.2) := fun T => by simp [kt]
        unfold jt; rw [e, e, hkt]
      by_cases h0 : T = []
      · subst h0
        obtain rfl : T' = [] := List.eq_nil_of_length_eq_zero hn
        have c1 := of_none (by omega) hO
        have c2 := of_none (s := ⟨#[]⟩) (by decide) hO'
        have ct := fun (a : Option Addr) (c : Nat) (w : World) => Text_none a c w
        clear hO hO' hkt hjs hn hjt hjl hlen
        go_enter Try.func6, Try.ntmps6
        go_wp2_with (first
          | (go_at_call 9; ((with_reducible refine (ca _).mono ?_); rintro e w1 ⟨rfl, hb1⟩))
          | (go_at_call 10; ((with_reducible refine (c2 _).mono ?_); rintro e w4 ⟨A', c', rfl, hb4⟩; replace hb1 := bel_trans hb1 hb4))
          | (go_at_call 10; ((with_reducible refine (c1 _).mono ?_); rintro e w2 ⟨A, c, rfl, hb2⟩; replace hb1 := bel_trans hb1 hb2))
          | (go_at_call 20; ((with_reducible refine (ct _ _ _).mono ?_); rintro e w3 ⟨rfl, hb3⟩; replace hb1 := bel_trans hb1 hb3)))
        go_loop [44] (fun i => i = .int .i64 0) (fun i => 0)
        case atStart => rfl
        case round =>
          obtain rfl := hrel
          go_wp2_with (go_at_call 20; ((with_reducible refine (ct _ _ _).mono ?_); rintro e w5 ⟨rfl, hb5⟩; replace hb1 := bel_trans hb1 hb5))
          go_ret
          exact ⟨rfl, hb1⟩
      · have h0' : T' ≠ [] := fun e => by rw [e] at hn; exact h0 (List.eq_nil_of_length_eq_zero hn.symm)
        have c1 := of_some (by omega) hO h0
        have c2 := of_some hjs hO' h0'
        have ct : ∀ (g c : Nat) (w' : World), g < w'.heap.size → RowY w' g 0 (tokY T) → Calls Try.prog 20 #[.slice (some ⟨g, 0, none⟩) T.length c] w' fun e w'' => e = .returned (.string (BA (jt T))) ∧ Below w'.heap.size w' w'' := fun g c w' hg hr => by
          have := Text_some g 0 c (tokY T) w' (by simp [tokY]; omega) hr hg (by rw [jn_tok]; omega)
          rw [jn_tok] at this
          have e : (tokY T).length = T.length := by simp [tokY]
          rw [e] at this; exact this
        have ct' : ∀ (g c : Nat) (w' : World), g < w'.heap.size → RowY w' g 0 (tokY T') → Calls Try.prog 20 #[.slice (some ⟨g, 0, none⟩) T.length c] w' fun e w'' => e = .returned (.string (BA (jt T))) ∧ Below w'.heap.size w' w'' := fun g c w' hg hr => by
          have := Text_some g 0 c (tokY T') w' (by simp [tokY]; omega) hr hg (by rw [jn_tok, hjt]; omega)
          rw [jn_tok, hjt] at this
          have e : (tokY T').length = T.length := by simp [tokY, hn]
          rw [e] at this; exact this
        rw [hn] at c2
        have hcell : ∀ k (h : k < T.length), ∃ (K : Int) (x : ByteArray), (∀ (w' : World) g, RowY w' g 0 (tokY T) → w'.cell? ⟨g, k * 3, none⟩ = some (.int .i64 K) ∧ w'.cell? ⟨g, k * 3 + 1, none⟩ = some (.string x)) ∧ (∀ (w' : World) g, RowY w' g 0 (tokY T') → w'.cell? ⟨g, k * 3, none⟩ = some (.int .i64 K) ∧ w'.cell? ⟨g, k * 3 + 1, none⟩ = some (.string x)) := by
          intro k hk
          have hk' : k < T'.length := by omega
          have e : (kt T')[k]? = (kt T)[k]? := by rw [hkt]
          have e2 : (T'[k].k, T'[k].t) = (T[k].k, T[k].t) := by
            have e3 : some (T'[k].k, T'[k].t) = some (T[k].k, T[k].t) := by
              simpa [kt, hk, hk'] using e
            exact Option.some.inj e3
          injection e2 with e3 e4
          refine ⟨T[k].k, BA T[k].t, fun w' g hr => ?_, fun w' g hr => ?_⟩
          · obtain ⟨r1, r2, _⟩ := hr k (by simpa [tokY] using hk)
            rw [Nat.zero_add] at r1 r2
            exact ⟨by rw [r1]; simp [tokY], by rw [r2]; simp [tokY]⟩
          · obtain ⟨r1, r2, _⟩ := hr k (by simpa [tokY] using hk')
            rw [Nat.zero_add] at r1 r2
            exact ⟨by rw [r1]; simp [tokY, e3], by rw [r2]; simp [tokY, e4]⟩
        have Hcell := Lib.hid hcell
        have hn1 : T.length ≤ 600 := by omega
        clear hO hO' hkt hn hjt hjl hlen h0' hcell
        generalize BA (jt T) = J at *
        generalize tokY T = Y at *
        generalize tokY T' = Y' at *
        generalize T.length = n at *
        go_enter Try.func6, Try.ntmps6
        go_wp2_with (first
          | (go_at_call 9; ((with_reducible refine (ca _).mono ?_); rintro e w1 ⟨rfl, hb1⟩))
          | (go_at_call 10; ((with_reducible refine (c1 _).mono ?_); rintro e w2 ⟨g, c, rfl, hg, hr, hb2⟩; have hB2 := bel_trans hb1 hb2))
          | (go_at_call 20; ((with_reducible refine (ct _ _ _ hg hr).mono ?_); rintro e w3 ⟨rfl, hb3⟩; have hB3 := bel_trans hB2 hb3; have hr3 := hr.below hb3 hg; have hg3 := Nat.lt_of_lt_of_le hg hb3.size))
          | (go_at_call 10; ((with_reducible refine (c2 _).mono ?_); rintro e w4 ⟨g', c', rfl, hg', hr', hb4⟩; have hB4 := bel_trans hB3 hb4; have hr4 := hr3.below hb4 hg3; have hg4 := Nat.lt_of_lt_of_le hg3 hb4.size)))
        have Hr4 := Lib.hid hr4
        have Hr' := Lib.hid hr'
        clear hr hr3 hr4 hr' c1 c2
        go_loopw [44] (fun i wr0 => ∃ (k d : Nat), wr0 = w4.drewN d ∧ k ≤ n ∧ i = .int .i64 k) (fun i _ => n - (intOf i).toNat)
        case atStart => exact ⟨0, 0, rfl, by omega, rfl⟩
        case round =>
          obtain ⟨k, d, rfl, hk, rfl⟩ := hrel
          by_cases hlt : k < n
          · obtain ⟨K, x, hK1, hK2⟩ := Hcell.out k hlt
            obtain ⟨y1, y2⟩ := hK1 w4 g Hr4.out
            obtain ⟨z1, z2⟩ := hK2 w4 g' Hr'.out
            have hk0 : 0 ≤ (k : Int) := by omega
            have hk1 : (k : Int) < (n : Int) := by omega
            clear hK1 hK2
            go_wp2
            go_quiet (fail)
            go_wp2
            go_roundw
            case rel => exact ⟨k + 1, _, rfl, by omega, by go_num⟩
            case measure => simp [intOf]; omega
          · have hrd : RowY (w4.drewN d) g 0 Y := Hr4.out
            have hgd : g < (w4.drewN d).heap.size := hg4
            have hrd' : RowY (w4.drewN d) g' 0 Y' := Hr'.out
            have hgd' : g' < (w4.drewN d).heap.size := hg'
            go_wp2_with (first
              | (go_at_call 20; ((with_reducible refine (ct _ _ _ hgd hrd).mono ?_); rintro e w5 ⟨rfl, hb5⟩; have hr5 := hrd'.below hb5 hgd'; have hg5 := Nat.lt_of_lt_of_le hgd' hb5.size))
              | (go_at_call 20; ((with_reducible refine (ct' _ _ _ hg5 hr5).mono ?_); rintro e w6 ⟨rfl, hb6⟩)))
            go_ret
            exact ⟨rfl, bel_trans (bel_trans (below_drewN hB4 d) hb5) hb6⟩
  · have h1 : ¬ (s.size : Int) ≤ 600 := by omega
    go_enter Try.func6, Try.ntmps6
    go_wp2_with (go_at_call 9; ((with_reducible refine (ca _).mono ?_); rintro e w1 ⟨rfl, hb1⟩))
    go_ret
    exact ⟨rfl, hb1⟩
end Go.Proofs.Ytanbcclconhheaa.Tok
