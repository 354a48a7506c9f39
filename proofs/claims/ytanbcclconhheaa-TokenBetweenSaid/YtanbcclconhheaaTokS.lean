/-
  What is proved: the law on what lies between tokens, walked.
-/
import Derived.Test.YtanbcclconhheaaTokR
namespace Go.Proofs.Ytanbcclconhheaa.Tok
open Go.RowKit
set_option linter.unusedVariables false
set_option linter.unusedSimpArgs false

set_option maxHeartbeats 2000000 in
theorem between_walk (s : ByteArray) (w : World) (hs : s.size ≤ 9223372036854775807) :
    Calls Try.prog 7 #[.string s] w fun e w' => e = .returned (.bool true) ∧ Below w.heap.size w w' := by
  have ca := alive_any
  by_cases h : s.size ≤ 600
  · cases hO : ofS s.data.toList with
    | err a x =>
      have c1 := of_err (by omega) hO
      have hx := ofS_errE hO
      have hx1 : (x == 0) = false := beq_no' hx
      have hx2 : (x != 0) = true := by simp [hx]
      clear hO hx
      go_enter Try.func7, Try.ntmps7
      go_wp2_with (first
        | (go_at_call 9; ((with_reducible refine (ca _).mono ?_); rintro e w1 ⟨rfl, hb1⟩))
        | (go_at_call 10; ((with_reducible refine (c1 _).mono ?_); rintro e w2 ⟨A, c, rfl, hb2⟩)))
      go_ret
      exact ⟨rfl, bel_trans hb1 hb2⟩
    | ok T =>
      have hlen := toks_len (ofS_toks hO).2
      rw [List.length_drop, len_list] at hlen
      have hbet := ofS_bet hO
      by_cases h0 : T = []
      · subst h0
        have c1 := of_none (by omega) hO
        have cb := fun (w : World) => Blank_any s 0 w hs (by omega)
        have he : 0 + bl false (s.data.toList.drop 0) = s.size := by rw [← len_list]; exact hbet.2
        rw [he] at cb
        have cb : ∀ w : World, Calls Try.prog 22 #[.string s, .int .i64 0] w fun e w' => e = .returned (.int .i64 (s.size : Nat)) ∧ w = w' := cb
        clear hO hbet hlen he
        go_enter Try.func7, Try.ntmps7
        go_wp2_with (first
          | (go_at_call 9; ((with_reducible refine (ca _).mono ?_); rintro e w1 ⟨rfl, hb1⟩))
          | (go_at_call 10; ((with_reducible refine (c1 _).mono ?_); rintro e w2 ⟨A, c, rfl, hb2⟩)))
        go_loop [6, 24] (fun v i => v = .int .i64 0 ∧ i = .int .i64 0) (fun _ i => 0)
        case atStart => exact ⟨rfl, rfl⟩
        case round =>
          obtain ⟨rfl, rfl⟩ := hrel
          go_wp2_with (go_at_call 22; ((with_reducible refine (cb _).mono ?_); rintro e w' ⟨rfl, rfl⟩))
          go_ret
          exact ⟨rfl, bel_trans hb1 hb2⟩
      · have c1 := of_some (by omega) hO h0
        have hcell : ∀ (w' : World) g, RowY w' g 0 (tokY T) → ∀ k (h : k < T.length), w'.cell? ⟨g, k * 3, none⟩ = some (.int .i64 T[k].k) ∧ w'.cell? ⟨g, k * 3 + 1, none⟩ = some (.string (BA T[k].t)) ∧ w'.cell? ⟨g, k * 3 + 1 + 1, none⟩ = some (.int .i64 T[k].a) := by
          intro w' g hr k hk
          obtain ⟨r1, r2, r3⟩ := hr k (by simpa [tokY] using hk)
          rw [Nat.zero_add] at r1 r2 r3
          exact ⟨by rw [r1]; simp [tokY], by rw [r2]; simp [tokY], by rw [r3]; simp [tokY]⟩
        have Hcell := Lib.hid hcell
        have Hbet := Lib.hid hbet
        have cB : ∀ e, e ≤ s.size → ∀ w : World, Calls Try.prog 22 #[.string s, .int .i64 e] w fun x w' => x = .returned (.int .i64 (e + bl false (s.data.toList.drop e) : Nat)) ∧ w' = w := fun e he w =>
          (Blank_any s e w hs he).mono fun x w' ⟨h, hw⟩ => ⟨h, hw.symm⟩
        have HcB := Lib.hid cB
        clear hO hcell hbet cB
        go_enter Try.func7, Try.ntmps7
        go_wp2_with (first
          | (go_at_call 9; ((with_reducible refine (ca _).mono ?_); rintro e w1 ⟨rfl, hb1⟩))
          | (go_at_call 10; ((with_reducible refine (c1 _).mono ?_); rintro e w2 ⟨g, c, rfl, hg, hr, hb2⟩; have hB2 := bel_trans hb1 hb2)))
        have Hr := Lib.hid hr
        clear hr c1
        go_loopw [6, 24] (fun v i wr0 => ∃ (wr : World) (k e : Nat), wr = wr0 ∧ Below w2.heap.size w2 wr ∧ k ≤ T.length ∧ e ≤ s.size ∧ v = .int .i64 e ∧ i = .int .i64 k ∧ Hid (Bet s.data.toList e (T.drop k))) (fun _ i _ => T.length - (intOf i).toNat)
        case atStart => exact ⟨_, 0, 0, rfl, Below.refl _ _, by omega, by omega, rfl, rfl, Hbet⟩
        case round =>
          obtain ⟨wr, k, e, rfl, hB, hk, he, rfl, rfl, hbt⟩ := hrel
          have cB := HcB.out e he
          by_cases hlt : k < T.length
          · have hbt1 := hbt.out
            rw [List.drop_eq_getElem_cons hlt] at hbt1
            obtain ⟨_, b1, b2, b3, b4, b5⟩ := hbt1
            obtain ⟨y1, y2, y3⟩ := Hcell.out wr g (Hr.out.below hB hg) k hlt
            rw [b1] at cB
            have hxs : (BA T[k].t).size = T[k].t.length := BA_size _
            have hcl := cut_list s T[k].a (T[k].a + T[k].t.length)
            rw [show T[k].a + T[k].t.length - T[k].a = T[k].t.length by omega, b4] at hcl
            have heq : ((s.extract T[k].a (T[k].a + T[k].t.length)).toList == (BA T[k].t).toList) = true := by rw [ByteArray.toList_eq, hcl, BA_toList]; simp
            have hne : (BA T[k].t).toList ≠ [] := by rw [BA_toList]; intro e; rw [e] at b2; simp at b2
            have hle : e ≤ T[k].a := by omega
            rw [len_list] at b3
            generalize T[k].a = a at *
            generalize T[k].k = K at *
            rw [← hxs] at heq b2 b3 b5
            generalize BA T[k].t = x at *
            have hnew := Lib.hid b5
            have hne2 : x.toList.isEmpty = false := by simp [hne]
            have hne3 : (x.toList == []) = false := by simpa using hne
            have d1 : decide ((a : Int) < (e : Int)) = false := decide_eq_false (by omega)
            have d2 : decide ((s.size : Int) < (a : Int)) = false := decide_eq_false (by omega)
            have hw1 : IntKind.i64.wrap ((s.size : Int) - (a : Int)) = (s.size : Int) - (a : Int) := IntWalk.i64_in _ (by omega)
            have d3 : decide ((s.size : Int) - (a : Int) < (x.size : Int)) = false := decide_eq_false (by omega)
            have hw2 : IntKind.i64.wrap ((a : Int) + (x.size : Int)) = (a : Int) + (x.size : Int) := IntWalk.i64_in _ (by omega)
            have h0a : 0 ≤ (a : Int) + (x.size : Int) := by omega
            have hna : ((a : Int) + (x.size : Int)).toNat = a + x.size := by omega
            have n1 : decide (a < e) = false := decide_eq_false (by omega)
            have n2 : decide (s.size < a) = false := decide_eq_false (by omega)
            clear hbt b4 b5 hcl b1 hxs
            go_wp2
            go_quiet ((go_at_call 22; exact Calls.quiet_of_same (cB _)))
            clear cB d1 d2 d3 n1 n2 hw1 hw2 h0a hna heq hne hne2 hne3
            go_wp2
            go_roundw
            case rel => exact ⟨_, k + 1, a + x.size, rfl, below_drewN (bel_alloc hB _) _, by omega, b3, by go_num, by go_num, hnew⟩
            case measure => simp [intOf]; omega
          · have hend := hbt.out
            rw [List.drop_eq_nil_of_le (by omega)] at hend
            have hend2 := hend.2
            rw [len_list] at hend2
            rw [hend2] at cB
            clear hend hend2 hbt
            go_wp2_with (go_at_call 22; ((with_reducible refine (cB _).mono ?_); rintro x w' ⟨rfl, rfl⟩))
            go_ret
            exact ⟨rfl, bel_trans hB2 hB⟩
  · have h1 : ¬ (s.size : Int) ≤ 600 := by omega
    go_enter Try.func7, Try.ntmps7
    go_wp2_with (go_at_call 9; ((with_reducible refine (ca _).mono ?_); rintro e w1 ⟨rfl, hb1⟩))
    go_ret
    exact ⟨rfl, hb1⟩
end Go.Proofs.Ytanbcclconhheaa.Tok
