/-
  What is proved: what Of of the document's answers returns: the same tokens, or the same error and its place.
-/
import Derived.Test.YtanbcclconhheaaTokG
import Derived.Test.YtanbcclconhheaaTokH
namespace Go.Proofs.Ytanbcclconhheaa.Tok
open Go.RowKit
set_option linter.unusedVariables false
set_option linter.unusedSimpArgs false

theorem ownsRow_below {w w' : World} {base : Nat} {e : TypeId} {size n : Nat} {v : Value} {xs : List Value} (h : w.ownsRow base e size v n xs) (hb : Below w.heap.size w w') : w'.ownsRow base e size v n xs := by
  refine ⟨h.1, ?_⟩
  rcases h.2 with hn | ⟨g, cap, cur, rfl, h1, h2, rest⟩
  · exact .inl hn
  · exact .inr ⟨g, cap, cur, rfl, h1, (hb.block g (Array.getElem?_eq_some_iff.1 h2).1).trans h2, rest⟩

theorem tok_new2 (w : World) (n : Nat) (hn : n = w.heap.size) (a b c : Value) (t : TypeId) : ∀ j u, [a, b, c][j]? = some u → (w.alloc (.cells #[a, b, c] t)).cell? ((⟨n, 0, none⟩ : Addr).add j) = some u := by
  subst hn; exact tok_new w a b c t
theorem tok_cell {w1 w2 : World} {K k : Int} {x : ByteArray} {row : Option Nat} {o : Obj} {t : TypeId} (hg : ((w1.alloc (.cells #[.int .i64 K, .string x, .int .i64 k] t)).alloc o).grownBy w2 row) (hne : some w1.heap.size ≠ row) :
    w2.cell? ⟨w1.heap.size, 1, none⟩ = some (.string x) :=
  hg.cell (a := ⟨w1.heap.size, 1, none⟩) (by rw [World.cell?_alloc_past _ _ _ (by simp), World.cell?_alloc_at _ _ _ _ rfl]; rfl) hne

theorem refOf_long (s : ByteArray) (w : World) (hs : s.size ≤ 9223372036854775000) (h : 65536 < s.size) :
    Calls Try.prog 11 #[.string s] w (OfPost (ofS s.data.toList) w) := by
  have hR : Hid (ofS s.data.toList = .err 0 2) := by show _ = _; unfold ofS; rw [len_list, if_pos h]
  go_enter Try.func11, Try.ntmps11
  go_wp2
  go_ret3
  exact ofPost_err hR.out (Below.refl _ _)

set_option maxHeartbeats 2000000 in
theorem refOf_short (s : ByteArray) (w : World) (hs : s.size ≤ 65536) :
    Calls Try.prog 11 #[.string s] w (OfPost (ofS s.data.toList) w) := by
  have cb : ∀ k, k ≤ s.size → ∀ w : World, Calls Try.prog 22 #[.string s, .int .i64 k] w fun e w' => e = .returned (.int .i64 (k + bl false (s.data.toList.drop k) : Nat)) ∧ w = w' := fun k hk w => Blank_any s k w (by omega) hk
  have cb0 : ∀ w : World, Calls Try.prog 22 #[.string s, .int .i64 0] w fun e w' => e = .returned (.int .i64 (bl false s.data.toList)) ∧ w = w' := fun w => by
    have := cb 0 (by omega) w
    rw [Nat.zero_add] at this
    exact this
  have co : ∀ k, k < s.size → ∀ w : World, Calls Try.prog 25 #[.string s, .int .i64 k] w fun e w' => e = .returned (.tuple #[.agg #[.int .i64 (oK (s.data.toList.drop k)), .string (oT (s.data.toList.drop k)), .int .i64 (oA (s.data.toList.drop k) k)], .int .i64 (fE (s.data.toList.drop k))]) ∧ Below w.heap.size w w' := fun k hk w => one_any s k w (by omega) hk
  have hb0 := bl_le false s.data.toList
  rw [len_list] at hb0
  have hR : ofS s.data.toList = run (s.size + 1) (bl false s.data.toList) (s.data.toList.drop (bl false s.data.toList)) [] := by unfold ofS; rw [len_list, if_neg (by omega)]
  obtain ⟨b0, hb⟩ : ∃ b0, bl false s.data.toList = b0 := ⟨_, rfl⟩
  rw [hb] at cb0 hb0 hR
  clear hb
  obtain ⟨i0, hi, hz0, hz1, hz2⟩ := info_parts tok_info
  have HR := Lib.hid hR
  have Hcb := Lib.hid cb
  have Hco := Lib.hid co
  clear hR cb co
  go_enter Try.func11, Try.ntmps11
  go_wp2_with (go_at_call 22; ((with_reducible refine (cb0 _).mono ?_); rintro e w' ⟨rfl, rfl⟩))
  clear cb0
  go_loopw [5, 6] (fun v0 n wr0 => ∃ (v : Value) (wr : World) (k f : Nat) (T : List Tok), v = v0 ∧ wr = wr0 ∧ k ≤ s.size ∧ n = .int .i64 k ∧ wr.ownsRow w.heap.size 33 3 v T.length (cellsT T) ∧ Below w.heap.size w wr ∧ T.length ≤ k ∧ s.size - k < f ∧ Hid (run f k (s.data.toList.drop k) T = ofS s.data.toList)) (fun _ n _ => s.size - (intOf n).toNat)
  case atStart => exact ⟨_, _, b0, s.size + 1, [], rfl, rfl, hb0, rfl, World.ownsRow_nil _ _ _ _, Below.refl _ _, by simp, by omega, by show _ = _; rw [HR.out]⟩
  case round =>
    obtain ⟨v, wr, k, f, T, rfl, rfl, hk, rfl, hown, hB, hT, hf, hRun⟩ := hrel
    by_cases hlt : k < s.size
    · have hne : s.data.toList.drop k ≠ [] := by rw [drop_at s k hlt]; simp
      have hn1 := fN_le (s.data.toList.drop k)
      rw [List.length_drop, len_list] at hn1
      have c1 := fun (w' : World) => Hco.out k hlt w'
      obtain ⟨f, rfl⟩ : ∃ f', f = f' + 1 := ⟨f - 1, by omega⟩
      have hsz := hB.size
      by_cases hE : fE (s.data.toList.drop k) = 0
      · have hpos := fN_pos hE
        have hrun := run_ok (f := f) (a := k) (acc := T) hne hE
        rw [hRun.out, List.drop_drop, List.drop_drop] at hrun
        have c2 := Hcb.out (k + fN (s.data.toList.drop k)) (by omega)
        have hm := bl_le false (s.data.toList.drop (k + fN (s.data.toList.drop k)))
        rw [List.length_drop, len_list] at hm
        have hoK : oK (s.data.toList.drop k) = fK (s.data.toList.drop k) := by unfold oK; rw [if_pos hE]
        have hoT : oT (s.data.toList.drop k) = BA ((s.data.toList.drop k).take (fN (s.data.toList.drop k))) := by unfold oT; rw [if_pos hE]
        have hoA : oA (s.data.toList.drop k) k = k := by unfold oA; rw [if_pos hE]
        have htsz : (BA ((s.data.toList.drop k).take (fN (s.data.toList.drop k)))).size = fN (s.data.toList.drop k) := by rw [BA_size, List.length_take, List.length_drop, len_list]; omega
        rw [hE, hoK, hoT, hoA] at c1
        obtain ⟨t, ht⟩ : ∃ t : Tok, (⟨fK (s.data.toList.drop k), (s.data.toList.drop k).take (fN (s.data.toList.drop k)), k⟩ : Tok) = t := ⟨_, rfl⟩
        have ht1 : [.int .i64 (fK (s.data.toList.drop k)), .string (BA ((s.data.toList.drop k).take (fN (s.data.toList.drop k)))), .int .i64 k] = tokC t := by rw [← ht]; rfl
        rw [ht] at hrun
        clear hoK hoT hoA ht hE hne
        generalize BA ((s.data.toList.drop k).take (fN (s.data.toList.drop k))) = x at *
        generalize fK (s.data.toList.drop k) = K at *
        generalize fN (s.data.toList.drop k) = n at *
        subst htsz
        have c2 : ∀ w : World, Calls Try.prog 22 #[.string s, .int .i64 ((k : Int) + (x.size : Int))] w fun e w' => e = .returned (.int .i64 ((k + x.size + bl false (s.data.toList.drop (k + x.size)) : Nat) : Int)) ∧ w = w' := c2
        generalize bl false (s.data.toList.drop (k + x.size)) = m at *
        have Hrun : Hid (run f (k + x.size + m) (s.data.toList.drop (k + x.size + m)) (T ++ [t]) = ofS s.data.toList) := by
          show _ = _
          rw [hrun, show k + (x.size + m) = k + x.size + m by omega]
        have Ht0 := Lib.hid ht1
        clear hrun hRun ht1
        have h63 : T.length + 1 ≤ maxLen := by unfold maxLen; omega
        have hby : (T.length + 1) * 32 ≤ 140737488355328 := by omega
        go_wp2_with (first
          | (go_at_call 25; ((with_reducible refine (c1 _).mono ?_); rintro e w1 ⟨rfl, hb1⟩; have hown1 := (ownsRow_below hown hb1).alloc (.cells #[.int .i64 K, .string x, .int .i64 k] 33); have hB1 := bel_alloc (bel_trans hB hb1) (.cells #[.int .i64 K, .string x, .int .i64 k] 33); have hzw := hb1.size))
          | (go_at_call 22; ((with_reducible refine (c2 _).mono ?_); rintro e w' ⟨rfl, rfl⟩))
          | (at_builtin; ((refine wpList_append_own_at _ rfl (.tmp 28) (.tmp 30) 23 rfl w.heap.size 33 i0 _ 3 32 Try.underlying23 hi hz0 hz1 hz2 rfl (by decide) v T.length (cellsT T) rfl (hown1.alloc _) ⟨w1.heap.size + 1, 0, none⟩ 1 1 [.int .i64 K, .string x, .int .i64 k] rfl rfl (tok_new2 _ _ (by simp) _ _ _ _) (tok_one _ _ _) h63 hby (size_alloc hB1.size _) ?_); intro v1 w2 hown2 hg2 _ hat2; have hx2 := tok_cell hg2 (fun e => by have := (hown.lt _ e.symm).2; omega))))
        obtain ⟨r1, r2, r3, r4⟩ := row_step (t := t) (n := k) hT hown1 hg2 (by rw [← Ht0.out]; exact hown2) hB1 (Nat.le_refl _)
        go_roundw
        case rel => exact ⟨v1, w2, k + x.size + m, f, T ++ [t], rfl, rfl, by omega, by go_num, r1, r2, by omega, by omega, Hrun⟩
        case measure => simp [intOf]; omega
      · have hrun := run_err (f := f) (a := k) (acc := T) hne hE
        rw [hRun.out] at hrun
        have Hrun := Lib.hid hrun
        generalize oK (s.data.toList.drop k) = K at *
        generalize oT (s.data.toList.drop k) = x at *
        generalize oA (s.data.toList.drop k) k = A at *
        generalize fE (s.data.toList.drop k) = E at *
        have hE1 : (E == 0) = false := beq_no' hE
        have hE2 : (E != 0) = true := by simp [hE]
        clear hRun hrun hne hE
        go_wp2_with (go_at_call 25; ((with_reducible refine (c1 _).mono ?_); rintro e w1 ⟨rfl, hb1⟩; have hB1 := bel_alloc (bel_trans hB hb1) (.cells #[.int .i64 K, .string x, .int .i64 A] 33)))
        go_ret3
        exact ofPost_err Hrun.out hB1
    · have hrun := hRun.out
      rw [drop_end s k (by omega), run_nil] at hrun
      have Hrun := Lib.hid hrun.symm
      clear hRun hrun
      go_wp2
      go_ret3
      exact ofPost_ok Hrun.out hown (Nat.le_refl _) hB

theorem refOf_any (s : ByteArray) (w : World) (hs : s.size ≤ 9223372036854775000) :
    Calls Try.prog 11 #[.string s] w (OfPost (ofS s.data.toList) w) := by
  by_cases h : 65536 < s.size
  · exact refOf_long s w hs h
  · exact refOf_short s w (by omega)
end Go.Proofs.Ytanbcclconhheaa.Tok
