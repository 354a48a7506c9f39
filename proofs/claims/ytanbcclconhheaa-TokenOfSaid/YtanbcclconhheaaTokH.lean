/-
  What is proved: what Of of package token returns: the tokens of a text, or the first error and its place.
-/
import Derived.Test.YtanbcclconhheaaTokE
import Derived.Maps.AppendAt
import Derived.OwnWalk
namespace Go.Proofs.Ytanbcclconhheaa.Tok
open Go.RowKit
set_option linter.unusedVariables false
set_option linter.unusedSimpArgs false

def tokC (t : Tok) : List Value := [.int .i64 t.k, .string (BA t.t), .int .i64 t.a]
def cellsT (T : List Tok) : List Value := T.flatMap tokC
theorem cellsT_app (T : List Tok) (t : Tok) : cellsT (T ++ [t]) = cellsT T ++ [.int .i64 t.k, .string (BA t.t), .int .i64 t.a] := by simp [cellsT, tokC]
def OfPost (R : Res) (w : World) (e : Ending) (w' : World) : Prop :=
  ∃ v, e = .returned (.tuple #[v, .int .i64 (R.A : Nat), .int .i64 R.E]) ∧ w'.ownsRow w.heap.size 33 3 v R.T.length (cellsT R.T) ∧ Below w.heap.size w w'
theorem tok_info : (Try.prog.info? 33).map (fun i => (i.zero, i.size, i.bytes)) = some (some (.agg #[.int .i64 0, .string ⟨#[]⟩, .int .i64 0]), 3, 32) := by kernel_rfl
theorem ofPost_err {R : Res} {w w' : World} {a : Nat} {x : Int} (hR : R = .err a x) (hb : Below w.heap.size w w') : OfPost R w (.returned (.tuple #[.slice none 0 0, .int .i64 a, .int .i64 x])) w' := by
  subst hR
  exact ⟨_, rfl, World.ownsRow_nil _ _ _ _, hb⟩
theorem ownsRow_base {w : World} {b b' : Nat} {e : TypeId} {size n : Nat} {v : Value} {xs : List Value} (h : w.ownsRow b e size v n xs) (hb : b' ≤ b) : w.ownsRow b' e size v n xs := by
  refine ⟨h.1, ?_⟩
  rcases h.2 with hn | ⟨g, cap, cur, rfl, h1, rest⟩
  · exact .inl hn
  · exact .inr ⟨g, cap, cur, rfl, by omega, rest⟩
theorem ofPost_ok {R : Res} {w w' : World} {v : Value} {T : List Tok} {b : Nat} (hR : R = .ok T) (ho : w'.ownsRow b 33 3 v T.length (cellsT T)) (hb1 : w.heap.size ≤ b) (hb : Below w.heap.size w w') :
    OfPost R w (.returned (.tuple #[v, .int .i64 0, .int .i64 0])) w' := by
  subst hR
  exact ⟨_, rfl, ownsRow_base ho hb1, hb⟩

theorem tok_new (w : World) (a b c : Value) (t : TypeId) : ∀ j u, [a, b, c][j]? = some u → (w.alloc (.cells #[a, b, c] t)).cell? ((⟨w.heap.size, 0, none⟩ : Addr).add j) = some u := by
  intro j u h
  rw [Addr.add_lit, Nat.zero_add, cell_of_row _ _ _ _ _ _ (heap_alloc_new w _)]
  simpa using h
theorem tok_one (a c : Int) (b : ByteArray) : ∀ u ∈ [Value.int .i64 a, .string b, .int .i64 c], u.oneCell' = true := by
  intro u hu
  simp at hu
  rcases hu with rfl | rfl | rfl <;> rfl
theorem size_alloc {n : Nat} {w : World} (h : n ≤ w.heap.size) (o : Obj) : n ≤ (w.alloc o).heap.size := by simp; omega

theorem SAt.grown {w w1 : World} {o : Obj} {row : Option Nat} {g : Nat} {xs : List ByteArray} (h : SAt w g xs) (hg : (w.alloc o).grownBy w1 row) (hlt : g < w.heap.size) (hne : some g ≠ row) : SAt w1 g xs := fun k hk =>
  hg.cell (a := ⟨g, k, none⟩) (by rw [World.cell?_alloc_past _ _ _ hlt]; exact h k hk) hne
/-- what one more token makes of a row of tokens -/
theorem row_step {w0 w w1 : World} {v v1 : Value} {T : List Tok} {t : Tok} {o : Obj} {b n : Nat} (hT : T.length ≤ n) (hown : w.ownsRow b 33 3 v T.length (cellsT T)) (hg : (w.alloc o).grownBy w1 v.ownBlock)
    (h1 : w1.ownsRow b 33 3 v1 (T.length + 1) (cellsT T ++ tokC t)) (hB : Below w0.heap.size w0 w) (hb : w0.heap.size ≤ b) :
    w1.ownsRow b 33 3 v1 (T ++ [t]).length (cellsT (T ++ [t])) ∧ Below w0.heap.size w0 w1 ∧ w.heap.size ≤ w1.heap.size ∧ (T ++ [t]).length ≤ n + 1 := by
  refine ⟨?_, (bel_alloc hB o).grown hg (Nat.le_trans hB.size (by simp)) (fun k hk => Nat.le_trans hb (hown.lt k hk).1), ?_, by simp; omega⟩
  · rw [cellsT_app, List.length_append]; exact h1
  · have := hg.size; simp at this; omega

theorem Of_long (s : ByteArray) (w : World) (hs : s.size ≤ 9223372036854775000) (h : 65536 < s.size) :
    Calls Try.prog 10 #[.string s] w (OfPost (ofS s.data.toList) w) := by
  have hR : Hid (ofS s.data.toList = .err 0 2) := by show _ = _; unfold ofS; rw [len_list, if_pos h]
  go_enter Try.func10, Try.ntmps10
  go_wp2
  go_ret3
  exact ofPost_err hR.out (Below.refl _ _)

set_option maxHeartbeats 2000000 in
theorem Of_short (s : ByteArray) (w : World) (hs : s.size ≤ 65536) :
    Calls Try.prog 10 #[.string s] w (OfPost (ofS s.data.toList) w) := by
  have cS := fun (w : World) => Signs_any w
  have cb : ∀ k, k ≤ s.size → ∀ w : World, Calls Try.prog 23 #[.string (s.extract k s.size)] w fun e w' => e = .returned (.int .i64 (bl false (s.data.toList.drop k))) ∧ w = w' := fun k hk w => by
    have := blanks_any (s.extract k s.size) w (by rw [extract_size s k hk]; omega)
    rw [extract_list s k hk] at this
    exact this
  have cb0 := fun (w : World) => blanks_any s w (by omega)
  have cf : ∀ g k, k ≤ s.size → ∀ w : World, SAt w g SGb → Calls Try.prog 24 #[.string (s.extract k s.size), .slice (some ⟨g, 0, none⟩) 27 27] w fun e w' => e = .returned (.tuple #[.int .i64 (fK (s.data.toList.drop k)), .int .i64 (fN (s.data.toList.drop k)), .int .i64 (fE (s.data.toList.drop k))]) ∧ w = w' := fun g k hk w h => by
    have := first_any (s.extract k s.size) g w (by rw [extract_size s k hk]; omega) h
    rw [extract_list s k hk] at this
    exact this
  have hb0 := bl_le false s.data.toList
  rw [len_list] at hb0
  have hR : ofS s.data.toList = run (s.size + 1) (bl false s.data.toList) (s.data.toList.drop (bl false s.data.toList)) [] := by unfold ofS; rw [len_list, if_neg (by omega)]
  obtain ⟨b0, hb⟩ : ∃ b0, bl false s.data.toList = b0 := ⟨_, rfl⟩
  rw [hb] at cb0 hb0 hR
  clear hb
  have hsat : ∀ w : World, SAt (w.alloc (.cells SGc 9)) w.heap.size SGb := fun w => SGc_at (heap_alloc_new w _)
  obtain ⟨W1, hW1⟩ : ∃ W1, w.alloc (.cells SGc 9) = W1 := ⟨_, rfl⟩
  have hbel : Below w.heap.size w W1 := by rw [← hW1]; exact bel_alloc (Below.refl _ _) _
  have hsz1 : W1.heap.size = w.heap.size + 1 := by rw [← hW1]; simp
  have cS0 := cS w
  have hsat1 := hsat w
  rw [hW1] at cS0 hsat1
  clear cS hW1 hsat
  obtain ⟨i0, hi, hz0, hz1, hz2⟩ := info_parts tok_info
  have HR := Lib.hid hR
  have Hcb := Lib.hid cb
  have Hcf := Lib.hid cf
  have Hs1 := Lib.hid hsat1
  have Hsz1 := Lib.hid hsz1
  clear hR cb cf hsat1 hsz1
  go_enter Try.func10, Try.ntmps10
  go_wp2_with (first | (go_at_call 18; ((with_reducible refine cS0.mono ?_); rintro e w' ⟨rfl, rfl⟩)) | (go_at_call 23; ((with_reducible refine (cb0 _).mono ?_); rintro e w' ⟨rfl, rfl⟩)))
  clear cS0 cb0
  go_loopw [5, 7] (fun v0 n wr0 => ∃ (v : Value) (wr : World) (k f : Nat) (T : List Tok), v = v0 ∧ wr = wr0 ∧ k ≤ s.size ∧ n = .int .i64 k ∧ wr.ownsRow (w.heap.size + 1) 33 3 v T.length (cellsT T) ∧ Below w.heap.size w wr ∧ w.heap.size + 1 ≤ wr.heap.size ∧ SAt wr w.heap.size SGb ∧ T.length ≤ k ∧ s.size - k < f ∧ Hid (run f k (s.data.toList.drop k) T = ofS s.data.toList)) (fun _ n _ => s.size - (intOf n).toNat)
  case atStart => exact ⟨_, _, b0, s.size + 1, [], rfl, rfl, hb0, rfl, World.ownsRow_nil _ _ _ _, hbel, by rw [Hsz1.out]; omega, Hs1.out, by simp, by omega, by show _ = _; rw [HR.out]⟩
  case round =>
    obtain ⟨v, wr, k, f, T, rfl, rfl, hk, rfl, hown, hB, hsz, hsa, hT, hf, hRun⟩ := hrel
    by_cases hlt : k < s.size
    · have hne : s.data.toList.drop k ≠ [] := by rw [drop_at s k hlt]; simp
      have hn1 := fN_le (s.data.toList.drop k)
      rw [List.length_drop, len_list] at hn1
      have c1 := fun (w' : World) (h : SAt w' w.heap.size SGb) => Hcf.out w.heap.size k hk w' h
      obtain ⟨f, rfl⟩ : ∃ f', f = f' + 1 := ⟨f - 1, by omega⟩
      by_cases hE : fE (s.data.toList.drop k) = 0
      · have hpos := fN_pos hE
        have hrun := run_ok (f := f) (a := k) (acc := T) hne hE
        rw [hRun.out, List.drop_drop, List.drop_drop] at hrun
        have c2 := Hcb.out (k + fN (s.data.toList.drop k)) (by omega)
        have hm := bl_le false (s.data.toList.drop (k + fN (s.data.toList.drop k)))
        rw [List.length_drop, len_list] at hm
        rw [hE] at c1
        have hcut : BA ((s.data.toList.drop k).take (fN (s.data.toList.drop k))) = s.extract k (k + fN (s.data.toList.drop k)) := by
          have := cut_list s k (k + fN (s.data.toList.drop k))
          rw [show ∀ n : Nat, k + n - k = n by omega] at this
          rw [← this]; rfl
        obtain ⟨t, ht⟩ : ∃ t : Tok, (⟨fK (s.data.toList.drop k), (s.data.toList.drop k).take (fN (s.data.toList.drop k)), k⟩ : Tok) = t := ⟨_, rfl⟩
        have ht1 : [.int .i64 (fK (s.data.toList.drop k)), .string (s.extract k (k + fN (s.data.toList.drop k))), .int .i64 k] = tokC t := by rw [← ht, ← hcut]; rfl
        rw [ht] at hrun
        clear hcut ht hE hne
        generalize fK (s.data.toList.drop k) = K at *
        generalize fN (s.data.toList.drop k) = n at *
        generalize bl false (s.data.toList.drop (k + n)) = m at *
        have Hrun : Hid (run f (k + n + m) (s.data.toList.drop (k + n + m)) (T ++ [t]) = ofS s.data.toList) := by
          show _ = _
          rw [hrun, show k + (n + m) = k + n + m by omega]
        have Ht0 := Lib.hid ht1
        clear hrun hRun ht1
        have hnz : 0 ≤ (k : Int) + (n : Int) := by omega
        have hwlt : w.heap.size < wr.heap.size := by omega
        have h63 : T.length + 1 ≤ maxLen := by unfold maxLen; omega
        have hby : (T.length + 1) * 32 ≤ 140737488355328 := by omega
        go_wp2_with (first
          | (go_at_call 24; ((with_reducible refine (c1 _ hsa).mono ?_); rintro e w' ⟨rfl, rfl⟩))
          | (go_at_call 23; ((with_reducible refine (c2 _).mono ?_); rintro e w' ⟨rfl, rfl⟩))
          | (at_builtin; ((refine wpList_append_own_at _ rfl (.tmp 34) (.tmp 44) 23 rfl (w.heap.size + 1) 33 i0 _ 3 32 Try.underlying23 hi hz0 hz1 hz2 rfl (by decide) v T.length (cellsT T) rfl (hown.alloc _) ⟨wr.heap.size, 0, none⟩ 1 1 [.int .i64 K, .string (s.extract k (k + n)), .int .i64 k] rfl rfl (tok_new _ _ _ _ _) (tok_one _ _ _) h63 hby (size_alloc hsz _) ?_); intro v1 w1 hown1 hg1 _ hat1)))
        obtain ⟨r1, r2, r3, r4⟩ := row_step (t := t) (n := k) hT hown hg1 (by rw [← Ht0.out]; exact hown1) hB (Nat.le_succ _)
        have r5 := hsa.grown hg1 hwlt (fun e => by have := (hown.lt _ e.symm).1; omega)
        go_roundw
        case rel => exact ⟨v1, w1, k + n + m, f, T ++ [t], rfl, rfl, by omega, by go_num, r1, r2, by omega, r5, by omega, by omega, Hrun⟩
        case measure => simp [intOf]; omega
      · have hrun := run_err (f := f) (a := k) (acc := T) hne hE
        rw [hRun.out] at hrun
        have Hrun := Lib.hid hrun
        obtain ⟨n0, k0⟩ := fN_zero hE
        generalize fK (s.data.toList.drop k) = K at *
        generalize fN (s.data.toList.drop k) = n at *
        generalize fE (s.data.toList.drop k) = E at *
        have hE1 : (E == 0) = false := beq_no' hE
        have hE2 : (E != 0) = true := by simp [hE]
        clear hRun hrun hne n0 k0 hE
        go_wp2_with (go_at_call 24; ((with_reducible refine (c1 _ hsa).mono ?_); rintro e w' ⟨rfl, rfl⟩))
        go_ret3
        exact ofPost_err Hrun.out hB
    · have hrun := hRun.out
      rw [drop_end s k (by omega), run_nil] at hrun
      have Hrun := Lib.hid hrun.symm
      clear hRun hrun
      go_wp2
      go_ret3
      exact ofPost_ok Hrun.out hown (Nat.le_succ _) hB

theorem Of_any (s : ByteArray) (w : World) (hs : s.size ≤ 9223372036854775000) :
    Calls Try.prog 10 #[.string s] w (OfPost (ofS s.data.toList) w) := by
  by_cases h : 65536 < s.size
  · exact Of_long s w hs h
  · exact Of_short s w (by omega)
end Go.Proofs.Ytanbcclconhheaa.Tok
