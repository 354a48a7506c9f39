/-
  What is proved: the two laws on places and on the first fault, walked.
-/
import Derived.Test.YthhdhhebelmimaaFltH
import Derived.Test.YthhdhhebelmimaaFltF
namespace Go.Proofs.Ythhdhhebelmimaa.Flt
open Go.RowKit
set_option linter.unusedVariables false
set_option linter.unusedSimpArgs false

theorem places_walk (s : ByteArray) (a : Int) (w : World) (hs : s.size ≤ 9223372036854775807) (_a0 : -9223372036854775808 ≤ a) (_a1 : a ≤ 9223372036854775807) :
    Calls Try.prog 3 #[.string s, .int .i64 a] w fun e w' => e = .returned (.bool true) ∧ Below w.heap.size w w' := by
  have cg := goes_any
  by_cases hbig : 2000 < (s.size : Int)
  · go_enter Try.func3, Try.ntmps3
    go_wp2_with (go_at_call 5; ((with_reducible refine (cg _).mono ?_); rintro e w1 ⟨rfl, hb1⟩))
    go_ret
    exact ⟨rfl, hb1⟩
  · have c1 := fun (w : World) => where_any s a w (by omega)
    have c2 := fun (w : World) => refWhere_any s a w (by omega)
    have c3 := fun (w : World) => mark_any s a w (by omega)
    have c4 := fun (w : World) => refMark_any s a w (by omega)
    have hk := clampN_le s.size a
    have hL := ln_le (s.data.toList.take (clampN s.size a))
    have hT := tl_le (s.data.toList.take (clampN s.size a))
    have htk : (s.data.toList.take (clampN s.size a)).length = clampN s.size a := by rw [List.length_take, len_list]; omega
    rw [htk] at hL hT
    obtain ⟨M, hM⟩ : ∃ M, BA (markL s.data.toList (clampN s.size a)) = M := ⟨_, rfl⟩
    rw [hM] at c3 c4
    obtain ⟨K, hK⟩ : ∃ K, clampN s.size a = K := ⟨_, rfl⟩
    rw [hK] at c1 c2
    generalize ln (s.data.toList.take K) + 1 = x at *
    generalize tl (s.data.toList.take K) + 1 = y at *
    clear hk hL hT htk hM hK
    go_enter Try.func3, Try.ntmps3
    go_wp2_with (first
      | (go_at_call 6; ((with_reducible refine (c1 _).mono ?_); rintro e w1 ⟨rfl, rfl⟩))
      | (go_at_call 7; ((with_reducible refine (c2 _).mono ?_); rintro e w1 ⟨rfl, rfl⟩))
      | (go_at_call 8; ((with_reducible refine (c3 _).mono ?_); rintro e w2 ⟨rfl, hb2⟩))
      | (go_at_call 9; ((with_reducible refine (c4 _).mono ?_); rintro e w3 ⟨rfl, rfl⟩))
      | (go_at_call 5; ((with_reducible refine (cg _).mono ?_); rintro e w4 ⟨rfl, hb4⟩)))
    go_ret
    exact ⟨rfl, bel_trans hb2 hb4⟩

theorem FBlk.drewN {w : World} {g : Nat} {A B : Int} (h : FBlk w g A B) (n : Nat) : FBlk (w.drewN n) g A B := h
set_option maxHeartbeats 4000000 in
theorem firsts_some (b o c : Nat) (Y : List (Int × Int)) (w : World) (hn : Y.length ≤ 500) (hb : b < w.heap.size) (h : RowF w b o Y) :
    Calls Try.prog 4 #[.slice (some ⟨b, o, none⟩) Y.length c] w fun e w' => e = .returned (.bool true) ∧ Below w.heap.size w w' := by
  have cg := goes_any
  have c1 := first_some b o c Y w (by omega) hb h
  have H := Lib.hid h
  clear h
  have F0 := Lib.hid foldF_nil
  have FS := Lib.hid (foldF_snoc Y)
  obtain ⟨P, Q, R, hR⟩ : ∃ P Q R, foldF Y = (P, Q, R) := ⟨_, _, _, rfl⟩
  have FE : Hid (foldF (Y.take Y.length) = (P, Q, R)) := by rw [List.take_length]; exact hR
  rw [hR] at c1
  clear hR
  go_enter Try.func4, Try.ntmps4
  go_wp2_with (go_at_call 10; ((with_reducible refine c1.mono ?_); rintro e w1 ⟨rfl, hb1⟩))
  have hsz := hb1.size
  go_loopw [6, 7] (fun f i wr0 => ∃ (wr : World) (k : Nat) (A B : Int) (F : Bool), wr = wr0 ∧ k ≤ Y.length ∧ f = .bool F ∧ i = .int .i64 k ∧ Below w.heap.size w wr ∧ FBlk wr w1.heap.size P Q ∧ FBlk wr (w1.heap.size + 1) A B ∧ Hid (foldF (Y.take k) = (A, B, F))) (fun _ i _ => Y.length - (intOf i).toNat)
  case atStart =>
    refine ⟨_, 0, 0, 0, false, rfl, by omega, rfl, rfl, (hb1.alloc hsz _).alloc (by simp; omega) _, ?_, ?_, by rw [List.take_zero]; exact F0.out⟩
    · exact (heap_alloc_old _ _ (by simp)).trans (heap_alloc_new _ _)
    · have := heap_alloc_new (w1.alloc (.cells #[.int .i64 P, .int .i64 Q] 30)) (.cells #[.int .i64 0, .int .i64 0] 30)
      simpa [FBlk] using this
  case round =>
    obtain ⟨wr, k, A, B, F, rfl, hk, rfl, rfl, hB, hG, hL, hF⟩ := hrel
    by_cases hlt : k < Y.length
    · have hrow := H.out k hlt
      have hst := FS.out k hlt
      rw [hF.out] at hst
      obtain ⟨p, q, hpq⟩ : ∃ p q, Y[k] = (p, q) := ⟨_, _, rfl⟩
      rw [hpq] at hrow hst
      have y0 : wr.cell? ⟨b, o + k * 2, none⟩ = some (.int .i64 p) := (hB.cell hb).trans hrow.1
      have y1 : wr.cell? ⟨b, o + k * 2 + 1, none⟩ = some (.int .i64 q) := (hB.cell hb).trans hrow.2
      have hk0 : 0 ≤ (k : Int) := by omega
      have hk1 : (k : Int) < (Y.length : Int) := by omega
      have l0 := hL.c0
      have l1 := hL.c1
      have z0 := hL.free 0
      have z1 := hL.free 1
      clear hrow hpq H F0 FS FE
      have HF := Lib.hid hst
      clear hst hF
      by_cases hp : p = 0
      · subst hp
        have HF2 : Hid (foldF (Y.take (k + 1)) = (A, B, F)) := HF.out.trans (by simp [stepF])
        clear HF
        go_wp2
        go_quiet (fail)
        go_wp2
        go_roundw
        case rel => exact ⟨_, k + 1, A, B, F, rfl, by omega, rfl, by go_num, below_drewN hB _, hG, hL, HF2⟩
        case measure => simp [intOf]; omega
      · have hpb : (p != 0) = true := by simpa using hp
        by_cases hf : F = false ∨ q < B
        · have HF2 : Hid (foldF (Y.take (k + 1)) = (p, q, true)) := HF.out.trans (by simp only [stepF]; rw [if_pos ⟨hp, hf⟩])
          have e1 := fun n => (hL.drewN n).put p q
          have e2 : ∀ n, FBlk (((wr.drewN n).setCell ⟨w1.heap.size + 1, 0, none⟩ (.int .i64 p)).setCell ⟨w1.heap.size + 1, 1, none⟩ (.int .i64 q)) w1.heap.size P Q := fun n => by
            have HG := hG.drewN n
            unfold FBlk at HG ⊢
            rw [Below.heap_setCell _ _ _ _ (by simp), Below.heap_setCell _ _ _ _ (by simp)]; exact HG
          have e3 := fun n => ((below_drewN hB n).setCell (p := ⟨w1.heap.size + 1, 0, none⟩) (by simp; omega) (.int .i64 p)).setCell (p := ⟨w1.heap.size + 1, 1, none⟩) (by simp; omega) (.int .i64 q)
          clear HF
          cases F with
          | false =>
            clear hf
            go_wp2
            go_quiet (fail)
            go_wp2
            go_roundw
            case rel => exact ⟨_, k + 1, p, q, true, rfl, by omega, rfl, by go_num, e3 _, e2 _, e1 _, HF2⟩
            case measure => simp [intOf]; omega
          | true =>
            have hf2 : q < B := by simpa using hf
            clear hf
            go_wp2
            go_quiet (fail)
            go_wp2
            go_roundw
            case rel => exact ⟨_, k + 1, p, q, true, rfl, by omega, rfl, by go_num, e3 _, e2 _, e1 _, HF2⟩
            case measure => simp [intOf]; omega
        · have HF2 : Hid (foldF (Y.take (k + 1)) = (A, B, F)) := HF.out.trans (by simp only [stepF]; rw [if_neg (fun h => hf h.2)])
          clear HF
          have hFt : F = true := by cases F <;> simp_all
          subst hFt
          have hf2 : ¬ q < B := by simpa using hf
          clear hf
          go_wp2
          go_quiet (fail)
          go_wp2
          go_roundw
          case rel => exact ⟨_, k + 1, A, B, true, rfl, by omega, rfl, by go_num, below_drewN hB _, hG, hL, HF2⟩
          case measure => simp [intOf]; omega
    · obtain rfl : k = Y.length := by omega
      have hres := Lib.hid (hF.out.symm.trans FE.out)
      have l0 := hL.c0
      have l1 := hL.c1
      have r0 := hG.c0
      have r1 := hG.c1
      clear FE FS F0 H hF hG hL
      simp only [Hid, Prod.mk.injEq] at hres
      obtain ⟨rfl, rfl, rfl⟩ := hres
      go_wp2_with (go_at_call 5; ((with_reducible refine (cg _).mono ?_); rintro e w4 ⟨rfl, hb4⟩))
      go_ret
      exact ⟨rfl, hB.trans (hb4.mono hB.size)⟩

theorem firsts_none (a : Option Addr) (c : Nat) (w : World) :
    Calls Try.prog 4 #[.slice a 0 c] w fun e w' => e = .returned (.bool true) ∧ Below w.heap.size w w' := by
  have cg := goes_any
  have c1 := first_none a c w
  go_enter Try.func4, Try.ntmps4
  go_wp2_with (go_at_call 10; ((with_reducible refine c1.mono ?_); rintro e w1 ⟨rfl, hb1⟩))
  have hsz := hb1.size
  go_loopw [6, 7] (fun f i wr0 => ∃ (wr : World), wr = wr0 ∧ f = .bool false ∧ i = .int .i64 0 ∧ Below w.heap.size w wr ∧ FBlk wr w1.heap.size 0 0 ∧ FBlk wr (w1.heap.size + 1) 0 0) (fun _ i _ => 0)
  case atStart =>
    refine ⟨_, rfl, rfl, rfl, (hb1.alloc hsz _).alloc (by simp; omega) _, ?_, ?_⟩
    · exact (heap_alloc_old _ _ (by simp)).trans (heap_alloc_new _ _)
    · have := heap_alloc_new (w1.alloc (.cells #[.int .i64 0, .int .i64 0] 30)) (.cells #[.int .i64 0, .int .i64 0] 30)
      simpa [FBlk] using this
  case round =>
    obtain ⟨wr, rfl, rfl, rfl, hB, hG, hL⟩ := hrel
    have l0 := hL.c0
    have l1 := hL.c1
    have r0 := hG.c0
    have r1 := hG.c1
    clear hG hL
    go_wp2_with (go_at_call 5; ((with_reducible refine (cg _).mono ?_); rintro e w4 ⟨rfl, hb4⟩))
    go_ret
    exact ⟨rfl, hB.trans (hb4.mono hB.size)⟩
theorem firsts_walk (a : Option Addr) (n c : Nat) (Y : List (Int × Int)) (w : World) (hn : n ≤ 9223372036854775807) (h : IsF w a n Y) :
    Calls Try.prog 4 #[.slice a n c] w fun e w' => e = .returned (.bool true) ∧ Below w.heap.size w w' := by
  by_cases hbig : 500 < (n : Int)
  · have cg := goes_any
    clear h
    go_enter Try.func4, Try.ntmps4
    go_wp2_with (go_at_call 5; ((with_reducible refine (cg _).mono ?_); rintro e w1 ⟨rfl, hb1⟩))
    go_ret
    exact ⟨rfl, hb1⟩
  · obtain ⟨rfl, h⟩ := h
    by_cases h0 : Y = []
    · subst h0
      exact firsts_none a c w
    · obtain ⟨b, o, rfl, hb, hr⟩ := h (List.length_pos_iff.2 h0)
      exact firsts_some b o c Y w (by omega) hb hr
end Go.Proofs.Ythhdhhebelmimaa.Flt
