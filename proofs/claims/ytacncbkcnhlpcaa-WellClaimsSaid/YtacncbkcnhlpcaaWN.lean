/-
  What is proved: the library's Repeat of one text, at most twice.
  What is proved: the library's Repeat of one text, at most twice.
-/
import Derived.Test.YtacncbkcnhlpcaaWP
import Derived.Laws.CopyOwn
import Derived.RegionTactic
import Derived.ChangeAlike
namespace Go.Proofs.Ytacncbkcnhlpcaa.Wl
open Go.RowKit L T C
set_option linter.unusedVariables false
set_option linter.unusedSimpArgs false
set_option maxRecDepth 100000

theorem mul64_few (z : Int) (hz : z = 0 ∨ z = 1 ∨ z = 2) (w : World) :
    Calls Try.prog 109 #[.int .u64 1, .int .u64 z] w fun e w' => e = .returned (.tuple #[.int .u64 0, .int .u64 z]) ∧ w = w' := by
  rcases hz with rfl | rfl | rfl
  all_goals
    go_enter Try.func109, Try.ntmps109
    go_wp2
    simp [bodyPost, results, Try.results109, go_sem]
    first | rfl | decide | kernel_rfl
theorem mul_few (z : Int) (hz : z = 0 ∨ z = 1 ∨ z = 2) (w : World) :
    Calls Try.prog 100 #[.int .u64 1, .int .u64 z] w fun e w' => e = .returned (.tuple #[.int .u64 0, .int .u64 z]) ∧ w = w' := by
  have cM := fun (w : World) => mul64_few z hz w
  rcases hz with rfl | rfl | rfl
  all_goals
    go_enter Try.func100, Try.ntmps100
    go_wp2_with (go_at_call 109; ((with_reducible refine (cM _).mono ?_); rintro e w1 ⟨rfl, rfl⟩))
    simp [bodyPost, results, Try.results100, go_sem]
end Go.Proofs.Ytacncbkcnhlpcaa.Wl
namespace Go.Proofs.Ytacncbkcnhlpcaa.Wl
open Go.RowKit L T C
set_option linter.unusedVariables false
set_option linter.unusedSimpArgs false
set_option maxRecDepth 100000

theorem mk_strs (n : Nat) (hn : n ≤ 100) : ∃ K : List Value, K.length = n ∧ ∀ w : World, (Instr.makeSlice 22 (.int .i64 (n : Int)) (.int .i64 (n : Int))).run Try.prog w = .ok (.slice (some ⟨w.heap.size, 0, none⟩) n n) (w.alloc (.cells K.toArray 9)) := by
  obtain ⟨i0, hi, hz0, hz1, hz2⟩ := info_parts strI
  refine ⟨(madeCells (Value.string ⟨#[]⟩).cells (n * 1)).toList, by simp [madeCells], fun w => ?_⟩
  have hr := run_make (P := Try.prog) w 22 9 i0 _ Try.underlying22 hi hz0 .i64 .i64 n n (by omega) (by omega) (by rw [hz2]; omega) (by omega)
  simp only [Int.toNat_natCast, hz1] at hr
  exact hr
theorem strZ : (Try.prog.info? 9).map (·.size) = some 1 := by kernel_rfl
/-- copy of one text into a row of the call's own -/
theorem copy_one (w : World) (g off L c b o c' : Nat) (K : List Value) (s : ByteArray) (hg : w.heap[g]? = some (.cells K.toArray 9 (0, 0))) (hL : 0 < L) (hoff : off < K.length) (hc : w.cell? ⟨b, o, none⟩ = some (.string s)) :
    (Builtin.copy_ #[22, 22] 3 #[.slice (some ⟨g, off, none⟩) L c, .slice (some ⟨b, o, none⟩) 1 c']).run Try.prog w = .ok (.int .i64 1) (w.setRow g (splice K off [.string s]).toArray) := by
  have h := run_copy_row (P := Try.prog) w 22 22 3 9 g off L c ⟨b, o, none⟩ 1 c' K.toArray 9 [.string s] Try.underlying22 strZ hg (by simp [Nat.min_def]; omega)
    (fun j v hj => by match j, hj with | 0, hj => rw [Addr.add_lit]; simp at hj; rw [← hj]; exact hc) (by simp; omega) (fun v hv => by simp at hv; rw [hv]; rfl)
  rw [h]
  simp [splice, goInt]
theorem own_row {w : World} {g : Nat} {n : Nat} {s : ByteArray} (hg : w.heap[g]? = some (.cells (vsS (List.replicate n s)).toArray 9 (0, 0))) : SlS w (some ⟨g, 0, none⟩) n n (List.replicate n s) := by
  refine ⟨⟨by simp, fun _ => ⟨g, 0, rfl, (Array.getElem?_eq_some_iff.1 hg).1, fun k hk => ?_⟩⟩, Nat.le_refl _, fun h => by cases h⟩
  rw [Nat.zero_add, cell_of_row w g k _ _ _ hg]
  have hk2 : k < n := by simpa using hk
  simp [vsS, hk2]

theorem offR (w : World) (n : Nat) : ∀ g, g < w.heap.size → Sgn.Off g (some ⟨w.heap.size, 0, none⟩) n := fun g hg _ b o h => by
  injection h with h
  injection h with h
  omega
theorem repeat_0 (b : Nat) (o : Nat) (c : Nat) (s : ByteArray) (w : World) (hb : b < w.heap.size) (hc : w.cell? ⟨b, o, none⟩ = some (.string s)) :
    Calls Try.prog 82 #[.slice (some ⟨b, o, none⟩) 1 c, .int .i64 0] w fun e w' => ∃ A C, e = .returned (.slice A 0 C) ∧ SlS w' A 0 C (List.replicate 0 s) ∧ Below w.heap.size w w' ∧ ∀ g, g < w.heap.size → Sgn.Off g A 0 := by
  have cM := fun (w : World) => mul_few 0 (.inl rfl) w
  obtain ⟨K, hK, hmk⟩ := mk_strs 0 (by omega)
  have hmk2 : ∀ w : World, (Instr.makeSlice 22 (.int .i64 0) (.int .i64 0)).run Try.prog w = .ok (.slice (some ⟨w.heap.size, 0, none⟩) 0 0) (w.alloc (.cells K.toArray 9)) := hmk
  have hcp : ∀ w', (Builtin.copy_ #[22, 22] 3 #[.slice (some ⟨w.heap.size, 0, none⟩) 0 0, .slice (some ⟨b, o, none⟩) 1 c]).run Try.prog w' = .ok (.int .i64 0) w' := fun w' => run_copy_none (P := Try.prog) w' _ _ _ 9 _ _ 0 0 1 c Try.underlying22 strZ rfl
  have hB : Below w.heap.size w (w.alloc (.cells K.toArray 9)) := bel_alloc (Below.refl _ _) _
  have hS : SlS (w.alloc (.cells K.toArray 9)) (some ⟨w.heap.size, 0, none⟩) 0 0 (List.replicate 0 s) := ⟨IsS.nil _ _, Nat.le_refl _, fun h => by cases h⟩
  clear hmk
  have HB := Lib.hid hB
  have HS := Lib.hid hS
  clear hB hS
  go_enter Try.func82, Try.ntmps82
  go_wp2_with (go_at_call 100; ((with_reducible refine (cM _).mono ?_); rintro e w1 ⟨rfl, rfl⟩))
  refine wp_loop_rounds 1 ?_
  rw [rounds_succ]
  go_wp2
  go_ret
  exact ⟨_, _, rfl, HS.out, HB.out, offR w _⟩
theorem repeat_1 (b : Nat) (o : Nat) (c : Nat) (s : ByteArray) (w : World) (hb : b < w.heap.size) (hc : w.cell? ⟨b, o, none⟩ = some (.string s)) :
    Calls Try.prog 82 #[.slice (some ⟨b, o, none⟩) 1 c, .int .i64 1] w fun e w' => ∃ A C, e = .returned (.slice A 1 C) ∧ SlS w' A 1 C (List.replicate 1 s) ∧ Below w.heap.size w w' ∧ ∀ g, g < w.heap.size → Sgn.Off g A 1 := by
  have cM := fun (w : World) => mul_few 1 (.inr (.inl rfl)) w
  obtain ⟨K, hK, hmk⟩ := mk_strs 1 (by omega)
  have hmk2 : ∀ w : World, (Instr.makeSlice 22 (.int .i64 1) (.int .i64 1)).run Try.prog w = .ok (.slice (some ⟨w.heap.size, 0, none⟩) 1 1) (w.alloc (.cells K.toArray 9)) := hmk
  have hB : Below w.heap.size w (w.alloc (.cells K.toArray 9)) := bel_alloc (Below.refl _ _) _
  have hg := heap_alloc_new w (.cells K.toArray 9)
  have hcp := copy_one (w.alloc (.cells K.toArray 9)) w.heap.size 0 1 1 b o c K s hg (by omega) (by omega) ((hB.cell (p := ⟨b, o, none⟩) hb).trans hc)
  have hg2 := setRow_heap (w.alloc (.cells K.toArray 9)) w.heap.size _ (splice K 0 [.string s]).toArray _ _ hg
  have hsp : splice K 0 [.string s] = vsS (List.replicate 1 s) := by
    match K, hK with
    | [x], _ => rfl
  have hS := own_row (n := 1) (s := s) (by rw [← hsp]; exact hg2)
  have hB2 : Below w.heap.size w ((w.alloc (.cells K.toArray 9)).setRow w.heap.size (splice K 0 [.string s]).toArray) := below_setRow hB (Nat.le_refl _) _
  clear hmk hg hg2 hsp hB
  have HB := Lib.hid hB2
  have HS := Lib.hid hS
  clear hB2 hS
  go_enter Try.func82, Try.ntmps82
  go_wp2_with (go_at_call 100; ((with_reducible refine (cM _).mono ?_); rintro e w1 ⟨rfl, rfl⟩))
  refine wp_loop_rounds 1 ?_
  rw [rounds_succ]
  go_wp2
  go_ret
  exact ⟨_, _, rfl, HS.out, HB.out, offR w _⟩
theorem repeat_2 (b : Nat) (o : Nat) (c : Nat) (s : ByteArray) (w : World) (hb : b < w.heap.size) (hc : w.cell? ⟨b, o, none⟩ = some (.string s)) :
    Calls Try.prog 82 #[.slice (some ⟨b, o, none⟩) 1 c, .int .i64 2] w fun e w' => ∃ A C, e = .returned (.slice A 2 C) ∧ SlS w' A 2 C (List.replicate 2 s) ∧ Below w.heap.size w w' ∧ ∀ g, g < w.heap.size → Sgn.Off g A 2 := by
  have cM := fun (w : World) => mul_few 2 (.inr (.inr rfl)) w
  obtain ⟨K, hK, hmk⟩ := mk_strs 2 (by omega)
  have hmk2 : ∀ w : World, (Instr.makeSlice 22 (.int .i64 2) (.int .i64 2)).run Try.prog w = .ok (.slice (some ⟨w.heap.size, 0, none⟩) 2 2) (w.alloc (.cells K.toArray 9)) := hmk
  have hB : Below w.heap.size w (w.alloc (.cells K.toArray 9)) := bel_alloc (Below.refl _ _) _
  have hg := heap_alloc_new w (.cells K.toArray 9)
  have hcp := copy_one (w.alloc (.cells K.toArray 9)) w.heap.size 0 2 2 b o c K s hg (by omega) (by omega) ((hB.cell (p := ⟨b, o, none⟩) hb).trans hc)
  have hg2 := setRow_heap (w.alloc (.cells K.toArray 9)) w.heap.size _ (splice K 0 [.string s]).toArray _ _ hg
  obtain ⟨x, y, rfl⟩ : ∃ x y, K = [x, y] := by
    match K, hK with
    | [x, y], _ => exact ⟨x, y, rfl⟩
  have hsp : splice [x, y] 0 [.string s] = [.string s, y] := rfl
  rw [hsp] at hcp hg2
  have hB2 : Below w.heap.size w ((w.alloc (.cells [x, y].toArray 9)).setRow w.heap.size [.string s, y].toArray) := below_setRow hB (Nat.le_refl _) _
  obtain ⟨W2, hW2⟩ : ∃ W2, (w.alloc (.cells [x, y].toArray 9)).setRow w.heap.size [.string s, y].toArray = W2 := ⟨_, rfl⟩
  rw [hW2] at hcp hg2 hB2
  have hgd : W2.drew.heap[w.heap.size]? = some (.cells [.string s, y].toArray 9 (0, 0)) := hg2
  have c0 : W2.drew.cell? ⟨w.heap.size, 0, none⟩ = some (.string s) := by rw [cell_of_row _ _ 0 _ _ _ hgd]; rfl
  have hcp2 := copy_one W2.drew w.heap.size 1 1 1 w.heap.size 0 2 [.string s, y] s hgd (by omega) (by simp) c0
  have hsp2 : splice [.string s, y] 1 [.string s] = vsS (List.replicate 2 s) := rfl
  rw [hsp2] at hcp2
  have hg3 := setRow_heap W2.drew w.heap.size _ (vsS (List.replicate 2 s)).toArray _ _ hgd
  have hS := own_row (n := 2) (s := s) hg3
  have hB3 : Below w.heap.size w (W2.drew.setRow w.heap.size (vsS (List.replicate 2 s)).toArray) := below_setRow hB2.drew (Nat.le_refl _) _
  clear hmk hg hg2 hsp hsp2 hB hgd c0 hg3 hB2
  have HB := Lib.hid hB3
  have HS := Lib.hid hS
  clear hB3 hS
  go_enter Try.func82, Try.ntmps82
  go_wp2_with (go_at_call 100; ((with_reducible refine (cM _).mono ?_); rintro e w1 ⟨rfl, rfl⟩))
  refine wp_loop_rounds 2 ?_
  rw [rounds_succ]
  go_wp2
  go_region
  all_goals
    go_wp2
    rw [rounds_succ]
    go_wp2
    go_ret
    exact ⟨_, _, rfl, HS.out, HB.out, offR w _⟩
theorem repeat_few (b : Nat) (o : Nat) (c : Nat) (n : Nat) (s : ByteArray) (hn : n ≤ 2) (w : World) (hb : b < w.heap.size) (hc : w.cell? ⟨b, o, none⟩ = some (.string s)) :
    Calls Try.prog 82 #[.slice (some ⟨b, o, none⟩) 1 c, .int .i64 (n : Int)] w fun e w' => ∃ A C, e = .returned (.slice A n C) ∧ SlS w' A n C (List.replicate n s) ∧ Below w.heap.size w w' ∧ ∀ g, g < w.heap.size → Sgn.Off g A n := by
  rcases (by omega : n = 0 ∨ n = 1 ∨ n = 2) with rfl | rfl | rfl
  · exact repeat_0 b o c s w hb hc
  · exact repeat_1 b o c s w hb hc
  · exact repeat_2 b o c s w hb hc
end Go.Proofs.Ytacncbkcnhlpcaa.Wl
