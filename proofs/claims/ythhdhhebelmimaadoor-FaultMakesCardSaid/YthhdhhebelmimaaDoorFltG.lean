/-
  What is proved: the page's examples come.
-/
import Derived.Test.YthhdhhebelmimaaDoorFltE
namespace Go.Proofs.YthhdhhebelmimaaDoor.Flt
open Go.RowKit
set_option linter.unusedVariables false
set_option linter.unusedSimpArgs false

theorem make712 (w : World) : Calls Tryd.prog 6 #[.int .i64 7, .int .i64 12] w fun e w' => e = .returned (.iface 22 (.pointer (some ⟨w.heap.size, 0, none⟩))) ∧ w' = w.alloc (.cells #[.int .i64 7, .int .i64 12] 32) := by
  go_enter Tryd.func6, Tryd.ntmps6
  go_wp2
  go_ret
  exact ⟨rfl, rfl⟩
theorem within_any (T : TypeId) (v : Value) (s : ByteArray) (w : World) : Calls Tryd.prog 12 #[.iface T v, .string s] w fun e w' => e = .returned (.iface 56 (.pointer (some ⟨w.heap.size, 0, none⟩))) ∧ w' = w.alloc (.cells #[.string s, .iface T v] 58) := by
  go_enter Tryd.func12, Tryd.ntmps12
  go_wp2
  go_ret
  exact ⟨rfl, rfl⟩
theorem mErrW (n : Nat) (v : Value) (w : World) : (Go.method (n + 1) 56 v "Error").run Tryd.prog w = .ok (99, v) w := by kernel_rfl
theorem mark_ex (w : World) : Calls Tryd.prog 18 #[.string ⟨#[97, 10, 98, 99]⟩, .int .i64 3] w fun e w' => e = .returned (.string ⟨#[98, 99, 10, 32, 94]⟩) ∧ Below w.heap.size w w' :=
  mark_any ⟨#[97, 10, 98, 99]⟩ 3 w (by decide)
theorem goes_any (w : World) : Calls Tryd.prog 9 #[] w fun e w' => e = .returned (.bool true) ∧ Below w.heap.size w w' := by
  have c1 := make712
  have c3 := mark_ex
  have hm := mErrW
  obtain ⟨W1, hW1⟩ : ∃ W1, (w.alloc (.cells #[.int .i64 7, .int .i64 12] 32)).alloc (.cells #[.string lineB0, .iface 22 (.pointer (some ⟨w.heap.size, 0, none⟩))] 58) = W1 := ⟨_, rfl⟩
  have hB : Below w.heap.size w W1 := by rw [← hW1]; exact ((Below.refl _ _).alloc (Nat.le_refl _) _).alloc (by simp) _
  have ce := within_error (w.heap.size + 1) w.heap.size W1 (by rw [← hW1, World.cell?_alloc_at _ _ _ _ (by simp)]; rfl) (by rw [← hW1, World.cell?_alloc_at _ _ _ _ (by simp)]; rfl) (by rw [← hW1]; simp) (by rw [← hW1]; simp; omega)
    (by rw [← hW1, World.cell?_alloc_lt _ _ _ (by simp), World.cell?_alloc_at _ _ _ _ (by simp)]; rfl) (by rw [← hW1, World.cell?_alloc_lt _ _ _ (by simp), World.cell?_alloc_at _ _ _ _ (by simp)]; rfl)
  have c2 : Calls Tryd.prog 12 #[.iface 22 (.pointer (some ⟨w.heap.size, 0, none⟩)), .string ⟨#[108, 105, 110, 101]⟩] (w.alloc (.cells #[.int .i64 7, .int .i64 12] 32)) fun e w' => e = .returned (.iface 56 (.pointer (some ⟨w.heap.size + 1, 0, none⟩))) ∧ w' = W1 := by
    have h := within_any 22 (.pointer (some ⟨w.heap.size, 0, none⟩)) lineB0 (w.alloc (.cells #[.int .i64 7, .int .i64 12] 32))
    refine h.mono fun e w' ⟨h1, h2⟩ => ⟨?_, h2.trans hW1⟩
    rw [h1]; simp
  have Hw := Lib.hid hW1
  clear hW1
  have hx : exText.toList = [108, 105, 110, 101, 58, 32, 101, 114, 114, 111, 114, 32, 55, 32, 97, 116, 32, 49, 50] := by rw [ByteArray.toList_eq]; rfl
  go_enter Tryd.func9, Tryd.ntmps9
  go_wp2_with (first
    | (go_at_call 6; ((with_reducible refine (c1 _).mono ?_); rintro e w1 ⟨rfl, rfl⟩))
    | (go_at_call 12; ((with_reducible refine c2.mono ?_); rintro e w1 ⟨rfl, rfl⟩))
    | (go_at_call 99; ((with_reducible refine ce.mono ?_); rintro e w2 ⟨rfl, hb2⟩))
    | (go_at_call 18; ((with_reducible refine (c3 _).mono ?_); rintro e w3 ⟨rfl, hb3⟩)))
  go_ret
  exact ⟨rfl, (hB.trans (hb2.mono hB.size)).trans (hb3.mono (Nat.le_trans hB.size hb2.size))⟩
end Go.Proofs.YthhdhhebelmimaaDoor.Flt
