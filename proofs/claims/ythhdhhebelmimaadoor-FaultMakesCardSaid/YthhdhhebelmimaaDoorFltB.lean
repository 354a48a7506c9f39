/-
  What is proved: what text() returns of a fault with the number 7 at the offset 12.
-/
import Derived.Test.YthhdhhebelmimaaDoorFltA
namespace Go.Proofs.YthhdhhebelmimaaDoor.Flt
open Go.RowKit
set_option linter.unusedVariables false
set_option linter.unusedSimpArgs false

theorem mErrF (n : Nat) (v : Value) (w : World) : (Go.method (n + 1) 22 v "Error").run Tryd.prog w = .ok (7, v) w := by kernel_rfl
theorem text_712 (b : Nat) (w : World) (h0 : w.cell? ⟨b, 0, none⟩ = some (.int .i64 7)) (h1 : w.cell? ⟨b, 1, none⟩ = some (.int .i64 12)) :
    Calls Tryd.prog 101 #[.iface 22 (.pointer (some ⟨b, 0, none⟩))] w fun e w' => e = .returned (.string e712) ∧ ∃ n, w' = w.drewN n := by
  have cE := fun (w : World) => error712 b w
  have hm := mErrF
  go_enter_defers Tryd.func101, Tryd.ntmps101
  go_wp2_with ((go_at_call 7; ((with_reducible refine (cE _ h0 h1).mono ?_); rintro e w1 ⟨rfl, hb⟩)))
  refine leaves_cons (f := 102) (args := #[]) (by simp) (by simp [go_sem]) ?_
  refine (rec_idle _).mono ?_
  rintro e u' w'' ⟨rfl, rfl, rfl⟩
  exact ⟨_, results_tmp rfl _ _ _, rfl, hb⟩
end Go.Proofs.YthhdhhebelmimaaDoor.Flt
