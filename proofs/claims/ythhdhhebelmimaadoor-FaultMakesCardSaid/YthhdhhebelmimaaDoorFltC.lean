/-
  What is proved: an offset is brought into a text.
-/
import Derived.Test.YthhdhhebelmimaaDoorFltB
import Derived.Test.YthhdhhebelmimaaDoorFltM
import Derived.LoopTactic
import Derived.Outline
import Derived.WalkMore
import Derived.Deep.LoopGhost
namespace Go.Proofs.YthhdhhebelmimaaDoor.Flt
open Go.RowKit
set_option linter.unusedVariables false
set_option linter.unusedSimpArgs false

theorem bel_trans {a b c : World} (h : Below a.heap.size a b) (k : Below b.heap.size b c) : Below a.heap.size a c := h.trans (k.mono h.size)
def clampN (n : Nat) (at_ : Int) : Nat := if at_ < 0 then 0 else if at_ < n then at_.toNat else n
theorem clampN_le (n : Nat) (a : Int) : clampN n a ≤ n := by unfold clampN; split <;> (try split) <;> omega
theorem one {a b : Int} (h : a = b) : Ending.returned (Value.int .i64 a) = .returned (.int .i64 b) := by rw [h]
theorem clamp_any (s : ByteArray) (a : Int) (w : World) (hs : s.size ≤ 9223372036854775807) :
    Calls Tryd.prog 25 #[.string s, .int .i64 a] w fun e w' => e = .returned (.int .i64 (clampN s.size a)) ∧ w' = w := by
  obtain ⟨n, hn⟩ : ∃ n, Hid (clampN s.size a = n) := ⟨_, rfl⟩
  rw [hn.out]
  go_enter Tryd.func25, Tryd.ntmps25
  go_wp2
  all_goals
    have hn2 : clampN s.size a = n := hn.out
    unfold clampN at hn2
    go_ret
    refine ⟨one ?_, rfl⟩
    rw [← hn2]
    repeat' split
    all_goals omega
end Go.Proofs.YthhdhhebelmimaaDoor.Flt
