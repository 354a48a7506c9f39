/-
  What is proved: the text of a fault with the number 7 at the offset 12, by itself and as an error that text() asks.
-/
import Derived.Test.YthhdhhebelmimaaDoorProg
import Derived.WalkKit
import Derived.Defers
import Derived.Recover
import Derived.Lib.Hide
import Derived.Below
import Derived.IntWalk
import Derived.Deep.RegionWith
import Derived.Deep.QuietTactic
import Derived.BigQuiet
import Derived.WalkSpells
import Derived.WalkLawsBesides
import Derived.Laws.ResultCell
import Derived.Deep.Draws
import Derived.RowKit
import Derived.RowKit3
import Derived.RowKitTokens
namespace Go.Proofs.YthhdhhebelmimaaDoor.Flt
open Go.RowKit
set_option linter.unusedVariables false
set_option linter.unusedSimpArgs false

theorem text7 (w : World) : Calls Tryd.prog 17 #[.int .i64 7] w fun e w' => e = .returned (.string ⟨#[55]⟩) ∧ w' = w := by
  go_enter Tryd.func17, Tryd.ntmps17
  go_wp2
  go_ret
  exact ⟨rfl, rfl⟩
set_option maxRecDepth 100000 in
theorem text12 (w : World) : Calls Tryd.prog 17 #[.int .i64 12] w fun e w' => e = .returned (.string ⟨#[49, 50]⟩) ∧ w' = w := by
  go_enter Tryd.func17, Tryd.ntmps17
  go_wp2
  go_ret
  exact ⟨rfl, rfl⟩
theorem rec_idle (w : World) :
    CallsD Tryd.prog 102 #[] .returning w fun e u' w' => e = .returned (.tuple #[]) ∧ u' = .returning ∧ w' = w := by
  refine callsD_of_wpS Tryd.func102 rfl fun c₀ cs hu => ?_
  apply wpS_region
  simp [wpOpsS, go_sem, recoverD, hu, Tryd.ntmps102, Exit.thenS, bodyPostS, results, Tryd.results102]
  cases c₀
  simp_all

def e712 : ByteArray := ⟨#[101, 114, 114, 111, 114, 32, 55, 32, 97, 116, 32, 49, 50]⟩
set_option maxRecDepth 100000 in
theorem error712 (b : Nat) (w : World) (h0 : w.cell? ⟨b, 0, none⟩ = some (.int .i64 7)) (h1 : w.cell? ⟨b, 1, none⟩ = some (.int .i64 12)) :
    Calls Tryd.prog 7 #[.pointer (some ⟨b, 0, none⟩)] w fun e w' => e = .returned (.string e712) ∧ ∃ n, w' = w.drewN n := by
  have c7 := text7
  have c12 := text12
  go_enter Tryd.func7, Tryd.ntmps7
  go_wp2
  go_quiet (first
    | (go_at_call 17; exact Calls.quiet_of_same (c7 _))
    | (go_at_call 17; exact Calls.quiet_of_same (c12 _)))
  go_wp2
  go_ret
  exact ⟨rfl, _, rfl⟩
end Go.Proofs.YthhdhhebelmimaaDoor.Flt
