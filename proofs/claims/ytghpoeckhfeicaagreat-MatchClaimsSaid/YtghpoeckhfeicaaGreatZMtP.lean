/-
  What is proved: the document's Term of layer 11.
-/
import Derived.Test.YtghpoeckhfeicaaGreatZMtN
import Derived.Test.YtghpoeckhfeicaaGreatZMtG
namespace Go.Proofs.YtghpoeckhfeicaaGreat.Mt
open Go.RowKit L T C B U
set_option linter.unusedVariables false
set_option linter.unusedSimpArgs false

set_option maxHeartbeats 4000000 in
theorem told_yes (A : Option Addr) (n c : Nat) (w : World) : Calls Tryz.prog 47 #[.slice A n c, .bool true] w fun e w' => e = .returned (.tuple #[.slice A n c, .bool true]) ∧ w = w' := by
  go_enter Tryz.func47, Tryz.ntmps47
  go_wp2
  go_ret2
  exact ⟨rfl, rfl⟩
set_option maxHeartbeats 4000000 in
theorem told_no (A : Option Addr) (n c : Nat) (w : World) : Calls Tryz.prog 47 #[.slice A n c, .bool false] w fun e w' => e = .returned (.tuple #[.slice none 0 0, .bool false]) ∧ w = w' := by
  go_enter Tryz.func47, Tryz.ntmps47
  go_wp2
  go_ret2
  exact ⟨rfl, rfl⟩
/-- what told makes of an answer -/
def toldS (ok : Bool) (A : Option Addr) (n c : Nat) : Value := if ok then .slice A n c else .slice none 0 0
theorem told_any (ok : Bool) (A : Option Addr) (n c : Nat) (w : World) : Calls Tryz.prog 47 #[.slice A n c, .bool ok] w fun e w' => e = .returned (.tuple #[toldS ok A n c, .bool ok]) ∧ w = w' := by
  cases ok with
  | true => exact told_yes A n c w
  | false => exact told_no A n c w
theorem told_fin {r : Option (List Pr)} {w w' : World} {A : Option Addr} {n c : Nat} (h : ∀ l', r = some l' → UsW w' A n c l') (hb : Below w.heap.size w w') : RtPs r w (.returned (.tuple #[toldS r.isSome A n c, .bool r.isSome])) w' := by
  cases r with
  | none => exact ⟨none, 0, 0, rfl, UsW.nil _, hb⟩
  | some l => exact ⟨A, n, c, rfl, h l rfl, hb⟩
end Go.Proofs.YtghpoeckhfeicaaGreat.Mt
