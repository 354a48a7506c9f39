/-
  No cell of these rows narrows 'for every input' (looked for: loops, veiled, ifaces, maps, wideKeys, modest, calm, conditions, laid).
  DERIVED. THE GIVEN ROWS OF THIS SEAT. 5 by the template 'for every input the law returns true; each argument reads behind the call as it read before'; 0 by the template 'total and deterministic' (their statements: YtfamlimnanehnaaTotals.lean).
  GIVEN WITH THE SEED: the statements are not yours to turn. If you find one false, say at which input.
  Laid BY PROGRAM, IN A SANDBOX (cutbox-rows.mjs): the forced cells as the released guide's own fill.sh prints them over the translation c6f0efea0fe0d967… (all of the seat's roots in one cut). By AI agents, Wed Nov 11 2026. No macro, syntax, notation, axiom, sorry.
-/
import Derived.Test.YtfamlimnanehnaaChecked
import GoSem.Claim
import GoSem.ClaimJoined
import GoSem.ClaimMapViews
import Derived.JoinedTies
import Derived.KernelRfl
namespace Go.Proofs.Ytfamlimnanehnaa
/- THE CELL 'sum', in the pinned program and in every row, IS THE sha256 OF THE DUMP (.gsa) THAT YtfamlimnanehnaaProg.lean LOADS. Nothing in Lean hashes anything: it is a label: what it is worth is what the hold of that sum in a sandbox is worth. -/
noncomputable def Try.pinned : Pinned := { name := "ytfamlimnanehnaa", sum := "c6f0efea0fe0d967056e336959f3752a74d77a37f74c389793a0aa85876fba80", checked := Try.checked }
namespace Rows
def none {H : Type} : Left H := { results := [], args := [] }

/-- 'sequiturlaw05.SortsRight': WHATEVER THE INPUT: true; the input reads as it did. -/
def sortsRightSpec : ChangeSpec := { name := "sortsRight", fn := fun _ => fun
  | [d] => { results := [.lit (.bool true)], args := [d] }
  | _ => none }
def sortsRightRow : OpenClaim := { program := "ytfamlimnanehnaa", sum := "c6f0efea0fe0d967056e336959f3752a74d77a37f74c389793a0aa85876fba80", func := "sequitur/sequiturlaw05.SortsRight", spec := "sortsRight", unfollowed := true, recurses := true, apart := false }
def SortsRightSaid : Prop := sortsRightRow.holds Try.pinned (OpenSpec.ofChange sortsRightSpec)

/-- ITS FALSE NEIGHBOUR: 'it returns false'. Refute it at one input. -/
def sortsRightWrong : ChangeSpec := { name := "sortsRight", fn := fun _ => fun
  | [d] => { results := [.lit (.bool false)], args := [d] }
  | _ => none }
def SortsRightWrongFalsely : Prop := sortsRightRow.holds Try.pinned (OpenSpec.ofChange sortsRightWrong)

/-- 'sequiturlaw05.SortsPut': WHATEVER THE INPUT: true; the input reads as it did. -/
def sortsPutSpec : ChangeSpec := { name := "sortsPut", fn := fun _ => fun
  | [d1, d2] => { results := [.lit (.bool true)], args := [d1, d2] }
  | _ => none }
def sortsPutRow : OpenClaim := { program := "ytfamlimnanehnaa", sum := "c6f0efea0fe0d967056e336959f3752a74d77a37f74c389793a0aa85876fba80", func := "sequitur/sequiturlaw05.SortsPut", spec := "sortsPut", unfollowed := true, recurses := true, apart := false }
def SortsPutSaid : Prop := sortsPutRow.holds Try.pinned (OpenSpec.ofChange sortsPutSpec)

/-- ITS FALSE NEIGHBOUR: 'it returns false'. Refute it at one input. -/
def sortsPutWrong : ChangeSpec := { name := "sortsPut", fn := fun _ => fun
  | [d1, d2] => { results := [.lit (.bool false)], args := [d1, d2] }
  | _ => none }
def SortsPutWrongFalsely : Prop := sortsPutRow.holds Try.pinned (OpenSpec.ofChange sortsPutWrong)

/-- 'sequiturlaw05.SortsPlaces': WHATEVER THE INPUT: true; the input reads as it did. -/
def sortsPlacesSpec : ChangeSpec := { name := "sortsPlaces", fn := fun _ => fun
  | [d1, d2] => { results := [.lit (.bool true)], args := [d1, d2] }
  | _ => none }
def sortsPlacesRow : OpenClaim := { program := "ytfamlimnanehnaa", sum := "c6f0efea0fe0d967056e336959f3752a74d77a37f74c389793a0aa85876fba80", func := "sequitur/sequiturlaw05.SortsPlaces", spec := "sortsPlaces", unfollowed := true, recurses := true, apart := false }
def SortsPlacesSaid : Prop := sortsPlacesRow.holds Try.pinned (OpenSpec.ofChange sortsPlacesSpec)

/-- ITS FALSE NEIGHBOUR: 'it returns false'. Refute it at one input. -/
def sortsPlacesWrong : ChangeSpec := { name := "sortsPlaces", fn := fun _ => fun
  | [d1, d2] => { results := [.lit (.bool false)], args := [d1, d2] }
  | _ => none }
def SortsPlacesWrongFalsely : Prop := sortsPlacesRow.holds Try.pinned (OpenSpec.ofChange sortsPlacesWrong)

/-- 'sequiturlaw05.SortsKeeps': WHATEVER THE INPUT: true; the input reads as it did. -/
def sortsKeepsSpec : ChangeSpec := { name := "sortsKeeps", fn := fun _ => fun
  | [d1, d2] => { results := [.lit (.bool true)], args := [d1, d2] }
  | _ => none }
def sortsKeepsRow : OpenClaim := { program := "ytfamlimnanehnaa", sum := "c6f0efea0fe0d967056e336959f3752a74d77a37f74c389793a0aa85876fba80", func := "sequitur/sequiturlaw05.SortsKeeps", spec := "sortsKeeps", unfollowed := true, recurses := true, apart := false }
def SortsKeepsSaid : Prop := sortsKeepsRow.holds Try.pinned (OpenSpec.ofChange sortsKeepsSpec)

/-- ITS FALSE NEIGHBOUR: 'it returns false'. Refute it at one input. -/
def sortsKeepsWrong : ChangeSpec := { name := "sortsKeeps", fn := fun _ => fun
  | [d1, d2] => { results := [.lit (.bool false)], args := [d1, d2] }
  | _ => none }
def SortsKeepsWrongFalsely : Prop := sortsKeepsRow.holds Try.pinned (OpenSpec.ofChange sortsKeepsWrong)

/-- 'sequiturlaw05.SortsFull': WHATEVER THE INPUT: true; the input reads as it did. -/
def sortsFullSpec : ChangeSpec := { name := "sortsFull", fn := fun _ => fun
  | [d] => { results := [.lit (.bool true)], args := [d] }
  | _ => none }
def sortsFullRow : OpenClaim := { program := "ytfamlimnanehnaa", sum := "c6f0efea0fe0d967056e336959f3752a74d77a37f74c389793a0aa85876fba80", func := "sequitur/sequiturlaw05.SortsFull", spec := "sortsFull", unfollowed := true, recurses := true, apart := false }
def SortsFullSaid : Prop := sortsFullRow.holds Try.pinned (OpenSpec.ofChange sortsFullSpec)

/-- ITS FALSE NEIGHBOUR: 'it returns false'. Refute it at one input. -/
def sortsFullWrong : ChangeSpec := { name := "sortsFull", fn := fun _ => fun
  | [d] => { results := [.lit (.bool false)], args := [d] }
  | _ => none }
def SortsFullWrongFalsely : Prop := sortsFullRow.holds Try.pinned (OpenSpec.ofChange sortsFullWrong)

/- THE SECOND FORM. 'bulk': how many values and letters a reading holds, each counted each time it is reached (what is shared counts as often as it is met; a slice's spare places count too). A statement '..UptoSaid' is the law's where the arguments, and the package variables that the reading takes, are together of bulk at most 1048576: NARROWER than '..Said'. Prove '..Said' where nothing that the law and all that it calls make is longer than what came in: it says more and counts as full. Else prove '..UptoSaid'. A law counts once. -/
mutual
def uptoBulk {H : Type} : DataW H → Nat
  | .lit (.string bytes) => bytes.length + 1
  | .lit _ => 1
  | .nil => 1
  | .ptr d => uptoBulk d + 1
  | .slice elems spare => uptoBulkAll elems + uptoBulkAll spare + 1
  | .agg parts => uptoBulkAll parts + 1
  | .iface _ d => uptoBulk d + 1
  | .map entries => uptoBulkEntries entries + 1
  | .held _ => 1
def uptoBulkAll {H : Type} : List (DataW H) → Nat
  | [] => 0
  | d :: r => uptoBulk d + uptoBulkAll r
def uptoBulkEntries {H : Type} : List (Lit × DataW H) → Nat
  | [] => 0
  | x :: r => uptoBulkEntry x + uptoBulkEntries r
def uptoBulkEntry {H : Type} : Lit × DataW H → Nat
  | (.string bytes, d) => bytes.length + uptoBulk d + 1
  | (_, d) => uptoBulk d + 1
 end
def uptoSmall : (H : Type) → List (DataW H) → Bool := fun _ ds => decide (uptoBulkAll ds ≤ 1048576)
def OpenSpec.upto (s : _root_.Go.ChangeSpec) : _root_.Go.OpenSpec := { _root_.Go.OpenSpec.ofChange s with cond := some uptoSmall }

/-- 'sequiturlaw05.SortsRight', WHERE WHAT IT READS IS OF BULK AT MOST 1048576: true; the input reads as it did. -/
def sortsRightUptoRow : OpenClaim := { program := "ytfamlimnanehnaa", sum := "c6f0efea0fe0d967056e336959f3752a74d77a37f74c389793a0aa85876fba80", func := "sequitur/sequiturlaw05.SortsRight", spec := "sortsRight", unfollowed := true, recurses := true, apart := false, narrowed := true }
def SortsRightUptoSaid : Prop := sortsRightUptoRow.holds Try.pinned (OpenSpec.upto sortsRightSpec)

/-- 'sequiturlaw05.SortsPut', WHERE WHAT IT READS IS OF BULK AT MOST 1048576: true; the input reads as it did. -/
def sortsPutUptoRow : OpenClaim := { program := "ytfamlimnanehnaa", sum := "c6f0efea0fe0d967056e336959f3752a74d77a37f74c389793a0aa85876fba80", func := "sequitur/sequiturlaw05.SortsPut", spec := "sortsPut", unfollowed := true, recurses := true, apart := false, narrowed := true }
def SortsPutUptoSaid : Prop := sortsPutUptoRow.holds Try.pinned (OpenSpec.upto sortsPutSpec)

/-- 'sequiturlaw05.SortsPlaces', WHERE WHAT IT READS IS OF BULK AT MOST 1048576: true; the input reads as it did. -/
def sortsPlacesUptoRow : OpenClaim := { program := "ytfamlimnanehnaa", sum := "c6f0efea0fe0d967056e336959f3752a74d77a37f74c389793a0aa85876fba80", func := "sequitur/sequiturlaw05.SortsPlaces", spec := "sortsPlaces", unfollowed := true, recurses := true, apart := false, narrowed := true }
def SortsPlacesUptoSaid : Prop := sortsPlacesUptoRow.holds Try.pinned (OpenSpec.upto sortsPlacesSpec)

/-- 'sequiturlaw05.SortsKeeps', WHERE WHAT IT READS IS OF BULK AT MOST 1048576: true; the input reads as it did. -/
def sortsKeepsUptoRow : OpenClaim := { program := "ytfamlimnanehnaa", sum := "c6f0efea0fe0d967056e336959f3752a74d77a37f74c389793a0aa85876fba80", func := "sequitur/sequiturlaw05.SortsKeeps", spec := "sortsKeeps", unfollowed := true, recurses := true, apart := false, narrowed := true }
def SortsKeepsUptoSaid : Prop := sortsKeepsUptoRow.holds Try.pinned (OpenSpec.upto sortsKeepsSpec)

/-- 'sequiturlaw05.SortsFull', WHERE WHAT IT READS IS OF BULK AT MOST 1048576: true; the input reads as it did. -/
def sortsFullUptoRow : OpenClaim := { program := "ytfamlimnanehnaa", sum := "c6f0efea0fe0d967056e336959f3752a74d77a37f74c389793a0aa85876fba80", func := "sequitur/sequiturlaw05.SortsFull", spec := "sortsFull", unfollowed := true, recurses := true, apart := false, narrowed := true }
def SortsFullUptoSaid : Prop := sortsFullUptoRow.holds Try.pinned (OpenSpec.upto sortsFullSpec)

end Rows
end Go.Proofs.Ytfamlimnanehnaa
