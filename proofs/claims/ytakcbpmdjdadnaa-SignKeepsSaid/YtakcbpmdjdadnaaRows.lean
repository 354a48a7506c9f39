/-
  No cell of these rows narrows 'for every input' (looked for: loops, veiled, ifaces, maps, wideKeys, modest, calm, conditions, laid).
  DERIVED. THE GIVEN ROWS OF THIS SEAT. 5 by the template 'for every input the law returns true; each argument reads behind the call as it read before'; 0 by the template 'total and deterministic' (their statements: YtakcbpmdjdadnaaTotals.lean).
  GIVEN WITH THE SEED: the statements are not yours to turn. If you find one false, say at which input.
  Laid BY PROGRAM, IN A SANDBOX (cutbox-rows.mjs): the forced cells as the released guide's own fill.sh prints them over the translation ce2541a9ad4102a4… (all of the seat's roots in one cut). By AI agents, Wed Nov 11 2026. No macro, syntax, notation, axiom, sorry.
-/
import Derived.Test.YtakcbpmdjdadnaaChecked
import GoSem.Claim
import GoSem.ClaimJoined
import GoSem.ClaimMapViews
import Derived.JoinedTies
import Derived.KernelRfl
namespace Go.Proofs.Ytakcbpmdjdadnaa
/- THE CELL 'sum', in the pinned program and in every row, IS THE sha256 OF THE DUMP (.gsa) THAT YtakcbpmdjdadnaaProg.lean LOADS. Nothing in Lean hashes anything: it is a label: what it is worth is what the hold of that sum in a sandbox is worth. -/
noncomputable def Try.pinned : Pinned := { name := "ytakcbpmdjdadnaa", sum := "ce2541a9ad4102a4665069814271199515d72721cd0fea6fc3bf0760bb14ca4b", checked := Try.checked }
namespace Rows
def none {H : Type} : Left H := { results := [], args := [] }

/-- 'sequiturlaw06.SignRights': WHATEVER THE INPUT: true; the input reads as it did. -/
def signRightsSpec : ChangeSpec := { name := "signRights", fn := fun _ => fun
  | [d1, d2] => { results := [.lit (.bool true)], args := [d1, d2] }
  | _ => none }
def signRightsRow : OpenClaim := { program := "ytakcbpmdjdadnaa", sum := "ce2541a9ad4102a4665069814271199515d72721cd0fea6fc3bf0760bb14ca4b", func := "sequitur/sequiturlaw06.SignRights", spec := "signRights", unfollowed := true, recurses := true, apart := false }
def SignRightsSaid : Prop := signRightsRow.holds Try.pinned (OpenSpec.ofChange signRightsSpec)

/-- ITS FALSE NEIGHBOUR: 'it returns false'. Refute it at one input. -/
def signRightsWrong : ChangeSpec := { name := "signRights", fn := fun _ => fun
  | [d1, d2] => { results := [.lit (.bool false)], args := [d1, d2] }
  | _ => none }
def SignRightsWrongFalsely : Prop := signRightsRow.holds Try.pinned (OpenSpec.ofChange signRightsWrong)

/-- 'sequiturlaw06.SignPuts': WHATEVER THE INPUT: true; the input reads as it did. -/
def signPutsSpec : ChangeSpec := { name := "signPuts", fn := fun _ => fun
  | [d1, d2, d3] => { results := [.lit (.bool true)], args := [d1, d2, d3] }
  | _ => none }
def signPutsRow : OpenClaim := { program := "ytakcbpmdjdadnaa", sum := "ce2541a9ad4102a4665069814271199515d72721cd0fea6fc3bf0760bb14ca4b", func := "sequitur/sequiturlaw06.SignPuts", spec := "signPuts", unfollowed := true, recurses := true, apart := false }
def SignPutsSaid : Prop := signPutsRow.holds Try.pinned (OpenSpec.ofChange signPutsSpec)

/-- ITS FALSE NEIGHBOUR: 'it returns false'. Refute it at one input. -/
def signPutsWrong : ChangeSpec := { name := "signPuts", fn := fun _ => fun
  | [d1, d2, d3] => { results := [.lit (.bool false)], args := [d1, d2, d3] }
  | _ => none }
def SignPutsWrongFalsely : Prop := signPutsRow.holds Try.pinned (OpenSpec.ofChange signPutsWrong)

/-- 'sequiturlaw06.SignFinds': WHATEVER THE INPUT: true; the input reads as it did. -/
def signFindsSpec : ChangeSpec := { name := "signFinds", fn := fun _ => fun
  | [d1, d2, d3] => { results := [.lit (.bool true)], args := [d1, d2, d3] }
  | _ => none }
def signFindsRow : OpenClaim := { program := "ytakcbpmdjdadnaa", sum := "ce2541a9ad4102a4665069814271199515d72721cd0fea6fc3bf0760bb14ca4b", func := "sequitur/sequiturlaw06.SignFinds", spec := "signFinds", unfollowed := true, recurses := true, apart := false }
def SignFindsSaid : Prop := signFindsRow.holds Try.pinned (OpenSpec.ofChange signFindsSpec)

/-- ITS FALSE NEIGHBOUR: 'it returns false'. Refute it at one input. -/
def signFindsWrong : ChangeSpec := { name := "signFinds", fn := fun _ => fun
  | [d1, d2, d3] => { results := [.lit (.bool false)], args := [d1, d2, d3] }
  | _ => none }
def SignFindsWrongFalsely : Prop := signFindsRow.holds Try.pinned (OpenSpec.ofChange signFindsWrong)

/-- 'sequiturlaw06.SignKeeps': WHATEVER THE INPUT: true; the input reads as it did. -/
def signKeepsSpec : ChangeSpec := { name := "signKeeps", fn := fun _ => fun
  | [d1, d2, d3] => { results := [.lit (.bool true)], args := [d1, d2, d3] }
  | _ => none }
def signKeepsRow : OpenClaim := { program := "ytakcbpmdjdadnaa", sum := "ce2541a9ad4102a4665069814271199515d72721cd0fea6fc3bf0760bb14ca4b", func := "sequitur/sequiturlaw06.SignKeeps", spec := "signKeeps", unfollowed := true, recurses := true, apart := false }
def SignKeepsSaid : Prop := signKeepsRow.holds Try.pinned (OpenSpec.ofChange signKeepsSpec)

/-- ITS FALSE NEIGHBOUR: 'it returns false'. Refute it at one input. -/
def signKeepsWrong : ChangeSpec := { name := "signKeeps", fn := fun _ => fun
  | [d1, d2, d3] => { results := [.lit (.bool false)], args := [d1, d2, d3] }
  | _ => none }
def SignKeepsWrongFalsely : Prop := signKeepsRow.holds Try.pinned (OpenSpec.ofChange signKeepsWrong)

/-- 'sequiturlaw06.SignMany': WHATEVER THE INPUT: true; the input reads as it did. -/
def signManySpec : ChangeSpec := { name := "signMany", fn := fun _ => fun
  | [d] => { results := [.lit (.bool true)], args := [d] }
  | _ => none }
def signManyRow : OpenClaim := { program := "ytakcbpmdjdadnaa", sum := "ce2541a9ad4102a4665069814271199515d72721cd0fea6fc3bf0760bb14ca4b", func := "sequitur/sequiturlaw06.SignMany", spec := "signMany", unfollowed := true, recurses := true, apart := false }
def SignManySaid : Prop := signManyRow.holds Try.pinned (OpenSpec.ofChange signManySpec)

/-- ITS FALSE NEIGHBOUR: 'it returns false'. Refute it at one input. -/
def signManyWrong : ChangeSpec := { name := "signMany", fn := fun _ => fun
  | [d] => { results := [.lit (.bool false)], args := [d] }
  | _ => none }
def SignManyWrongFalsely : Prop := signManyRow.holds Try.pinned (OpenSpec.ofChange signManyWrong)

/- THE SECOND FORM. 'bulk': how many values and letters a reading holds, each counted each time it is reached (what is shared counts as often as it is met; a slice's spare places count too). A statement '..UptoSaid' is the law's where the arguments, and the package variables that the reading takes, are together of bulk at most 1048576: NARROWER than '..Said'. Prove '..Said' where nothing that the law and all that it calls make is longer than what came in: it says more and counts as full. Else prove '..UptoSaid'. A law counts once. -/
mutual
def uptoBulk {H : Type} : DataW H → Nat
  | .lit (.string bytes) => bytes.length + 1
  | .lit _ => 1
  | .nil => 1
  | .ptr d => uptoBulk d + 1
  | .slice elems spare => uptoBulkAll elems + uptoBulkAll spare + 1
  | .agg parts => uptoBulkAll parts + 1
  | .iface _ d => uptoBulk d + 1
  | .map entries => uptoBulkEntries entries + 1
  | .held _ => 1
def uptoBulkAll {H : Type} : List (DataW H) → Nat
  | [] => 0
  | d :: r => uptoBulk d + uptoBulkAll r
def uptoBulkEntries {H : Type} : List (Lit × DataW H) → Nat
  | [] => 0
  | x :: r => uptoBulkEntry x + uptoBulkEntries r
def uptoBulkEntry {H : Type} : Lit × DataW H → Nat
  | (.string bytes, d) => bytes.length + uptoBulk d + 1
  | (_, d) => uptoBulk d + 1
 end
def uptoSmall : (H : Type) → List (DataW H) → Bool := fun _ ds => decide (uptoBulkAll ds ≤ 1048576)
def OpenSpec.upto (s : _root_.Go.ChangeSpec) : _root_.Go.OpenSpec := { _root_.Go.OpenSpec.ofChange s with cond := some uptoSmall }

/-- 'sequiturlaw06.SignRights', WHERE WHAT IT READS IS OF BULK AT MOST 1048576: true; the input reads as it did. -/
def signRightsUptoRow : OpenClaim := { program := "ytakcbpmdjdadnaa", sum := "ce2541a9ad4102a4665069814271199515d72721cd0fea6fc3bf0760bb14ca4b", func := "sequitur/sequiturlaw06.SignRights", spec := "signRights", unfollowed := true, recurses := true, apart := false, narrowed := true }
def SignRightsUptoSaid : Prop := signRightsUptoRow.holds Try.pinned (OpenSpec.upto signRightsSpec)

/-- 'sequiturlaw06.SignPuts', WHERE WHAT IT READS IS OF BULK AT MOST 1048576: true; the input reads as it did. -/
def signPutsUptoRow : OpenClaim := { program := "ytakcbpmdjdadnaa", sum := "ce2541a9ad4102a4665069814271199515d72721cd0fea6fc3bf0760bb14ca4b", func := "sequitur/sequiturlaw06.SignPuts", spec := "signPuts", unfollowed := true, recurses := true, apart := false, narrowed := true }
def SignPutsUptoSaid : Prop := signPutsUptoRow.holds Try.pinned (OpenSpec.upto signPutsSpec)

/-- 'sequiturlaw06.SignFinds', WHERE WHAT IT READS IS OF BULK AT MOST 1048576: true; the input reads as it did. -/
def signFindsUptoRow : OpenClaim := { program := "ytakcbpmdjdadnaa", sum := "ce2541a9ad4102a4665069814271199515d72721cd0fea6fc3bf0760bb14ca4b", func := "sequitur/sequiturlaw06.SignFinds", spec := "signFinds", unfollowed := true, recurses := true, apart := false, narrowed := true }
def SignFindsUptoSaid : Prop := signFindsUptoRow.holds Try.pinned (OpenSpec.upto signFindsSpec)

/-- 'sequiturlaw06.SignKeeps', WHERE WHAT IT READS IS OF BULK AT MOST 1048576: true; the input reads as it did. -/
def signKeepsUptoRow : OpenClaim := { program := "ytakcbpmdjdadnaa", sum := "ce2541a9ad4102a4665069814271199515d72721cd0fea6fc3bf0760bb14ca4b", func := "sequitur/sequiturlaw06.SignKeeps", spec := "signKeeps", unfollowed := true, recurses := true, apart := false, narrowed := true }
def SignKeepsUptoSaid : Prop := signKeepsUptoRow.holds Try.pinned (OpenSpec.upto signKeepsSpec)

/-- 'sequiturlaw06.SignMany', WHERE WHAT IT READS IS OF BULK AT MOST 1048576: true; the input reads as it did. -/
def signManyUptoRow : OpenClaim := { program := "ytakcbpmdjdadnaa", sum := "ce2541a9ad4102a4665069814271199515d72721cd0fea6fc3bf0760bb14ca4b", func := "sequitur/sequiturlaw06.SignMany", spec := "signMany", unfollowed := true, recurses := true, apart := false, narrowed := true }
def SignManyUptoSaid : Prop := signManyUptoRow.holds Try.pinned (OpenSpec.upto signManySpec)

end Rows
end Go.Proofs.Ytakcbpmdjdadnaa
