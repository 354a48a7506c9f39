/-
  NARROWER THAN 'FOR EVERY INPUT', by the rows' own cells (each row's printed sentence says how): WellTerms: loops · WellClaims: loops · WellPuts: loops · WellMore: loops.
  DERIVED. THE GIVEN ROWS OF THIS SEAT. 5 by the template 'for every input the law returns true; each argument reads behind the call as it read before'; 0 by the template 'total and deterministic' (their statements: YtacncbkcnhlpcaaTotals.lean).
  GIVEN WITH THE SEED: the statements are not yours to turn. If you find one false, say at which input.
  Laid BY PROGRAM, IN A SANDBOX (cutbox-rows.mjs): the forced cells as the released guide's own fill.sh prints them over the translation 597bdd682f2b7b13… (all of the seat's roots in one cut). By AI agents, Wed Nov 11 2026. No macro, syntax, notation, axiom, sorry.
-/
import Derived.Test.YtacncbkcnhlpcaaChecked
import GoSem.Claim
import GoSem.ClaimJoined
import GoSem.ClaimMapViews
import Derived.JoinedTies
import Derived.KernelRfl
namespace Go.Proofs.Ytacncbkcnhlpcaa
/- THE CELL 'sum', in the pinned program and in every row, IS THE sha256 OF THE DUMP (.gsa) THAT YtacncbkcnhlpcaaProg.lean LOADS. Nothing in Lean hashes anything: it is a label: what it is worth is what the hold of that sum in a sandbox is worth. -/
noncomputable def Try.pinned : Pinned := { name := "ytacncbkcnhlpcaa", sum := "597bdd682f2b7b1386df1a167c643d003a76c888af90b56ca53644af8f041f5d", checked := Try.checked }
namespace Rows
def none {H : Type} : Left H := { results := [], args := [] }

/-- 'sequiturlaw13.WellVars': WHATEVER THE INPUT: true; the input reads as it did. -/
def wellVarsSpec : ChangeSpec := { name := "wellVars", fn := fun _ => fun
  | [d1, d2] => { results := [.lit (.bool true)], args := [d1, d2] }
  | _ => none }
def wellVarsRow : OpenClaim := { program := "ytacncbkcnhlpcaa", sum := "597bdd682f2b7b1386df1a167c643d003a76c888af90b56ca53644af8f041f5d", func := "sequitur/sequiturlaw13.WellVars", spec := "wellVars", unfollowed := true, recurses := true, apart := false }
def WellVarsSaid : Prop := wellVarsRow.holds Try.pinned (OpenSpec.ofChange wellVarsSpec)

/-- ITS FALSE NEIGHBOUR: 'it returns false'. Refute it at one input. -/
def wellVarsWrong : ChangeSpec := { name := "wellVars", fn := fun _ => fun
  | [d1, d2] => { results := [.lit (.bool false)], args := [d1, d2] }
  | _ => none }
def WellVarsWrongFalsely : Prop := wellVarsRow.holds Try.pinned (OpenSpec.ofChange wellVarsWrong)

/-- 'sequiturlaw13.WellTerms': WHATEVER THE INPUT: true; the input reads as it did. -/
def wellTermsSpec : ChangeSpec := { name := "wellTerms", fn := fun _ => fun
  | [d1, d2, d3, d4] => { results := [.lit (.bool true)], args := [d1, d2, d3, d4] }
  | _ => none }
def wellTermsRow : OpenClaim := { program := "ytacncbkcnhlpcaa", sum := "597bdd682f2b7b1386df1a167c643d003a76c888af90b56ca53644af8f041f5d", func := "sequitur/sequiturlaw13.WellTerms", spec := "wellTerms", unfollowed := true, recurses := true, loops := true, apart := false }
def WellTermsSaid : Prop := wellTermsRow.holds Try.pinned (OpenSpec.ofChange wellTermsSpec)

/-- ITS FALSE NEIGHBOUR: 'it returns false'. Refute it at one input. -/
def wellTermsWrong : ChangeSpec := { name := "wellTerms", fn := fun _ => fun
  | [d1, d2, d3, d4] => { results := [.lit (.bool false)], args := [d1, d2, d3, d4] }
  | _ => none }
def WellTermsWrongFalsely : Prop := wellTermsRow.holds Try.pinned (OpenSpec.ofChange wellTermsWrong)

/-- 'sequiturlaw13.WellClaims': WHATEVER THE INPUT: true; the input reads as it did. -/
def wellClaimsSpec : ChangeSpec := { name := "wellClaims", fn := fun _ => fun
  | [d1, d2, d3] => { results := [.lit (.bool true)], args := [d1, d2, d3] }
  | _ => none }
def wellClaimsRow : OpenClaim := { program := "ytacncbkcnhlpcaa", sum := "597bdd682f2b7b1386df1a167c643d003a76c888af90b56ca53644af8f041f5d", func := "sequitur/sequiturlaw13.WellClaims", spec := "wellClaims", unfollowed := true, recurses := true, loops := true, apart := false }
def WellClaimsSaid : Prop := wellClaimsRow.holds Try.pinned (OpenSpec.ofChange wellClaimsSpec)

/-- ITS FALSE NEIGHBOUR: 'it returns false'. Refute it at one input. -/
def wellClaimsWrong : ChangeSpec := { name := "wellClaims", fn := fun _ => fun
  | [d1, d2, d3] => { results := [.lit (.bool false)], args := [d1, d2, d3] }
  | _ => none }
def WellClaimsWrongFalsely : Prop := wellClaimsRow.holds Try.pinned (OpenSpec.ofChange wellClaimsWrong)

/-- 'sequiturlaw13.WellPuts': WHATEVER THE INPUT: true; the input reads as it did. -/
def wellPutsSpec : ChangeSpec := { name := "wellPuts", fn := fun _ => fun
  | [d1, d2, d3, d4] => { results := [.lit (.bool true)], args := [d1, d2, d3, d4] }
  | _ => none }
def wellPutsRow : OpenClaim := { program := "ytacncbkcnhlpcaa", sum := "597bdd682f2b7b1386df1a167c643d003a76c888af90b56ca53644af8f041f5d", func := "sequitur/sequiturlaw13.WellPuts", spec := "wellPuts", unfollowed := true, recurses := true, loops := true, apart := false }
def WellPutsSaid : Prop := wellPutsRow.holds Try.pinned (OpenSpec.ofChange wellPutsSpec)

/-- ITS FALSE NEIGHBOUR: 'it returns false'. Refute it at one input. -/
def wellPutsWrong : ChangeSpec := { name := "wellPuts", fn := fun _ => fun
  | [d1, d2, d3, d4] => { results := [.lit (.bool false)], args := [d1, d2, d3, d4] }
  | _ => none }
def WellPutsWrongFalsely : Prop := wellPutsRow.holds Try.pinned (OpenSpec.ofChange wellPutsWrong)

/-- 'sequiturlaw13.WellMore': WHATEVER THE INPUT: true; the input reads as it did. -/
def wellMoreSpec : ChangeSpec := { name := "wellMore", fn := fun _ => fun
  | [d1, d2, d3, d4] => { results := [.lit (.bool true)], args := [d1, d2, d3, d4] }
  | _ => none }
def wellMoreRow : OpenClaim := { program := "ytacncbkcnhlpcaa", sum := "597bdd682f2b7b1386df1a167c643d003a76c888af90b56ca53644af8f041f5d", func := "sequitur/sequiturlaw13.WellMore", spec := "wellMore", unfollowed := true, recurses := true, loops := true, apart := false }
def WellMoreSaid : Prop := wellMoreRow.holds Try.pinned (OpenSpec.ofChange wellMoreSpec)

/-- ITS FALSE NEIGHBOUR: 'it returns false'. Refute it at one input. -/
def wellMoreWrong : ChangeSpec := { name := "wellMore", fn := fun _ => fun
  | [d1, d2, d3, d4] => { results := [.lit (.bool false)], args := [d1, d2, d3, d4] }
  | _ => none }
def WellMoreWrongFalsely : Prop := wellMoreRow.holds Try.pinned (OpenSpec.ofChange wellMoreWrong)

/- THE SECOND FORM. 'bulk': how many values and letters a reading holds, each counted each time it is reached (what is shared counts as often as it is met; a slice's spare places count too). A statement '..UptoSaid' is the law's where the arguments, and the package variables that the reading takes, are together of bulk at most 1048576: NARROWER than '..Said'. Prove '..Said' where nothing that the law and all that it calls make is longer than what came in: it says more and counts as full. Else prove '..UptoSaid'. A law counts once. -/
mutual
def uptoBulk {H : Type} : DataW H → Nat
  | .lit (.string bytes) => bytes.length + 1
  | .lit _ => 1
  | .nil => 1
  | .ptr d => uptoBulk d + 1
  | .slice elems spare => uptoBulkAll elems + uptoBulkAll spare + 1
  | .agg parts => uptoBulkAll parts + 1
  | .iface _ d => uptoBulk d + 1
  | .map entries => uptoBulkEntries entries + 1
  | .held _ => 1
def uptoBulkAll {H : Type} : List (DataW H) → Nat
  | [] => 0
  | d :: r => uptoBulk d + uptoBulkAll r
def uptoBulkEntries {H : Type} : List (Lit × DataW H) → Nat
  | [] => 0
  | x :: r => uptoBulkEntry x + uptoBulkEntries r
def uptoBulkEntry {H : Type} : Lit × DataW H → Nat
  | (.string bytes, d) => bytes.length + uptoBulk d + 1
  | (_, d) => uptoBulk d + 1
 end
def uptoSmall : (H : Type) → List (DataW H) → Bool := fun _ ds => decide (uptoBulkAll ds ≤ 1048576)
def OpenSpec.upto (s : _root_.Go.ChangeSpec) : _root_.Go.OpenSpec := { _root_.Go.OpenSpec.ofChange s with cond := some uptoSmall }

/-- 'sequiturlaw13.WellVars', WHERE WHAT IT READS IS OF BULK AT MOST 1048576: true; the input reads as it did. -/
def wellVarsUptoRow : OpenClaim := { program := "ytacncbkcnhlpcaa", sum := "597bdd682f2b7b1386df1a167c643d003a76c888af90b56ca53644af8f041f5d", func := "sequitur/sequiturlaw13.WellVars", spec := "wellVars", unfollowed := true, recurses := true, apart := false, narrowed := true }
def WellVarsUptoSaid : Prop := wellVarsUptoRow.holds Try.pinned (OpenSpec.upto wellVarsSpec)

/-- 'sequiturlaw13.WellTerms', WHERE WHAT IT READS IS OF BULK AT MOST 1048576: true; the input reads as it did. -/
def wellTermsUptoRow : OpenClaim := { program := "ytacncbkcnhlpcaa", sum := "597bdd682f2b7b1386df1a167c643d003a76c888af90b56ca53644af8f041f5d", func := "sequitur/sequiturlaw13.WellTerms", spec := "wellTerms", unfollowed := true, recurses := true, loops := true, apart := false, narrowed := true }
def WellTermsUptoSaid : Prop := wellTermsUptoRow.holds Try.pinned (OpenSpec.upto wellTermsSpec)

/-- 'sequiturlaw13.WellClaims', WHERE WHAT IT READS IS OF BULK AT MOST 1048576: true; the input reads as it did. -/
def wellClaimsUptoRow : OpenClaim := { program := "ytacncbkcnhlpcaa", sum := "597bdd682f2b7b1386df1a167c643d003a76c888af90b56ca53644af8f041f5d", func := "sequitur/sequiturlaw13.WellClaims", spec := "wellClaims", unfollowed := true, recurses := true, loops := true, apart := false, narrowed := true }
def WellClaimsUptoSaid : Prop := wellClaimsUptoRow.holds Try.pinned (OpenSpec.upto wellClaimsSpec)

/-- 'sequiturlaw13.WellPuts', WHERE WHAT IT READS IS OF BULK AT MOST 1048576: true; the input reads as it did. -/
def wellPutsUptoRow : OpenClaim := { program := "ytacncbkcnhlpcaa", sum := "597bdd682f2b7b1386df1a167c643d003a76c888af90b56ca53644af8f041f5d", func := "sequitur/sequiturlaw13.WellPuts", spec := "wellPuts", unfollowed := true, recurses := true, loops := true, apart := false, narrowed := true }
def WellPutsUptoSaid : Prop := wellPutsUptoRow.holds Try.pinned (OpenSpec.upto wellPutsSpec)

/-- 'sequiturlaw13.WellMore', WHERE WHAT IT READS IS OF BULK AT MOST 1048576: true; the input reads as it did. -/
def wellMoreUptoRow : OpenClaim := { program := "ytacncbkcnhlpcaa", sum := "597bdd682f2b7b1386df1a167c643d003a76c888af90b56ca53644af8f041f5d", func := "sequitur/sequiturlaw13.WellMore", spec := "wellMore", unfollowed := true, recurses := true, loops := true, apart := false, narrowed := true }
def WellMoreUptoSaid : Prop := wellMoreUptoRow.holds Try.pinned (OpenSpec.upto wellMoreSpec)

end Rows
end Go.Proofs.Ytacncbkcnhlpcaa
