/-
  NARROWER THAN 'FOR EVERY INPUT', by the rows' own cells (each row's printed sentence says how): ClaimRight: loops · ClaimGathers: loops · ClaimFlat: loops.
  DERIVED. THE GIVEN ROWS OF THIS SEAT. 3 by the template 'for every input the law returns true; each argument reads behind the call as it read before'; 0 by the template 'total and deterministic' (their statements: YtjjfbgadpgckeaaGreatTotals.lean).
  GIVEN WITH THE SEED: the statements are not yours to turn. If you find one false, say at which input.
  Laid BY PROGRAM, IN A SANDBOX (cutbox-rows.mjs): the forced cells as the released guide's own fill.sh prints them over the translation fa442b1a6b18dde3… (all of the seat's roots in one cut). By AI agents, Wed Nov 11 2026. No macro, syntax, notation, axiom, sorry.
-/
import Derived.Test.YtjjfbgadpgckeaaGreatChecked
import GoSem.Claim
import GoSem.ClaimJoined
import GoSem.ClaimMapViews
import Derived.JoinedTies
import Derived.KernelRfl
namespace Go.Proofs.YtjjfbgadpgckeaaGreat
/- THE CELL 'sum', in the pinned program and in every row, IS THE sha256 OF THE DUMP (.gsa) THAT YtjjfbgadpgckeaaGreatProg.lean LOADS. Nothing in Lean hashes anything: it is a label: what it is worth is what the hold of that sum in a sandbox is worth. -/
noncomputable def Tryz.pinned : Pinned := { name := "ytjjfbgadpgckeaagreat", sum := "fa442b1a6b18dde31c7f200a6aefe769fd5ff39d45c3f7ce1a297789742dc0b9", checked := Tryz.checked }
namespace Rows
def none {H : Type} : Left H := { results := [], args := [] }

/-- 'sequiturlaw08.ClaimRight': WHATEVER THE INPUT: true; the input reads as it did. -/
def claimRightSpec : ChangeSpec := { name := "claimRight", fn := fun _ => fun
  | [d] => { results := [.lit (.bool true)], args := [d] }
  | _ => none }
def claimRightRow : OpenClaim := { program := "ytjjfbgadpgckeaagreat", sum := "fa442b1a6b18dde31c7f200a6aefe769fd5ff39d45c3f7ce1a297789742dc0b9", func := "sequitur/sequiturlaw08.ClaimRight", spec := "claimRight", unfollowed := true, recurses := true, loops := true, apart := false }
def ClaimRightSaid : Prop := claimRightRow.holds Tryz.pinned (OpenSpec.ofChange claimRightSpec)

/-- ITS FALSE NEIGHBOUR: 'it returns false'. Refute it at one input. -/
def claimRightWrong : ChangeSpec := { name := "claimRight", fn := fun _ => fun
  | [d] => { results := [.lit (.bool false)], args := [d] }
  | _ => none }
def ClaimRightWrongFalsely : Prop := claimRightRow.holds Tryz.pinned (OpenSpec.ofChange claimRightWrong)

/-- 'sequiturlaw08.ClaimGathers': WHATEVER THE INPUT: true; the input reads as it did. -/
def claimGathersSpec : ChangeSpec := { name := "claimGathers", fn := fun _ => fun
  | [d] => { results := [.lit (.bool true)], args := [d] }
  | _ => none }
def claimGathersRow : OpenClaim := { program := "ytjjfbgadpgckeaagreat", sum := "fa442b1a6b18dde31c7f200a6aefe769fd5ff39d45c3f7ce1a297789742dc0b9", func := "sequitur/sequiturlaw08.ClaimGathers", spec := "claimGathers", unfollowed := true, recurses := true, loops := true, apart := false }
def ClaimGathersSaid : Prop := claimGathersRow.holds Tryz.pinned (OpenSpec.ofChange claimGathersSpec)

/-- ITS FALSE NEIGHBOUR: 'it returns false'. Refute it at one input. -/
def claimGathersWrong : ChangeSpec := { name := "claimGathers", fn := fun _ => fun
  | [d] => { results := [.lit (.bool false)], args := [d] }
  | _ => none }
def ClaimGathersWrongFalsely : Prop := claimGathersRow.holds Tryz.pinned (OpenSpec.ofChange claimGathersWrong)

/-- 'sequiturlaw08.ClaimFlat': WHATEVER THE INPUT: true; the input reads as it did. -/
def claimFlatSpec : ChangeSpec := { name := "claimFlat", fn := fun _ => fun
  | [d] => { results := [.lit (.bool true)], args := [d] }
  | _ => none }
def claimFlatRow : OpenClaim := { program := "ytjjfbgadpgckeaagreat", sum := "fa442b1a6b18dde31c7f200a6aefe769fd5ff39d45c3f7ce1a297789742dc0b9", func := "sequitur/sequiturlaw08.ClaimFlat", spec := "claimFlat", unfollowed := true, recurses := true, loops := true, apart := false }
def ClaimFlatSaid : Prop := claimFlatRow.holds Tryz.pinned (OpenSpec.ofChange claimFlatSpec)

/-- ITS FALSE NEIGHBOUR: 'it returns false'. Refute it at one input. -/
def claimFlatWrong : ChangeSpec := { name := "claimFlat", fn := fun _ => fun
  | [d] => { results := [.lit (.bool false)], args := [d] }
  | _ => none }
def ClaimFlatWrongFalsely : Prop := claimFlatRow.holds Tryz.pinned (OpenSpec.ofChange claimFlatWrong)

/- THE SECOND FORM. 'bulk': how many values and letters a reading holds, each counted each time it is reached (what is shared counts as often as it is met; a slice's spare places count too). A statement '..UptoSaid' is the law's where the arguments, and the package variables that the reading takes, are together of bulk at most 1048576: NARROWER than '..Said'. Prove '..Said' where nothing that the law and all that it calls make is longer than what came in: it says more and counts as full. Else prove '..UptoSaid'. A law counts once. -/
mutual
def uptoBulk {H : Type} : DataW H → Nat
  | .lit (.string bytes) => bytes.length + 1
  | .lit _ => 1
  | .nil => 1
  | .ptr d => uptoBulk d + 1
  | .slice elems spare => uptoBulkAll elems + uptoBulkAll spare + 1
  | .agg parts => uptoBulkAll parts + 1
  | .iface _ d => uptoBulk d + 1
  | .map entries => uptoBulkEntries entries + 1
  | .held _ => 1
def uptoBulkAll {H : Type} : List (DataW H) → Nat
  | [] => 0
  | d :: r => uptoBulk d + uptoBulkAll r
def uptoBulkEntries {H : Type} : List (Lit × DataW H) → Nat
  | [] => 0
  | x :: r => uptoBulkEntry x + uptoBulkEntries r
def uptoBulkEntry {H : Type} : Lit × DataW H → Nat
  | (.string bytes, d) => bytes.length + uptoBulk d + 1
  | (_, d) => uptoBulk d + 1
 end
def uptoSmall : (H : Type) → List (DataW H) → Bool := fun _ ds => decide (uptoBulkAll ds ≤ 1048576)
def OpenSpec.upto (s : _root_.Go.ChangeSpec) : _root_.Go.OpenSpec := { _root_.Go.OpenSpec.ofChange s with cond := some uptoSmall }

/-- 'sequiturlaw08.ClaimRight', WHERE WHAT IT READS IS OF BULK AT MOST 1048576: true; the input reads as it did. -/
def claimRightUptoRow : OpenClaim := { program := "ytjjfbgadpgckeaagreat", sum := "fa442b1a6b18dde31c7f200a6aefe769fd5ff39d45c3f7ce1a297789742dc0b9", func := "sequitur/sequiturlaw08.ClaimRight", spec := "claimRight", unfollowed := true, recurses := true, loops := true, apart := false, narrowed := true }
def ClaimRightUptoSaid : Prop := claimRightUptoRow.holds Tryz.pinned (OpenSpec.upto claimRightSpec)

/-- 'sequiturlaw08.ClaimGathers', WHERE WHAT IT READS IS OF BULK AT MOST 1048576: true; the input reads as it did. -/
def claimGathersUptoRow : OpenClaim := { program := "ytjjfbgadpgckeaagreat", sum := "fa442b1a6b18dde31c7f200a6aefe769fd5ff39d45c3f7ce1a297789742dc0b9", func := "sequitur/sequiturlaw08.ClaimGathers", spec := "claimGathers", unfollowed := true, recurses := true, loops := true, apart := false, narrowed := true }
def ClaimGathersUptoSaid : Prop := claimGathersUptoRow.holds Tryz.pinned (OpenSpec.upto claimGathersSpec)

/-- 'sequiturlaw08.ClaimFlat', WHERE WHAT IT READS IS OF BULK AT MOST 1048576: true; the input reads as it did. -/
def claimFlatUptoRow : OpenClaim := { program := "ytjjfbgadpgckeaagreat", sum := "fa442b1a6b18dde31c7f200a6aefe769fd5ff39d45c3f7ce1a297789742dc0b9", func := "sequitur/sequiturlaw08.ClaimFlat", spec := "claimFlat", unfollowed := true, recurses := true, loops := true, apart := false, narrowed := true }
def ClaimFlatUptoSaid : Prop := claimFlatUptoRow.holds Tryz.pinned (OpenSpec.upto claimFlatSpec)

end Rows
end Go.Proofs.YtjjfbgadpgckeaaGreat
