/-
  DERIVED. GIVEN WITH THE SEED: THE CARDS: each row of YthchjceibpcgbaaGreatDoorRows.lean that lists a variable, with what it lists TIED to the program's text (the seventh form; the later family's looks); each row that meets fmt, with fmt's text TOLD by the authors' own Lean function (tested against real Go, not proved from fmt's source: count such statements apart). THE CARD IS WHAT COUNTS. Prove the row's statement (the work); the ties are given (YthchjceibpcgbaaGreatDoorTie.lean); close each card by the builder's one call (the guide's Derived/Test/ToyasCard.lean, 'card_holds'). Laid BY PROGRAM, IN A SANDBOX (cutbox-door.mjs). By AI agents, Wed Nov 11 2026. No macro, syntax, notation, axiom, sorry.
-/
import Derived.Test.YthchjceibpcgbaaGreatDoorRows
import GoSem.ClaimSeven
namespace Go.Proofs.YthchjceibpcgbaaGreatDoor
namespace Rows

/-- THE TIED CARD OF 'sequiturlaw18.CnfTells'. -/
def cnfTellsCard : Claim7 := { stood := { row := cnfTellsRow, standIns := [], harness := (true, "c2322b0f94c855175866b8c914b99179014247bb680be72a8eb15c64a1a8aee8"), looks := false }, kinds := [], alts := [], laidByText := true, laidKinds := [.data, .data, .data], laidTests := true, laidLooks := .later }
def CnfTellsCardSaid : Prop := Claim7.holds Tryz.pinned (.plain (OpenSpec.ofChange cnfTellsSpec)) cnfTellsCard

/-- THE TIED CARD OF 'sequiturlaw18.CnfClean'. -/
def cnfCleanCard : Claim7 := { stood := { row := cnfCleanRow, standIns := [], harness := (true, "c2322b0f94c855175866b8c914b99179014247bb680be72a8eb15c64a1a8aee8"), looks := false }, kinds := [], alts := [], laidByText := true, laidKinds := [.data, .data, .data], laidTests := true, laidLooks := .later }
def CnfCleanCardSaid : Prop := Claim7.holds Tryz.pinned (.plain (OpenSpec.ofChange cnfCleanSpec)) cnfCleanCard

/-- THE SECOND FORM's CARD OF 'sequiturlaw18.CnfTells'. -/
def cnfTellsUptoCard : Claim7 := { stood := { row := cnfTellsUptoRow, standIns := [], harness := (true, "c2322b0f94c855175866b8c914b99179014247bb680be72a8eb15c64a1a8aee8"), looks := false }, kinds := [], alts := [], laidByText := true, laidKinds := [.data, .data, .data], laidTests := true, laidLooks := .later }
def CnfTellsUptoCardSaid : Prop := Claim7.holds Tryz.pinned (.plain (OpenSpec.upto cnfTellsSpec)) cnfTellsUptoCard

/-- THE SECOND FORM's CARD OF 'sequiturlaw18.CnfClean'. -/
def cnfCleanUptoCard : Claim7 := { stood := { row := cnfCleanUptoRow, standIns := [], harness := (true, "c2322b0f94c855175866b8c914b99179014247bb680be72a8eb15c64a1a8aee8"), looks := false }, kinds := [], alts := [], laidByText := true, laidKinds := [.data, .data, .data], laidTests := true, laidLooks := .later }
def CnfCleanUptoCardSaid : Prop := Claim7.holds Tryz.pinned (.plain (OpenSpec.upto cnfCleanSpec)) cnfCleanUptoCard
end Rows
end Go.Proofs.YthchjceibpcgbaaGreatDoor
