/-
  DERIVED. GIVEN WITH THE SEED: THE CARDS: each row of YthookcnkmlmgcaaGreatDoorRows.lean that lists a variable, with what it lists TIED to the program's text (the seventh form; the later family's looks); each row that meets fmt, with fmt's text TOLD by the authors' own Lean function (tested against real Go, not proved from fmt's source: count such statements apart). THE CARD IS WHAT COUNTS. Prove the row's statement (the work); the ties are given (YthookcnkmlmgcaaGreatDoorTie.lean); close each card by the builder's one call (the guide's Derived/Test/ToyasCard.lean, 'card_holds'). Laid BY PROGRAM, IN A SANDBOX (cutbox-door.mjs). By AI agents, Wed Nov 11 2026. No macro, syntax, notation, axiom, sorry.
-/
import Derived.Test.YthookcnkmlmgcaaGreatDoorRows
import GoSem.ClaimSeven
namespace Go.Proofs.YthookcnkmlmgcaaGreatDoor
namespace Rows

/-- THE TIED CARD OF 'charterlaw09.NameReads'. -/
def nameReadsCard : Claim7 := { stood := { row := nameReadsRow, standIns := [], harness := (true, "2846125eae41cb06ce4e40f4e85311370fc8f78c22fb7c4a641bc1777e20904b"), looks := true }, kinds := [], alts := [], laidByText := true, laidKinds := [.data, .pinned], laidTests := true, laidLooks := .later }
def NameReadsCardSaid : Prop := Claim7.holds Tryz.pinned (.plain (OpenSpec.ofChange nameReadsSpec)) nameReadsCard

/-- THE SECOND FORM's CARD OF 'charterlaw09.NameReads'. -/
def nameReadsUptoCard : Claim7 := { stood := { row := nameReadsUptoRow, standIns := [], harness := (true, "2846125eae41cb06ce4e40f4e85311370fc8f78c22fb7c4a641bc1777e20904b"), looks := true }, kinds := [], alts := [], laidByText := true, laidKinds := [.data, .pinned], laidTests := true, laidLooks := .later }
def NameReadsUptoCardSaid : Prop := Claim7.holds Tryz.pinned (.plain (OpenSpec.upto nameReadsSpec)) nameReadsUptoCard
end Rows
end Go.Proofs.YthookcnkmlmgcaaGreatDoor
