/-
  DERIVED. GIVEN WITH THE SEED: THE CARDS: each row of YthookcnkmlmgcaaDoorRows.lean that lists a variable, with what it lists TIED to the program's text (the seventh form; the later family's looks); each row that meets fmt, with fmt's text TOLD by the authors' own Lean function (tested against real Go, not proved from fmt's source: count such statements apart). THE CARD IS WHAT COUNTS. Prove the row's statement (the work); the ties are given (YthookcnkmlmgcaaDoorTie.lean); close each card by the builder's one call (the guide's Derived/Test/ToyasCard.lean, 'card_holds'). Laid BY PROGRAM, IN A SANDBOX (cutbox-door.mjs). By AI agents, Wed Nov 11 2026. No macro, syntax, notation, axiom, sorry.
-/
import Derived.Test.YthookcnkmlmgcaaDoorRows
import GoSem.ClaimSeven
namespace Go.Proofs.YthookcnkmlmgcaaDoor
namespace Rows

/-- THE TIED CARD OF 'charterlaw09.NameWrites'. -/
def nameWritesCard : Claim7 := { stood := { row := nameWritesRow, standIns := [], harness := (true, "a881ddbc3654676e831f63bce9bc0417a35048d6d4b9b9744944206af03d3511"), looks := true }, kinds := [], alts := [], laidByText := true, laidKinds := [.data, .pinned], laidTests := true, laidLooks := .later }
def NameWritesCardSaid : Prop := Claim7.holds Tryd.pinned (.plain (OpenSpec.ofChange nameWritesSpec)) nameWritesCard

/-- THE TIED CARD OF 'charterlaw09.NameBack'. -/
def nameBackCard : Claim7 := { stood := { row := nameBackRow, standIns := [], harness := (true, "a881ddbc3654676e831f63bce9bc0417a35048d6d4b9b9744944206af03d3511"), looks := true }, kinds := [], alts := [], laidByText := true, laidKinds := [.data, .pinned], laidTests := true, laidLooks := .later }
def NameBackCardSaid : Prop := Claim7.holds Tryd.pinned (.plain (OpenSpec.ofChange nameBackSpec)) nameBackCard

/-- THE TIED CARD OF 'charterlaw09.NameStays'. -/
def nameStaysCard : Claim7 := { stood := { row := nameStaysRow, standIns := [], harness := (true, "a881ddbc3654676e831f63bce9bc0417a35048d6d4b9b9744944206af03d3511"), looks := true }, kinds := [], alts := [], laidByText := true, laidKinds := [.data, .pinned], laidTests := true, laidLooks := .later }
def NameStaysCardSaid : Prop := Claim7.holds Tryd.pinned (.plain (OpenSpec.ofChange nameStaysSpec)) nameStaysCard

/-- THE SECOND FORM's CARD OF 'charterlaw09.NameWrites'. -/
def nameWritesUptoCard : Claim7 := { stood := { row := nameWritesUptoRow, standIns := [], harness := (true, "a881ddbc3654676e831f63bce9bc0417a35048d6d4b9b9744944206af03d3511"), looks := true }, kinds := [], alts := [], laidByText := true, laidKinds := [.data, .pinned], laidTests := true, laidLooks := .later }
def NameWritesUptoCardSaid : Prop := Claim7.holds Tryd.pinned (.plain (OpenSpec.upto nameWritesSpec)) nameWritesUptoCard

/-- THE SECOND FORM's CARD OF 'charterlaw09.NameBack'. -/
def nameBackUptoCard : Claim7 := { stood := { row := nameBackUptoRow, standIns := [], harness := (true, "a881ddbc3654676e831f63bce9bc0417a35048d6d4b9b9744944206af03d3511"), looks := true }, kinds := [], alts := [], laidByText := true, laidKinds := [.data, .pinned], laidTests := true, laidLooks := .later }
def NameBackUptoCardSaid : Prop := Claim7.holds Tryd.pinned (.plain (OpenSpec.upto nameBackSpec)) nameBackUptoCard

/-- THE SECOND FORM's CARD OF 'charterlaw09.NameStays'. -/
def nameStaysUptoCard : Claim7 := { stood := { row := nameStaysUptoRow, standIns := [], harness := (true, "a881ddbc3654676e831f63bce9bc0417a35048d6d4b9b9744944206af03d3511"), looks := true }, kinds := [], alts := [], laidByText := true, laidKinds := [.data, .pinned], laidTests := true, laidLooks := .later }
def NameStaysUptoCardSaid : Prop := Claim7.holds Tryd.pinned (.plain (OpenSpec.upto nameStaysSpec)) nameStaysUptoCard
end Rows
end Go.Proofs.YthookcnkmlmgcaaDoor
