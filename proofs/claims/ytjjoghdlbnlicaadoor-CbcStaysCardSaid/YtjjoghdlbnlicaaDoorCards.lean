/-
  DERIVED. GIVEN WITH THE SEED: THE CARDS: each row of YtjjoghdlbnlicaaDoorRows.lean that lists a variable, with what it lists TIED to the program's text (the seventh form; the later family's looks); each row that meets fmt, with fmt's text TOLD by the authors' own Lean function (tested against real Go, not proved from fmt's source: count such statements apart). THE CARD IS WHAT COUNTS. Prove the row's statement (the work); the ties are given (YtjjoghdlbnlicaaDoorTie.lean); close each card by the builder's one call (the guide's Derived/Test/ToyasCard.lean, 'card_holds'). Laid BY PROGRAM, IN A SANDBOX (cutbox-door.mjs). By AI agents, Wed Nov 11 2026. No macro, syntax, notation, axiom, sorry.
-/
import Derived.Test.YtjjoghdlbnlicaaDoorRows
import GoSem.ClaimSeven
namespace Go.Proofs.YtjjoghdlbnlicaaDoor
namespace Rows

/-- THE TIED CARD OF 'charterlaw04.CbcSeals'. -/
def cbcSealsCard : Claim7 := { stood := { row := cbcSealsRow, standIns := [], harness := (true, "e7afe4c6fe1d182af3bfc47220e96ed9ed20c6c5817e96ef46037c5c46bd9baf"), looks := true }, kinds := [], alts := [], laidByText := true, laidKinds := [.data], laidTests := true, laidLooks := .later }
def CbcSealsCardSaid : Prop := Claim7.holds Tryd.pinned (.plain (OpenSpec.ofChange cbcSealsSpec)) cbcSealsCard

/-- THE TIED CARD OF 'charterlaw04.CbcOpens'. -/
def cbcOpensCard : Claim7 := { stood := { row := cbcOpensRow, standIns := [], harness := (true, "e7afe4c6fe1d182af3bfc47220e96ed9ed20c6c5817e96ef46037c5c46bd9baf"), looks := true }, kinds := [], alts := [], laidByText := true, laidKinds := [.data], laidTests := true, laidLooks := .later }
def CbcOpensCardSaid : Prop := Claim7.holds Tryd.pinned (.plain (OpenSpec.ofChange cbcOpensSpec)) cbcOpensCard

/-- THE TIED CARD OF 'charterlaw04.CbcLong'. -/
def cbcLongCard : Claim7 := { stood := { row := cbcLongRow, standIns := [], harness := (true, "e7afe4c6fe1d182af3bfc47220e96ed9ed20c6c5817e96ef46037c5c46bd9baf"), looks := true }, kinds := [], alts := [], laidByText := true, laidKinds := [.data], laidTests := true, laidLooks := .later }
def CbcLongCardSaid : Prop := Claim7.holds Tryd.pinned (.plain (OpenSpec.ofChange cbcLongSpec)) cbcLongCard

/-- THE TIED CARD OF 'charterlaw04.CbcBack'. -/
def cbcBackCard : Claim7 := { stood := { row := cbcBackRow, standIns := [], harness := (true, "e7afe4c6fe1d182af3bfc47220e96ed9ed20c6c5817e96ef46037c5c46bd9baf"), looks := true }, kinds := [], alts := [], laidByText := true, laidKinds := [.data], laidTests := true, laidLooks := .later }
def CbcBackCardSaid : Prop := Claim7.holds Tryd.pinned (.plain (OpenSpec.ofChange cbcBackSpec)) cbcBackCard

/-- THE TIED CARD OF 'charterlaw04.CbcStays'. -/
def cbcStaysCard : Claim7 := { stood := { row := cbcStaysRow, standIns := [], harness := (true, "e7afe4c6fe1d182af3bfc47220e96ed9ed20c6c5817e96ef46037c5c46bd9baf"), looks := true }, kinds := [], alts := [], laidByText := true, laidKinds := [.data], laidTests := true, laidLooks := .later }
def CbcStaysCardSaid : Prop := Claim7.holds Tryd.pinned (.plain (OpenSpec.ofChange cbcStaysSpec)) cbcStaysCard

/-- THE SECOND FORM's CARD OF 'charterlaw04.CbcSeals'. -/
def cbcSealsUptoCard : Claim7 := { stood := { row := cbcSealsUptoRow, standIns := [], harness := (true, "e7afe4c6fe1d182af3bfc47220e96ed9ed20c6c5817e96ef46037c5c46bd9baf"), looks := true }, kinds := [], alts := [], laidByText := true, laidKinds := [.data], laidTests := true, laidLooks := .later }
def CbcSealsUptoCardSaid : Prop := Claim7.holds Tryd.pinned (.plain (OpenSpec.upto cbcSealsSpec)) cbcSealsUptoCard

/-- THE SECOND FORM's CARD OF 'charterlaw04.CbcOpens'. -/
def cbcOpensUptoCard : Claim7 := { stood := { row := cbcOpensUptoRow, standIns := [], harness := (true, "e7afe4c6fe1d182af3bfc47220e96ed9ed20c6c5817e96ef46037c5c46bd9baf"), looks := true }, kinds := [], alts := [], laidByText := true, laidKinds := [.data], laidTests := true, laidLooks := .later }
def CbcOpensUptoCardSaid : Prop := Claim7.holds Tryd.pinned (.plain (OpenSpec.upto cbcOpensSpec)) cbcOpensUptoCard

/-- THE SECOND FORM's CARD OF 'charterlaw04.CbcLong'. -/
def cbcLongUptoCard : Claim7 := { stood := { row := cbcLongUptoRow, standIns := [], harness := (true, "e7afe4c6fe1d182af3bfc47220e96ed9ed20c6c5817e96ef46037c5c46bd9baf"), looks := true }, kinds := [], alts := [], laidByText := true, laidKinds := [.data], laidTests := true, laidLooks := .later }
def CbcLongUptoCardSaid : Prop := Claim7.holds Tryd.pinned (.plain (OpenSpec.upto cbcLongSpec)) cbcLongUptoCard

/-- THE SECOND FORM's CARD OF 'charterlaw04.CbcBack'. -/
def cbcBackUptoCard : Claim7 := { stood := { row := cbcBackUptoRow, standIns := [], harness := (true, "e7afe4c6fe1d182af3bfc47220e96ed9ed20c6c5817e96ef46037c5c46bd9baf"), looks := true }, kinds := [], alts := [], laidByText := true, laidKinds := [.data], laidTests := true, laidLooks := .later }
def CbcBackUptoCardSaid : Prop := Claim7.holds Tryd.pinned (.plain (OpenSpec.upto cbcBackSpec)) cbcBackUptoCard

/-- THE SECOND FORM's CARD OF 'charterlaw04.CbcStays'. -/
def cbcStaysUptoCard : Claim7 := { stood := { row := cbcStaysUptoRow, standIns := [], harness := (true, "e7afe4c6fe1d182af3bfc47220e96ed9ed20c6c5817e96ef46037c5c46bd9baf"), looks := true }, kinds := [], alts := [], laidByText := true, laidKinds := [.data], laidTests := true, laidLooks := .later }
def CbcStaysUptoCardSaid : Prop := Claim7.holds Tryd.pinned (.plain (OpenSpec.upto cbcStaysSpec)) cbcStaysUptoCard
end Rows
end Go.Proofs.YtjjoghdlbnlicaaDoor
