/-
  DERIVED. GIVEN WITH THE SEED: THE CARDS: each row of YticggkllfojgkaaDoorRows.lean that lists a variable, with what it lists TIED to the program's text (the seventh form; the later family's looks); each row that meets fmt, with fmt's text TOLD by the authors' own Lean function (tested against real Go, not proved from fmt's source: count such statements apart). THE CARD IS WHAT COUNTS. Prove the row's statement (the work); the ties are given (YticggkllfojgkaaDoorTie.lean); close each card by the builder's one call (the guide's Derived/Test/ToyasCard.lean, 'card_holds'). Laid BY PROGRAM, IN A SANDBOX (cutbox-door.mjs). By AI agents, Wed Nov 11 2026. No macro, syntax, notation, axiom, sorry.
-/
import Derived.Test.YticggkllfojgkaaDoorRows
import GoSem.ClaimSeven
namespace Go.Proofs.YticggkllfojgkaaDoor
namespace Rows

/-- THE TIED CARD OF 'charterlaw06.RsaHides'. -/
def rsaHidesCard : Claim7 := { stood := { row := rsaHidesRow, standIns := [], harness := (true, "c2c0bebb6118a2d40e4b0193416c4a33d02575af2a7014237f657c804727a578"), looks := true }, kinds := [], alts := [], laidByText := true, laidKinds := [.data, .pinned], laidTests := true, laidLooks := .later }
def RsaHidesCardSaid : Prop := Claim7.holds Tryd.pinned (.plain (OpenSpec.ofChange rsaHidesSpec)) rsaHidesCard

/-- THE TIED CARD OF 'charterlaw06.RsaShows'. -/
def rsaShowsCard : Claim7 := { stood := { row := rsaShowsRow, standIns := [], harness := (true, "c2c0bebb6118a2d40e4b0193416c4a33d02575af2a7014237f657c804727a578"), looks := true }, kinds := [], alts := [], laidByText := true, laidKinds := [.data, .pinned], laidTests := true, laidLooks := .later }
def RsaShowsCardSaid : Prop := Claim7.holds Tryd.pinned (.plain (OpenSpec.ofChange rsaShowsSpec)) rsaShowsCard

/-- THE TIED CARD OF 'charterlaw06.RsaOne'. -/
def rsaOneCard : Claim7 := { stood := { row := rsaOneRow, standIns := [], harness := (true, "c2c0bebb6118a2d40e4b0193416c4a33d02575af2a7014237f657c804727a578"), looks := true }, kinds := [], alts := [], laidByText := true, laidKinds := [.data, .data, .data, .pinned], laidTests := true, laidLooks := .later }
def RsaOneCardSaid : Prop := Claim7.holds Tryd.pinned (.plain (OpenSpec.ofChange rsaOneSpec)) rsaOneCard

/-- THE TIED CARD OF 'charterlaw06.RsaStays'. -/
def rsaStaysCard : Claim7 := { stood := { row := rsaStaysRow, standIns := [], harness := (true, "c2c0bebb6118a2d40e4b0193416c4a33d02575af2a7014237f657c804727a578"), looks := true }, kinds := [], alts := [], laidByText := true, laidKinds := [.data, .data, .data, .pinned], laidTests := true, laidLooks := .later }
def RsaStaysCardSaid : Prop := Claim7.holds Tryd.pinned (.plain (OpenSpec.ofChange rsaStaysSpec)) rsaStaysCard

/-- THE SECOND FORM's CARD OF 'charterlaw06.RsaHides'. -/
def rsaHidesUptoCard : Claim7 := { stood := { row := rsaHidesUptoRow, standIns := [], harness := (true, "c2c0bebb6118a2d40e4b0193416c4a33d02575af2a7014237f657c804727a578"), looks := true }, kinds := [], alts := [], laidByText := true, laidKinds := [.data, .pinned], laidTests := true, laidLooks := .later }
def RsaHidesUptoCardSaid : Prop := Claim7.holds Tryd.pinned (.plain (OpenSpec.upto rsaHidesSpec)) rsaHidesUptoCard

/-- THE SECOND FORM's CARD OF 'charterlaw06.RsaShows'. -/
def rsaShowsUptoCard : Claim7 := { stood := { row := rsaShowsUptoRow, standIns := [], harness := (true, "c2c0bebb6118a2d40e4b0193416c4a33d02575af2a7014237f657c804727a578"), looks := true }, kinds := [], alts := [], laidByText := true, laidKinds := [.data, .pinned], laidTests := true, laidLooks := .later }
def RsaShowsUptoCardSaid : Prop := Claim7.holds Tryd.pinned (.plain (OpenSpec.upto rsaShowsSpec)) rsaShowsUptoCard

/-- THE SECOND FORM's CARD OF 'charterlaw06.RsaOne'. -/
def rsaOneUptoCard : Claim7 := { stood := { row := rsaOneUptoRow, standIns := [], harness := (true, "c2c0bebb6118a2d40e4b0193416c4a33d02575af2a7014237f657c804727a578"), looks := true }, kinds := [], alts := [], laidByText := true, laidKinds := [.data, .data, .data, .pinned], laidTests := true, laidLooks := .later }
def RsaOneUptoCardSaid : Prop := Claim7.holds Tryd.pinned (.plain (OpenSpec.upto rsaOneSpec)) rsaOneUptoCard

/-- THE SECOND FORM's CARD OF 'charterlaw06.RsaStays'. -/
def rsaStaysUptoCard : Claim7 := { stood := { row := rsaStaysUptoRow, standIns := [], harness := (true, "c2c0bebb6118a2d40e4b0193416c4a33d02575af2a7014237f657c804727a578"), looks := true }, kinds := [], alts := [], laidByText := true, laidKinds := [.data, .data, .data, .pinned], laidTests := true, laidLooks := .later }
def RsaStaysUptoCardSaid : Prop := Claim7.holds Tryd.pinned (.plain (OpenSpec.upto rsaStaysSpec)) rsaStaysUptoCard
end Rows
end Go.Proofs.YticggkllfojgkaaDoor
