/-
  DERIVED. GIVEN WITH THE SEED: THE CARDS: each row of YticggkllfojgkaaGreatDoorRows.lean that lists a variable, with what it lists TIED to the program's text (the seventh form; the later family's looks); each row that meets fmt, with fmt's text TOLD by the authors' own Lean function (tested against real Go, not proved from fmt's source: count such statements apart). THE CARD IS WHAT COUNTS. Prove the row's statement (the work); the ties are given (YticggkllfojgkaaGreatDoorTie.lean); close each card by the builder's one call (the guide's Derived/Test/ToyasCard.lean, 'card_holds'). Laid BY PROGRAM, IN A SANDBOX (cutbox-door.mjs). By AI agents, Wed Nov 11 2026. No macro, syntax, notation, axiom, sorry.
-/
import Derived.Test.YticggkllfojgkaaGreatDoorRows
import GoSem.ClaimSeven
namespace Go.Proofs.YticggkllfojgkaaGreatDoor
namespace Rows

/-- THE TIED CARD OF 'charterlaw06.RsaSigns'. -/
def rsaSignsCard : Claim7 := { stood := { row := rsaSignsRow, standIns := [], harness := (true, "ebc95cc10ddeeec65975ff01036a97856144812c3e8ee8202585a9099442928f"), looks := true }, kinds := [], alts := [], laidByText := true, laidKinds := [.data, .data, .data, .pinned], laidTests := true, laidLooks := .later }
def RsaSignsCardSaid : Prop := Claim7.holds Tryz.pinned (.plain (OpenSpec.ofChange rsaSignsSpec)) rsaSignsCard

/-- THE TIED CARD OF 'charterlaw06.RsaVerifies'. -/
def rsaVerifiesCard : Claim7 := { stood := { row := rsaVerifiesRow, standIns := [], harness := (true, "ebc95cc10ddeeec65975ff01036a97856144812c3e8ee8202585a9099442928f"), looks := true }, kinds := [], alts := [], laidByText := true, laidKinds := [.data, .data, .data, .pinned], laidTests := true, laidLooks := .later }
def RsaVerifiesCardSaid : Prop := Claim7.holds Tryz.pinned (.plain (OpenSpec.ofChange rsaVerifiesSpec)) rsaVerifiesCard

/-- THE TIED CARD OF 'charterlaw06.RsaHolds'. -/
def rsaHoldsCard : Claim7 := { stood := { row := rsaHoldsRow, standIns := [], harness := (true, "ebc95cc10ddeeec65975ff01036a97856144812c3e8ee8202585a9099442928f"), looks := true }, kinds := [], alts := [], laidByText := true, laidKinds := [.data, .data, .data, .pinned], laidTests := true, laidLooks := .later }
def RsaHoldsCardSaid : Prop := Claim7.holds Tryz.pinned (.plain (OpenSpec.ofChange rsaHoldsSpec)) rsaHoldsCard

/-- THE SECOND FORM's CARD OF 'charterlaw06.RsaSigns'. -/
def rsaSignsUptoCard : Claim7 := { stood := { row := rsaSignsUptoRow, standIns := [], harness := (true, "ebc95cc10ddeeec65975ff01036a97856144812c3e8ee8202585a9099442928f"), looks := true }, kinds := [], alts := [], laidByText := true, laidKinds := [.data, .data, .data, .pinned], laidTests := true, laidLooks := .later }
def RsaSignsUptoCardSaid : Prop := Claim7.holds Tryz.pinned (.plain (OpenSpec.upto rsaSignsSpec)) rsaSignsUptoCard

/-- THE SECOND FORM's CARD OF 'charterlaw06.RsaVerifies'. -/
def rsaVerifiesUptoCard : Claim7 := { stood := { row := rsaVerifiesUptoRow, standIns := [], harness := (true, "ebc95cc10ddeeec65975ff01036a97856144812c3e8ee8202585a9099442928f"), looks := true }, kinds := [], alts := [], laidByText := true, laidKinds := [.data, .data, .data, .pinned], laidTests := true, laidLooks := .later }
def RsaVerifiesUptoCardSaid : Prop := Claim7.holds Tryz.pinned (.plain (OpenSpec.upto rsaVerifiesSpec)) rsaVerifiesUptoCard

/-- THE SECOND FORM's CARD OF 'charterlaw06.RsaHolds'. -/
def rsaHoldsUptoCard : Claim7 := { stood := { row := rsaHoldsUptoRow, standIns := [], harness := (true, "ebc95cc10ddeeec65975ff01036a97856144812c3e8ee8202585a9099442928f"), looks := true }, kinds := [], alts := [], laidByText := true, laidKinds := [.data, .data, .data, .pinned], laidTests := true, laidLooks := .later }
def RsaHoldsUptoCardSaid : Prop := Claim7.holds Tryz.pinned (.plain (OpenSpec.upto rsaHoldsSpec)) rsaHoldsUptoCard
end Rows
end Go.Proofs.YticggkllfojgkaaGreatDoor
