/-
  DERIVED. GIVEN WITH THE SEED: THE CARDS: each row of YtkdjhklnlnfhfaaGreatDoorRows.lean that lists a variable, with what it lists TIED to the program's text (the seventh form; the later family's looks); each row that meets fmt, with fmt's text TOLD by the authors' own Lean function (tested against real Go, not proved from fmt's source: count such statements apart). THE CARD IS WHAT COUNTS. Prove the row's statement (the work); the ties are given (YtkdjhklnlnfhfaaGreatDoorTie.lean); close each card by the builder's one call (the guide's Derived/Test/ToyasCard.lean, 'card_holds'). Laid BY PROGRAM, IN A SANDBOX (cutbox-door.mjs). By AI agents, Wed Nov 11 2026. No macro, syntax, notation, axiom, sorry.
-/
import Derived.Test.YtkdjhklnlnfhfaaGreatDoorRows
import GoSem.ClaimSeven
namespace Go.Proofs.YtkdjhklnlnfhfaaGreatDoor
namespace Rows

/-- THE TIED CARD OF 'charterlaw10.CertBodies'. -/
def certBodiesCard : Claim7 := { stood := { row := certBodiesRow, standIns := [], harness := (true, "5dfa4cdcf30e3056bce926bfa3ce1e81442ae5e59fb938fdf0aa7e9904753cad"), looks := true }, kinds := [], alts := [], laidByText := true, laidKinds := [.data, .pinned], laidTests := true, laidLooks := .later }
def CertBodiesCardSaid : Prop := Claim7.holds Tryz.pinned (.plain (OpenSpec.ofChange certBodiesSpec)) certBodiesCard

/-- THE TIED CARD OF 'charterlaw10.CertEncodes'. -/
def certEncodesCard : Claim7 := { stood := { row := certEncodesRow, standIns := [], harness := (true, "5dfa4cdcf30e3056bce926bfa3ce1e81442ae5e59fb938fdf0aa7e9904753cad"), looks := true }, kinds := [], alts := [], laidByText := true, laidKinds := [.data, .pinned], laidTests := true, laidLooks := .later }
def CertEncodesCardSaid : Prop := Claim7.holds Tryz.pinned (.plain (OpenSpec.ofChange certEncodesSpec)) certEncodesCard

/-- THE TIED CARD OF 'charterlaw10.CertLong'. -/
def certLongCard : Claim7 := { stood := { row := certLongRow, standIns := [], harness := (true, "5dfa4cdcf30e3056bce926bfa3ce1e81442ae5e59fb938fdf0aa7e9904753cad"), looks := true }, kinds := [], alts := [], laidByText := true, laidKinds := [.data, .pinned], laidTests := true, laidLooks := .later }
def CertLongCardSaid : Prop := Claim7.holds Tryz.pinned (.plain (OpenSpec.ofChange certLongSpec)) certLongCard

/-- THE TIED CARD OF 'charterlaw10.CertDecodes'. -/
def certDecodesCard : Claim7 := { stood := { row := certDecodesRow, standIns := [], harness := (true, "5dfa4cdcf30e3056bce926bfa3ce1e81442ae5e59fb938fdf0aa7e9904753cad"), looks := true }, kinds := [], alts := [], laidByText := true, laidKinds := [.data, .pinned], laidTests := true, laidLooks := .later }
def CertDecodesCardSaid : Prop := Claim7.holds Tryz.pinned (.plain (OpenSpec.ofChange certDecodesSpec)) certDecodesCard

/-- THE TIED CARD OF 'charterlaw10.CertIssues'. -/
def certIssuesCard : Claim7 := { stood := { row := certIssuesRow, standIns := [], harness := (true, "5dfa4cdcf30e3056bce926bfa3ce1e81442ae5e59fb938fdf0aa7e9904753cad"), looks := true }, kinds := [], alts := [], laidByText := true, laidKinds := [.data, .data, .data, .pinned], laidTests := true, laidLooks := .later }
def CertIssuesCardSaid : Prop := Claim7.holds Tryz.pinned (.plain (OpenSpec.ofChange certIssuesSpec)) certIssuesCard

/-- THE TIED CARD OF 'charterlaw10.CertBack'. -/
def certBackCard : Claim7 := { stood := { row := certBackRow, standIns := [], harness := (true, "5dfa4cdcf30e3056bce926bfa3ce1e81442ae5e59fb938fdf0aa7e9904753cad"), looks := true }, kinds := [], alts := [], laidByText := true, laidKinds := [.data, .data, .data, .pinned], laidTests := true, laidLooks := .later }
def CertBackCardSaid : Prop := Claim7.holds Tryz.pinned (.plain (OpenSpec.ofChange certBackSpec)) certBackCard

/-- THE TIED CARD OF 'charterlaw10.CertStays'. -/
def certStaysCard : Claim7 := { stood := { row := certStaysRow, standIns := [], harness := (true, "5dfa4cdcf30e3056bce926bfa3ce1e81442ae5e59fb938fdf0aa7e9904753cad"), looks := true }, kinds := [], alts := [], laidByText := true, laidKinds := [.data, .pinned], laidTests := true, laidLooks := .later }
def CertStaysCardSaid : Prop := Claim7.holds Tryz.pinned (.plain (OpenSpec.ofChange certStaysSpec)) certStaysCard

/-- THE SECOND FORM's CARD OF 'charterlaw10.CertBodies'. -/
def certBodiesUptoCard : Claim7 := { stood := { row := certBodiesUptoRow, standIns := [], harness := (true, "5dfa4cdcf30e3056bce926bfa3ce1e81442ae5e59fb938fdf0aa7e9904753cad"), looks := true }, kinds := [], alts := [], laidByText := true, laidKinds := [.data, .pinned], laidTests := true, laidLooks := .later }
def CertBodiesUptoCardSaid : Prop := Claim7.holds Tryz.pinned (.plain (OpenSpec.upto certBodiesSpec)) certBodiesUptoCard

/-- THE SECOND FORM's CARD OF 'charterlaw10.CertEncodes'. -/
def certEncodesUptoCard : Claim7 := { stood := { row := certEncodesUptoRow, standIns := [], harness := (true, "5dfa4cdcf30e3056bce926bfa3ce1e81442ae5e59fb938fdf0aa7e9904753cad"), looks := true }, kinds := [], alts := [], laidByText := true, laidKinds := [.data, .pinned], laidTests := true, laidLooks := .later }
def CertEncodesUptoCardSaid : Prop := Claim7.holds Tryz.pinned (.plain (OpenSpec.upto certEncodesSpec)) certEncodesUptoCard

/-- THE SECOND FORM's CARD OF 'charterlaw10.CertLong'. -/
def certLongUptoCard : Claim7 := { stood := { row := certLongUptoRow, standIns := [], harness := (true, "5dfa4cdcf30e3056bce926bfa3ce1e81442ae5e59fb938fdf0aa7e9904753cad"), looks := true }, kinds := [], alts := [], laidByText := true, laidKinds := [.data, .pinned], laidTests := true, laidLooks := .later }
def CertLongUptoCardSaid : Prop := Claim7.holds Tryz.pinned (.plain (OpenSpec.upto certLongSpec)) certLongUptoCard

/-- THE SECOND FORM's CARD OF 'charterlaw10.CertDecodes'. -/
def certDecodesUptoCard : Claim7 := { stood := { row := certDecodesUptoRow, standIns := [], harness := (true, "5dfa4cdcf30e3056bce926bfa3ce1e81442ae5e59fb938fdf0aa7e9904753cad"), looks := true }, kinds := [], alts := [], laidByText := true, laidKinds := [.data, .pinned], laidTests := true, laidLooks := .later }
def CertDecodesUptoCardSaid : Prop := Claim7.holds Tryz.pinned (.plain (OpenSpec.upto certDecodesSpec)) certDecodesUptoCard

/-- THE SECOND FORM's CARD OF 'charterlaw10.CertIssues'. -/
def certIssuesUptoCard : Claim7 := { stood := { row := certIssuesUptoRow, standIns := [], harness := (true, "5dfa4cdcf30e3056bce926bfa3ce1e81442ae5e59fb938fdf0aa7e9904753cad"), looks := true }, kinds := [], alts := [], laidByText := true, laidKinds := [.data, .data, .data, .pinned], laidTests := true, laidLooks := .later }
def CertIssuesUptoCardSaid : Prop := Claim7.holds Tryz.pinned (.plain (OpenSpec.upto certIssuesSpec)) certIssuesUptoCard

/-- THE SECOND FORM's CARD OF 'charterlaw10.CertBack'. -/
def certBackUptoCard : Claim7 := { stood := { row := certBackUptoRow, standIns := [], harness := (true, "5dfa4cdcf30e3056bce926bfa3ce1e81442ae5e59fb938fdf0aa7e9904753cad"), looks := true }, kinds := [], alts := [], laidByText := true, laidKinds := [.data, .data, .data, .pinned], laidTests := true, laidLooks := .later }
def CertBackUptoCardSaid : Prop := Claim7.holds Tryz.pinned (.plain (OpenSpec.upto certBackSpec)) certBackUptoCard

/-- THE SECOND FORM's CARD OF 'charterlaw10.CertStays'. -/
def certStaysUptoCard : Claim7 := { stood := { row := certStaysUptoRow, standIns := [], harness := (true, "5dfa4cdcf30e3056bce926bfa3ce1e81442ae5e59fb938fdf0aa7e9904753cad"), looks := true }, kinds := [], alts := [], laidByText := true, laidKinds := [.data, .pinned], laidTests := true, laidLooks := .later }
def CertStaysUptoCardSaid : Prop := Claim7.holds Tryz.pinned (.plain (OpenSpec.upto certStaysSpec)) certStaysUptoCard
end Rows
end Go.Proofs.YtkdjhklnlnfhfaaGreatDoor
