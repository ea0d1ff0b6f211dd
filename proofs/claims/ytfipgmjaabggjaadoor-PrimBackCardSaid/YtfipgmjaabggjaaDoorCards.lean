/-
  DERIVED. GIVEN WITH THE SEED: THE CARDS: each row of YtfipgmjaabggjaaDoorRows.lean that lists a variable, with what it lists TIED to the program's text (the seventh form; the later family's looks); each row that meets fmt, with fmt's text TOLD by the authors' own Lean function (tested against real Go, not proved from fmt's source: count such statements apart). THE CARD IS WHAT COUNTS. Prove the row's statement (the work); the ties are given (YtfipgmjaabggjaaDoorTie.lean); close each card by the builder's one call (the guide's Derived/Test/ToyasCard.lean, 'card_holds'). Laid BY PROGRAM, IN A SANDBOX (cutbox-door.mjs). By AI agents, Wed Nov 11 2026. No macro, syntax, notation, axiom, sorry.
-/
import Derived.Test.YtfipgmjaabggjaaDoorRows
import GoSem.ClaimSeven
namespace Go.Proofs.YtfipgmjaabggjaaDoor
namespace Rows

/-- THE TIED CARD OF 'charterlaw08.PrimBigs'. -/
def primBigsCard : Claim7 := { stood := { row := primBigsRow, standIns := [], harness := (true, "ea01024664b55d81e357b15658da65e5db6b4e3f10ca233cae8d6a722e1af52b"), looks := true }, kinds := [], alts := [], laidByText := true, laidKinds := [.data, .pinned], laidTests := true, laidLooks := .later }
def PrimBigsCardSaid : Prop := Claim7.holds Tryd.pinned (.plain (OpenSpec.ofChange primBigsSpec)) primBigsCard

/-- THE TIED CARD OF 'charterlaw08.PrimTexts'. -/
def primTextsCard : Claim7 := { stood := { row := primTextsRow, standIns := [], harness := (true, "ea01024664b55d81e357b15658da65e5db6b4e3f10ca233cae8d6a722e1af52b"), looks := true }, kinds := [], alts := [], laidByText := true, laidKinds := [.data, .pinned], laidTests := true, laidLooks := .later }
def PrimTextsCardSaid : Prop := Claim7.holds Tryd.pinned (.plain (OpenSpec.ofChange primTextsSpec)) primTextsCard

/-- THE TIED CARD OF 'charterlaw08.PrimBack'. -/
def primBackCard : Claim7 := { stood := { row := primBackRow, standIns := [], harness := (true, "ea01024664b55d81e357b15658da65e5db6b4e3f10ca233cae8d6a722e1af52b"), looks := true }, kinds := [], alts := [], laidByText := true, laidKinds := [.data, .pinned], laidTests := true, laidLooks := .later }
def PrimBackCardSaid : Prop := Claim7.holds Tryd.pinned (.plain (OpenSpec.ofChange primBackSpec)) primBackCard

/-- THE TIED CARD OF 'charterlaw08.PrimStays'. -/
def primStaysCard : Claim7 := { stood := { row := primStaysRow, standIns := [], harness := (true, "ea01024664b55d81e357b15658da65e5db6b4e3f10ca233cae8d6a722e1af52b"), looks := true }, kinds := [], alts := [], laidByText := true, laidKinds := [.data, .pinned], laidTests := true, laidLooks := .later }
def PrimStaysCardSaid : Prop := Claim7.holds Tryd.pinned (.plain (OpenSpec.ofChange primStaysSpec)) primStaysCard

/-- THE SECOND FORM's CARD OF 'charterlaw08.PrimBigs'. -/
def primBigsUptoCard : Claim7 := { stood := { row := primBigsUptoRow, standIns := [], harness := (true, "ea01024664b55d81e357b15658da65e5db6b4e3f10ca233cae8d6a722e1af52b"), looks := true }, kinds := [], alts := [], laidByText := true, laidKinds := [.data, .pinned], laidTests := true, laidLooks := .later }
def PrimBigsUptoCardSaid : Prop := Claim7.holds Tryd.pinned (.plain (OpenSpec.upto primBigsSpec)) primBigsUptoCard

/-- THE SECOND FORM's CARD OF 'charterlaw08.PrimTexts'. -/
def primTextsUptoCard : Claim7 := { stood := { row := primTextsUptoRow, standIns := [], harness := (true, "ea01024664b55d81e357b15658da65e5db6b4e3f10ca233cae8d6a722e1af52b"), looks := true }, kinds := [], alts := [], laidByText := true, laidKinds := [.data, .pinned], laidTests := true, laidLooks := .later }
def PrimTextsUptoCardSaid : Prop := Claim7.holds Tryd.pinned (.plain (OpenSpec.upto primTextsSpec)) primTextsUptoCard

/-- THE SECOND FORM's CARD OF 'charterlaw08.PrimBack'. -/
def primBackUptoCard : Claim7 := { stood := { row := primBackUptoRow, standIns := [], harness := (true, "ea01024664b55d81e357b15658da65e5db6b4e3f10ca233cae8d6a722e1af52b"), looks := true }, kinds := [], alts := [], laidByText := true, laidKinds := [.data, .pinned], laidTests := true, laidLooks := .later }
def PrimBackUptoCardSaid : Prop := Claim7.holds Tryd.pinned (.plain (OpenSpec.upto primBackSpec)) primBackUptoCard

/-- THE SECOND FORM's CARD OF 'charterlaw08.PrimStays'. -/
def primStaysUptoCard : Claim7 := { stood := { row := primStaysUptoRow, standIns := [], harness := (true, "ea01024664b55d81e357b15658da65e5db6b4e3f10ca233cae8d6a722e1af52b"), looks := true }, kinds := [], alts := [], laidByText := true, laidKinds := [.data, .pinned], laidTests := true, laidLooks := .later }
def PrimStaysUptoCardSaid : Prop := Claim7.holds Tryd.pinned (.plain (OpenSpec.upto primStaysSpec)) primStaysUptoCard
end Rows
end Go.Proofs.YtfipgmjaabggjaaDoor
