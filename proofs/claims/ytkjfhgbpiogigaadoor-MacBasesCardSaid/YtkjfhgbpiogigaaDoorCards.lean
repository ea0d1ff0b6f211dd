/-
  DERIVED. GIVEN WITH THE SEED: THE CARDS: each row of YtkjfhgbpiogigaaDoorRows.lean that lists a variable, with what it lists TIED to the program's text (the seventh form; the later family's looks); each row that meets fmt, with fmt's text TOLD by the authors' own Lean function (tested against real Go, not proved from fmt's source: count such statements apart). THE CARD IS WHAT COUNTS. Prove the row's statement (the work); the ties are given (YtkjfhgbpiogigaaDoorTie.lean); close each card by the builder's one call (the guide's Derived/Test/ToyasCard.lean, 'card_holds'). Laid BY PROGRAM, IN A SANDBOX (cutbox-door.mjs). By AI agents, Wed Nov 11 2026. No macro, syntax, notation, axiom, sorry.
-/
import Derived.Test.YtkjfhgbpiogigaaDoorRows
import GoSem.ClaimSeven
namespace Go.Proofs.YtkjfhgbpiogigaaDoor
namespace Rows

/-- THE TIED CARD OF 'charterlaw01.ShaSchedules'. -/
def shaSchedulesCard : Claim7 := { stood := { row := shaSchedulesRow, standIns := [], harness := (true, "90be4a7964a812eccd8d91215d38cb95105778728742df565bba75c5625a2a16"), looks := true }, kinds := [], alts := [], laidByText := true, laidKinds := [.data, .data], laidTests := true, laidLooks := .later }
def ShaSchedulesCardSaid : Prop := Claim7.holds Tryd.pinned (.plain (OpenSpec.ofChange shaSchedulesSpec)) shaSchedulesCard

/-- THE TIED CARD OF 'charterlaw01.ShaRounds'. -/
def shaRoundsCard : Claim7 := { stood := { row := shaRoundsRow, standIns := [], harness := (true, "90be4a7964a812eccd8d91215d38cb95105778728742df565bba75c5625a2a16"), looks := true }, kinds := [], alts := [], laidByText := true, laidKinds := [.data, .data], laidTests := true, laidLooks := .later }
def ShaRoundsCardSaid : Prop := Claim7.holds Tryd.pinned (.plain (OpenSpec.ofChange shaRoundsSpec)) shaRoundsCard

/-- THE TIED CARD OF 'charterlaw01.ShaPresses'. -/
def shaPressesCard : Claim7 := { stood := { row := shaPressesRow, standIns := [], harness := (true, "90be4a7964a812eccd8d91215d38cb95105778728742df565bba75c5625a2a16"), looks := true }, kinds := [], alts := [], laidByText := true, laidKinds := [.data, .data], laidTests := true, laidLooks := .later }
def ShaPressesCardSaid : Prop := Claim7.holds Tryd.pinned (.plain (OpenSpec.ofChange shaPressesSpec)) shaPressesCard

/-- THE TIED CARD OF 'charterlaw01.ShaTails'. -/
def shaTailsCard : Claim7 := { stood := { row := shaTailsRow, standIns := [], harness := (true, "90be4a7964a812eccd8d91215d38cb95105778728742df565bba75c5625a2a16"), looks := true }, kinds := [], alts := [], laidByText := true, laidKinds := [.data, .data], laidTests := true, laidLooks := .later }
def ShaTailsCardSaid : Prop := Claim7.holds Tryd.pinned (.plain (OpenSpec.ofChange shaTailsSpec)) shaTailsCard

/-- THE TIED CARD OF 'charterlaw01.ShaSums'. -/
def shaSumsCard : Claim7 := { stood := { row := shaSumsRow, standIns := [], harness := (true, "90be4a7964a812eccd8d91215d38cb95105778728742df565bba75c5625a2a16"), looks := true }, kinds := [], alts := [], laidByText := true, laidKinds := [.data, .data], laidTests := true, laidLooks := .later }
def ShaSumsCardSaid : Prop := Claim7.holds Tryd.pinned (.plain (OpenSpec.ofChange shaSumsSpec)) shaSumsCard

/-- THE TIED CARD OF 'charterlaw01.ShaBack'. -/
def shaBackCard : Claim7 := { stood := { row := shaBackRow, standIns := [], harness := (true, "90be4a7964a812eccd8d91215d38cb95105778728742df565bba75c5625a2a16"), looks := true }, kinds := [], alts := [], laidByText := true, laidKinds := [.data, .data], laidTests := true, laidLooks := .later }
def ShaBackCardSaid : Prop := Claim7.holds Tryd.pinned (.plain (OpenSpec.ofChange shaBackSpec)) shaBackCard

/-- THE TIED CARD OF 'charterlaw01.ShaGoes'. -/
def shaGoesCard : Claim7 := { stood := { row := shaGoesRow, standIns := [], harness := (true, "90be4a7964a812eccd8d91215d38cb95105778728742df565bba75c5625a2a16"), looks := true }, kinds := [], alts := [], laidByText := true, laidKinds := [.data, .data], laidTests := true, laidLooks := .later }
def ShaGoesCardSaid : Prop := Claim7.holds Tryd.pinned (.plain (OpenSpec.ofChange shaGoesSpec)) shaGoesCard

/-- THE TIED CARD OF 'charterlaw01.ShaStays'. -/
def shaStaysCard : Claim7 := { stood := { row := shaStaysRow, standIns := [], harness := (true, "90be4a7964a812eccd8d91215d38cb95105778728742df565bba75c5625a2a16"), looks := true }, kinds := [], alts := [], laidByText := true, laidKinds := [.data, .data], laidTests := true, laidLooks := .later }
def ShaStaysCardSaid : Prop := Claim7.holds Tryd.pinned (.plain (OpenSpec.ofChange shaStaysSpec)) shaStaysCard

/-- THE TIED CARD OF 'charterlaw02.MacMarks'. -/
def macMarksCard : Claim7 := { stood := { row := macMarksRow, standIns := [], harness := (true, "90be4a7964a812eccd8d91215d38cb95105778728742df565bba75c5625a2a16"), looks := true }, kinds := [], alts := [], laidByText := true, laidKinds := [.data, .data], laidTests := true, laidLooks := .later }
def MacMarksCardSaid : Prop := Claim7.holds Tryd.pinned (.plain (OpenSpec.ofChange macMarksSpec)) macMarksCard

/-- THE TIED CARD OF 'charterlaw02.MacDerives'. -/
def macDerivesCard : Claim7 := { stood := { row := macDerivesRow, standIns := [], harness := (true, "90be4a7964a812eccd8d91215d38cb95105778728742df565bba75c5625a2a16"), looks := true }, kinds := [], alts := [], laidByText := true, laidKinds := [.data, .data], laidTests := true, laidLooks := .later }
def MacDerivesCardSaid : Prop := Claim7.holds Tryd.pinned (.plain (OpenSpec.ofChange macDerivesSpec)) macDerivesCard

/-- THE TIED CARD OF 'charterlaw02.MacBases'. -/
def macBasesCard : Claim7 := { stood := { row := macBasesRow, standIns := [], harness := (true, "90be4a7964a812eccd8d91215d38cb95105778728742df565bba75c5625a2a16"), looks := true }, kinds := [], alts := [], laidByText := true, laidKinds := [.data, .data], laidTests := true, laidLooks := .later }
def MacBasesCardSaid : Prop := Claim7.holds Tryd.pinned (.plain (OpenSpec.ofChange macBasesSpec)) macBasesCard

/-- THE TIED CARD OF 'charterlaw02.MacSame'. -/
def macSameCard : Claim7 := { stood := { row := macSameRow, standIns := [], harness := (true, "90be4a7964a812eccd8d91215d38cb95105778728742df565bba75c5625a2a16"), looks := true }, kinds := [], alts := [], laidByText := true, laidKinds := [.data, .data], laidTests := true, laidLooks := .later }
def MacSameCardSaid : Prop := Claim7.holds Tryd.pinned (.plain (OpenSpec.ofChange macSameSpec)) macSameCard

/-- THE TIED CARD OF 'charterlaw02.MacLong'. -/
def macLongCard : Claim7 := { stood := { row := macLongRow, standIns := [], harness := (true, "90be4a7964a812eccd8d91215d38cb95105778728742df565bba75c5625a2a16"), looks := true }, kinds := [], alts := [], laidByText := true, laidKinds := [.data, .data], laidTests := true, laidLooks := .later }
def MacLongCardSaid : Prop := Claim7.holds Tryd.pinned (.plain (OpenSpec.ofChange macLongSpec)) macLongCard

/-- THE TIED CARD OF 'charterlaw02.MacStays'. -/
def macStaysCard : Claim7 := { stood := { row := macStaysRow, standIns := [], harness := (true, "90be4a7964a812eccd8d91215d38cb95105778728742df565bba75c5625a2a16"), looks := true }, kinds := [], alts := [], laidByText := true, laidKinds := [.data, .data], laidTests := true, laidLooks := .later }
def MacStaysCardSaid : Prop := Claim7.holds Tryd.pinned (.plain (OpenSpec.ofChange macStaysSpec)) macStaysCard

/-- THE SECOND FORM's CARD OF 'charterlaw01.ShaSchedules'. -/
def shaSchedulesUptoCard : Claim7 := { stood := { row := shaSchedulesUptoRow, standIns := [], harness := (true, "90be4a7964a812eccd8d91215d38cb95105778728742df565bba75c5625a2a16"), looks := true }, kinds := [], alts := [], laidByText := true, laidKinds := [.data, .data], laidTests := true, laidLooks := .later }
def ShaSchedulesUptoCardSaid : Prop := Claim7.holds Tryd.pinned (.plain (OpenSpec.upto shaSchedulesSpec)) shaSchedulesUptoCard

/-- THE SECOND FORM's CARD OF 'charterlaw01.ShaRounds'. -/
def shaRoundsUptoCard : Claim7 := { stood := { row := shaRoundsUptoRow, standIns := [], harness := (true, "90be4a7964a812eccd8d91215d38cb95105778728742df565bba75c5625a2a16"), looks := true }, kinds := [], alts := [], laidByText := true, laidKinds := [.data, .data], laidTests := true, laidLooks := .later }
def ShaRoundsUptoCardSaid : Prop := Claim7.holds Tryd.pinned (.plain (OpenSpec.upto shaRoundsSpec)) shaRoundsUptoCard

/-- THE SECOND FORM's CARD OF 'charterlaw01.ShaPresses'. -/
def shaPressesUptoCard : Claim7 := { stood := { row := shaPressesUptoRow, standIns := [], harness := (true, "90be4a7964a812eccd8d91215d38cb95105778728742df565bba75c5625a2a16"), looks := true }, kinds := [], alts := [], laidByText := true, laidKinds := [.data, .data], laidTests := true, laidLooks := .later }
def ShaPressesUptoCardSaid : Prop := Claim7.holds Tryd.pinned (.plain (OpenSpec.upto shaPressesSpec)) shaPressesUptoCard

/-- THE SECOND FORM's CARD OF 'charterlaw01.ShaTails'. -/
def shaTailsUptoCard : Claim7 := { stood := { row := shaTailsUptoRow, standIns := [], harness := (true, "90be4a7964a812eccd8d91215d38cb95105778728742df565bba75c5625a2a16"), looks := true }, kinds := [], alts := [], laidByText := true, laidKinds := [.data, .data], laidTests := true, laidLooks := .later }
def ShaTailsUptoCardSaid : Prop := Claim7.holds Tryd.pinned (.plain (OpenSpec.upto shaTailsSpec)) shaTailsUptoCard

/-- THE SECOND FORM's CARD OF 'charterlaw01.ShaSums'. -/
def shaSumsUptoCard : Claim7 := { stood := { row := shaSumsUptoRow, standIns := [], harness := (true, "90be4a7964a812eccd8d91215d38cb95105778728742df565bba75c5625a2a16"), looks := true }, kinds := [], alts := [], laidByText := true, laidKinds := [.data, .data], laidTests := true, laidLooks := .later }
def ShaSumsUptoCardSaid : Prop := Claim7.holds Tryd.pinned (.plain (OpenSpec.upto shaSumsSpec)) shaSumsUptoCard

/-- THE SECOND FORM's CARD OF 'charterlaw01.ShaBack'. -/
def shaBackUptoCard : Claim7 := { stood := { row := shaBackUptoRow, standIns := [], harness := (true, "90be4a7964a812eccd8d91215d38cb95105778728742df565bba75c5625a2a16"), looks := true }, kinds := [], alts := [], laidByText := true, laidKinds := [.data, .data], laidTests := true, laidLooks := .later }
def ShaBackUptoCardSaid : Prop := Claim7.holds Tryd.pinned (.plain (OpenSpec.upto shaBackSpec)) shaBackUptoCard

/-- THE SECOND FORM's CARD OF 'charterlaw01.ShaGoes'. -/
def shaGoesUptoCard : Claim7 := { stood := { row := shaGoesUptoRow, standIns := [], harness := (true, "90be4a7964a812eccd8d91215d38cb95105778728742df565bba75c5625a2a16"), looks := true }, kinds := [], alts := [], laidByText := true, laidKinds := [.data, .data], laidTests := true, laidLooks := .later }
def ShaGoesUptoCardSaid : Prop := Claim7.holds Tryd.pinned (.plain (OpenSpec.upto shaGoesSpec)) shaGoesUptoCard

/-- THE SECOND FORM's CARD OF 'charterlaw01.ShaStays'. -/
def shaStaysUptoCard : Claim7 := { stood := { row := shaStaysUptoRow, standIns := [], harness := (true, "90be4a7964a812eccd8d91215d38cb95105778728742df565bba75c5625a2a16"), looks := true }, kinds := [], alts := [], laidByText := true, laidKinds := [.data, .data], laidTests := true, laidLooks := .later }
def ShaStaysUptoCardSaid : Prop := Claim7.holds Tryd.pinned (.plain (OpenSpec.upto shaStaysSpec)) shaStaysUptoCard

/-- THE SECOND FORM's CARD OF 'charterlaw02.MacMarks'. -/
def macMarksUptoCard : Claim7 := { stood := { row := macMarksUptoRow, standIns := [], harness := (true, "90be4a7964a812eccd8d91215d38cb95105778728742df565bba75c5625a2a16"), looks := true }, kinds := [], alts := [], laidByText := true, laidKinds := [.data, .data], laidTests := true, laidLooks := .later }
def MacMarksUptoCardSaid : Prop := Claim7.holds Tryd.pinned (.plain (OpenSpec.upto macMarksSpec)) macMarksUptoCard

/-- THE SECOND FORM's CARD OF 'charterlaw02.MacDerives'. -/
def macDerivesUptoCard : Claim7 := { stood := { row := macDerivesUptoRow, standIns := [], harness := (true, "90be4a7964a812eccd8d91215d38cb95105778728742df565bba75c5625a2a16"), looks := true }, kinds := [], alts := [], laidByText := true, laidKinds := [.data, .data], laidTests := true, laidLooks := .later }
def MacDerivesUptoCardSaid : Prop := Claim7.holds Tryd.pinned (.plain (OpenSpec.upto macDerivesSpec)) macDerivesUptoCard

/-- THE SECOND FORM's CARD OF 'charterlaw02.MacBases'. -/
def macBasesUptoCard : Claim7 := { stood := { row := macBasesUptoRow, standIns := [], harness := (true, "90be4a7964a812eccd8d91215d38cb95105778728742df565bba75c5625a2a16"), looks := true }, kinds := [], alts := [], laidByText := true, laidKinds := [.data, .data], laidTests := true, laidLooks := .later }
def MacBasesUptoCardSaid : Prop := Claim7.holds Tryd.pinned (.plain (OpenSpec.upto macBasesSpec)) macBasesUptoCard

/-- THE SECOND FORM's CARD OF 'charterlaw02.MacSame'. -/
def macSameUptoCard : Claim7 := { stood := { row := macSameUptoRow, standIns := [], harness := (true, "90be4a7964a812eccd8d91215d38cb95105778728742df565bba75c5625a2a16"), looks := true }, kinds := [], alts := [], laidByText := true, laidKinds := [.data, .data], laidTests := true, laidLooks := .later }
def MacSameUptoCardSaid : Prop := Claim7.holds Tryd.pinned (.plain (OpenSpec.upto macSameSpec)) macSameUptoCard

/-- THE SECOND FORM's CARD OF 'charterlaw02.MacLong'. -/
def macLongUptoCard : Claim7 := { stood := { row := macLongUptoRow, standIns := [], harness := (true, "90be4a7964a812eccd8d91215d38cb95105778728742df565bba75c5625a2a16"), looks := true }, kinds := [], alts := [], laidByText := true, laidKinds := [.data, .data], laidTests := true, laidLooks := .later }
def MacLongUptoCardSaid : Prop := Claim7.holds Tryd.pinned (.plain (OpenSpec.upto macLongSpec)) macLongUptoCard

/-- THE SECOND FORM's CARD OF 'charterlaw02.MacStays'. -/
def macStaysUptoCard : Claim7 := { stood := { row := macStaysUptoRow, standIns := [], harness := (true, "90be4a7964a812eccd8d91215d38cb95105778728742df565bba75c5625a2a16"), looks := true }, kinds := [], alts := [], laidByText := true, laidKinds := [.data, .data], laidTests := true, laidLooks := .later }
def MacStaysUptoCardSaid : Prop := Claim7.holds Tryd.pinned (.plain (OpenSpec.upto macStaysSpec)) macStaysUptoCard
end Rows
end Go.Proofs.YtkjfhgbpiogigaaDoor
