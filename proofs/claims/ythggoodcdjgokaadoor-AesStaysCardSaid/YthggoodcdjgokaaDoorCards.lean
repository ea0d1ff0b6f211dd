/-
  DERIVED. GIVEN WITH THE SEED: THE CARDS: each row of YthggoodcdjgokaaDoorRows.lean that lists a variable, with what it lists TIED to the program's text (the seventh form; the later family's looks); each row that meets fmt, with fmt's text TOLD by the authors' own Lean function (tested against real Go, not proved from fmt's source: count such statements apart). THE CARD IS WHAT COUNTS. Prove the row's statement (the work); the ties are given (YthggoodcdjgokaaDoorTie.lean); close each card by the builder's one call (the guide's Derived/Test/ToyasCard.lean, 'card_holds'). Laid BY PROGRAM, IN A SANDBOX (cutbox-door.mjs). By AI agents, Wed Nov 11 2026. No macro, syntax, notation, axiom, sorry.
-/
import Derived.Test.YthggoodcdjgokaaDoorRows
import GoSem.ClaimSeven
namespace Go.Proofs.YthggoodcdjgokaaDoor
namespace Rows

/-- THE TIED CARD OF 'charterlaw03.AesSubstitutes'. -/
def aesSubstitutesCard : Claim7 := { stood := { row := aesSubstitutesRow, standIns := [], harness := (true, "437dd796e93389456e128326c887ed08785dea9780505348408705f9424a5c24"), looks := true }, kinds := [], alts := [], laidByText := true, laidKinds := [.data], laidTests := true, laidLooks := .later }
def AesSubstitutesCardSaid : Prop := Claim7.holds Tryd.pinned (.plain (OpenSpec.ofChange aesSubstitutesSpec)) aesSubstitutesCard

/-- THE TIED CARD OF 'charterlaw03.AesKeys'. -/
def aesKeysCard : Claim7 := { stood := { row := aesKeysRow, standIns := [], harness := (true, "437dd796e93389456e128326c887ed08785dea9780505348408705f9424a5c24"), looks := true }, kinds := [], alts := [], laidByText := true, laidKinds := [.data], laidTests := true, laidLooks := .later }
def AesKeysCardSaid : Prop := Claim7.holds Tryd.pinned (.plain (OpenSpec.ofChange aesKeysSpec)) aesKeysCard

/-- THE TIED CARD OF 'charterlaw03.AesEncrypts'. -/
def aesEncryptsCard : Claim7 := { stood := { row := aesEncryptsRow, standIns := [], harness := (true, "437dd796e93389456e128326c887ed08785dea9780505348408705f9424a5c24"), looks := true }, kinds := [], alts := [], laidByText := true, laidKinds := [.data], laidTests := true, laidLooks := .later }
def AesEncryptsCardSaid : Prop := Claim7.holds Tryd.pinned (.plain (OpenSpec.ofChange aesEncryptsSpec)) aesEncryptsCard

/-- THE TIED CARD OF 'charterlaw03.AesDecrypts'. -/
def aesDecryptsCard : Claim7 := { stood := { row := aesDecryptsRow, standIns := [], harness := (true, "437dd796e93389456e128326c887ed08785dea9780505348408705f9424a5c24"), looks := true }, kinds := [], alts := [], laidByText := true, laidKinds := [.data], laidTests := true, laidLooks := .later }
def AesDecryptsCardSaid : Prop := Claim7.holds Tryd.pinned (.plain (OpenSpec.ofChange aesDecryptsSpec)) aesDecryptsCard

/-- THE TIED CARD OF 'charterlaw03.AesBack'. -/
def aesBackCard : Claim7 := { stood := { row := aesBackRow, standIns := [], harness := (true, "437dd796e93389456e128326c887ed08785dea9780505348408705f9424a5c24"), looks := true }, kinds := [], alts := [], laidByText := true, laidKinds := [.data], laidTests := true, laidLooks := .later }
def AesBackCardSaid : Prop := Claim7.holds Tryd.pinned (.plain (OpenSpec.ofChange aesBackSpec)) aesBackCard

/-- THE TIED CARD OF 'charterlaw03.AesStays'. -/
def aesStaysCard : Claim7 := { stood := { row := aesStaysRow, standIns := [], harness := (true, "437dd796e93389456e128326c887ed08785dea9780505348408705f9424a5c24"), looks := true }, kinds := [], alts := [], laidByText := true, laidKinds := [.data], laidTests := true, laidLooks := .later }
def AesStaysCardSaid : Prop := Claim7.holds Tryd.pinned (.plain (OpenSpec.ofChange aesStaysSpec)) aesStaysCard

/-- THE SECOND FORM's CARD OF 'charterlaw03.AesSubstitutes'. -/
def aesSubstitutesUptoCard : Claim7 := { stood := { row := aesSubstitutesUptoRow, standIns := [], harness := (true, "437dd796e93389456e128326c887ed08785dea9780505348408705f9424a5c24"), looks := true }, kinds := [], alts := [], laidByText := true, laidKinds := [.data], laidTests := true, laidLooks := .later }
def AesSubstitutesUptoCardSaid : Prop := Claim7.holds Tryd.pinned (.plain (OpenSpec.upto aesSubstitutesSpec)) aesSubstitutesUptoCard

/-- THE SECOND FORM's CARD OF 'charterlaw03.AesKeys'. -/
def aesKeysUptoCard : Claim7 := { stood := { row := aesKeysUptoRow, standIns := [], harness := (true, "437dd796e93389456e128326c887ed08785dea9780505348408705f9424a5c24"), looks := true }, kinds := [], alts := [], laidByText := true, laidKinds := [.data], laidTests := true, laidLooks := .later }
def AesKeysUptoCardSaid : Prop := Claim7.holds Tryd.pinned (.plain (OpenSpec.upto aesKeysSpec)) aesKeysUptoCard

/-- THE SECOND FORM's CARD OF 'charterlaw03.AesEncrypts'. -/
def aesEncryptsUptoCard : Claim7 := { stood := { row := aesEncryptsUptoRow, standIns := [], harness := (true, "437dd796e93389456e128326c887ed08785dea9780505348408705f9424a5c24"), looks := true }, kinds := [], alts := [], laidByText := true, laidKinds := [.data], laidTests := true, laidLooks := .later }
def AesEncryptsUptoCardSaid : Prop := Claim7.holds Tryd.pinned (.plain (OpenSpec.upto aesEncryptsSpec)) aesEncryptsUptoCard

/-- THE SECOND FORM's CARD OF 'charterlaw03.AesDecrypts'. -/
def aesDecryptsUptoCard : Claim7 := { stood := { row := aesDecryptsUptoRow, standIns := [], harness := (true, "437dd796e93389456e128326c887ed08785dea9780505348408705f9424a5c24"), looks := true }, kinds := [], alts := [], laidByText := true, laidKinds := [.data], laidTests := true, laidLooks := .later }
def AesDecryptsUptoCardSaid : Prop := Claim7.holds Tryd.pinned (.plain (OpenSpec.upto aesDecryptsSpec)) aesDecryptsUptoCard

/-- THE SECOND FORM's CARD OF 'charterlaw03.AesBack'. -/
def aesBackUptoCard : Claim7 := { stood := { row := aesBackUptoRow, standIns := [], harness := (true, "437dd796e93389456e128326c887ed08785dea9780505348408705f9424a5c24"), looks := true }, kinds := [], alts := [], laidByText := true, laidKinds := [.data], laidTests := true, laidLooks := .later }
def AesBackUptoCardSaid : Prop := Claim7.holds Tryd.pinned (.plain (OpenSpec.upto aesBackSpec)) aesBackUptoCard

/-- THE SECOND FORM's CARD OF 'charterlaw03.AesStays'. -/
def aesStaysUptoCard : Claim7 := { stood := { row := aesStaysUptoRow, standIns := [], harness := (true, "437dd796e93389456e128326c887ed08785dea9780505348408705f9424a5c24"), looks := true }, kinds := [], alts := [], laidByText := true, laidKinds := [.data], laidTests := true, laidLooks := .later }
def AesStaysUptoCardSaid : Prop := Claim7.holds Tryd.pinned (.plain (OpenSpec.upto aesStaysSpec)) aesStaysUptoCard
end Rows
end Go.Proofs.YthggoodcdjgokaaDoor
