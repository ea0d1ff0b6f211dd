/-
  NARROWER THAN 'FOR EVERY INPUT', by the rows' own cells (each row's printed sentence says how): ShaSchedules: laid · ShaRounds: laid · ShaPresses: laid · ShaTails: laid · ShaSums: laid · ShaBack: laid · ShaGoes: laid · ShaStays: laid · MacMarks: laid · MacDerives: laid · MacBases: laid · MacSame: laid · MacLong: laid · MacStays: laid.
  DERIVED. THE GIVEN ROWS OF THIS SEAT. 14 by the template 'for every input the law returns true; each argument reads behind the call as it read before'; 0 by the template 'total and deterministic' (their statements: YtkjfhgbpiogigaaDoorTotals.lean).
  GIVEN WITH THE SEED: the statements are not yours to turn. If you find one false, say at which input.
  Laid BY PROGRAM, IN A SANDBOX (cutbox-rows.mjs): the forced cells as the released guide's own fill.sh prints them over the translation 981598a4745ea293… (all of the seat's roots in one cut). By AI agents, Wed Nov 11 2026. No macro, syntax, notation, axiom, sorry.
-/
import Derived.Test.YtkjfhgbpiogigaaDoorChecked
import GoSem.Claim
import GoSem.ClaimJoined
import GoSem.ClaimMapViews
import Derived.JoinedTies
import Derived.KernelRfl
namespace Go.Proofs.YtkjfhgbpiogigaaDoor
/- THE CELL 'sum', in the pinned program and in every row, IS THE sha256 OF THE DUMP (.gsa) THAT YtkjfhgbpiogigaaDoorProg.lean LOADS. Nothing in Lean hashes anything: it is a label: what it is worth is what the hold of that sum in a sandbox is worth. -/
noncomputable def Tryd.pinned : Pinned := { name := "ytkjfhgbpiogigaadoor", sum := "981598a4745ea2938d07aa5774703bf7cb0065e9e3565c08e4debb49f8b8ea62", checked := Tryd.checked }
namespace Rows
def none {H : Type} : Left H := { results := [], args := [] }

/- WHAT THE LISTED PACKAGE-LEVEL VARIABLES READ AS WHEN THE CALL BEGINS. Each datum BY PROGRAM (the guide's laid-datum.mjs) off the statement by which the dump's own 'gosem.cut.vars' lays the variable. In a bare row this is a premise. The card (YtkjfhgbpiogigaaDoorCards.lean) ties it to the program's text. -/
def laid_charter_sha_constants {H : Type} : DataW H := .agg [.lit (.int .u32 1116352408), .lit (.int .u32 1899447441), .lit (.int .u32 3049323471), .lit (.int .u32 3921009573), .lit (.int .u32 961987163), .lit (.int .u32 1508970993), .lit (.int .u32 2453635748), .lit (.int .u32 2870763221), .lit (.int .u32 3624381080), .lit (.int .u32 310598401), .lit (.int .u32 607225278), .lit (.int .u32 1426881987), .lit (.int .u32 1925078388), .lit (.int .u32 2162078206), .lit (.int .u32 2614888103), .lit (.int .u32 3248222580), .lit (.int .u32 3835390401), .lit (.int .u32 4022224774), .lit (.int .u32 264347078), .lit (.int .u32 604807628), .lit (.int .u32 770255983), .lit (.int .u32 1249150122), .lit (.int .u32 1555081692), .lit (.int .u32 1996064986), .lit (.int .u32 2554220882), .lit (.int .u32 2821834349), .lit (.int .u32 2952996808), .lit (.int .u32 3210313671), .lit (.int .u32 3336571891), .lit (.int .u32 3584528711), .lit (.int .u32 113926993), .lit (.int .u32 338241895), .lit (.int .u32 666307205), .lit (.int .u32 773529912), .lit (.int .u32 1294757372), .lit (.int .u32 1396182291), .lit (.int .u32 1695183700), .lit (.int .u32 1986661051), .lit (.int .u32 2177026350), .lit (.int .u32 2456956037), .lit (.int .u32 2730485921), .lit (.int .u32 2820302411), .lit (.int .u32 3259730800), .lit (.int .u32 3345764771), .lit (.int .u32 3516065817), .lit (.int .u32 3600352804), .lit (.int .u32 4094571909), .lit (.int .u32 275423344), .lit (.int .u32 430227734), .lit (.int .u32 506948616), .lit (.int .u32 659060556), .lit (.int .u32 883997877), .lit (.int .u32 958139571), .lit (.int .u32 1322822218), .lit (.int .u32 1537002063), .lit (.int .u32 1747873779), .lit (.int .u32 1955562222), .lit (.int .u32 2024104815), .lit (.int .u32 2227730452), .lit (.int .u32 2361852424), .lit (.int .u32 2428436474), .lit (.int .u32 2756734187), .lit (.int .u32 3204031479), .lit (.int .u32 3329325298)]
def laid_charter_sha_beginning {H : Type} : DataW H := .agg [.lit (.int .u32 1779033703), .lit (.int .u32 3144134277), .lit (.int .u32 1013904242), .lit (.int .u32 2773480762), .lit (.int .u32 1359893119), .lit (.int .u32 2600822924), .lit (.int .u32 528734635), .lit (.int .u32 1541459225)]

/-- 'charterlaw01.ShaSchedules': WHATEVER THE INPUT: true; the input reads as it did. -/
def shaSchedulesSpec : ChangeSpec := { name := "shaSchedules", fn := fun _ => fun
  | [d] => { results := [.lit (.bool true)], args := [d] }
  | _ => none }
def shaSchedulesRow : OpenClaim := { program := "ytkjfhgbpiogigaadoor", sum := "981598a4745ea2938d07aa5774703bf7cb0065e9e3565c08e4debb49f8b8ea62", func := "charter/charterlaw01.ShaSchedules", spec := "shaSchedules", named := ["charter/sha.beginning", "charter/sha.constants"], apart := false, laid := [("charter/sha.constants", laid_charter_sha_constants), ("charter/sha.beginning", laid_charter_sha_beginning)] }
def ShaSchedulesSaid : Prop := shaSchedulesRow.holds Tryd.pinned (OpenSpec.ofChange shaSchedulesSpec)

/-- ITS FALSE NEIGHBOUR: 'it returns false'. Refute it at one input. -/
def shaSchedulesWrong : ChangeSpec := { name := "shaSchedules", fn := fun _ => fun
  | [d] => { results := [.lit (.bool false)], args := [d] }
  | _ => none }
def ShaSchedulesWrongFalsely : Prop := shaSchedulesRow.holds Tryd.pinned (OpenSpec.ofChange shaSchedulesWrong)

/-- 'charterlaw01.ShaRounds': WHATEVER THE INPUT: true; the input reads as it did. -/
def shaRoundsSpec : ChangeSpec := { name := "shaRounds", fn := fun _ => fun
  | [d1, d2] => { results := [.lit (.bool true)], args := [d1, d2] }
  | _ => none }
def shaRoundsRow : OpenClaim := { program := "ytkjfhgbpiogigaadoor", sum := "981598a4745ea2938d07aa5774703bf7cb0065e9e3565c08e4debb49f8b8ea62", func := "charter/charterlaw01.ShaRounds", spec := "shaRounds", named := ["charter/sha.beginning", "charter/sha.constants"], apart := false, laid := [("charter/sha.constants", laid_charter_sha_constants), ("charter/sha.beginning", laid_charter_sha_beginning)] }
def ShaRoundsSaid : Prop := shaRoundsRow.holds Tryd.pinned (OpenSpec.ofChange shaRoundsSpec)

/-- ITS FALSE NEIGHBOUR: 'it returns false'. Refute it at one input. -/
def shaRoundsWrong : ChangeSpec := { name := "shaRounds", fn := fun _ => fun
  | [d1, d2] => { results := [.lit (.bool false)], args := [d1, d2] }
  | _ => none }
def ShaRoundsWrongFalsely : Prop := shaRoundsRow.holds Tryd.pinned (OpenSpec.ofChange shaRoundsWrong)

/-- 'charterlaw01.ShaPresses': WHATEVER THE INPUT: true; the input reads as it did. -/
def shaPressesSpec : ChangeSpec := { name := "shaPresses", fn := fun _ => fun
  | [d1, d2] => { results := [.lit (.bool true)], args := [d1, d2] }
  | _ => none }
def shaPressesRow : OpenClaim := { program := "ytkjfhgbpiogigaadoor", sum := "981598a4745ea2938d07aa5774703bf7cb0065e9e3565c08e4debb49f8b8ea62", func := "charter/charterlaw01.ShaPresses", spec := "shaPresses", named := ["charter/sha.beginning", "charter/sha.constants"], apart := false, laid := [("charter/sha.constants", laid_charter_sha_constants), ("charter/sha.beginning", laid_charter_sha_beginning)] }
def ShaPressesSaid : Prop := shaPressesRow.holds Tryd.pinned (OpenSpec.ofChange shaPressesSpec)

/-- ITS FALSE NEIGHBOUR: 'it returns false'. Refute it at one input. -/
def shaPressesWrong : ChangeSpec := { name := "shaPresses", fn := fun _ => fun
  | [d1, d2] => { results := [.lit (.bool false)], args := [d1, d2] }
  | _ => none }
def ShaPressesWrongFalsely : Prop := shaPressesRow.holds Tryd.pinned (OpenSpec.ofChange shaPressesWrong)

/-- 'charterlaw01.ShaTails': WHATEVER THE INPUT: true; the input reads as it did. -/
def shaTailsSpec : ChangeSpec := { name := "shaTails", fn := fun _ => fun
  | [d] => { results := [.lit (.bool true)], args := [d] }
  | _ => none }
def shaTailsRow : OpenClaim := { program := "ytkjfhgbpiogigaadoor", sum := "981598a4745ea2938d07aa5774703bf7cb0065e9e3565c08e4debb49f8b8ea62", func := "charter/charterlaw01.ShaTails", spec := "shaTails", named := ["charter/sha.beginning", "charter/sha.constants"], apart := false, laid := [("charter/sha.constants", laid_charter_sha_constants), ("charter/sha.beginning", laid_charter_sha_beginning)] }
def ShaTailsSaid : Prop := shaTailsRow.holds Tryd.pinned (OpenSpec.ofChange shaTailsSpec)

/-- ITS FALSE NEIGHBOUR: 'it returns false'. Refute it at one input. -/
def shaTailsWrong : ChangeSpec := { name := "shaTails", fn := fun _ => fun
  | [d] => { results := [.lit (.bool false)], args := [d] }
  | _ => none }
def ShaTailsWrongFalsely : Prop := shaTailsRow.holds Tryd.pinned (OpenSpec.ofChange shaTailsWrong)

/-- 'charterlaw01.ShaSums': WHATEVER THE INPUT: true; the input reads as it did. -/
def shaSumsSpec : ChangeSpec := { name := "shaSums", fn := fun _ => fun
  | [d] => { results := [.lit (.bool true)], args := [d] }
  | _ => none }
def shaSumsRow : OpenClaim := { program := "ytkjfhgbpiogigaadoor", sum := "981598a4745ea2938d07aa5774703bf7cb0065e9e3565c08e4debb49f8b8ea62", func := "charter/charterlaw01.ShaSums", spec := "shaSums", named := ["charter/sha.beginning", "charter/sha.constants"], apart := false, laid := [("charter/sha.constants", laid_charter_sha_constants), ("charter/sha.beginning", laid_charter_sha_beginning)] }
def ShaSumsSaid : Prop := shaSumsRow.holds Tryd.pinned (OpenSpec.ofChange shaSumsSpec)

/-- ITS FALSE NEIGHBOUR: 'it returns false'. Refute it at one input. -/
def shaSumsWrong : ChangeSpec := { name := "shaSums", fn := fun _ => fun
  | [d] => { results := [.lit (.bool false)], args := [d] }
  | _ => none }
def ShaSumsWrongFalsely : Prop := shaSumsRow.holds Tryd.pinned (OpenSpec.ofChange shaSumsWrong)

/-- 'charterlaw01.ShaBack': WHATEVER THE INPUT: true; the input reads as it did. -/
def shaBackSpec : ChangeSpec := { name := "shaBack", fn := fun _ => fun
  | [d1, d2, d3] => { results := [.lit (.bool true)], args := [d1, d2, d3] }
  | _ => none }
def shaBackRow : OpenClaim := { program := "ytkjfhgbpiogigaadoor", sum := "981598a4745ea2938d07aa5774703bf7cb0065e9e3565c08e4debb49f8b8ea62", func := "charter/charterlaw01.ShaBack", spec := "shaBack", named := ["charter/sha.beginning", "charter/sha.constants"], apart := false, laid := [("charter/sha.constants", laid_charter_sha_constants), ("charter/sha.beginning", laid_charter_sha_beginning)] }
def ShaBackSaid : Prop := shaBackRow.holds Tryd.pinned (OpenSpec.ofChange shaBackSpec)

/-- ITS FALSE NEIGHBOUR: 'it returns false'. Refute it at one input. -/
def shaBackWrong : ChangeSpec := { name := "shaBack", fn := fun _ => fun
  | [d1, d2, d3] => { results := [.lit (.bool false)], args := [d1, d2, d3] }
  | _ => none }
def ShaBackWrongFalsely : Prop := shaBackRow.holds Tryd.pinned (OpenSpec.ofChange shaBackWrong)

/-- 'charterlaw01.ShaGoes': WHATEVER THE INPUT: true; the input reads as it did. -/
def shaGoesSpec : ChangeSpec := { name := "shaGoes", fn := fun _ => fun
  | [d] => { results := [.lit (.bool true)], args := [d] }
  | _ => none }
def shaGoesRow : OpenClaim := { program := "ytkjfhgbpiogigaadoor", sum := "981598a4745ea2938d07aa5774703bf7cb0065e9e3565c08e4debb49f8b8ea62", func := "charter/charterlaw01.ShaGoes", spec := "shaGoes", named := ["charter/sha.beginning", "charter/sha.constants"], apart := false, laid := [("charter/sha.constants", laid_charter_sha_constants), ("charter/sha.beginning", laid_charter_sha_beginning)] }
def ShaGoesSaid : Prop := shaGoesRow.holds Tryd.pinned (OpenSpec.ofChange shaGoesSpec)

/-- ITS FALSE NEIGHBOUR: 'it returns false'. Refute it at one input. -/
def shaGoesWrong : ChangeSpec := { name := "shaGoes", fn := fun _ => fun
  | [d] => { results := [.lit (.bool false)], args := [d] }
  | _ => none }
def ShaGoesWrongFalsely : Prop := shaGoesRow.holds Tryd.pinned (OpenSpec.ofChange shaGoesWrong)

/-- 'charterlaw01.ShaStays': WHATEVER THE INPUT: true; the input reads as it did. -/
def shaStaysSpec : ChangeSpec := { name := "shaStays", fn := fun _ => fun
  | [d1, d2] => { results := [.lit (.bool true)], args := [d1, d2] }
  | _ => none }
def shaStaysRow : OpenClaim := { program := "ytkjfhgbpiogigaadoor", sum := "981598a4745ea2938d07aa5774703bf7cb0065e9e3565c08e4debb49f8b8ea62", func := "charter/charterlaw01.ShaStays", spec := "shaStays", named := ["charter/sha.beginning", "charter/sha.constants"], apart := false, laid := [("charter/sha.constants", laid_charter_sha_constants), ("charter/sha.beginning", laid_charter_sha_beginning)] }
def ShaStaysSaid : Prop := shaStaysRow.holds Tryd.pinned (OpenSpec.ofChange shaStaysSpec)

/-- ITS FALSE NEIGHBOUR: 'it returns false'. Refute it at one input. -/
def shaStaysWrong : ChangeSpec := { name := "shaStays", fn := fun _ => fun
  | [d1, d2] => { results := [.lit (.bool false)], args := [d1, d2] }
  | _ => none }
def ShaStaysWrongFalsely : Prop := shaStaysRow.holds Tryd.pinned (OpenSpec.ofChange shaStaysWrong)

/-- 'charterlaw02.MacMarks': WHATEVER THE INPUT: true; the input reads as it did. -/
def macMarksSpec : ChangeSpec := { name := "macMarks", fn := fun _ => fun
  | [d1, d2] => { results := [.lit (.bool true)], args := [d1, d2] }
  | _ => none }
def macMarksRow : OpenClaim := { program := "ytkjfhgbpiogigaadoor", sum := "981598a4745ea2938d07aa5774703bf7cb0065e9e3565c08e4debb49f8b8ea62", func := "charter/charterlaw02.MacMarks", spec := "macMarks", named := ["charter/sha.beginning", "charter/sha.constants"], apart := false, laid := [("charter/sha.constants", laid_charter_sha_constants), ("charter/sha.beginning", laid_charter_sha_beginning)] }
def MacMarksSaid : Prop := macMarksRow.holds Tryd.pinned (OpenSpec.ofChange macMarksSpec)

/-- ITS FALSE NEIGHBOUR: 'it returns false'. Refute it at one input. -/
def macMarksWrong : ChangeSpec := { name := "macMarks", fn := fun _ => fun
  | [d1, d2] => { results := [.lit (.bool false)], args := [d1, d2] }
  | _ => none }
def MacMarksWrongFalsely : Prop := macMarksRow.holds Tryd.pinned (OpenSpec.ofChange macMarksWrong)

/-- 'charterlaw02.MacDerives': WHATEVER THE INPUT: true; the input reads as it did. -/
def macDerivesSpec : ChangeSpec := { name := "macDerives", fn := fun _ => fun
  | [d1, d2, d3, d4] => { results := [.lit (.bool true)], args := [d1, d2, d3, d4] }
  | _ => none }
def macDerivesRow : OpenClaim := { program := "ytkjfhgbpiogigaadoor", sum := "981598a4745ea2938d07aa5774703bf7cb0065e9e3565c08e4debb49f8b8ea62", func := "charter/charterlaw02.MacDerives", spec := "macDerives", named := ["charter/sha.beginning", "charter/sha.constants"], apart := false, laid := [("charter/sha.constants", laid_charter_sha_constants), ("charter/sha.beginning", laid_charter_sha_beginning)] }
def MacDerivesSaid : Prop := macDerivesRow.holds Tryd.pinned (OpenSpec.ofChange macDerivesSpec)

/-- ITS FALSE NEIGHBOUR: 'it returns false'. Refute it at one input. -/
def macDerivesWrong : ChangeSpec := { name := "macDerives", fn := fun _ => fun
  | [d1, d2, d3, d4] => { results := [.lit (.bool false)], args := [d1, d2, d3, d4] }
  | _ => none }
def MacDerivesWrongFalsely : Prop := macDerivesRow.holds Tryd.pinned (OpenSpec.ofChange macDerivesWrong)

/-- 'charterlaw02.MacBases': WHATEVER THE INPUT: true; the input reads as it did. -/
def macBasesSpec : ChangeSpec := { name := "macBases", fn := fun _ => fun
  | [d1, d2, d3] => { results := [.lit (.bool true)], args := [d1, d2, d3] }
  | _ => none }
def macBasesRow : OpenClaim := { program := "ytkjfhgbpiogigaadoor", sum := "981598a4745ea2938d07aa5774703bf7cb0065e9e3565c08e4debb49f8b8ea62", func := "charter/charterlaw02.MacBases", spec := "macBases", named := ["charter/sha.beginning", "charter/sha.constants"], apart := false, laid := [("charter/sha.constants", laid_charter_sha_constants), ("charter/sha.beginning", laid_charter_sha_beginning)] }
def MacBasesSaid : Prop := macBasesRow.holds Tryd.pinned (OpenSpec.ofChange macBasesSpec)

/-- ITS FALSE NEIGHBOUR: 'it returns false'. Refute it at one input. -/
def macBasesWrong : ChangeSpec := { name := "macBases", fn := fun _ => fun
  | [d1, d2, d3] => { results := [.lit (.bool false)], args := [d1, d2, d3] }
  | _ => none }
def MacBasesWrongFalsely : Prop := macBasesRow.holds Tryd.pinned (OpenSpec.ofChange macBasesWrong)

/-- 'charterlaw02.MacSame': WHATEVER THE INPUT: true; the input reads as it did. -/
def macSameSpec : ChangeSpec := { name := "macSame", fn := fun _ => fun
  | [d1, d2] => { results := [.lit (.bool true)], args := [d1, d2] }
  | _ => none }
def macSameRow : OpenClaim := { program := "ytkjfhgbpiogigaadoor", sum := "981598a4745ea2938d07aa5774703bf7cb0065e9e3565c08e4debb49f8b8ea62", func := "charter/charterlaw02.MacSame", spec := "macSame", named := ["charter/sha.beginning", "charter/sha.constants"], apart := false, laid := [("charter/sha.constants", laid_charter_sha_constants), ("charter/sha.beginning", laid_charter_sha_beginning)] }
def MacSameSaid : Prop := macSameRow.holds Tryd.pinned (OpenSpec.ofChange macSameSpec)

/-- ITS FALSE NEIGHBOUR: 'it returns false'. Refute it at one input. -/
def macSameWrong : ChangeSpec := { name := "macSame", fn := fun _ => fun
  | [d1, d2] => { results := [.lit (.bool false)], args := [d1, d2] }
  | _ => none }
def MacSameWrongFalsely : Prop := macSameRow.holds Tryd.pinned (OpenSpec.ofChange macSameWrong)

/-- 'charterlaw02.MacLong': WHATEVER THE INPUT: true; the input reads as it did. -/
def macLongSpec : ChangeSpec := { name := "macLong", fn := fun _ => fun
  | [d1, d2, d3, d4, d5] => { results := [.lit (.bool true)], args := [d1, d2, d3, d4, d5] }
  | _ => none }
def macLongRow : OpenClaim := { program := "ytkjfhgbpiogigaadoor", sum := "981598a4745ea2938d07aa5774703bf7cb0065e9e3565c08e4debb49f8b8ea62", func := "charter/charterlaw02.MacLong", spec := "macLong", named := ["charter/sha.beginning", "charter/sha.constants"], apart := false, laid := [("charter/sha.constants", laid_charter_sha_constants), ("charter/sha.beginning", laid_charter_sha_beginning)] }
def MacLongSaid : Prop := macLongRow.holds Tryd.pinned (OpenSpec.ofChange macLongSpec)

/-- ITS FALSE NEIGHBOUR: 'it returns false'. Refute it at one input. -/
def macLongWrong : ChangeSpec := { name := "macLong", fn := fun _ => fun
  | [d1, d2, d3, d4, d5] => { results := [.lit (.bool false)], args := [d1, d2, d3, d4, d5] }
  | _ => none }
def MacLongWrongFalsely : Prop := macLongRow.holds Tryd.pinned (OpenSpec.ofChange macLongWrong)

/-- 'charterlaw02.MacStays': WHATEVER THE INPUT: true; the input reads as it did. -/
def macStaysSpec : ChangeSpec := { name := "macStays", fn := fun _ => fun
  | [d1, d2] => { results := [.lit (.bool true)], args := [d1, d2] }
  | _ => none }
def macStaysRow : OpenClaim := { program := "ytkjfhgbpiogigaadoor", sum := "981598a4745ea2938d07aa5774703bf7cb0065e9e3565c08e4debb49f8b8ea62", func := "charter/charterlaw02.MacStays", spec := "macStays", named := ["charter/sha.beginning", "charter/sha.constants"], apart := false, laid := [("charter/sha.constants", laid_charter_sha_constants), ("charter/sha.beginning", laid_charter_sha_beginning)] }
def MacStaysSaid : Prop := macStaysRow.holds Tryd.pinned (OpenSpec.ofChange macStaysSpec)

/-- ITS FALSE NEIGHBOUR: 'it returns false'. Refute it at one input. -/
def macStaysWrong : ChangeSpec := { name := "macStays", fn := fun _ => fun
  | [d1, d2] => { results := [.lit (.bool false)], args := [d1, d2] }
  | _ => none }
def MacStaysWrongFalsely : Prop := macStaysRow.holds Tryd.pinned (OpenSpec.ofChange macStaysWrong)

/- THE SECOND FORM. 'bulk': how many values and letters a reading holds, each counted each time it is reached (what is shared counts as often as it is met; a slice's spare places count too). A statement '..UptoSaid' is the law's where the arguments, and the package variables that the reading takes, are together of bulk at most 1048576: NARROWER than '..Said'. Prove '..Said' where nothing that the law and all that it calls make is longer than what came in: it says more and counts as full. Else prove '..UptoSaid'. A law counts once. -/
mutual
def uptoBulk {H : Type} : DataW H → Nat
  | .lit (.string bytes) => bytes.length + 1
  | .lit _ => 1
  | .nil => 1
  | .ptr d => uptoBulk d + 1
  | .slice elems spare => uptoBulkAll elems + uptoBulkAll spare + 1
  | .agg parts => uptoBulkAll parts + 1
  | .iface _ d => uptoBulk d + 1
  | .map entries => uptoBulkEntries entries + 1
  | .held _ => 1
def uptoBulkAll {H : Type} : List (DataW H) → Nat
  | [] => 0
  | d :: r => uptoBulk d + uptoBulkAll r
def uptoBulkEntries {H : Type} : List (Lit × DataW H) → Nat
  | [] => 0
  | x :: r => uptoBulkEntry x + uptoBulkEntries r
def uptoBulkEntry {H : Type} : Lit × DataW H → Nat
  | (.string bytes, d) => bytes.length + uptoBulk d + 1
  | (_, d) => uptoBulk d + 1
 end
def uptoSmall : (H : Type) → List (DataW H) → Bool := fun _ ds => decide (uptoBulkAll ds ≤ 1048576)
def OpenSpec.upto (s : _root_.Go.ChangeSpec) : _root_.Go.OpenSpec := { _root_.Go.OpenSpec.ofChange s with cond := some uptoSmall }

/-- 'charterlaw01.ShaSchedules', WHERE WHAT IT READS IS OF BULK AT MOST 1048576: true; the input reads as it did. -/
def shaSchedulesUptoRow : OpenClaim := { program := "ytkjfhgbpiogigaadoor", sum := "981598a4745ea2938d07aa5774703bf7cb0065e9e3565c08e4debb49f8b8ea62", func := "charter/charterlaw01.ShaSchedules", spec := "shaSchedules", named := ["charter/sha.beginning", "charter/sha.constants"], apart := false, laid := [("charter/sha.constants", laid_charter_sha_constants), ("charter/sha.beginning", laid_charter_sha_beginning)], narrowed := true }
def ShaSchedulesUptoSaid : Prop := shaSchedulesUptoRow.holds Tryd.pinned (OpenSpec.upto shaSchedulesSpec)

/-- 'charterlaw01.ShaRounds', WHERE WHAT IT READS IS OF BULK AT MOST 1048576: true; the input reads as it did. -/
def shaRoundsUptoRow : OpenClaim := { program := "ytkjfhgbpiogigaadoor", sum := "981598a4745ea2938d07aa5774703bf7cb0065e9e3565c08e4debb49f8b8ea62", func := "charter/charterlaw01.ShaRounds", spec := "shaRounds", named := ["charter/sha.beginning", "charter/sha.constants"], apart := false, laid := [("charter/sha.constants", laid_charter_sha_constants), ("charter/sha.beginning", laid_charter_sha_beginning)], narrowed := true }
def ShaRoundsUptoSaid : Prop := shaRoundsUptoRow.holds Tryd.pinned (OpenSpec.upto shaRoundsSpec)

/-- 'charterlaw01.ShaPresses', WHERE WHAT IT READS IS OF BULK AT MOST 1048576: true; the input reads as it did. -/
def shaPressesUptoRow : OpenClaim := { program := "ytkjfhgbpiogigaadoor", sum := "981598a4745ea2938d07aa5774703bf7cb0065e9e3565c08e4debb49f8b8ea62", func := "charter/charterlaw01.ShaPresses", spec := "shaPresses", named := ["charter/sha.beginning", "charter/sha.constants"], apart := false, laid := [("charter/sha.constants", laid_charter_sha_constants), ("charter/sha.beginning", laid_charter_sha_beginning)], narrowed := true }
def ShaPressesUptoSaid : Prop := shaPressesUptoRow.holds Tryd.pinned (OpenSpec.upto shaPressesSpec)

/-- 'charterlaw01.ShaTails', WHERE WHAT IT READS IS OF BULK AT MOST 1048576: true; the input reads as it did. -/
def shaTailsUptoRow : OpenClaim := { program := "ytkjfhgbpiogigaadoor", sum := "981598a4745ea2938d07aa5774703bf7cb0065e9e3565c08e4debb49f8b8ea62", func := "charter/charterlaw01.ShaTails", spec := "shaTails", named := ["charter/sha.beginning", "charter/sha.constants"], apart := false, laid := [("charter/sha.constants", laid_charter_sha_constants), ("charter/sha.beginning", laid_charter_sha_beginning)], narrowed := true }
def ShaTailsUptoSaid : Prop := shaTailsUptoRow.holds Tryd.pinned (OpenSpec.upto shaTailsSpec)

/-- 'charterlaw01.ShaSums', WHERE WHAT IT READS IS OF BULK AT MOST 1048576: true; the input reads as it did. -/
def shaSumsUptoRow : OpenClaim := { program := "ytkjfhgbpiogigaadoor", sum := "981598a4745ea2938d07aa5774703bf7cb0065e9e3565c08e4debb49f8b8ea62", func := "charter/charterlaw01.ShaSums", spec := "shaSums", named := ["charter/sha.beginning", "charter/sha.constants"], apart := false, laid := [("charter/sha.constants", laid_charter_sha_constants), ("charter/sha.beginning", laid_charter_sha_beginning)], narrowed := true }
def ShaSumsUptoSaid : Prop := shaSumsUptoRow.holds Tryd.pinned (OpenSpec.upto shaSumsSpec)

/-- 'charterlaw01.ShaBack', WHERE WHAT IT READS IS OF BULK AT MOST 1048576: true; the input reads as it did. -/
def shaBackUptoRow : OpenClaim := { program := "ytkjfhgbpiogigaadoor", sum := "981598a4745ea2938d07aa5774703bf7cb0065e9e3565c08e4debb49f8b8ea62", func := "charter/charterlaw01.ShaBack", spec := "shaBack", named := ["charter/sha.beginning", "charter/sha.constants"], apart := false, laid := [("charter/sha.constants", laid_charter_sha_constants), ("charter/sha.beginning", laid_charter_sha_beginning)], narrowed := true }
def ShaBackUptoSaid : Prop := shaBackUptoRow.holds Tryd.pinned (OpenSpec.upto shaBackSpec)

/-- 'charterlaw01.ShaGoes', WHERE WHAT IT READS IS OF BULK AT MOST 1048576: true; the input reads as it did. -/
def shaGoesUptoRow : OpenClaim := { program := "ytkjfhgbpiogigaadoor", sum := "981598a4745ea2938d07aa5774703bf7cb0065e9e3565c08e4debb49f8b8ea62", func := "charter/charterlaw01.ShaGoes", spec := "shaGoes", named := ["charter/sha.beginning", "charter/sha.constants"], apart := false, laid := [("charter/sha.constants", laid_charter_sha_constants), ("charter/sha.beginning", laid_charter_sha_beginning)], narrowed := true }
def ShaGoesUptoSaid : Prop := shaGoesUptoRow.holds Tryd.pinned (OpenSpec.upto shaGoesSpec)

/-- 'charterlaw01.ShaStays', WHERE WHAT IT READS IS OF BULK AT MOST 1048576: true; the input reads as it did. -/
def shaStaysUptoRow : OpenClaim := { program := "ytkjfhgbpiogigaadoor", sum := "981598a4745ea2938d07aa5774703bf7cb0065e9e3565c08e4debb49f8b8ea62", func := "charter/charterlaw01.ShaStays", spec := "shaStays", named := ["charter/sha.beginning", "charter/sha.constants"], apart := false, laid := [("charter/sha.constants", laid_charter_sha_constants), ("charter/sha.beginning", laid_charter_sha_beginning)], narrowed := true }
def ShaStaysUptoSaid : Prop := shaStaysUptoRow.holds Tryd.pinned (OpenSpec.upto shaStaysSpec)

/-- 'charterlaw02.MacMarks', WHERE WHAT IT READS IS OF BULK AT MOST 1048576: true; the input reads as it did. -/
def macMarksUptoRow : OpenClaim := { program := "ytkjfhgbpiogigaadoor", sum := "981598a4745ea2938d07aa5774703bf7cb0065e9e3565c08e4debb49f8b8ea62", func := "charter/charterlaw02.MacMarks", spec := "macMarks", named := ["charter/sha.beginning", "charter/sha.constants"], apart := false, laid := [("charter/sha.constants", laid_charter_sha_constants), ("charter/sha.beginning", laid_charter_sha_beginning)], narrowed := true }
def MacMarksUptoSaid : Prop := macMarksUptoRow.holds Tryd.pinned (OpenSpec.upto macMarksSpec)

/-- 'charterlaw02.MacDerives', WHERE WHAT IT READS IS OF BULK AT MOST 1048576: true; the input reads as it did. -/
def macDerivesUptoRow : OpenClaim := { program := "ytkjfhgbpiogigaadoor", sum := "981598a4745ea2938d07aa5774703bf7cb0065e9e3565c08e4debb49f8b8ea62", func := "charter/charterlaw02.MacDerives", spec := "macDerives", named := ["charter/sha.beginning", "charter/sha.constants"], apart := false, laid := [("charter/sha.constants", laid_charter_sha_constants), ("charter/sha.beginning", laid_charter_sha_beginning)], narrowed := true }
def MacDerivesUptoSaid : Prop := macDerivesUptoRow.holds Tryd.pinned (OpenSpec.upto macDerivesSpec)

/-- 'charterlaw02.MacBases', WHERE WHAT IT READS IS OF BULK AT MOST 1048576: true; the input reads as it did. -/
def macBasesUptoRow : OpenClaim := { program := "ytkjfhgbpiogigaadoor", sum := "981598a4745ea2938d07aa5774703bf7cb0065e9e3565c08e4debb49f8b8ea62", func := "charter/charterlaw02.MacBases", spec := "macBases", named := ["charter/sha.beginning", "charter/sha.constants"], apart := false, laid := [("charter/sha.constants", laid_charter_sha_constants), ("charter/sha.beginning", laid_charter_sha_beginning)], narrowed := true }
def MacBasesUptoSaid : Prop := macBasesUptoRow.holds Tryd.pinned (OpenSpec.upto macBasesSpec)

/-- 'charterlaw02.MacSame', WHERE WHAT IT READS IS OF BULK AT MOST 1048576: true; the input reads as it did. -/
def macSameUptoRow : OpenClaim := { program := "ytkjfhgbpiogigaadoor", sum := "981598a4745ea2938d07aa5774703bf7cb0065e9e3565c08e4debb49f8b8ea62", func := "charter/charterlaw02.MacSame", spec := "macSame", named := ["charter/sha.beginning", "charter/sha.constants"], apart := false, laid := [("charter/sha.constants", laid_charter_sha_constants), ("charter/sha.beginning", laid_charter_sha_beginning)], narrowed := true }
def MacSameUptoSaid : Prop := macSameUptoRow.holds Tryd.pinned (OpenSpec.upto macSameSpec)

/-- 'charterlaw02.MacLong', WHERE WHAT IT READS IS OF BULK AT MOST 1048576: true; the input reads as it did. -/
def macLongUptoRow : OpenClaim := { program := "ytkjfhgbpiogigaadoor", sum := "981598a4745ea2938d07aa5774703bf7cb0065e9e3565c08e4debb49f8b8ea62", func := "charter/charterlaw02.MacLong", spec := "macLong", named := ["charter/sha.beginning", "charter/sha.constants"], apart := false, laid := [("charter/sha.constants", laid_charter_sha_constants), ("charter/sha.beginning", laid_charter_sha_beginning)], narrowed := true }
def MacLongUptoSaid : Prop := macLongUptoRow.holds Tryd.pinned (OpenSpec.upto macLongSpec)

/-- 'charterlaw02.MacStays', WHERE WHAT IT READS IS OF BULK AT MOST 1048576: true; the input reads as it did. -/
def macStaysUptoRow : OpenClaim := { program := "ytkjfhgbpiogigaadoor", sum := "981598a4745ea2938d07aa5774703bf7cb0065e9e3565c08e4debb49f8b8ea62", func := "charter/charterlaw02.MacStays", spec := "macStays", named := ["charter/sha.beginning", "charter/sha.constants"], apart := false, laid := [("charter/sha.constants", laid_charter_sha_constants), ("charter/sha.beginning", laid_charter_sha_beginning)], narrowed := true }
def MacStaysUptoSaid : Prop := macStaysUptoRow.holds Tryd.pinned (OpenSpec.upto macStaysSpec)

end Rows
end Go.Proofs.YtkjfhgbpiogigaaDoor
