/-
  NARROWER THAN 'FOR EVERY INPUT', by the rows' own cells (each row's printed sentence says how): CertBodies: laid · CertEncodes: laid · CertLong: laid · CertDecodes: laid · CertIssues: laid · CertBack: laid · CertStays: laid.
  DERIVED. THE GIVEN ROWS OF THIS SEAT. 7 by the template 'for every input the law returns true; each argument reads behind the call as it read before'; 0 by the template 'total and deterministic' (their statements: YtkdjhklnlnfhfaaGreatDoorTotals.lean).
  GIVEN WITH THE SEED: the statements are not yours to turn. If you find one false, say at which input.
  Laid BY PROGRAM, IN A SANDBOX (cutbox-rows.mjs): the forced cells as the released guide's own fill.sh prints them over the translation e65595d62caab44a… (all of the seat's roots in one cut). By AI agents, Wed Nov 11 2026. No macro, syntax, notation, axiom, sorry.
-/
import Derived.Test.YtkdjhklnlnfhfaaGreatDoorChecked
import GoSem.PinnedTables
import GoSem.Claim
import GoSem.ClaimJoined
import GoSem.ClaimMapViews
import Derived.JoinedTies
import Derived.KernelRfl
namespace Go.Proofs.YtkdjhklnlnfhfaaGreatDoor
/- THE CELL 'sum', in the pinned program and in every row, IS THE sha256 OF THE DUMP (.gsa) THAT YtkdjhklnlnfhfaaGreatDoorProg.lean LOADS. Nothing in Lean hashes anything: it is a label: what it is worth is what the hold of that sum in a sandbox is worth. -/
noncomputable def Tryz.pinned : Pinned := { name := "ytkdjhklnlnfhfaagreatdoor", sum := "e65595d62caab44a59304d2232d11181659a9f628029bf34bbb9da22a45f93fc", checked := Tryz.checked }
namespace Rows
def none {H : Type} : Left H := { results := [], args := [] }

/- WHAT THE LISTED PACKAGE-LEVEL VARIABLES READ AS WHEN THE CALL BEGINS. Each datum BY PROGRAM (the guide's laid-datum.mjs) off the statement by which the dump's own 'gosem.cut.vars' lays the variable. In a bare row this is a premise. The card (YtkdjhklnlnfhfaaGreatDoorCards.lean) ties it to the program's text. -/
def laid_unicode_utf8_acceptRanges {H : Type} : DataW H := .agg [.agg [.lit (.int .u8 128), .lit (.int .u8 191)], .agg [.lit (.int .u8 160), .lit (.int .u8 191)], .agg [.lit (.int .u8 128), .lit (.int .u8 159)], .agg [.lit (.int .u8 144), .lit (.int .u8 191)], .agg [.lit (.int .u8 128), .lit (.int .u8 143)], .agg [.lit (.int .u8 0), .lit (.int .u8 0)], .agg [.lit (.int .u8 0), .lit (.int .u8 0)], .agg [.lit (.int .u8 0), .lit (.int .u8 0)], .agg [.lit (.int .u8 0), .lit (.int .u8 0)], .agg [.lit (.int .u8 0), .lit (.int .u8 0)], .agg [.lit (.int .u8 0), .lit (.int .u8 0)], .agg [.lit (.int .u8 0), .lit (.int .u8 0)], .agg [.lit (.int .u8 0), .lit (.int .u8 0)], .agg [.lit (.int .u8 0), .lit (.int .u8 0)], .agg [.lit (.int .u8 0), .lit (.int .u8 0)], .agg [.lit (.int .u8 0), .lit (.int .u8 0)]]
/-- One of Go's own tables, pinned by name: the form's constant. -/
def laid_unicode_utf8_first : DataW Unit := Go.Pinned.utf8First
def laid_charter_sha_constants {H : Type} : DataW H := .agg [.lit (.int .u32 1116352408), .lit (.int .u32 1899447441), .lit (.int .u32 3049323471), .lit (.int .u32 3921009573), .lit (.int .u32 961987163), .lit (.int .u32 1508970993), .lit (.int .u32 2453635748), .lit (.int .u32 2870763221), .lit (.int .u32 3624381080), .lit (.int .u32 310598401), .lit (.int .u32 607225278), .lit (.int .u32 1426881987), .lit (.int .u32 1925078388), .lit (.int .u32 2162078206), .lit (.int .u32 2614888103), .lit (.int .u32 3248222580), .lit (.int .u32 3835390401), .lit (.int .u32 4022224774), .lit (.int .u32 264347078), .lit (.int .u32 604807628), .lit (.int .u32 770255983), .lit (.int .u32 1249150122), .lit (.int .u32 1555081692), .lit (.int .u32 1996064986), .lit (.int .u32 2554220882), .lit (.int .u32 2821834349), .lit (.int .u32 2952996808), .lit (.int .u32 3210313671), .lit (.int .u32 3336571891), .lit (.int .u32 3584528711), .lit (.int .u32 113926993), .lit (.int .u32 338241895), .lit (.int .u32 666307205), .lit (.int .u32 773529912), .lit (.int .u32 1294757372), .lit (.int .u32 1396182291), .lit (.int .u32 1695183700), .lit (.int .u32 1986661051), .lit (.int .u32 2177026350), .lit (.int .u32 2456956037), .lit (.int .u32 2730485921), .lit (.int .u32 2820302411), .lit (.int .u32 3259730800), .lit (.int .u32 3345764771), .lit (.int .u32 3516065817), .lit (.int .u32 3600352804), .lit (.int .u32 4094571909), .lit (.int .u32 275423344), .lit (.int .u32 430227734), .lit (.int .u32 506948616), .lit (.int .u32 659060556), .lit (.int .u32 883997877), .lit (.int .u32 958139571), .lit (.int .u32 1322822218), .lit (.int .u32 1537002063), .lit (.int .u32 1747873779), .lit (.int .u32 1955562222), .lit (.int .u32 2024104815), .lit (.int .u32 2227730452), .lit (.int .u32 2361852424), .lit (.int .u32 2428436474), .lit (.int .u32 2756734187), .lit (.int .u32 3204031479), .lit (.int .u32 3329325298)]
def laid_charter_sha_beginning {H : Type} : DataW H := .agg [.lit (.int .u32 1779033703), .lit (.int .u32 3144134277), .lit (.int .u32 1013904242), .lit (.int .u32 2773480762), .lit (.int .u32 1359893119), .lit (.int .u32 2600822924), .lit (.int .u32 528734635), .lit (.int .u32 1541459225)]

/-- 'charterlaw10.CertBodies': WHATEVER THE INPUT: true; the input reads as it did. -/
def certBodiesSpec : ChangeSpec := { name := "certBodies", fn := fun _ => fun
  | [d] => { results := [.lit (.bool true)], args := [d] }
  | _ => none }
def certBodiesRow : OpenClaim := { program := "ytkdjhklnlnfhfaagreatdoor", sum := "e65595d62caab44a59304d2232d11181659a9f628029bf34bbb9da22a45f93fc", func := "charter/charterlaw10.CertBodies", spec := "certBodies", inPlace := ["internal/bytealg.IndexByteString", "slices.overlaps[byte]", "internal/bytealg.Compare"], unfollowed := true, recurses := true, named := ["unicode/utf8.first", "unicode/utf8.acceptRanges"], apart := false, laid := [("unicode/utf8.acceptRanges", laid_unicode_utf8_acceptRanges), ("unicode/utf8.first", laid_unicode_utf8_first)] }
def CertBodiesSaid : Prop := certBodiesRow.holds Tryz.pinned (OpenSpec.ofChange certBodiesSpec)

/-- ITS FALSE NEIGHBOUR: 'it returns false'. Refute it at one input. -/
def certBodiesWrong : ChangeSpec := { name := "certBodies", fn := fun _ => fun
  | [d] => { results := [.lit (.bool false)], args := [d] }
  | _ => none }
def CertBodiesWrongFalsely : Prop := certBodiesRow.holds Tryz.pinned (OpenSpec.ofChange certBodiesWrong)

/-- 'charterlaw10.CertEncodes': WHATEVER THE INPUT: true; the input reads as it did. -/
def certEncodesSpec : ChangeSpec := { name := "certEncodes", fn := fun _ => fun
  | [d1, d2, d3] => { results := [.lit (.bool true)], args := [d1, d2, d3] }
  | _ => none }
def certEncodesRow : OpenClaim := { program := "ytkdjhklnlnfhfaagreatdoor", sum := "e65595d62caab44a59304d2232d11181659a9f628029bf34bbb9da22a45f93fc", func := "charter/charterlaw10.CertEncodes", spec := "certEncodes", inPlace := ["internal/bytealg.IndexByteString", "slices.overlaps[byte]", "internal/bytealg.Compare"], unfollowed := true, recurses := true, named := ["unicode/utf8.first", "unicode/utf8.acceptRanges"], apart := false, laid := [("unicode/utf8.acceptRanges", laid_unicode_utf8_acceptRanges), ("unicode/utf8.first", laid_unicode_utf8_first)] }
def CertEncodesSaid : Prop := certEncodesRow.holds Tryz.pinned (OpenSpec.ofChange certEncodesSpec)

/-- ITS FALSE NEIGHBOUR: 'it returns false'. Refute it at one input. -/
def certEncodesWrong : ChangeSpec := { name := "certEncodes", fn := fun _ => fun
  | [d1, d2, d3] => { results := [.lit (.bool false)], args := [d1, d2, d3] }
  | _ => none }
def CertEncodesWrongFalsely : Prop := certEncodesRow.holds Tryz.pinned (OpenSpec.ofChange certEncodesWrong)

/-- 'charterlaw10.CertLong': WHATEVER THE INPUT: true; the input reads as it did. -/
def certLongSpec : ChangeSpec := { name := "certLong", fn := fun _ => fun
  | [d1, d2] => { results := [.lit (.bool true)], args := [d1, d2] }
  | _ => none }
def certLongRow : OpenClaim := { program := "ytkdjhklnlnfhfaagreatdoor", sum := "e65595d62caab44a59304d2232d11181659a9f628029bf34bbb9da22a45f93fc", func := "charter/charterlaw10.CertLong", spec := "certLong", inPlace := ["internal/bytealg.IndexByteString", "slices.overlaps[byte]", "internal/bytealg.Compare"], unfollowed := true, recurses := true, named := ["unicode/utf8.first", "unicode/utf8.acceptRanges"], apart := false, laid := [("unicode/utf8.acceptRanges", laid_unicode_utf8_acceptRanges), ("unicode/utf8.first", laid_unicode_utf8_first)] }
def CertLongSaid : Prop := certLongRow.holds Tryz.pinned (OpenSpec.ofChange certLongSpec)

/-- ITS FALSE NEIGHBOUR: 'it returns false'. Refute it at one input. -/
def certLongWrong : ChangeSpec := { name := "certLong", fn := fun _ => fun
  | [d1, d2] => { results := [.lit (.bool false)], args := [d1, d2] }
  | _ => none }
def CertLongWrongFalsely : Prop := certLongRow.holds Tryz.pinned (OpenSpec.ofChange certLongWrong)

/-- 'charterlaw10.CertDecodes': WHATEVER THE INPUT: true; the input reads as it did. -/
def certDecodesSpec : ChangeSpec := { name := "certDecodes", fn := fun _ => fun
  | [d1, d2, d3] => { results := [.lit (.bool true)], args := [d1, d2, d3] }
  | _ => none }
def certDecodesRow : OpenClaim := { program := "ytkdjhklnlnfhfaagreatdoor", sum := "e65595d62caab44a59304d2232d11181659a9f628029bf34bbb9da22a45f93fc", func := "charter/charterlaw10.CertDecodes", spec := "certDecodes", inPlace := ["internal/bytealg.IndexByteString", "slices.overlaps[byte]", "internal/bytealg.Compare"], unfollowed := true, recurses := true, named := ["unicode/utf8.first", "unicode/utf8.acceptRanges"], apart := false, laid := [("unicode/utf8.acceptRanges", laid_unicode_utf8_acceptRanges), ("unicode/utf8.first", laid_unicode_utf8_first)] }
def CertDecodesSaid : Prop := certDecodesRow.holds Tryz.pinned (OpenSpec.ofChange certDecodesSpec)

/-- ITS FALSE NEIGHBOUR: 'it returns false'. Refute it at one input. -/
def certDecodesWrong : ChangeSpec := { name := "certDecodes", fn := fun _ => fun
  | [d1, d2, d3] => { results := [.lit (.bool false)], args := [d1, d2, d3] }
  | _ => none }
def CertDecodesWrongFalsely : Prop := certDecodesRow.holds Tryz.pinned (OpenSpec.ofChange certDecodesWrong)

/-- 'charterlaw10.CertIssues': WHATEVER THE INPUT: true; the input reads as it did. -/
def certIssuesSpec : ChangeSpec := { name := "certIssues", fn := fun _ => fun
  | [d1, d2, d3] => { results := [.lit (.bool true)], args := [d1, d2, d3] }
  | _ => none }
def certIssuesRow : OpenClaim := { program := "ytkdjhklnlnfhfaagreatdoor", sum := "e65595d62caab44a59304d2232d11181659a9f628029bf34bbb9da22a45f93fc", func := "charter/charterlaw10.CertIssues", spec := "certIssues", inPlace := ["internal/bytealg.IndexByteString", "slices.overlaps[byte]", "internal/bytealg.Compare", "internal/bytealg.MakeNoZero"], unfollowed := true, recurses := true, named := ["unicode/utf8.first", "unicode/utf8.acceptRanges", "charter/sha.beginning", "charter/sha.constants"], apart := false, laid := [("unicode/utf8.acceptRanges", laid_unicode_utf8_acceptRanges), ("charter/sha.constants", laid_charter_sha_constants), ("charter/sha.beginning", laid_charter_sha_beginning), ("unicode/utf8.first", laid_unicode_utf8_first)] }
def CertIssuesSaid : Prop := certIssuesRow.holds Tryz.pinned (OpenSpec.ofChange certIssuesSpec)

/-- ITS FALSE NEIGHBOUR: 'it returns false'. Refute it at one input. -/
def certIssuesWrong : ChangeSpec := { name := "certIssues", fn := fun _ => fun
  | [d1, d2, d3] => { results := [.lit (.bool false)], args := [d1, d2, d3] }
  | _ => none }
def CertIssuesWrongFalsely : Prop := certIssuesRow.holds Tryz.pinned (OpenSpec.ofChange certIssuesWrong)

/-- 'charterlaw10.CertBack': WHATEVER THE INPUT: true; the input reads as it did. -/
def certBackSpec : ChangeSpec := { name := "certBack", fn := fun _ => fun
  | [d1, d2] => { results := [.lit (.bool true)], args := [d1, d2] }
  | _ => none }
def certBackRow : OpenClaim := { program := "ytkdjhklnlnfhfaagreatdoor", sum := "e65595d62caab44a59304d2232d11181659a9f628029bf34bbb9da22a45f93fc", func := "charter/charterlaw10.CertBack", spec := "certBack", inPlace := ["internal/bytealg.IndexByteString", "slices.overlaps[byte]", "internal/bytealg.Compare", "internal/bytealg.MakeNoZero"], unfollowed := true, recurses := true, named := ["unicode/utf8.first", "unicode/utf8.acceptRanges", "charter/sha.beginning", "charter/sha.constants"], apart := false, laid := [("unicode/utf8.acceptRanges", laid_unicode_utf8_acceptRanges), ("charter/sha.constants", laid_charter_sha_constants), ("charter/sha.beginning", laid_charter_sha_beginning), ("unicode/utf8.first", laid_unicode_utf8_first)] }
def CertBackSaid : Prop := certBackRow.holds Tryz.pinned (OpenSpec.ofChange certBackSpec)

/-- ITS FALSE NEIGHBOUR: 'it returns false'. Refute it at one input. -/
def certBackWrong : ChangeSpec := { name := "certBack", fn := fun _ => fun
  | [d1, d2] => { results := [.lit (.bool false)], args := [d1, d2] }
  | _ => none }
def CertBackWrongFalsely : Prop := certBackRow.holds Tryz.pinned (OpenSpec.ofChange certBackWrong)

/-- 'charterlaw10.CertStays': WHATEVER THE INPUT: true; the input reads as it did. -/
def certStaysSpec : ChangeSpec := { name := "certStays", fn := fun _ => fun
  | [d1, d2] => { results := [.lit (.bool true)], args := [d1, d2] }
  | _ => none }
def certStaysRow : OpenClaim := { program := "ytkdjhklnlnfhfaagreatdoor", sum := "e65595d62caab44a59304d2232d11181659a9f628029bf34bbb9da22a45f93fc", func := "charter/charterlaw10.CertStays", spec := "certStays", inPlace := ["internal/bytealg.IndexByteString", "slices.overlaps[byte]", "internal/bytealg.Compare"], unfollowed := true, recurses := true, named := ["unicode/utf8.first", "unicode/utf8.acceptRanges"], apart := false, laid := [("unicode/utf8.acceptRanges", laid_unicode_utf8_acceptRanges), ("unicode/utf8.first", laid_unicode_utf8_first)] }
def CertStaysSaid : Prop := certStaysRow.holds Tryz.pinned (OpenSpec.ofChange certStaysSpec)

/-- ITS FALSE NEIGHBOUR: 'it returns false'. Refute it at one input. -/
def certStaysWrong : ChangeSpec := { name := "certStays", fn := fun _ => fun
  | [d1, d2] => { results := [.lit (.bool false)], args := [d1, d2] }
  | _ => none }
def CertStaysWrongFalsely : Prop := certStaysRow.holds Tryz.pinned (OpenSpec.ofChange certStaysWrong)

/- THE SECOND FORM. 'bulk': how many values and letters a reading holds, each counted each time it is reached (what is shared counts as often as it is met; a slice's spare places count too). A statement '..UptoSaid' is the law's where the arguments, and the package variables that the reading takes, are together of bulk at most 1048576: NARROWER than '..Said'. Prove '..Said' where nothing that the law and all that it calls make is longer than what came in: it says more and counts as full. Else prove '..UptoSaid'. A law counts once. -/
mutual
def uptoBulk {H : Type} : DataW H → Nat
  | .lit (.string bytes) => bytes.length + 1
  | .lit _ => 1
  | .nil => 1
  | .ptr d => uptoBulk d + 1
  | .slice elems spare => uptoBulkAll elems + uptoBulkAll spare + 1
  | .agg parts => uptoBulkAll parts + 1
  | .iface _ d => uptoBulk d + 1
  | .map entries => uptoBulkEntries entries + 1
  | .held _ => 1
def uptoBulkAll {H : Type} : List (DataW H) → Nat
  | [] => 0
  | d :: r => uptoBulk d + uptoBulkAll r
def uptoBulkEntries {H : Type} : List (Lit × DataW H) → Nat
  | [] => 0
  | x :: r => uptoBulkEntry x + uptoBulkEntries r
def uptoBulkEntry {H : Type} : Lit × DataW H → Nat
  | (.string bytes, d) => bytes.length + uptoBulk d + 1
  | (_, d) => uptoBulk d + 1
 end
def uptoSmall : (H : Type) → List (DataW H) → Bool := fun _ ds => decide (uptoBulkAll ds ≤ 1048576)
def OpenSpec.upto (s : _root_.Go.ChangeSpec) : _root_.Go.OpenSpec := { _root_.Go.OpenSpec.ofChange s with cond := some uptoSmall }

/-- 'charterlaw10.CertBodies', WHERE WHAT IT READS IS OF BULK AT MOST 1048576: true; the input reads as it did. -/
def certBodiesUptoRow : OpenClaim := { program := "ytkdjhklnlnfhfaagreatdoor", sum := "e65595d62caab44a59304d2232d11181659a9f628029bf34bbb9da22a45f93fc", func := "charter/charterlaw10.CertBodies", spec := "certBodies", inPlace := ["internal/bytealg.IndexByteString", "slices.overlaps[byte]", "internal/bytealg.Compare"], unfollowed := true, recurses := true, named := ["unicode/utf8.first", "unicode/utf8.acceptRanges"], apart := false, laid := [("unicode/utf8.acceptRanges", laid_unicode_utf8_acceptRanges), ("unicode/utf8.first", laid_unicode_utf8_first)], narrowed := true }
def CertBodiesUptoSaid : Prop := certBodiesUptoRow.holds Tryz.pinned (OpenSpec.upto certBodiesSpec)

/-- 'charterlaw10.CertEncodes', WHERE WHAT IT READS IS OF BULK AT MOST 1048576: true; the input reads as it did. -/
def certEncodesUptoRow : OpenClaim := { program := "ytkdjhklnlnfhfaagreatdoor", sum := "e65595d62caab44a59304d2232d11181659a9f628029bf34bbb9da22a45f93fc", func := "charter/charterlaw10.CertEncodes", spec := "certEncodes", inPlace := ["internal/bytealg.IndexByteString", "slices.overlaps[byte]", "internal/bytealg.Compare"], unfollowed := true, recurses := true, named := ["unicode/utf8.first", "unicode/utf8.acceptRanges"], apart := false, laid := [("unicode/utf8.acceptRanges", laid_unicode_utf8_acceptRanges), ("unicode/utf8.first", laid_unicode_utf8_first)], narrowed := true }
def CertEncodesUptoSaid : Prop := certEncodesUptoRow.holds Tryz.pinned (OpenSpec.upto certEncodesSpec)

/-- 'charterlaw10.CertLong', WHERE WHAT IT READS IS OF BULK AT MOST 1048576: true; the input reads as it did. -/
def certLongUptoRow : OpenClaim := { program := "ytkdjhklnlnfhfaagreatdoor", sum := "e65595d62caab44a59304d2232d11181659a9f628029bf34bbb9da22a45f93fc", func := "charter/charterlaw10.CertLong", spec := "certLong", inPlace := ["internal/bytealg.IndexByteString", "slices.overlaps[byte]", "internal/bytealg.Compare"], unfollowed := true, recurses := true, named := ["unicode/utf8.first", "unicode/utf8.acceptRanges"], apart := false, laid := [("unicode/utf8.acceptRanges", laid_unicode_utf8_acceptRanges), ("unicode/utf8.first", laid_unicode_utf8_first)], narrowed := true }
def CertLongUptoSaid : Prop := certLongUptoRow.holds Tryz.pinned (OpenSpec.upto certLongSpec)

/-- 'charterlaw10.CertDecodes', WHERE WHAT IT READS IS OF BULK AT MOST 1048576: true; the input reads as it did. -/
def certDecodesUptoRow : OpenClaim := { program := "ytkdjhklnlnfhfaagreatdoor", sum := "e65595d62caab44a59304d2232d11181659a9f628029bf34bbb9da22a45f93fc", func := "charter/charterlaw10.CertDecodes", spec := "certDecodes", inPlace := ["internal/bytealg.IndexByteString", "slices.overlaps[byte]", "internal/bytealg.Compare"], unfollowed := true, recurses := true, named := ["unicode/utf8.first", "unicode/utf8.acceptRanges"], apart := false, laid := [("unicode/utf8.acceptRanges", laid_unicode_utf8_acceptRanges), ("unicode/utf8.first", laid_unicode_utf8_first)], narrowed := true }
def CertDecodesUptoSaid : Prop := certDecodesUptoRow.holds Tryz.pinned (OpenSpec.upto certDecodesSpec)

/-- 'charterlaw10.CertIssues', WHERE WHAT IT READS IS OF BULK AT MOST 1048576: true; the input reads as it did. -/
def certIssuesUptoRow : OpenClaim := { program := "ytkdjhklnlnfhfaagreatdoor", sum := "e65595d62caab44a59304d2232d11181659a9f628029bf34bbb9da22a45f93fc", func := "charter/charterlaw10.CertIssues", spec := "certIssues", inPlace := ["internal/bytealg.IndexByteString", "slices.overlaps[byte]", "internal/bytealg.Compare", "internal/bytealg.MakeNoZero"], unfollowed := true, recurses := true, named := ["unicode/utf8.first", "unicode/utf8.acceptRanges", "charter/sha.beginning", "charter/sha.constants"], apart := false, laid := [("unicode/utf8.acceptRanges", laid_unicode_utf8_acceptRanges), ("charter/sha.constants", laid_charter_sha_constants), ("charter/sha.beginning", laid_charter_sha_beginning), ("unicode/utf8.first", laid_unicode_utf8_first)], narrowed := true }
def CertIssuesUptoSaid : Prop := certIssuesUptoRow.holds Tryz.pinned (OpenSpec.upto certIssuesSpec)

/-- 'charterlaw10.CertBack', WHERE WHAT IT READS IS OF BULK AT MOST 1048576: true; the input reads as it did. -/
def certBackUptoRow : OpenClaim := { program := "ytkdjhklnlnfhfaagreatdoor", sum := "e65595d62caab44a59304d2232d11181659a9f628029bf34bbb9da22a45f93fc", func := "charter/charterlaw10.CertBack", spec := "certBack", inPlace := ["internal/bytealg.IndexByteString", "slices.overlaps[byte]", "internal/bytealg.Compare", "internal/bytealg.MakeNoZero"], unfollowed := true, recurses := true, named := ["unicode/utf8.first", "unicode/utf8.acceptRanges", "charter/sha.beginning", "charter/sha.constants"], apart := false, laid := [("unicode/utf8.acceptRanges", laid_unicode_utf8_acceptRanges), ("charter/sha.constants", laid_charter_sha_constants), ("charter/sha.beginning", laid_charter_sha_beginning), ("unicode/utf8.first", laid_unicode_utf8_first)], narrowed := true }
def CertBackUptoSaid : Prop := certBackUptoRow.holds Tryz.pinned (OpenSpec.upto certBackSpec)

/-- 'charterlaw10.CertStays', WHERE WHAT IT READS IS OF BULK AT MOST 1048576: true; the input reads as it did. -/
def certStaysUptoRow : OpenClaim := { program := "ytkdjhklnlnfhfaagreatdoor", sum := "e65595d62caab44a59304d2232d11181659a9f628029bf34bbb9da22a45f93fc", func := "charter/charterlaw10.CertStays", spec := "certStays", inPlace := ["internal/bytealg.IndexByteString", "slices.overlaps[byte]", "internal/bytealg.Compare"], unfollowed := true, recurses := true, named := ["unicode/utf8.first", "unicode/utf8.acceptRanges"], apart := false, laid := [("unicode/utf8.acceptRanges", laid_unicode_utf8_acceptRanges), ("unicode/utf8.first", laid_unicode_utf8_first)], narrowed := true }
def CertStaysUptoSaid : Prop := certStaysUptoRow.holds Tryz.pinned (OpenSpec.upto certStaysSpec)

end Rows
end Go.Proofs.YtkdjhklnlnfhfaaGreatDoor
