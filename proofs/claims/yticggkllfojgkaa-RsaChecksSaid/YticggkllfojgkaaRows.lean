/-
  No cell of these rows narrows 'for every input' (looked for: loops, veiled, ifaces, maps, wideKeys, modest, calm, conditions, laid).
  DERIVED. THE GIVEN ROWS OF THIS SEAT. 2 by the template 'for every input the law returns true; each argument reads behind the call as it read before'; 0 by the template 'total and deterministic' (their statements: YticggkllfojgkaaTotals.lean).
  GIVEN WITH THE SEED: the statements are not yours to turn. If you find one false, say at which input.
  Laid BY PROGRAM, IN A SANDBOX (cutbox-rows.mjs): the forced cells as the released guide's own fill.sh prints them over the translation 35fbb54a95eb7108… (all of the seat's roots in one cut). By AI agents, Wed Nov 11 2026. No macro, syntax, notation, axiom, sorry.
-/
import Derived.Test.YticggkllfojgkaaChecked
import GoSem.Claim
import GoSem.ClaimJoined
import GoSem.ClaimMapViews
import Derived.JoinedTies
import Derived.KernelRfl
namespace Go.Proofs.Yticggkllfojgkaa
/- THE CELL 'sum', in the pinned program and in every row, IS THE sha256 OF THE DUMP (.gsa) THAT YticggkllfojgkaaProg.lean LOADS. Nothing in Lean hashes anything: it is a label: what it is worth is what the hold of that sum in a sandbox is worth. -/
noncomputable def Try.pinned : Pinned := { name := "yticggkllfojgkaa", sum := "35fbb54a95eb71088641f0b2b34b2db2b97fd76c41f4cf7a3e3360147f7d4f82", checked := Try.checked }
namespace Rows
def none {H : Type} : Left H := { results := [], args := [] }

/-- 'charterlaw06.RsaChecks': WHATEVER THE INPUT: true; the input reads as it did. -/
def rsaChecksSpec : ChangeSpec := { name := "rsaChecks", fn := fun _ => fun
  | [d] => { results := [.lit (.bool true)], args := [d] }
  | _ => none }
def rsaChecksRow : OpenClaim := { program := "yticggkllfojgkaa", sum := "35fbb54a95eb71088641f0b2b34b2db2b97fd76c41f4cf7a3e3360147f7d4f82", func := "charter/charterlaw06.RsaChecks", spec := "rsaChecks", unfollowed := true, recurses := true, apart := false }
def RsaChecksSaid : Prop := rsaChecksRow.holds Try.pinned (OpenSpec.ofChange rsaChecksSpec)

/-- ITS FALSE NEIGHBOUR: 'it returns false'. Refute it at one input. -/
def rsaChecksWrong : ChangeSpec := { name := "rsaChecks", fn := fun _ => fun
  | [d] => { results := [.lit (.bool false)], args := [d] }
  | _ => none }
def RsaChecksWrongFalsely : Prop := rsaChecksRow.holds Try.pinned (OpenSpec.ofChange rsaChecksWrong)

/-- 'charterlaw06.RsaPairs': WHATEVER THE INPUT: true; the input reads as it did. -/
def rsaPairsSpec : ChangeSpec := { name := "rsaPairs", fn := fun _ => fun
  | [d1, d2, d3] => { results := [.lit (.bool true)], args := [d1, d2, d3] }
  | _ => none }
def rsaPairsRow : OpenClaim := { program := "yticggkllfojgkaa", sum := "35fbb54a95eb71088641f0b2b34b2db2b97fd76c41f4cf7a3e3360147f7d4f82", func := "charter/charterlaw06.RsaPairs", spec := "rsaPairs", unfollowed := true, recurses := true, apart := false }
def RsaPairsSaid : Prop := rsaPairsRow.holds Try.pinned (OpenSpec.ofChange rsaPairsSpec)

/-- ITS FALSE NEIGHBOUR: 'it returns false'. Refute it at one input. -/
def rsaPairsWrong : ChangeSpec := { name := "rsaPairs", fn := fun _ => fun
  | [d1, d2, d3] => { results := [.lit (.bool false)], args := [d1, d2, d3] }
  | _ => none }
def RsaPairsWrongFalsely : Prop := rsaPairsRow.holds Try.pinned (OpenSpec.ofChange rsaPairsWrong)

/- THE SECOND FORM. 'bulk': how many values and letters a reading holds, each counted each time it is reached (what is shared counts as often as it is met; a slice's spare places count too). A statement '..UptoSaid' is the law's where the arguments, and the package variables that the reading takes, are together of bulk at most 1048576: NARROWER than '..Said'. Prove '..Said' where nothing that the law and all that it calls make is longer than what came in: it says more and counts as full. Else prove '..UptoSaid'. A law counts once. -/
mutual
def uptoBulk {H : Type} : DataW H → Nat
  | .lit (.string bytes) => bytes.length + 1
  | .lit _ => 1
  | .nil => 1
  | .ptr d => uptoBulk d + 1
  | .slice elems spare => uptoBulkAll elems + uptoBulkAll spare + 1
  | .agg parts => uptoBulkAll parts + 1
  | .iface _ d => uptoBulk d + 1
  | .map entries => uptoBulkEntries entries + 1
  | .held _ => 1
def uptoBulkAll {H : Type} : List (DataW H) → Nat
  | [] => 0
  | d :: r => uptoBulk d + uptoBulkAll r
def uptoBulkEntries {H : Type} : List (Lit × DataW H) → Nat
  | [] => 0
  | x :: r => uptoBulkEntry x + uptoBulkEntries r
def uptoBulkEntry {H : Type} : Lit × DataW H → Nat
  | (.string bytes, d) => bytes.length + uptoBulk d + 1
  | (_, d) => uptoBulk d + 1
 end
def uptoSmall : (H : Type) → List (DataW H) → Bool := fun _ ds => decide (uptoBulkAll ds ≤ 1048576)
def OpenSpec.upto (s : _root_.Go.ChangeSpec) : _root_.Go.OpenSpec := { _root_.Go.OpenSpec.ofChange s with cond := some uptoSmall }

/-- 'charterlaw06.RsaChecks', WHERE WHAT IT READS IS OF BULK AT MOST 1048576: true; the input reads as it did. -/
def rsaChecksUptoRow : OpenClaim := { program := "yticggkllfojgkaa", sum := "35fbb54a95eb71088641f0b2b34b2db2b97fd76c41f4cf7a3e3360147f7d4f82", func := "charter/charterlaw06.RsaChecks", spec := "rsaChecks", unfollowed := true, recurses := true, apart := false, narrowed := true }
def RsaChecksUptoSaid : Prop := rsaChecksUptoRow.holds Try.pinned (OpenSpec.upto rsaChecksSpec)

/-- 'charterlaw06.RsaPairs', WHERE WHAT IT READS IS OF BULK AT MOST 1048576: true; the input reads as it did. -/
def rsaPairsUptoRow : OpenClaim := { program := "yticggkllfojgkaa", sum := "35fbb54a95eb71088641f0b2b34b2db2b97fd76c41f4cf7a3e3360147f7d4f82", func := "charter/charterlaw06.RsaPairs", spec := "rsaPairs", unfollowed := true, recurses := true, apart := false, narrowed := true }
def RsaPairsUptoSaid : Prop := rsaPairsUptoRow.holds Try.pinned (OpenSpec.upto rsaPairsSpec)

end Rows
end Go.Proofs.Yticggkllfojgkaa
