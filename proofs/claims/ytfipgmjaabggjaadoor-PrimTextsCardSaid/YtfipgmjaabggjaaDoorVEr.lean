/-
  Errors that are codes, compared.
-/
import Derived.Test.YtfipgmjaabggjaaDoorVFw
namespace Go.Proofs.YtfipgmjaabggjaaDoor
open Go Go.RowKit
set_option maxRecDepth 4000

/-- a code as an error -/
abbrev err (n : Int) : Value := .iface 31 (.int .i64 n)
theorem code_eqIn {P : Program} (w : World) (d : Nat) {u t : TypeId} {ms : Array (String × TypeId)} {i : TypeInfo} {k : IntKind} (x y : Int) (hu : P.underlying u = some (.interface ms)) (ht : P.underlying t = some (.int k)) (hi : P.info? t = some i) (hc : i.comparable = true) :
    (Op.equalIn (d + 2) u (.iface t (.int k x)) (.iface t (.int k y))).run P w = .ok (x == y) w := by
  simp [Op.equalIn, run_underlying hu, run_underlying ht, typeInfo, hi, hc]
theorem code_eq0 {P : Program} (w : World) {u t : TypeId} {ms : Array (String × TypeId)} {i : TypeInfo} {k : IntKind} (x y : Int) (hu : P.underlying u = some (.interface ms)) (ht : P.underlying t = some (.int k)) (hi : P.info? t = some i) (hc : i.comparable = true) :
    (binOp .eql u (.iface t (.int k x)) (.iface t (.int k y))).run P w = .ok (.bool (x == y)) w := by
  simp only [binOp]
  simp [Op.equal, Op.maxDepth, code_eqIn w 9998 x y hu ht hi hc]
theorem code_eq (a b : Int) (w : World) : (binOp .eql 27 (.iface 31 (.int .i64 a)) (.iface 31 (.int .i64 b))).run Tryd.prog w = .ok (.bool (a == b)) w := by
  have hi : ((Tryd.prog.info? 31).map (·.comparable)) = some true := by kernel_rfl
  have hu : (match Tryd.prog.underlying 27 with | some (.interface _) => true | _ => false) = true := by kernel_rfl
  cases hq : Tryd.prog.info? 31 with
  | none => simp [hq] at hi
  | some i =>
    have hc : i.comparable = true := by simpa [hq] using hi
    cases hd : Tryd.prog.underlying 27 with
    | none => simp [hd] at hu
    | some d =>
      cases d with
      | interface ms => exact code_eq0 w a b hd Tryd.underlying31 hq hc
      | _ => simp [hd] at hu

end Go.Proofs.YtfipgmjaabggjaaDoor
