/-
  Errors that are codes, asked whether they differ.
-/
import Derived.Test.YtfipgmjaabggjaaDoorVEr
namespace Go.Proofs.YtfipgmjaabggjaaDoor
open Go Go.RowKit
set_option maxRecDepth 4000

theorem code_neq0 {P : Program} (w : World) {u t : TypeId} {ms : Array (String × TypeId)} {i : TypeInfo} {k : IntKind} (x y : Int) (hu : P.underlying u = some (.interface ms)) (ht : P.underlying t = some (.int k)) (hi : P.info? t = some i) (hc : i.comparable = true) :
    (binOp .neq u (.iface t (.int k x)) (.iface t (.int k y))).run P w = .ok (.bool (!(x == y))) w := by
  simp only [binOp]
  simp [Op.equal, Op.maxDepth, code_eqIn w 9998 x y hu ht hi hc]
theorem code_neq (a b : Int) (w : World) : (binOp .neq 27 (.iface 31 (.int .i64 a)) (.iface 31 (.int .i64 b))).run Tryd.prog w = .ok (.bool (!(a == b))) w := by
  have hi : ((Tryd.prog.info? 31).map (·.comparable)) = some true := by kernel_rfl
  have hu : (match Tryd.prog.underlying 27 with | some (.interface _) => true | _ => false) = true := by kernel_rfl
  cases hq : Tryd.prog.info? 31 with
  | none => simp [hq] at hi
  | some i =>
    have hc : i.comparable = true := by simpa [hq] using hi
    cases hd : Tryd.prog.underlying 27 with
    | none => simp [hd] at hu
    | some d =>
      cases d with
      | interface ms => exact code_neq0 w a b hd Tryd.underlying31 hq hc
      | _ => simp [hd] at hu
end Go.Proofs.YtfipgmjaabggjaaDoor
