/-
  rsa: what Verify answers, as one value; errors that aren't alike.
-/
import Derived.Test.YticggkllfojgkaaDoorVTx
namespace Go.Proofs.YticggkllfojgkaaDoor
open Go Go.RowKit
set_option maxRecDepth 4000

/-- what Verify answers by a key that may be -/
noncomputable def verE (sig lb : List (BitVec 8)) (ve vn : Nat) : Value := by
  classical exact if rs sig ve vn = some (sgL (dgH lb) (nb vn)) then .nilIface else err 8
theorem verE_yes {sig lb : List (BitVec 8)} {ve vn : Nat} (h : rs sig ve vn = some (sgL (dgH lb) (nb vn))) : verE sig lb ve vn = .nilIface := by
  classical
  unfold verE
  exact if_pos h
theorem verE_no {sig lb : List (BitVec 8)} {ve vn : Nat} (h : rs sig ve vn ≠ some (sgL (dgH lb) (nb vn))) : verE sig lb ve vn = err 8 := by
  classical
  unfold verE
  exact if_neg h
section
variable {A B D E F : Option Addr} {n c m d k f p q y z vn ve vd : Nat} {w : World} {lb sig : List (BitVec 8)}
theorem Verify_all (hn : Nv w A n c vn) (he : Nv w B m d ve) (hb : Bs w E p q lb) (hs : Bs w F y z sig) (hp : p ≤ 1000000) (h : PubOk vn ve) (hw : Lay w) :
    Calls Tryd.prog 18 #[.agg #[.slice A n c, .slice B m d], .slice E p q, .slice F y z] w fun e w' => e = .returned (verE sig lb ve vn) ∧ Ext w w' := by
  cases hr : rs sig ve vn with
  | none => rw [verE_no (by rw [hr]; simp)]; exact Verify_wrong hn he hb hs hp h hr
  | some r =>
    by_cases hq : r = sgL (dgH lb) (nb vn)
    · rw [verE_yes (by rw [hr, hq])]; exact Verify_ok hn he hb hs hp h hw hr hq
    · rw [verE_no (by rw [hr]; simpa using hq)]; exact Verify_no hn he hb hs hp h hw hr hq
end
theorem nil_eqIn {P : Program} (w : World) (d : Nat) {u : TypeId} {ms : Array (String × TypeId)} (hu : P.underlying u = some (.interface ms)) : (Op.equalIn (d + 2) u .nilIface .nilIface).run P w = .ok true w := by
  simp [Op.equalIn, run_underlying hu]
theorem err_eqIn {P : Program} (w : World) (d : Nat) {u t : TypeId} {v : Value} {ms : Array (String × TypeId)} (hu : P.underlying u = some (.interface ms)) : (Op.equalIn (d + 2) u (.iface t v) .nilIface).run P w = .ok false w := by
  simp [Op.equalIn, run_underlying hu]
theorem eql_nil_nil (w : World) : (binOp .eql 32 .nilIface .nilIface).run Tryd.prog w = .ok (.bool true) w := by
  have hu : (match Tryd.prog.underlying 32 with | some (.interface _) => true | _ => false) = true := by kernel_rfl
  cases hd : Tryd.prog.underlying 32 with
  | none => simp [hd] at hu
  | some d =>
    cases d with
    | interface ms =>
      simp only [binOp]
      simp [Op.equal, Op.maxDepth, nil_eqIn w 9998 hd]
    | _ => simp [hd] at hu
theorem eql_err_nil (k : Int) (w : World) : (binOp .eql 32 (err k) .nilIface).run Tryd.prog w = .ok (.bool false) w := by
  have hu : (match Tryd.prog.underlying 32 with | some (.interface _) => true | _ => false) = true := by kernel_rfl
  cases hd : Tryd.prog.underlying 32 with
  | none => simp [hd] at hu
  | some d =>
    cases d with
    | interface ms =>
      simp only [binOp]
      simp [Op.equal, Op.maxDepth, err_eqIn w 9998 hd]
    | _ => simp [hd] at hu
theorem code_neq0 {P : Program} (w : World) {u t : TypeId} {ms : Array (String × TypeId)} {i : TypeInfo} {k : IntKind} (x y : Int) (hu : P.underlying u = some (.interface ms)) (ht : P.underlying t = some (.int k)) (hi : P.info? t = some i) (hc : i.comparable = true) :
    (binOp .neq u (.iface t (.int k x)) (.iface t (.int k y))).run P w = .ok (.bool (!(x == y))) w := by
  simp only [binOp]
  simp [Op.equal, Op.maxDepth, code_eqIn w 9998 x y hu ht hi hc]
theorem code_neq (a b : Int) (w : World) : (binOp .neq 32 (.iface 36 (.int .i64 a)) (.iface 36 (.int .i64 b))).run Tryd.prog w = .ok (.bool (!(a == b))) w := by
  have hi : ((Tryd.prog.info? 36).map (·.comparable)) = some true := by kernel_rfl
  have hu : (match Tryd.prog.underlying 32 with | some (.interface _) => true | _ => false) = true := by kernel_rfl
  cases hq : Tryd.prog.info? 36 with
  | none => simp [hq] at hi
  | some i =>
    have hc : i.comparable = true := by simpa [hq] using hi
    cases hd : Tryd.prog.underlying 32 with
    | none => simp [hd] at hu
    | some d =>
      cases d with
      | interface ms => exact code_neq0 w a b hd Tryd.underlying36 hq hc
      | _ => simp [hd] at hu
/-- is there an error? told as a truth -/
theorem ver_nil (sig lb : List (BitVec 8)) (ve vn : Nat) : ∃ b : Bool, (∀ w, (binOp .eql 32 (verE sig lb ve vn) .nilIface).run Tryd.prog w = .ok (.bool b) w) ∧
    (∀ (t : TypeId) (x : Operand) (v : Value) w, (eqGuard .eql t x (.const v) (verE sig lb ve vn) .nilIface).run Tryd.prog w = .ok () w) ∧ (b = true ↔ rs sig ve vn = some (sgL (dgH lb) (nb vn))) := by
  by_cases h : rs sig ve vn = some (sgL (dgH lb) (nb vn))
  · exact ⟨true, fun w => by rw [verE_yes h]; exact eql_nil_nil w, fun t x v w => by rw [verE_yes h]; simp [eqGuard], by simp [h]⟩
  · exact ⟨false, fun w => by rw [verE_no h]; exact eql_err_nil 8 w, fun t x v w => by rw [verE_no h]; simp [eqGuard], by simp [h]⟩
end Go.Proofs.YticggkllfojgkaaDoor
