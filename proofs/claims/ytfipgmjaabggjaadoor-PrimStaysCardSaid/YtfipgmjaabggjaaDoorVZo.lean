/-
  What the law PrimStays leans on: how ReadBits, ReadBig and ReadOid answer, wherever the same bytes stand.
-/
import Derived.Test.YtfipgmjaabggjaaDoorM25
import Derived.Test.YtfipgmjaabggjaaDoorM24
import Derived.Test.YtfipgmjaabggjaaDoorM26
import Derived.Test.YtfipgmjaabggjaaDoorM23
import Derived.Test.YtfipgmjaabggjaaDoorVYl
import Derived.Test.YtfipgmjaabggjaaDoorM4
namespace Go.Proofs.YtfipgmjaabggjaaDoor
open Go Go.RowKit
set_option maxRecDepth 4000

theorem nil_eqIn8 {P : Program} (w : World) (d : Nat) {u : TypeId} {ms : Array (String × TypeId)} (hu : P.underlying u = some (.interface ms)) : (Op.equalIn (d + 2) u .nilIface .nilIface).run P w = .ok true w := by
  simp [Op.equalIn, run_underlying hu]
theorem err_eqIn8 {P : Program} (w : World) (d : Nat) {u t : TypeId} {v : Value} {ms : Array (String × TypeId)} (hu : P.underlying u = some (.interface ms)) : (Op.equalIn (d + 2) u (.iface t v) .nilIface).run P w = .ok false w := by
  simp [Op.equalIn, run_underlying hu]
theorem eql_nil_nil8 (w : World) : (binOp .eql 27 .nilIface .nilIface).run Tryd.prog w = .ok (.bool true) w := by
  have hu : (match Tryd.prog.underlying 27 with | some (.interface _) => true | _ => false) = true := by kernel_rfl
  cases hd : Tryd.prog.underlying 27 with
  | none => simp [hd] at hu
  | some d =>
    cases d with
    | interface ms =>
      simp only [binOp]
      simp [Op.equal, Op.maxDepth, nil_eqIn8 w 9998 hd]
    | _ => simp [hd] at hu
theorem eql_err_nil8 (k : Int) (w : World) : (binOp .eql 27 (err k) .nilIface).run Tryd.prog w = .ok (.bool false) w := by
  have hu : (match Tryd.prog.underlying 27 with | some (.interface _) => true | _ => false) = true := by kernel_rfl
  cases hd : Tryd.prog.underlying 27 with
  | none => simp [hd] at hu
  | some d =>
    cases d with
    | interface ms =>
      simp only [binOp]
      simp [Op.equal, Op.maxDepth, err_eqIn8 w 9998 hd]
    | _ => simp [hd] at hu
/-- an error, and whether it is none -/
structure Ern8 (E : Value) (b : Bool) : Prop where
  eq : ∀ w, (binOp .eql 27 E .nilIface).run Tryd.prog w = .ok (.bool b) w
  grd : ∀ (t : TypeId) (x : Operand) (v : Value) w, (eqGuard .eql t x (.const v) E .nilIface).run Tryd.prog w = .ok () w
theorem Ern8.nil : Ern8 .nilIface true := ⟨eql_nil_nil8, fun t x v w => by simp [eqGuard]⟩
theorem Ern8.err (k : Int) : Ern8 (err k) false := ⟨eql_err_nil8 k, fun t x v w => by simp [eqGuard]⟩
theorem bits_all (b : List (BitVec 8)) (hm : b.length ≤ 300) : ∃ (E : Value) (D : Bool) (LB : List (BitVec 8)) (u : Int), Ern8 E D ∧ LB.length ≤ 300 ∧ ∀ {w : World} {A : Option Addr} {n c : Nat}, Bs w A n c b →
    Calls Tryd.prog 29 #[.slice A n c] w fun e w' => ∃ A' c', e = .returned (.tuple #[.agg #[.slice A' LB.length c', .int .i64 u], E]) ∧ Own w' w.heap.size (.slice A' LB.length c') LB.length LB ∧ Ext w w' := by
  by_cases hy : 0 < b.length ∧ bitsB (b.drop 1) (ub (gb b 0)) = true
  · refine ⟨.nilIface, true, b.drop 1, ub (gb b 0), Ern8.nil, by rw [List.length_drop]; omega, fun {w A n c} h => ?_⟩
    have hl := h.len
    subst hl
    refine (ReadBits_any h (by omega)).mono ?_
    rintro e w' (⟨hno, _⟩ | ⟨_, A', c', rfl, ho, hx⟩)
    · exact absurd hy hno
    · rw [List.length_drop]
      exact ⟨A', c', rfl, ho, hx⟩
  · refine ⟨err 2, false, [], 0, Ern8.err 2, by simp, fun {w A n c} h => ?_⟩
    have hl := h.len
    subst hl
    refine (ReadBits_any h (by omega)).mono ?_
    rintro e w' (⟨_, rfl, hx⟩ | ⟨hyes, _⟩)
    · exact ⟨none, 0, rfl, Own.nil _ _, hx⟩
    · exact absurd hyes hy
theorem oid_all (b : List (BitVec 8)) : ∃ (E : Value) (D : Bool) (L : List Nat), Ern8 E D ∧ L.length ≤ 16 ∧ ∀ {w : World} {A : Option Addr} {n c : Nat}, Bs w A n c b →
    Calls Tryd.prog 23 #[.slice A n c] w fun e w' => ∃ A' c', e = .returned (.tuple #[.slice A' L.length c', E]) ∧ Rw u32t vL w' w.heap.size (.slice A' L.length c') L.length L ∧ Ext w w' := by
  by_cases hy : OidP (oidU (pmO b)) ∧ oidB (oidU (pmO b)) = b
  · refine ⟨.nilIface, true, oidU (pmO b), Ern8.nil, ?_, fun {w A n c} h => ?_⟩
    · obtain ⟨_, _, _, _, h16, _⟩ := hy.1
      exact h16
    · refine (ReadOid_any h).mono ?_
      rintro e w' (⟨hno, _⟩ | ⟨_, _, A', c', rfl, ho, hx⟩)
      · exact absurd hy hno
      · exact ⟨A', c', rfl, ho, hx⟩
  · refine ⟨err 2, false, [], Ern8.err 2, by simp, fun {w A n c} h => ?_⟩
    refine (ReadOid_any h).mono ?_
    rintro e w' (⟨_, rfl, hx⟩ | ⟨h1, h2, _⟩)
    · exact ⟨none, 0, rfl, Rw.nil _ _, hx⟩
    · exact absurd ⟨h1, h2⟩ hy
theorem zero_dgs : dgs BB 0 = [] := rfl
theorem big_all (b : List (BitVec 8)) (hm : b.length ≤ 1000000) : ∃ (E : Value) (D : Bool) (V : Nat), Ern8 E D ∧ V < 256 ^ 256 ∧ ∀ {w : World} {A : Option Addr} {n c : Nat}, Bs w A n c b →
    Calls Tryd.prog 11 #[.slice A n c] w fun e w' => ∃ A' n' c', e = .returned (.tuple #[.slice A' n' c', E]) ∧ Rw ut vL w' w.heap.size (.slice A' n' c') n' (dgs BB V) ∧ Ext w w' := by
  cases hb : bigB b with
  | false =>
    refine ⟨err 2, false, 0, Ern8.err 2, Nat.pow_pos (by decide), fun {w A n c} h => (ReadBig_any h (by rw [← h.len]; exact hm)).mono ?_⟩
    rintro e w' (⟨_, rfl, hx⟩ | ⟨h1, _⟩)
    · exact ⟨none, 0, 0, rfl, Rw.nil _ _, hx⟩
    · rw [hb] at h1; cases h1
  | true =>
    by_cases hV : vl 256 (b.map BitVec.toNat).reverse < 256 ^ 256
    · refine ⟨.nilIface, true, _, Ern8.nil, hV, fun {w A n c} h => (ReadBig_any h (by rw [← h.len]; exact hm)).mono ?_⟩
      rw [ReadR_eq]
      rintro e w' (⟨h1, _⟩ | ⟨_, ⟨h1, _⟩ | ⟨_, A', n', c', rfl, ho, hx⟩⟩)
      · rw [hb] at h1; cases h1
      · exact absurd hV (Nat.not_lt_of_le h1)
      · exact ⟨A', n', c', rfl, ho, hx⟩
    · refine ⟨err 4, false, 0, Ern8.err 4, Nat.pow_pos (by decide), fun {w A n c} h => (ReadBig_any h (by rw [← h.len]; exact hm)).mono ?_⟩
      rw [ReadR_eq]
      rintro e w' (⟨h1, _⟩ | ⟨_, ⟨_, rfl, hx⟩ | ⟨h1, _⟩⟩)
      · rw [hb] at h1; cases h1
      · exact ⟨none, 0, 0, rfl, Rw.nil _ _, hx⟩
      · exact absurd h1 hV
theorem Sls.rd {w : World} {A : Option Addr} {n c : Nat} {ps : List SP} (h : Sls w A n c ps) : Rd sv w A n c (ps.map Prod.fst) := by
  refine ⟨by rw [List.length_map]; exact h.len, h.cap, h.nil_, fun hn => ?_⟩
  obtain ⟨g, o, e, hc⟩ := h.at_ hn
  refine ⟨g, o, e, fun j x hj => ?_⟩
  rw [List.getElem?_map] at hj
  cases hp : ps[j]? with
  | none => rw [hp] at hj; cases hj
  | some p =>
    rw [hp] at hj
    cases hj
    exact hc j p hp
theorem Sls.of_rd {w : World} {A : Option Addr} {n c : Nat} {ps : List SP} (h : Rd sv w A n c (ps.map Prod.fst)) (hb : ∀ p ∈ ps, Bs w p.1.1 p.1.2.1 p.1.2.2 p.2) : Sls w A n c ps := by
  refine ⟨by have := h.len; rwa [List.length_map] at this, h.cap, h.nul, fun hn => ?_, hb⟩
  obtain ⟨g, o, e, hc⟩ := h.at_ hn
  exact ⟨g, o, e, fun k p hk => hc k p.1 (by rw [List.getElem?_map, hk]; rfl)⟩
theorem Sls.at' {w : World} {A : Option Addr} {n c : Nat} {ps : List SP} (h : Sls w A n c ps) (k : Nat) (hk : k < n) :
    ∃ g o X m d x, A = some ⟨g, o, none⟩ ∧ (∃ p, ps[k]? = some p ∧ p.2 = x) ∧ w.cell? ⟨g, o + k, none⟩ = some (.slice X m d) ∧ Bs w X m d x := by
  obtain ⟨g, o, e, hc⟩ := h.at_ (by omega)
  obtain ⟨p, hp⟩ : ∃ p, ps[k]? = some p := ⟨_, List.getElem?_eq_getElem (by rw [h.len]; exact hk)⟩
  exact ⟨g, o, p.1.1, p.1.2.1, p.1.2.2, p.2, e, ⟨p, hp, rfl⟩, hc k p hp, h.bs p (List.mem_of_getElem? hp)⟩
theorem inSl : (Tryd.prog.info? 24).map (fun i => (i.zero, i.size, i.bytes)) = some (some (.slice none 0 0), 1, 24) := by kernel_rfl
theorem ub_up8 (x : BitVec 8) : IntKind.u8.wrap (ub x + 1) = ub (x + 1) := by
  rw [IntKind.wrap_u8]
  unfold ub
  rw [BitVec.toNat_add]
  have := x.isLt
  simp
end Go.Proofs.YtfipgmjaabggjaaDoor
