/-
  How ReadBits, ReadBig and ReadOid answer, wherever the same bytes stand; an error as an opaque value.
  A certificate's reader as plain functions: what stands there, what stands behind each whole (the innermost first), whether something was amiss.
  What bytes can be read as attributes, steps, a name: each in one way. Plain.
  What a certificate's reader reads out of a certificate's own bytes. Plain.
-/
import Derived.Test.YtkdjhklnlnfhfaaGreatDoorM27
import Derived.Test.YtkdjhklnlnfhfaaGreatDoorM8
import Derived.Test.YtkdjhklnlnfhfaaGreatDoorM28
import Derived.Test.YtkdjhklnlnfhfaaGreatDoorM5
import Derived.Test.YtkdjhklnlnfhfaaGreatDoorM10
import Derived.Test.YtkdjhklnlnfhfaaGreatDoorM6
import Derived.Test.YtkdjhklnlnfhfaaGreatDoorM9
namespace Go.Proofs.YtkdjhklnlnfhfaaGreatDoor
open Go Go.RowKit
set_option maxRecDepth 4000

theorem nil_eqIn8 {P : Program} (w : World) (d : Nat) {u : TypeId} {ms : Array (String × TypeId)} (hu : P.underlying u = some (.interface ms)) : (Op.equalIn (d + 2) u .nilIface .nilIface).run P w = .ok true w := by
  simp [Op.equalIn, run_underlying hu]
theorem err_eqIn8 {P : Program} (w : World) (d : Nat) {u t : TypeId} {v : Value} {ms : Array (String × TypeId)} (hu : P.underlying u = some (.interface ms)) : (Op.equalIn (d + 2) u (.iface t v) .nilIface).run P w = .ok false w := by
  simp [Op.equalIn, run_underlying hu]
theorem eql_nil_nil8 (w : World) : (binOp .eql 37 .nilIface .nilIface).run Tryz.prog w = .ok (.bool true) w := by
  have hu : (match Tryz.prog.underlying 37 with | some (.interface _) => true | _ => false) = true := by kernel_rfl
  cases hd : Tryz.prog.underlying 37 with
  | none => simp [hd] at hu
  | some d =>
    cases d with
    | interface ms =>
      simp only [binOp]
      simp [Op.equal, Op.maxDepth, nil_eqIn8 w 9998 hd]
    | _ => simp [hd] at hu
theorem eql_err_nil8 (k : Int) (w : World) : (binOp .eql 37 (err k) .nilIface).run Tryz.prog w = .ok (.bool false) w := by
  have hu : (match Tryz.prog.underlying 37 with | some (.interface _) => true | _ => false) = true := by kernel_rfl
  cases hd : Tryz.prog.underlying 37 with
  | none => simp [hd] at hu
  | some d =>
    cases d with
    | interface ms =>
      simp only [binOp]
      simp [Op.equal, Op.maxDepth, err_eqIn8 w 9998 hd]
    | _ => simp [hd] at hu
/-- an error, and whether it is none -/
structure Ern8 (E : Value) (b : Bool) : Prop where
  eq : ∀ w, (binOp .eql 37 E .nilIface).run Tryz.prog w = .ok (.bool b) w
  grd : ∀ (t : TypeId) (x : Operand) (v : Value) w, (eqGuard .eql t x (.const v) E .nilIface).run Tryz.prog w = .ok () w
theorem Ern8.nil : Ern8 .nilIface true := ⟨eql_nil_nil8, fun t x v w => by simp [eqGuard]⟩
theorem Ern8.err (k : Int) : Ern8 (err k) false := ⟨eql_err_nil8 k, fun t x v w => by simp [eqGuard]⟩
theorem bits_all (b : List (BitVec 8)) (hm : b.length ≤ 300) : ∃ (E : Value) (D : Bool) (LB : List (BitVec 8)) (u : Int), Ern8 E D ∧ LB.length ≤ 300 ∧ ∀ {w : World} {A : Option Addr} {n c : Nat}, Bs w A n c b →
    Calls Tryz.prog 110 #[.slice A n c] w fun e w' => ∃ A' c', e = .returned (.tuple #[.agg #[.slice A' LB.length c', .int .i64 u], E]) ∧ Own w' w.heap.size (.slice A' LB.length c') LB.length LB ∧ Ext w w' := by
  by_cases hy : 0 < b.length ∧ bitsB (b.drop 1) (ub (gb b 0)) = true
  · refine ⟨.nilIface, true, b.drop 1, ub (gb b 0), Ern8.nil, by rw [List.length_drop]; omega, fun {w A n c} h => ?_⟩
    have hl := h.len
    subst hl
    refine (ReadBits_any h (by omega)).mono ?_
    rintro e w' (⟨hno, _⟩ | ⟨_, A', c', rfl, ho, hx⟩)
    · exact absurd hy hno
    · rw [List.length_drop]
      exact ⟨A', c', rfl, ho, hx⟩
  · refine ⟨err 2, false, [], 0, Ern8.err 2, by simp, fun {w A n c} h => ?_⟩
    have hl := h.len
    subst hl
    refine (ReadBits_any h (by omega)).mono ?_
    rintro e w' (⟨_, rfl, hx⟩ | ⟨hyes, _⟩)
    · exact ⟨none, 0, rfl, Own.nil _ _, hx⟩
    · exact absurd hyes hy
theorem oid_all (b : List (BitVec 8)) : ∃ (E : Value) (D : Bool) (L : List Nat), Ern8 E D ∧ L.length ≤ 16 ∧ ∀ {w : World} {A : Option Addr} {n c : Nat}, Bs w A n c b →
    Calls Tryz.prog 251 #[.slice A n c] w fun e w' => ∃ A' c', e = .returned (.tuple #[.slice A' L.length c', E]) ∧ Rw u32t vL w' w.heap.size (.slice A' L.length c') L.length L ∧ Ext w w' := by
  by_cases hy : OidP (oidU (pmO b)) ∧ oidB (oidU (pmO b)) = b
  · refine ⟨.nilIface, true, oidU (pmO b), Ern8.nil, ?_, fun {w A n c} h => ?_⟩
    · obtain ⟨_, _, _, _, h16, _⟩ := hy.1
      exact h16
    · refine (ReadOid_any h).mono ?_
      rintro e w' (⟨hno, _⟩ | ⟨_, _, A', c', rfl, ho, hx⟩)
      · exact absurd hy hno
      · exact ⟨A', c', rfl, ho, hx⟩
  · refine ⟨err 2, false, [], Ern8.err 2, by simp, fun {w A n c} h => ?_⟩
    refine (ReadOid_any h).mono ?_
    rintro e w' (⟨_, rfl, hx⟩ | ⟨h1, h2, _⟩)
    · exact ⟨none, 0, rfl, Rw.nil _ _, hx⟩
    · exact absurd ⟨h1, h2⟩ hy
theorem zero_dgs : dgs BB 0 = [] := rfl
theorem big_all (b : List (BitVec 8)) (hm : b.length ≤ 1000000) : ∃ (E : Value) (D : Bool) (V : Nat), Ern8 E D ∧ V < 256 ^ 256 ∧ ∀ {w : World} {A : Option Addr} {n c : Nat}, Bs w A n c b →
    Calls Tryz.prog 159 #[.slice A n c] w fun e w' => ∃ A' n' c', e = .returned (.tuple #[.slice A' n' c', E]) ∧ Rw ut vL w' w.heap.size (.slice A' n' c') n' (dgs BB V) ∧ Ext w w' := by
  cases hb : bigB b with
  | false =>
    refine ⟨err 2, false, 0, Ern8.err 2, Nat.pow_pos (by decide), fun {w A n c} h => (ReadBig_any h (by rw [← h.len]; exact hm)).mono ?_⟩
    rintro e w' (⟨_, rfl, hx⟩ | ⟨h1, _⟩)
    · exact ⟨none, 0, 0, rfl, Rw.nil _ _, hx⟩
    · rw [hb] at h1; cases h1
  | true =>
    by_cases hV : vl 256 (b.map BitVec.toNat).reverse < 256 ^ 256
    · refine ⟨.nilIface, true, _, Ern8.nil, hV, fun {w A n c} h => (ReadBig_any h (by rw [← h.len]; exact hm)).mono ?_⟩
      rw [ReadR_eq]
      rintro e w' (⟨h1, _⟩ | ⟨_, ⟨h1, _⟩ | ⟨_, A', n', c', rfl, ho, hx⟩⟩)
      · rw [hb] at h1; cases h1
      · exact absurd hV (Nat.not_lt_of_le h1)
      · exact ⟨A', n', c', rfl, ho, hx⟩
    · refine ⟨err 4, false, 0, Ern8.err 4, Nat.pow_pos (by decide), fun {w A n c} h => (ReadBig_any h (by rw [← h.len]; exact hm)).mono ?_⟩
      rw [ReadR_eq]
      rintro e w' (⟨h1, _⟩ | ⟨_, ⟨_, rfl, hx⟩ | ⟨h1, _⟩⟩)
      · rw [hb] at h1; cases h1
      · exact ⟨none, 0, 0, rfl, Rw.nil _ _, hx⟩
      · exact absurd h1 hV
end Go.Proofs.YtkdjhklnlnfhfaaGreatDoor
namespace Go.Proofs.YtkdjhklnlnfhfaaGreatDoor
open Go
set_option maxRecDepth 4000

structure RS where
  r : List (BitVec 8)
  s : List (List (BitVec 8))
  a : Bool
abbrev Tm6 : Type := Int × Int × Int × Int × Int × Int
/-- the thing that bytes are of -/
noncomputable def rdP {α : Type} (W : α → Prop) (f : α → List (BitVec 8)) (b : List (BitVec 8)) : Option α := @dite _ (∃ a, W a ∧ f a = b) (Classical.propDecidable _) (fun h => some h.choose) (fun _ => none)
theorem rdP_no {α : Type} {W : α → Prop} {f : α → List (BitVec 8)} {b : List (BitVec 8)} (h : ¬ ∃ a, W a ∧ f a = b) : rdP W f b = none := by unfold rdP; exact dif_neg h
theorem rdP_yes {α : Type} {W : α → Prop} {f : α → List (BitVec 8)} (hi : ∀ a c, W a → W c → f a = f c → a = c) {b : List (BitVec 8)} {a : α} (h : W a) (e : f a = b) : rdP W f b = some a := by
  have hx : ∃ a, W a ∧ f a = b := ⟨a, h, e⟩
  unfold rdP
  rw [dif_pos hx]
  exact congrArg some (hi _ _ hx.choose_spec.1 h (hx.choose_spec.2.trans e.symm))
/-- the first element's body, what is behind it -/
def cutP (b : List (BitVec 8)) : Option (List (BitVec 8) × List (BitVec 8)) := (fstL b).map fun p => ((b.drop p.1).take p.2, b.drop (p.1 + p.2))
theorem cutP_el {b x r : List (BitVec 8)} {m : BitVec 8} (h : El b m x r) : cutP b = some (x, r) := by
  obtain ⟨_, _, _, _, e1, e2⟩ := el_parts h
  unfold cutP
  rw [el_fst h]
  exact congrArg some (Prod.ext e1 e2)
theorem cutP_some {b x r : List (BitVec 8)} (h : cutP b = some (x, r)) : El b (gb b 0) x r := by
  unfold cutP at h
  cases hf : fstL b with
  | none => rw [hf] at h; cases h
  | some p =>
    rw [hf] at h
    obtain ⟨s, n⟩ := p
    have h1 := Option.some.inj h
    have h2 := fst_el hf
    obtain ⟨e1, e2⟩ := Prod.mk.inj h1
    rw [← e1, ← e2]
    exact h2.1
theorem cutP_none {b : List (BitVec 8)} (h : cutP b = none) : ¬ ∃ m x r, El b m x r := fun ⟨m, x, r, he⟩ => by rw [cutP_el he] at h; cases h
theorem cutP_len {b x r : List (BitVec 8)} (h : cutP b = some (x, r)) : x.length + r.length + 2 ≤ b.length := by
  have h1 := (el_parts (cutP_some h)).2.2.1
  have h2 := hdn_lo x.length
  omega
def RS.bad (s : RS) : RS := ⟨s.r, s.s, true⟩
def RS.more (s : RS) : Bool := !decide (s.r = []) && !s.a
def RS.at_ (s : RS) (m : BitVec 8) : Bool := !decide (s.r = []) && decide (gb s.r 0 = m)
/-- lengths that can be reckoned with -/
structure RS.Ok (s : RS) : Prop where
  r : s.r.length ≤ 1000000
  k : ∀ x ∈ s.s, x.length ≤ 1000000
  d : s.s.length ≤ 24
def enterS (m : BitVec 8) (s : RS) : RS := match cutP s.r with
  | some (x, r) => if gb s.r 0 = m ∧ isW m = true ∧ s.s.length < 24 then ⟨x, r :: s.s, s.a⟩ else s.bad
  | none => s.bad
def leaveS (s : RS) : RS := if s.r = [] then match s.s with
  | x :: t => ⟨x, t, s.a⟩
  | [] => s.bad
  else s.bad
def endS (s : RS) : RS := if s.r = [] ∧ s.s = [] then s else s.bad
def takeS (m : BitVec 8) (s : RS) : List (BitVec 8) × RS := match cutP s.r with
  | some (x, r) => if gb s.r 0 = m ∧ isP m = true then (x, ⟨r, s.s, s.a⟩) else ([], s.bad)
  | none => ([], s.bad)
def wholeS (m : BitVec 8) (s : RS) : List (BitVec 8) × RS := match cutP s.r with
  | some (x, r) => if gb s.r 0 = m then (elm m x, ⟨r, s.s, s.a⟩) else ([], s.bad)
  | none => ([], s.bad)
def optS {α : Type} (d : α) (o : Option α) (s : RS) : α × RS := match o with
  | some x => (x, s)
  | none => (d, s.bad)
/-- rounds for as long as there is more -/
def goS {α : Type} (f : α × RS → α × RS) : Nat → α × RS → α × RS
  | 0, p => p
  | n + 1, p => if p.2.more = true then goS f n (f p) else p
theorem goS_end {α : Type} (f : α × RS → α × RS) (n : Nat) {p : α × RS} (h : p.2.more = false) : goS f n p = p := by
  cases n with
  | zero => rfl
  | succ n => unfold goS; rw [if_neg (by rw [h]; decide)]
/-- what is told by other layers: numbers' bodies, texts, bits -/
structure Prm where
  big : Nat → List (BitVec 8)
  bigW : Nat → Prop
  txt : BitVec 8 → List (BitVec 8) → Bool
  bits : List (BitVec 8) → Int → Bool
/-- what was read so far -/
structure Rec where
  ser : Nat
  iss : List (List Atr)
  sub : List (List Atr)
  fr : Tm6
  til : Tm6
  kn : Nat
  ke : Nat
  auth : Bool
  dep : Int
  uses : Int
  p : List (List (List Atr))
  x : List (List (List Atr))
  o : List (List Nat)
def rec0 : Rec := ⟨0, [], [], (0, 0, 0, 0, 0, 0), (0, 0, 0, 0, 0, 0), 0, 0, false, -1, 0, [], [], []⟩
def tm6 (t : Tmt) : Tm6 := ((t.y : Int), (t.mo : Int), (t.d : Int), (t.h : Int), (t.mi : Int), (t.s : Int))
def oA : List (BitVec 8) := [85, 29, 19]
def oU : List (BitVec 8) := [85, 29, 15]
def oN : List (BitVec 8) := [85, 29, 30]
def oP : List (BitVec 8) := [85, 29, 32]
def oS : List (BitVec 8) := [42, 134, 72, 134, 247, 13, 1, 1, 11]
def oK : List (BitVec 8) := [42, 134, 72, 134, 247, 13, 1, 1, 1]
/-- what bits tell of uses, from the i-th byte on -/
def usesR : Nat → Int → List (BitVec 8) → Int
  | _, u, [] => u
  | i, u, x :: t => usesR (i + 1) (bits .or .i64 u (IntKind.i64.wrap ((rv8 x.toNat : Int) * 2 ^ (8 * i)))) t
def kindS (o : List (BitVec 8)) (s : RS) : RS :=
  let p := takeS 6 (enterS 48 s)
  if p.1 = o then
    let q := takeS 5 p.2
    leaveS (if q.1 = [] then q.2 else q.2.bad)
  else leaveS p.2.bad
def insideS {α : Type} (b : List (BitVec 8)) (f : RS → α × RS) (s : RS) : α × RS :=
  let p := f ⟨b, [], s.a⟩
  (p.1, ⟨s.r, s.s, (endS p.2).a⟩)
section
variable (P : Prm)
noncomputable def numS (s : RS) : Nat × RS := let p := takeS 2 s; optS 0 (rdP P.bigW P.big p.1) p.2
def shortS (s : RS) : Int × RS := let p := takeS 2 s; optS 0 (if tcB p.1 = true ∧ p.1.length ≤ 8 then some (tcV p.1) else none) p.2
def bitsS (s : RS) : (List (BitVec 8) × Int) × RS := let p := takeS 3 s; optS ([], 0) (if 0 < p.1.length ∧ P.bits (p.1.drop 1) ((gb p.1 0).toNat : Int) = true then some (p.1.drop 1, ((gb p.1 0).toNat : Int)) else none) p.2
noncomputable def oidS (s : RS) : List Nat × RS := let p := takeS 6 s; optS [] (rdP OidP oidB p.1) p.2
noncomputable def timeS (s : RS) : Tm6 × RS := let p := takeS (gb s.r 0) s; optS (0, 0, 0, 0, 0, 0) ((rdP (fun t => MayT t ∧ tmM t = gb s.r 0) tmB p.1).map tm6) p.2
noncomputable def nameS (s : RS) : List (List Atr) × RS := let p := wholeS 48 s; optS [] (rdP (MayN P.txt) namB p.1) p.2
noncomputable def keyS (s : RS) : (Nat × Nat) × RS :=
  let p := bitsS P (kindS oK (enterS 48 s))
  let q := insideS p.1.1 (fun s => let n := numS P (enterS 48 s); let e := numS P n.2; ((n.1, e.1), leaveS e.2)) p.2
  (q.1, leaveS q.2)
def depthS (s : RS) : Int × RS :=
  let t := (takeS 1 (enterS 48 s)).2
  let p := if t.more = true then shortS t else (-1, t)
  (p.1, leaveS p.2)
noncomputable def subF (p : List (List (List Atr)) × RS) : List (List (List Atr)) × RS :=
  let q := nameS P (enterS 164 (enterS 48 p.2))
  (p.1 ++ [q.1], leaveS (leaveS q.2))
noncomputable def withinS (m : BitVec 8) (s : RS) : List (List (List Atr)) × RS :=
  if s.at_ m = true then
    let q := goS (subF P) ((enterS m s).r.length + 1) ([], enterS m s)
    (q.1, leaveS q.2)
  else ([], s)
noncomputable def polF (p : List (List Nat) × RS) : List (List Nat) × RS :=
  let q := oidS (enterS 48 p.2)
  (p.1 ++ [q.1], leaveS q.2)
noncomputable def polsS (s : RS) : List (List Nat) × RS :=
  let q := goS polF ((enterS 48 s).r.length + 1) ([], enterS 48 s)
  (q.1, leaveS q.2)
noncomputable def namesS (c : Rec) (s : RS) : Rec × RS :=
  let p := withinS P 160 (enterS 48 s)
  let x := withinS P 161 p.2
  ({ c with p := p.1, x := x.1 }, leaveS x.2)
noncomputable def saidS (o : List (BitVec 8)) (c : Rec) (s : RS) : Rec × RS :=
  if o = oA then ({ c with auth := true, dep := (depthS s).1 }, (depthS s).2)
  else if o = oU then ({ c with uses := usesR 0 0 (bitsS P s).1.1 }, (bitsS P s).2)
  else if o = oN then namesS P c s
  else if o = oP then ({ c with o := (polsS s).1 }, (polsS s).2)
  else (c, s.bad)
noncomputable def extF (p : Rec × RS) : Rec × RS :=
  let o := takeS 6 (enterS 48 p.2)
  let t := if o.2.at_ 1 = true then (takeS 1 o.2).2 else o.2
  let b := takeS 4 t
  let q := insideS b.1 (saidS P o.1 p.1) b.2
  (q.1, leaveS q.2)
noncomputable def extsS (c : Rec) (s : RS) : Rec × RS :=
  let t := enterS 48 (enterS 163 s)
  let q := goS (extF P) (t.r.length + 1) (c, t)
  (q.1, leaveS (leaveS q.2))
/-- all but the extensions -/
noncomputable def headS (s : RS) : Rec × RS :=
  let n := numS P (wholeS 160 (enterS 48 s)).2
  let i := nameS P (kindS oS n.2)
  let a := timeS (enterS 48 i.2)
  let b := timeS a.2
  let u := nameS P (leaveS b.2)
  let k := keyS P u.2
  (⟨n.1, i.1, u.1, a.1, b.1, k.1.1, k.1.2, false, -1, 0, [], [], []⟩, k.2)
noncomputable def bodyS (s : RS) : Rec × RS :=
  let h := headS P s
  let q := if h.2.more = true then extsS P h.1 h.2 else h
  (q.1, endS (leaveS q.2))
/-- a certificate's body and signature -/
def splS (b : List (BitVec 8)) : (List (BitVec 8) × (List (BitVec 8) × Int)) × RS :=
  let w := wholeS 48 (enterS 48 ⟨b, [], false⟩)
  let s := bitsS P (kindS oS w.2)
  ((w.1, s.1), endS (leaveS s.2))
end
end Go.Proofs.YtkdjhklnlnfhfaaGreatDoor
namespace Go.Proofs.YtkdjhklnlnfhfaaGreatDoor
open Go
set_option maxRecDepth 4000

theorem el_uniq {b x r x' r' : List (BitVec 8)} {m m' : BitVec 8} (h : El b m x r) (h' : El b m' x' r') : m = m' ∧ x = x' ∧ r = r' :=
  elm_cut (h.2.2.symm.trans h'.2.2) h.2.1 h'.2.1 h.1 h'.1
/-- an attribute that can be read -/
structure AtW (a : Atr) : Prop where
  oid : OidP a.ty
  pm : isP a.mark = true
  tx : a.tx.length ≤ 65535
  ol : (oidB a.ty).length ≤ 65535
  bd : (elm 6 (oidB a.ty) ++ elm a.mark a.tx).length ≤ 65535
structure StW (s : List Atr) : Prop where
  all : ∀ a ∈ s, AtW a
  bd : (s.map atrB).flatten.length ≤ 65535
structure NmW (n : List (List Atr)) : Prop where
  all : ∀ s ∈ n, StW s
  bd : (n.map stpB).flatten.length ≤ 65535
theorem isP_mk {m : BitVec 8} (h : isP m = true) : mkB m = true := by
  unfold isP at h
  rw [Bool.and_eq_true] at h
  exact h.1
section
variable {T : BitVec 8 → List (BitVec 8) → Bool}
theorem MayA.w {a : Atr} (h : MayA T a) : AtW a := by
  have h1 := oidB_len h.oid
  have h2 := h.hi
  have h3 := h.body
  refine ⟨h.oid, ?_, by omega, by omega, by omega⟩
  rcases h.mark with e | e <;> rw [e] <;> decide
theorem MayS.w {s : List Atr} (h : MayS T s) : StW s := ⟨fun a ha => (h.all a ha).w, by have := h.body; omega⟩
theorem MayN.w {n : List (List Atr)} (h : MayN T n) : NmW n := ⟨fun s hs => (h.all s hs).w, by have := h.body; omega⟩
end
/-- bytes that stand ahead are an item's in one way -/
structure Cut1 {α : Type} (W : α → Prop) (f : α → List (BitVec 8)) : Prop where
  cut : ∀ a b r s, W a → W b → f a ++ r = f b ++ s → a = b ∧ r = s
  ne : ∀ a, W a → f a ≠ []
theorem atr_cut : Cut1 AtW atrB where
  cut a b r s ha hb h := by
    obtain ⟨_, h1, h2⟩ := elm_cut h ha.bd hb.bd (by decide) (by decide)
    obtain ⟨_, e1, e2⟩ := elm_cut h1 ha.ol hb.ol (by decide) (by decide)
    obtain ⟨e3, e4⟩ := elm_inj e2 ha.tx hb.tx (isP_mk ha.pm) (isP_mk hb.pm)
    have e5 := oid_inj ha.oid hb.oid e1
    refine ⟨?_, h2⟩
    cases a
    cases b
    simp_all
  ne a ha e := (IsEl.ne ⟨48, _, by decide, ha.bd, rfl⟩ : atrB a ≠ []) e
/-- items one behind the other: one is ahead of the other -/
theorem Cut1.pre {α : Type} {W : α → Prop} {f : α → List (BitVec 8)} (h : Cut1 W f) : ∀ (l k : List α) (x : List (BitVec 8)), (∀ a ∈ l, W a) → (∀ a ∈ k, W a) → (l.map f).flatten ++ x = (k.map f).flatten → ∃ t, k = l ++ t ∧ x = (t.map f).flatten
  | [], k, x, _, _, e => ⟨k, rfl, by simpa using e⟩
  | a :: l, [], x, hl, _, e => by
    rw [List.map_cons, List.flatten_cons] at e
    simp at e
    exact absurd e.1 (h.ne a (hl a (by simp)))
  | a :: l, b :: k, x, hl, hk, e => by
    rw [List.map_cons, List.flatten_cons, List.map_cons, List.flatten_cons, List.append_assoc] at e
    obtain ⟨rfl, e2⟩ := h.cut a b _ _ (hl a (by simp)) (hk b (by simp)) e
    obtain ⟨t, rfl, e3⟩ := h.pre l k x (fun y hy => hl y (by simp [hy])) (fun y hy => hk y (by simp [hy])) e2
    exact ⟨t, rfl, e3⟩
theorem Cut1.inj {α : Type} {W : α → Prop} {f : α → List (BitVec 8)} (h : Cut1 W f) {l k : List α} (hl : ∀ a ∈ l, W a) (hk : ∀ a ∈ k, W a) (e : (l.map f).flatten = (k.map f).flatten) : l = k := by
  obtain ⟨t, rfl, e2⟩ := h.pre l k [] hl hk (by rw [List.append_nil]; exact e)
  cases t with
  | nil => simp
  | cons y t =>
    rw [List.map_cons, List.flatten_cons] at e2
    exact absurd (List.append_eq_nil_iff.1 e2.symm).1 (h.ne y (hk y (by simp)))
theorem stp_cut : Cut1 StW stpB where
  cut a b r s ha hb h := by
    obtain ⟨_, h1, h2⟩ := elm_cut h ha.bd hb.bd (by decide) (by decide)
    exact ⟨atr_cut.inj ha.all hb.all h1, h2⟩
  ne a ha e := (IsEl.ne ⟨49, _, by decide, ha.bd, rfl⟩ : stpB a ≠ []) e
theorem namW_inj {n m : List (List Atr)} (hn : NmW n) (hm : NmW m) (h : namB n = namB m) : n = m := by
  obtain ⟨_, h1⟩ := elm_inj h hn.bd hm.bd (by decide) (by decide)
  exact stp_cut.inj hn.all hm.all h1
end Go.Proofs.YtkdjhklnlnfhfaaGreatDoor
namespace Go.Proofs.YtkdjhklnlnfhfaaGreatDoor
open Go
set_option maxRecDepth 4000

/-- what is asked of what other layers tell -/
structure PrmG (P : Prm) (PK : Nat → Nat → Prop) : Prop where
  g : BigG P.big PK
  w : ∀ v, (P.big v).length ≤ 129 → P.bigW v
  b0 : ∀ l, P.bits l 0 = true
  bu : ∀ u, 0 < u → u ≤ 511 → P.bits ((useB u).drop 1) ((gb (useB u) 0).toNat : Int) = true
theorem enterS_at {m : BitVec 8} {x r : List (BitVec 8)} {st : List (List (BitVec 8))} {a : Bool} (hm : isW m = true) (hx : x.length ≤ 65535) (hd : st.length < 24) : enterS m ⟨elm m x ++ r, st, a⟩ = ⟨x, r :: st, a⟩ := by
  have he : El (elm m x ++ r) m x r := ⟨by unfold isW at hm; exact (Bool.and_eq_true _ _ ▸ hm).1, hx, rfl⟩
  unfold enterS
  rw [cutP_el he]
  exact if_pos ⟨(el_parts he).1, hm, hd⟩
theorem enterS_one {m : BitVec 8} {x : List (BitVec 8)} {st : List (List (BitVec 8))} {a : Bool} (hm : isW m = true) (hx : x.length ≤ 65535) (hd : st.length < 24) : enterS m ⟨elm m x, st, a⟩ = ⟨x, [] :: st, a⟩ := by
  have h := enterS_at (r := []) (a := a) hm hx hd
  rwa [List.append_nil] at h
theorem takeS_at {m : BitVec 8} {x r : List (BitVec 8)} {st : List (List (BitVec 8))} {a : Bool} (hm : isP m = true) (hx : x.length ≤ 65535) : takeS m ⟨elm m x ++ r, st, a⟩ = (x, ⟨r, st, a⟩) := by
  have he : El (elm m x ++ r) m x r := ⟨isP_mk hm, hx, rfl⟩
  unfold takeS
  rw [cutP_el he]
  exact if_pos ⟨(el_parts he).1, hm⟩
theorem wholeS_at {m : BitVec 8} {x r : List (BitVec 8)} {st : List (List (BitVec 8))} {a : Bool} (hm : mkB m = true) (hx : x.length ≤ 65535) : wholeS m ⟨elm m x ++ r, st, a⟩ = (elm m x, ⟨r, st, a⟩) := by
  have he : El (elm m x ++ r) m x r := ⟨hm, hx, rfl⟩
  unfold wholeS
  rw [cutP_el he]
  exact if_pos (el_parts he).1
theorem leaveS_at {x : List (BitVec 8)} {st : List (List (BitVec 8))} {a : Bool} : leaveS ⟨[], x :: st, a⟩ = ⟨x, st, a⟩ := rfl
theorem endS_at {a : Bool} : endS ⟨[], [], a⟩ = ⟨[], [], a⟩ := rfl
theorem more_at {m : BitVec 8} {x r : List (BitVec 8)} {st : List (List (BitVec 8))} : (⟨elm m x ++ r, st, false⟩ : RS).more = true := by
  unfold RS.more
  have : elm m x ++ r ≠ [] := fun e => by
    have h1 := congrArg List.length e
    rw [List.length_append, elm_len] at h1
    have := hdn_lo x.length
    simp at h1
    omega
  simp [this]
theorem more_nil {st : List (List (BitVec 8))} {a : Bool} : (⟨[], st, a⟩ : RS).more = false := by simp [RS.more]
theorem at_yes {m : BitVec 8} {x r : List (BitVec 8)} {st : List (List (BitVec 8))} {a : Bool} : (⟨elm m x ++ r, st, a⟩ : RS).at_ m = true := by
  unfold RS.at_
  have : elm m x ++ r ≠ [] := fun e => by
    have h1 := congrArg List.length e
    rw [List.length_append, elm_len] at h1
    have := hdn_lo x.length
    simp at h1
    omega
  have h2 : gb (elm m x ++ r) 0 = m := by unfold elm; rw [List.append_assoc, hdr_gb0]
  simp [this, h2]
theorem at_no {k m : BitVec 8} {x r : List (BitVec 8)} {st : List (List (BitVec 8))} {a : Bool} (h : m ≠ k) : (⟨elm m x ++ r, st, a⟩ : RS).at_ k = false := by
  unfold RS.at_
  have h2 : gb (elm m x ++ r) 0 = m := by unfold elm; rw [List.append_assoc, hdr_gb0]
  simp [h2, h]
theorem at_nil {k : BitVec 8} {st : List (List (BitVec 8))} {a : Bool} : (⟨[], st, a⟩ : RS).at_ k = false := by simp [RS.at_]
section
variable {r : List (BitVec 8)} {st : List (List (BitVec 8))} {a : Bool}
theorem kindS_at {l : List Nat} (h : OidP l) (hd : st.length < 24) : kindS (oidB l) ⟨kndE l ++ r, st, a⟩ = ⟨r, st, a⟩ := by
  have h1 := kndI_len h
  have h2 := oidB_len h
  unfold kindS
  rw [show kndE l = elm 48 (oidE l ++ elm 5 []) from rfl, enterS_at (by decide) (by omega) hd]
  rw [show oidE l = elm 6 (oidB l) from rfl, takeS_at (by decide) (by omega)]
  show (if oidB l = oidB l then _ else _) = _
  rw [if_pos rfl]
  show leaveS (if (takeS 5 ⟨elm 5 [], r :: st, a⟩).1 = [] then _ else _) = _
  have h3 : takeS 5 ⟨elm 5 [], r :: st, a⟩ = ([], ⟨[], r :: st, a⟩) := by
    have h := takeS_at (m := 5) (x := []) (r := []) (st := r :: st) (a := a) (by decide) (by decide)
    rwa [List.append_nil] at h
  rw [h3]
  rfl
theorem oS_eq : oS = oidB sgnO := by decide +kernel
theorem oK_eq : oK = oidB keyO := by decide +kernel
theorem oX_eq : oA = oidB (extO 19) ∧ oU = oidB (extO 15) ∧ oN = oidB (extO 30) ∧ oP = oidB (extO 32) := by decide +kernel
variable {P : Prm} {PK : Nat → Nat → Prop}
theorem numS_at (hP : PrmG P PK) {v : Nat} (h : (P.big v).length ≤ 129) : numS P ⟨bigE P.big v ++ r, st, a⟩ = (v, ⟨r, st, a⟩) := by
  unfold numS bigE
  rw [takeS_at (by decide) (by omega)]
  show optS 0 (rdP P.bigW P.big (P.big v)) _ = _
  rw [rdP_yes (fun a c _ _ e => hP.g.inj a c e) (hP.w v h) rfl]
  rfl
theorem bitsS_at {l : List (BitVec 8)} {k : BitVec 8} (hb : P.bits l (k.toNat : Int) = true) (hl : l.length < 65535) : bitsS P ⟨elm 3 (k :: l) ++ r, st, a⟩ = ((l, (k.toNat : Int)), ⟨r, st, a⟩) := by
  unfold bitsS
  rw [takeS_at (by decide) (by rw [List.length_cons]; omega)]
  show optS ([], 0) (if 0 < (k :: l).length ∧ P.bits l (k.toNat : Int) = true then some (l, (k.toNat : Int)) else none) _ = _
  rw [if_pos ⟨by simp, hb⟩]
  rfl
theorem oidS_at {l : List Nat} (h : OidP l) : oidS ⟨oidE l ++ r, st, a⟩ = (l, ⟨r, st, a⟩) := by
  have h2 := oidB_len h
  unfold oidS oidE
  rw [takeS_at (by decide) (by omega)]
  show optS [] (rdP OidP oidB (oidB l)) _ = _
  rw [rdP_yes (fun a c h1 h2 e => oid_inj h1 h2 e) h rfl]
  rfl
theorem timeS_at {t : Tmt} (h : MayT t) : timeS ⟨momE t ++ r, st, a⟩ = (tm6 t, ⟨r, st, a⟩) := by
  have h1 : gb (momE t ++ r) 0 = tmM t := by unfold momE elm; rw [List.append_assoc, hdr_gb0]
  have h2 := tmB_len t
  have h3 : isP (tmM t) = true := by unfold tmM; split <;> decide
  unfold timeS
  rw [h1, show momE t = elm (tmM t) (tmB t) from rfl, takeS_at h3 (by split at h2 <;> omega)]
  show optS (0, 0, 0, 0, 0, 0) ((rdP (fun u => MayT u ∧ tmM u = tmM t) tmB (tmB t)).map tm6) _ = _
  rw [rdP_yes (fun a c h1 h2 e => tmB_inj h1.1 h2.1 (h1.2.trans h2.2.symm) e) ⟨h, rfl⟩ rfl]
  rfl
theorem nameS_at {n : List (List Atr)} (h : MayN P.txt n) : nameS P ⟨namB n ++ r, st, a⟩ = (n, ⟨r, st, a⟩) := by
  have h1 := h.w.bd
  unfold nameS
  rw [show namB n = elm 48 (n.map stpB).flatten from rfl, wholeS_at (by decide) (by omega)]
  show optS [] (rdP (MayN P.txt) namB (namB n)) _ = _
  rw [rdP_yes (fun a c h1 h2 e => namW_inj h1.w h2.w e) h rfl]
  rfl
end
end Go.Proofs.YtkdjhklnlnfhfaaGreatDoor
