/-
  A name out of its bytes, as the reference goes: the elements' bodies, part by part; a name that may be comes out of its own bytes. Plain. R: an identifier out of its body's bytes.
-/
import Derived.Test.YthookcnkmlmgcaaGreatDoorVIf
namespace Go.Proofs.YthookcnkmlmgcaaGreatDoor
open Go
set_option maxRecDepth 4000

/-- each of them read, or none -/
def rdAll {α β : Type} (f : α → Option β) : List α → Option (List β)
  | [] => some []
  | x :: t => match f x with
    | none => none
    | some y => (rdAll f t).map fun l => y :: l
theorem rdAll_map {α β γ : Type} {f : α → Option β} {g : γ → α} {k : γ → β} : ∀ {l : List γ}, (∀ x ∈ l, f (g x) = some (k x)) → rdAll f (l.map g) = some (l.map k)
  | [], _ => rfl
  | x :: t, h => by
    rw [List.map_cons, rdAll, h x (by simp), rdAll_map (fun y hy => h y (by simp [hy]))]
    rfl
theorem rdAll_cons {α β : Type} (f : α → Option β) (x : α) (t : List α) : rdAll f (x :: t) = (f x).bind fun y => (rdAll f t).map fun l => y :: l := by
  rw [rdAll]
  cases f x <;> rfl
theorem rdAll_app {α β : Type} {f : α → Option β} : ∀ (a b : List α), rdAll f (a ++ b) = (rdAll f a).bind fun x => (rdAll f b).map fun y => x ++ y
  | [], b => by
    rw [List.nil_append, rdAll]
    cases rdAll f b <;> rfl
  | x :: t, b => by
    rw [List.cons_append, rdAll_cons, rdAll_cons, rdAll_app t b]
    cases f x with
    | none => rfl
    | some y =>
      cases rdAll f t with
      | none => rfl
      | some l => cases rdAll f b <;> rfl
/-- what is read so far, one more -/
theorem rdAll_more {α β : Type} {f : α → Option β} {l : List α} {k : Nat} {x : α} {a : List β} {y : β} (hk : l[k]? = some x) (ha : rdAll f (l.take k) = some a) (hy : f x = some y) : rdAll f (l.take (k + 1)) = some (a ++ [y]) := by
  rw [List.take_add_one, hk, rdAll_app, ha]
  show (rdAll f [x]).map (fun y => a ++ y) = _
  rw [rdAll, hy]
  rfl
/-- one that can't be read: none is -/
theorem rdAll_no {α β : Type} {f : α → Option β} : ∀ {l : List α} {k : Nat} {x : α}, l[k]? = some x → f x = none → rdAll f l = none
  | [], k, x, h, _ => by simp at h
  | y :: t, 0, x, h, hx => by
    simp at h
    subst h
    rw [rdAll, hx]
  | y :: t, k + 1, x, h, hx => by
    rw [rdAll_cons, rdAll_no (l := t) (k := k) (by simpa using h) hx]
    cases f y <;> rfl
section
variable (R : List (BitVec 8) → Option (List Nat))
/-- an attribute out of its parts -/
def rdA2 (l : List (List (BitVec 8))) : Option Atr := match l with
  | [p, q] => (bodL p 6).bind fun o => (R o).bind fun t => (bodL q (gb q 0)).map fun x => ⟨t, gb q 0, x⟩
  | _ => none
/-- an attribute out of its bytes -/
def rdA (z : List (BitVec 8)) : Option Atr := (bodL z 48).bind fun i => (prtL i).bind (rdA2 R)
/-- a step -/
def rdS (z : List (BitVec 8)) : Option (List Atr) := (bodL z 49).bind fun i => (prtL i).bind (rdAll (rdA R))
/-- a name -/
def rdN (z : List (BitVec 8)) : Option (List (List Atr)) := (bodL z 48).bind fun i => (prtL i).bind (rdAll (rdS R))
variable {R} {T : BitVec 8 → List (BitVec 8) → Bool} (hR : ∀ l, OidP l → R (oidB l) = some l)
include hR
theorem rdA_of {a : Atr} (h : MayA T a) : rdA R (atrB a) = some a := by
  unfold rdA
  rw [atr_body h]
  show (prtL (elm 6 (oidB a.ty) ++ elm a.mark a.tx)).bind (rdA2 R) = some a
  rw [atr_parts h]
  show (bodL (elm 6 (oidB a.ty)) 6).bind (fun o => (R o).bind fun t => (bodL (elm a.mark a.tx) (gb (elm a.mark a.tx) 0)).map fun x => (⟨t, gb (elm a.mark a.tx) 0, x⟩ : Atr)) = some a
  rw [atr_oid h]
  show (R (oidB a.ty)).bind (fun t => (bodL (elm a.mark a.tx) (gb (elm a.mark a.tx) 0)).map fun x => (⟨t, gb (elm a.mark a.tx) 0, x⟩ : Atr)) = some a
  rw [hR _ h.oid]
  show (bodL (elm a.mark a.tx) (gb (elm a.mark a.tx) 0)).map (fun x => (⟨a.ty, gb (elm a.mark a.tx) 0, x⟩ : Atr)) = some a
  rw [atr_text h, elm_mark]
  rfl
theorem rdS_of {s : List Atr} (h : MayS T s) : rdS R (stpB s) = some s := by
  unfold rdS
  rw [stp_body h]
  show (prtL (s.map atrB).flatten).bind (rdAll (rdA R)) = some s
  rw [stp_parts h]
  show rdAll (rdA R) (s.map atrB) = some s
  have := rdAll_map (f := rdA R) (g := atrB) (k := fun a => a) (l := s) (fun a ha => rdA_of hR (h.all a ha))
  rw [this, List.map_id']
/-- a name that may be comes out of its own bytes -/
theorem rdN_of {n : List (List Atr)} (h : MayN T n) : rdN R (namB n) = some n := by
  unfold rdN
  rw [nam_body h]
  show (prtL (n.map stpB).flatten).bind (rdAll (rdS R)) = some n
  rw [nam_parts h]
  show rdAll (rdS R) (n.map stpB) = some n
  have := rdAll_map (f := rdS R) (g := stpB) (k := fun s => s) (l := n) (fun s hs => rdS_of hR (h.all s hs))
  rw [this, List.map_id']
/-- bytes that are a name's: the name that comes out of them, if it may be and has these bytes -/
theorem rdN_iff {b : List (BitVec 8)} {n : List (List Atr)} : (MayN T n ∧ namB n = b) ↔ (rdN R b = some n ∧ MayN T n ∧ namB n = b) := by
  constructor
  · rintro ⟨h, rfl⟩
    exact ⟨rdN_of hR h, h, rfl⟩
  · exact fun h => h.2
theorem rdN_none {b : List (BitVec 8)} (h : rdN R b = none) (n : List (List Atr)) : ¬(MayN T n ∧ namB n = b) := by
  rintro ⟨hn, rfl⟩
  rw [rdN_of hR hn] at h
  cases h
end
end Go.Proofs.YthookcnkmlmgcaaGreatDoor
