/-
  Elements of bytes: marks, lengths, what a writer holds; plain.
-/
import Derived.Test.YtadndhenfoppiaaVBy
namespace Go.Proofs.Ytadndhenfoppiaa
open Go
set_option maxRecDepth 4000

/-- is a byte a mark; one of a whole; one of a part -/
def mkB (m : BitVec 8) : Bool := m.toNat % 32 != 31
def whB (m : BitVec 8) : Bool := m.toNat / 32 % 2 == 1
def isW (m : BitVec 8) : Bool := mkB m && whB m
def isP (m : BitVec 8) : Bool := mkB m && !whB m
/-- how long a mark and a length are; they themselves; an element -/
def hdn (n : Nat) : Nat := if n < 128 then 2 else if n < 256 then 3 else 4
def hdr (m : BitVec 8) (n : Nat) : List (BitVec 8) := if n < 128 then [m, BitVec.ofNat 8 n] else if n < 256 then [m, 129, BitVec.ofNat 8 n] else [m, 130, BitVec.ofNat 8 (n / 256), BitVec.ofNat 8 (n % 256)]
def elm (m : BitVec 8) (b : List (BitVec 8)) : List (BitVec 8) := hdr m b.length ++ b
theorem hdr_len (m : BitVec 8) (n : Nat) : (hdr m n).length = hdn n := by unfold hdr hdn; split; rfl; split <;> rfl
theorem hdn_lo (n : Nat) : 2 ≤ hdn n := by unfold hdn; split; omega; split <;> omega
theorem hdn_hi (n : Nat) : hdn n ≤ 4 := by unfold hdn; split; omega; split <;> omega
theorem elm_len (m : BitVec 8) (b : List (BitVec 8)) : (elm m b).length = hdn b.length + b.length := by unfold elm; rw [List.length_append, hdr_len]
theorem hdr_cons (m : BitVec 8) (n : Nat) : ∃ r, hdr m n = m :: r ∧ r.length = hdn n - 1 := by
  unfold hdr hdn; split
  · exact ⟨_, rfl, rfl⟩
  · split
    · exact ⟨_, rfl, rfl⟩
    · exact ⟨_, rfl, rfl⟩
theorem hdr_gb0 (m : BitVec 8) (n : Nat) (r : List (BitVec 8)) : gb (hdr m n ++ r) 0 = m := by
  obtain ⟨t, e, _⟩ := hdr_cons m n
  rw [e]; rfl
/-- what a writer holds: the innermost whole's body, ahead of it the marks and the bodies of those that it is in; or what was amiss -/
inductive TWs where
  | ok (cur : List (BitVec 8)) (st : List (BitVec 8 × List (BitVec 8)))
  | bad (c : Nat)
def putS (m : BitVec 8) (b : List (BitVec 8)) : TWs → TWs
  | .bad c => .bad c
  | .ok cur st => if isP m = true then (if b.length ≤ 65535 then .ok (cur ++ elm m b) st else .bad 4) else .bad 1
def openS (m : BitVec 8) : TWs → TWs
  | .bad c => .bad c
  | .ok cur st => if isW m = true then (if st.length < 24 then .ok [] ((m, cur) :: st) else .bad 5) else .bad 1
def closeS : TWs → TWs
  | .bad c => .bad c
  | .ok _ [] => .bad 17
  | .ok cur ((m, out) :: st) => if cur.length ≤ 65535 then .ok (out ++ elm m cur) st else .bad 4
def doneL : TWs → List (BitVec 8)
  | .ok cur [] => cur
  | _ => []
def doneC : TWs → Nat
  | .bad c => c
  | .ok _ [] => 0
  | .ok _ (_ :: _) => 17
/-- all that is written, the lengths of the open ones aside; where the marks of the open ones stand; their number -/
def flatT (cur : List (BitVec 8)) : List (BitVec 8 × List (BitVec 8)) → List (BitVec 8)
  | [] => cur
  | (m, out) :: st => flatT out st ++ (m :: cur)
def ahead : List (BitVec 8 × List (BitVec 8)) → List (BitVec 8)
  | [] => []
  | (m, out) :: st => ahead st ++ out ++ [m]
theorem flatT_eq (cur : List (BitVec 8)) : ∀ st, flatT cur st = ahead st ++ cur
  | [] => rfl
  | (m, out) :: st => by rw [flatT, flatT_eq out st, ahead]; simp
theorem flatT_app (cur x : List (BitVec 8)) (st : List (BitVec 8 × List (BitVec 8))) : flatT (cur ++ x) st = flatT cur st ++ x := by
  rw [flatT_eq, flatT_eq, List.append_assoc]
theorem flatT_open (m : BitVec 8) (cur : List (BitVec 8)) (st : List (BitVec 8 × List (BitVec 8))) : flatT [] ((m, cur) :: st) = flatT cur st ++ [m] := rfl
def posT : List (BitVec 8 × List (BitVec 8)) → List Nat
  | [] => []
  | (_, out) :: st => posT st ++ [(flatT out st).length]
theorem posT_len : ∀ st, (posT st).length = st.length
  | [] => rfl
  | (m, out) :: st => by rw [posT, List.length_append, posT_len st]; rfl
theorem posT_last (m : BitVec 8) (out : List (BitVec 8)) (st : List (BitVec 8 × List (BitVec 8))) : (posT ((m, out) :: st))[st.length]? = some (flatT out st).length := by
  rw [posT, List.getElem?_append_right (by rw [posT_len]; exact Nat.le_refl _), posT_len, Nat.sub_self]; rfl
theorem posT_take (m : BitVec 8) (out : List (BitVec 8)) (st : List (BitVec 8 × List (BitVec 8))) : (posT ((m, out) :: st)).take st.length = posT st := by
  rw [posT, List.take_append_of_le_length (by rw [posT_len]; exact Nat.le_refl _), ← posT_len, List.take_length]
theorem flatT_at (m : BitVec 8) (cur out : List (BitVec 8)) (st : List (BitVec 8 × List (BitVec 8))) : gb (flatT cur ((m, out) :: st)) (flatT out st).length = m := by
  rw [flatT, gb_app, if_neg (Nat.lt_irrefl _), Nat.sub_self]; rfl
/-- a whole is closed: its mark becomes mark and length -/
theorem flatT_close (m : BitVec 8) (cur out : List (BitVec 8)) (st : List (BitVec 8 × List (BitVec 8))) :
    flatT (out ++ elm m cur) st = flatT out st ++ hdr m cur.length ++ cur := by
  rw [flatT_app, elm, List.append_assoc]
theorem flatT_cut (m : BitVec 8) (cur out : List (BitVec 8)) (st : List (BitVec 8 × List (BitVec 8))) : (flatT cur ((m, out) :: st)).take (flatT out st).length = flatT out st ∧ (flatT cur ((m, out) :: st)).drop ((flatT out st).length + 1) = cur := by
  constructor
  · rw [flatT, List.take_left']
    rfl
  · rw [flatT, List.drop_append, List.drop_of_length_le (by omega)]
    simp
theorem flatT_len (m : BitVec 8) (cur out : List (BitVec 8)) (st : List (BitVec 8 × List (BitVec 8))) : (flatT cur ((m, out) :: st)).length = (flatT out st).length + 1 + cur.length := by
  rw [flatT]; simp; omega
/-- the reference's: marks and bodies from the outermost on -/
def mks : List (BitVec 8 × List (BitVec 8)) → List (BitVec 8)
  | [] => []
  | (m, _) :: st => mks st ++ [m]
def bods (cur : List (BitVec 8)) : List (BitVec 8 × List (BitVec 8)) → List (List (BitVec 8))
  | [] => [cur]
  | (_, out) :: st => bods out st ++ [cur]
theorem mks_len : ∀ st, (mks st).length = st.length
  | [] => rfl
  | (m, out) :: st => by rw [mks, List.length_append, mks_len st]; rfl
theorem bods_len (cur : List (BitVec 8)) : ∀ st, (bods cur st).length = st.length + 1
  | [] => rfl
  | (m, out) :: st => by rw [bods, List.length_append, bods_len out st]; rfl
theorem bods_last (cur : List (BitVec 8)) : ∀ st, (bods cur st)[st.length]? = some cur
  | [] => rfl
  | (m, out) :: st => by rw [bods, List.getElem?_append_right (by rw [bods_len, List.length_cons]; exact Nat.le_refl _), bods_len, List.length_cons, Nat.sub_self]; rfl
theorem bods_set (cur new : List (BitVec 8)) : ∀ st, (bods cur st).set st.length new = bods new st
  | [] => rfl
  | (m, out) :: st => by rw [bods, bods, List.set_append_right _ _ (by rw [bods_len, List.length_cons]; exact Nat.le_refl _), bods_len, List.length_cons, Nat.sub_self]; rfl
theorem bods_take (m : BitVec 8) (cur out : List (BitVec 8)) (st : List (BitVec 8 × List (BitVec 8))) : (bods cur ((m, out) :: st)).take (st.length + 1) = bods out st := by
  rw [bods, List.take_append_of_le_length (by rw [bods_len]; exact Nat.le_refl _), ← bods_len out st, List.take_length]
theorem mks_last (m : BitVec 8) (out : List (BitVec 8)) (st : List (BitVec 8 × List (BitVec 8))) : (mks ((m, out) :: st))[st.length]? = some m := by
  rw [mks, List.getElem?_append_right (by rw [mks_len]; exact Nat.le_refl _), mks_len, Nat.sub_self]; rfl
theorem mks_take (m : BitVec 8) (out : List (BitVec 8)) (st : List (BitVec 8 × List (BitVec 8))) : (mks ((m, out) :: st)).take st.length = mks st := by
  rw [mks, List.take_append_of_le_length (by rw [mks_len]; exact Nat.le_refl _), ← mks_len, List.take_length]
/-- how much is held in all -/
def szW : TWs → Nat
  | .ok cur st => (flatT cur st).length
  | .bad _ => 0
theorem szW_put (m : BitVec 8) (b : List (BitVec 8)) (s : TWs) : szW (putS m b s) ≤ szW s + b.length + 4 := by
  cases s with
  | bad c => simp [putS, szW]
  | ok cur st =>
    simp only [putS]
    split
    · split
      · have := hdn_hi b.length
        simp only [szW, flatT_app, List.length_append, elm_len]; omega
      · simp [szW]
    · simp [szW]
theorem szW_open (m : BitVec 8) (s : TWs) : szW (openS m s) ≤ szW s + 1 := by
  cases s with
  | bad c => simp [openS, szW]
  | ok cur st =>
    simp only [openS]
    split
    · split
      · simp [szW, flatT_open]
      · simp [szW]
    · simp [szW]
theorem szW_close (s : TWs) : szW (closeS s) ≤ szW s + 3 := by
  cases s with
  | bad c => simp [closeS, szW]
  | ok cur st =>
    cases st with
    | nil => simp [closeS, szW]
    | cons p st =>
      obtain ⟨m, out⟩ := p
      simp only [closeS]
      split
      · have := hdn_hi cur.length
        simp only [szW, flatT_close, List.length_append, hdr_len, flatT_len]; omega
      · simp [szW]
/-- what stands ahead of a byte's end: the first element -/
def lnOf (b : List (BitVec 8)) : Nat :=
  if 3 < b.length ∧ gb b 1 = 130 then (gb b 2).toNat * 256 + (gb b 3).toNat
  else if 2 < b.length ∧ gb b 1 = 129 then (gb b 2).toNat
  else if 1 < b.length then (gb b 1).toNat else 0
/-- an element stands there -/
def El (b : List (BitVec 8)) (m : BitVec 8) (x r : List (BitVec 8)) : Prop := mkB m = true ∧ x.length ≤ 65535 ∧ b = elm m x ++ r
theorem lnOf_el {b x r : List (BitVec 8)} {m : BitVec 8} (h : El b m x r) : lnOf b = x.length := by
  obtain ⟨_, h2, rfl⟩ := h
  unfold elm hdr
  by_cases h3 : x.length < 128
  · rw [if_pos h3]
    have e1 : gb ([m, BitVec.ofNat 8 x.length] ++ x ++ r) 1 = BitVec.ofNat 8 x.length := rfl
    have e2 : BitVec.ofNat 8 x.length ≠ 130 := fun e => by have := congrArg BitVec.toNat e; simp at this; omega
    have e3 : BitVec.ofNat 8 x.length ≠ 129 := fun e => by have := congrArg BitVec.toNat e; simp at this; omega
    unfold lnOf
    rw [e1, if_neg (fun h => e2 h.2), if_neg (fun h => e3 h.2), if_pos (by simp)]
    simp; omega
  · rw [if_neg h3]
    by_cases h4 : x.length < 256
    · rw [if_pos h4]
      have e1 : gb ([m, 129, BitVec.ofNat 8 x.length] ++ x ++ r) 1 = 129 := rfl
      have e2 : gb ([m, 129, BitVec.ofNat 8 x.length] ++ x ++ r) 2 = BitVec.ofNat 8 x.length := rfl
      unfold lnOf
      rw [e1, if_neg (fun h => absurd h.2 (by decide)), if_pos ⟨by simp, rfl⟩, e2]
      simp; omega
    · rw [if_neg h4]
      unfold lnOf
      rw [if_pos ⟨by simp, rfl⟩]
      show (BitVec.ofNat 8 (x.length / 256)).toNat * 256 + (BitVec.ofNat 8 (x.length % 256)).toNat = x.length
      simp; omega
/-- where the length that stands there makes the head that stands there, an element does -/
theorem el_of {b : List (BitVec 8)} (hm : mkB (gb b 0) = true) (hn : lnOf b ≤ 65535) (hp : b.take (hdn (lnOf b)) = hdr (gb b 0) (lnOf b)) (hr : hdn (lnOf b) + lnOf b ≤ b.length) :
    El b (gb b 0) ((b.drop (hdn (lnOf b))).take (lnOf b)) (b.drop (hdn (lnOf b) + lnOf b)) := by
  have e1 : ((b.drop (hdn (lnOf b))).take (lnOf b)).length = lnOf b := by rw [List.length_take, List.length_drop]; omega
  refine ⟨hm, by omega, ?_⟩
  unfold elm
  rw [e1, ← hp, List.append_assoc, ← List.drop_drop, List.take_append_drop, List.take_append_drop]
theorem el_parts {b x r : List (BitVec 8)} {m : BitVec 8} (h : El b m x r) : gb b 0 = m ∧ b.take (hdn x.length) = hdr m x.length ∧ hdn x.length + x.length + r.length = b.length ∧ b.take (hdn x.length + x.length) = elm m x ∧ (b.drop (hdn x.length)).take x.length = x ∧ b.drop (hdn x.length + x.length) = r := by
  obtain ⟨_, h2, rfl⟩ := h
  refine ⟨?_, ?_, ?_, ?_, ?_, ?_⟩
  · unfold elm; rw [List.append_assoc, hdr_gb0]
  · unfold elm; rw [List.append_assoc, List.take_left' (hdr_len _ _)]
  · rw [List.length_append, elm_len]
  · rw [List.take_left' (elm_len _ _)]
  · unfold elm; rw [List.append_assoc, List.drop_left' (hdr_len _ _), List.take_left' rfl]
  · rw [List.drop_left' (elm_len _ _)]
theorem lnOf_hi (b : List (BitVec 8)) : lnOf b ≤ 65535 := by
  have h1 := (gb b 1).isLt
  have h2 := (gb b 2).isLt
  have h3 := (gb b 3).isLt
  unfold lnOf
  split
  · omega
  · split
    · omega
    · split <;> omega
/-- what a writer can hold -/
def VW : TWs → Prop
  | .ok _ st => st.length ≤ 24 ∧ ∀ x ∈ st, isW x.1 = true
  | .bad c => 0 < c ∧ c < 100
theorem VW.put {s : TWs} (h : VW s) (m : BitVec 8) (b : List (BitVec 8)) : VW (putS m b s) := by
  cases s with
  | bad c => exact h
  | ok cur st =>
    simp only [putS]
    split
    · split
      · exact h
      · exact ⟨by decide, by decide⟩
    · exact ⟨by decide, by decide⟩
theorem VW.open_ {s : TWs} (h : VW s) (m : BitVec 8) : VW (openS m s) := by
  cases s with
  | bad c => exact h
  | ok cur st =>
    simp only [openS]
    split
    · next hm =>
      split
      · next hl =>
        refine ⟨by rw [List.length_cons]; omega, fun x hx => ?_⟩
        rcases List.mem_cons.1 hx with rfl | hx
        · exact hm
        · exact h.2 x hx
      · exact ⟨by decide, by decide⟩
    · exact ⟨by decide, by decide⟩
theorem VW.close {s : TWs} (h : VW s) : VW (closeS s) := by
  cases s with
  | bad c => exact h
  | ok cur st =>
    cases st with
    | nil => exact ⟨by decide, by decide⟩
    | cons x st =>
      obtain ⟨m, out⟩ := x
      simp only [closeS]
      split
      · exact ⟨by have := h.1; rw [List.length_cons] at this; omega, fun y hy => h.2 y (List.mem_cons_of_mem _ hy)⟩
      · exact ⟨by decide, by decide⟩
end Go.Proofs.Ytadndhenfoppiaa
