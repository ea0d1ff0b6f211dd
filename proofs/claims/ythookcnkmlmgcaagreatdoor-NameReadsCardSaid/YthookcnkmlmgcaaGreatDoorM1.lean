/-
  Elements of bytes: marks, lengths, what a writer holds; plain.
  Numbers in groups of seven bits, one behind the other; identifiers; plain (for layer 8).
  Names' bytes, plain: what may be, its bytes, and that unlike names have unlike bytes. T: whether bytes are a text of a mark.
  What bytes can be read as attributes, steps, a name: each in one way. Plain.
-/
import Derived.Test.YthookcnkmlmgcaaGreatDoorM0
namespace Go.Proofs.YthookcnkmlmgcaaGreatDoor
open Go
set_option maxRecDepth 4000

/-- is a byte a mark; one of a whole; one of a part -/
def mkB (m : BitVec 8) : Bool := m.toNat % 32 != 31
def whB (m : BitVec 8) : Bool := m.toNat / 32 % 2 == 1
def isW (m : BitVec 8) : Bool := mkB m && whB m
def isP (m : BitVec 8) : Bool := mkB m && !whB m
/-- how long a mark and a length are; they themselves; an element -/
def hdn (n : Nat) : Nat := if n < 128 then 2 else if n < 256 then 3 else 4
def hdr (m : BitVec 8) (n : Nat) : List (BitVec 8) := if n < 128 then [m, BitVec.ofNat 8 n] else if n < 256 then [m, 129, BitVec.ofNat 8 n] else [m, 130, BitVec.ofNat 8 (n / 256), BitVec.ofNat 8 (n % 256)]
def elm (m : BitVec 8) (b : List (BitVec 8)) : List (BitVec 8) := hdr m b.length ++ b
theorem hdr_len (m : BitVec 8) (n : Nat) : (hdr m n).length = hdn n := by unfold hdr hdn; split; rfl; split <;> rfl
theorem hdn_lo (n : Nat) : 2 ≤ hdn n := by unfold hdn; split; omega; split <;> omega
theorem hdn_hi (n : Nat) : hdn n ≤ 4 := by unfold hdn; split; omega; split <;> omega
theorem elm_len (m : BitVec 8) (b : List (BitVec 8)) : (elm m b).length = hdn b.length + b.length := by unfold elm; rw [List.length_append, hdr_len]
theorem hdr_cons (m : BitVec 8) (n : Nat) : ∃ r, hdr m n = m :: r ∧ r.length = hdn n - 1 := by
  unfold hdr hdn; split
  · exact ⟨_, rfl, rfl⟩
  · split
    · exact ⟨_, rfl, rfl⟩
    · exact ⟨_, rfl, rfl⟩
theorem hdr_gb0 (m : BitVec 8) (n : Nat) (r : List (BitVec 8)) : gb (hdr m n ++ r) 0 = m := by
  obtain ⟨t, e, _⟩ := hdr_cons m n
  rw [e]; rfl
/-- what a writer holds: the innermost whole's body, ahead of it the marks and the bodies of those that it is in; or what was amiss -/
inductive TWs where
  | ok (cur : List (BitVec 8)) (st : List (BitVec 8 × List (BitVec 8)))
  | bad (c : Nat)
def putS (m : BitVec 8) (b : List (BitVec 8)) : TWs → TWs
  | .bad c => .bad c
  | .ok cur st => if isP m = true then (if b.length ≤ 65535 then .ok (cur ++ elm m b) st else .bad 4) else .bad 1
def openS (m : BitVec 8) : TWs → TWs
  | .bad c => .bad c
  | .ok cur st => if isW m = true then (if st.length < 24 then .ok [] ((m, cur) :: st) else .bad 5) else .bad 1
def closeS : TWs → TWs
  | .bad c => .bad c
  | .ok _ [] => .bad 17
  | .ok cur ((m, out) :: st) => if cur.length ≤ 65535 then .ok (out ++ elm m cur) st else .bad 4
def doneL : TWs → List (BitVec 8)
  | .ok cur [] => cur
  | _ => []
def doneC : TWs → Nat
  | .bad c => c
  | .ok _ [] => 0
  | .ok _ (_ :: _) => 17
/-- all that is written, the lengths of the open ones aside; where the marks of the open ones stand; their number -/
def flatT (cur : List (BitVec 8)) : List (BitVec 8 × List (BitVec 8)) → List (BitVec 8)
  | [] => cur
  | (m, out) :: st => flatT out st ++ (m :: cur)
def ahead : List (BitVec 8 × List (BitVec 8)) → List (BitVec 8)
  | [] => []
  | (m, out) :: st => ahead st ++ out ++ [m]
theorem flatT_eq (cur : List (BitVec 8)) : ∀ st, flatT cur st = ahead st ++ cur
  | [] => rfl
  | (m, out) :: st => by rw [flatT, flatT_eq out st, ahead]; simp
theorem flatT_app (cur x : List (BitVec 8)) (st : List (BitVec 8 × List (BitVec 8))) : flatT (cur ++ x) st = flatT cur st ++ x := by
  rw [flatT_eq, flatT_eq, List.append_assoc]
theorem flatT_open (m : BitVec 8) (cur : List (BitVec 8)) (st : List (BitVec 8 × List (BitVec 8))) : flatT [] ((m, cur) :: st) = flatT cur st ++ [m] := rfl
def posT : List (BitVec 8 × List (BitVec 8)) → List Nat
  | [] => []
  | (_, out) :: st => posT st ++ [(flatT out st).length]
theorem posT_len : ∀ st, (posT st).length = st.length
  | [] => rfl
  | (m, out) :: st => by rw [posT, List.length_append, posT_len st]; rfl
theorem posT_last (m : BitVec 8) (out : List (BitVec 8)) (st : List (BitVec 8 × List (BitVec 8))) : (posT ((m, out) :: st))[st.length]? = some (flatT out st).length := by
  rw [posT, List.getElem?_append_right (by rw [posT_len]; exact Nat.le_refl _), posT_len, Nat.sub_self]; rfl
theorem posT_take (m : BitVec 8) (out : List (BitVec 8)) (st : List (BitVec 8 × List (BitVec 8))) : (posT ((m, out) :: st)).take st.length = posT st := by
  rw [posT, List.take_append_of_le_length (by rw [posT_len]; exact Nat.le_refl _), ← posT_len, List.take_length]
theorem flatT_at (m : BitVec 8) (cur out : List (BitVec 8)) (st : List (BitVec 8 × List (BitVec 8))) : gb (flatT cur ((m, out) :: st)) (flatT out st).length = m := by
  rw [flatT, gb_app, if_neg (Nat.lt_irrefl _), Nat.sub_self]; rfl
/-- a whole is closed: its mark becomes mark and length -/
theorem flatT_close (m : BitVec 8) (cur out : List (BitVec 8)) (st : List (BitVec 8 × List (BitVec 8))) :
    flatT (out ++ elm m cur) st = flatT out st ++ hdr m cur.length ++ cur := by
  rw [flatT_app, elm, List.append_assoc]
theorem flatT_cut (m : BitVec 8) (cur out : List (BitVec 8)) (st : List (BitVec 8 × List (BitVec 8))) : (flatT cur ((m, out) :: st)).take (flatT out st).length = flatT out st ∧ (flatT cur ((m, out) :: st)).drop ((flatT out st).length + 1) = cur := by
  constructor
  · rw [flatT, List.take_left']
    rfl
  · rw [flatT, List.drop_append, List.drop_of_length_le (by omega)]
    simp
theorem flatT_len (m : BitVec 8) (cur out : List (BitVec 8)) (st : List (BitVec 8 × List (BitVec 8))) : (flatT cur ((m, out) :: st)).length = (flatT out st).length + 1 + cur.length := by
  rw [flatT]; simp; omega
/-- the reference's: marks and bodies from the outermost on -/
def mks : List (BitVec 8 × List (BitVec 8)) → List (BitVec 8)
  | [] => []
  | (m, _) :: st => mks st ++ [m]
def bods (cur : List (BitVec 8)) : List (BitVec 8 × List (BitVec 8)) → List (List (BitVec 8))
  | [] => [cur]
  | (_, out) :: st => bods out st ++ [cur]
theorem mks_len : ∀ st, (mks st).length = st.length
  | [] => rfl
  | (m, out) :: st => by rw [mks, List.length_append, mks_len st]; rfl
theorem bods_len (cur : List (BitVec 8)) : ∀ st, (bods cur st).length = st.length + 1
  | [] => rfl
  | (m, out) :: st => by rw [bods, List.length_append, bods_len out st]; rfl
theorem bods_last (cur : List (BitVec 8)) : ∀ st, (bods cur st)[st.length]? = some cur
  | [] => rfl
  | (m, out) :: st => by rw [bods, List.getElem?_append_right (by rw [bods_len, List.length_cons]; exact Nat.le_refl _), bods_len, List.length_cons, Nat.sub_self]; rfl
theorem bods_set (cur new : List (BitVec 8)) : ∀ st, (bods cur st).set st.length new = bods new st
  | [] => rfl
  | (m, out) :: st => by rw [bods, bods, List.set_append_right _ _ (by rw [bods_len, List.length_cons]; exact Nat.le_refl _), bods_len, List.length_cons, Nat.sub_self]; rfl
theorem bods_take (m : BitVec 8) (cur out : List (BitVec 8)) (st : List (BitVec 8 × List (BitVec 8))) : (bods cur ((m, out) :: st)).take (st.length + 1) = bods out st := by
  rw [bods, List.take_append_of_le_length (by rw [bods_len]; exact Nat.le_refl _), ← bods_len out st, List.take_length]
theorem mks_last (m : BitVec 8) (out : List (BitVec 8)) (st : List (BitVec 8 × List (BitVec 8))) : (mks ((m, out) :: st))[st.length]? = some m := by
  rw [mks, List.getElem?_append_right (by rw [mks_len]; exact Nat.le_refl _), mks_len, Nat.sub_self]; rfl
theorem mks_take (m : BitVec 8) (out : List (BitVec 8)) (st : List (BitVec 8 × List (BitVec 8))) : (mks ((m, out) :: st)).take st.length = mks st := by
  rw [mks, List.take_append_of_le_length (by rw [mks_len]; exact Nat.le_refl _), ← mks_len, List.take_length]
/-- how much is held in all -/
def szW : TWs → Nat
  | .ok cur st => (flatT cur st).length
  | .bad _ => 0
theorem szW_put (m : BitVec 8) (b : List (BitVec 8)) (s : TWs) : szW (putS m b s) ≤ szW s + b.length + 4 := by
  cases s with
  | bad c => simp [putS, szW]
  | ok cur st =>
    simp only [putS]
    split
    · split
      · have := hdn_hi b.length
        simp only [szW, flatT_app, List.length_append, elm_len]; omega
      · simp [szW]
    · simp [szW]
theorem szW_open (m : BitVec 8) (s : TWs) : szW (openS m s) ≤ szW s + 1 := by
  cases s with
  | bad c => simp [openS, szW]
  | ok cur st =>
    simp only [openS]
    split
    · split
      · simp [szW, flatT_open]
      · simp [szW]
    · simp [szW]
theorem szW_close (s : TWs) : szW (closeS s) ≤ szW s + 3 := by
  cases s with
  | bad c => simp [closeS, szW]
  | ok cur st =>
    cases st with
    | nil => simp [closeS, szW]
    | cons p st =>
      obtain ⟨m, out⟩ := p
      simp only [closeS]
      split
      · have := hdn_hi cur.length
        simp only [szW, flatT_close, List.length_append, hdr_len, flatT_len]; omega
      · simp [szW]
/-- what stands ahead of a byte's end: the first element -/
def lnOf (b : List (BitVec 8)) : Nat :=
  if 3 < b.length ∧ gb b 1 = 130 then (gb b 2).toNat * 256 + (gb b 3).toNat
  else if 2 < b.length ∧ gb b 1 = 129 then (gb b 2).toNat
  else if 1 < b.length then (gb b 1).toNat else 0
/-- an element stands there -/
def El (b : List (BitVec 8)) (m : BitVec 8) (x r : List (BitVec 8)) : Prop := mkB m = true ∧ x.length ≤ 65535 ∧ b = elm m x ++ r
theorem lnOf_el {b x r : List (BitVec 8)} {m : BitVec 8} (h : El b m x r) : lnOf b = x.length := by
  obtain ⟨_, h2, rfl⟩ := h
  unfold elm hdr
  by_cases h3 : x.length < 128
  · rw [if_pos h3]
    have e1 : gb ([m, BitVec.ofNat 8 x.length] ++ x ++ r) 1 = BitVec.ofNat 8 x.length := rfl
    have e2 : BitVec.ofNat 8 x.length ≠ 130 := fun e => by have := congrArg BitVec.toNat e; simp at this; omega
    have e3 : BitVec.ofNat 8 x.length ≠ 129 := fun e => by have := congrArg BitVec.toNat e; simp at this; omega
    unfold lnOf
    rw [e1, if_neg (fun h => e2 h.2), if_neg (fun h => e3 h.2), if_pos (by simp)]
    simp; omega
  · rw [if_neg h3]
    by_cases h4 : x.length < 256
    · rw [if_pos h4]
      have e1 : gb ([m, 129, BitVec.ofNat 8 x.length] ++ x ++ r) 1 = 129 := rfl
      have e2 : gb ([m, 129, BitVec.ofNat 8 x.length] ++ x ++ r) 2 = BitVec.ofNat 8 x.length := rfl
      unfold lnOf
      rw [e1, if_neg (fun h => absurd h.2 (by decide)), if_pos ⟨by simp, rfl⟩, e2]
      simp; omega
    · rw [if_neg h4]
      unfold lnOf
      rw [if_pos ⟨by simp, rfl⟩]
      show (BitVec.ofNat 8 (x.length / 256)).toNat * 256 + (BitVec.ofNat 8 (x.length % 256)).toNat = x.length
      simp; omega
/-- where the length that stands there makes the head that stands there, an element does -/
theorem el_of {b : List (BitVec 8)} (hm : mkB (gb b 0) = true) (hn : lnOf b ≤ 65535) (hp : b.take (hdn (lnOf b)) = hdr (gb b 0) (lnOf b)) (hr : hdn (lnOf b) + lnOf b ≤ b.length) :
    El b (gb b 0) ((b.drop (hdn (lnOf b))).take (lnOf b)) (b.drop (hdn (lnOf b) + lnOf b)) := by
  have e1 : ((b.drop (hdn (lnOf b))).take (lnOf b)).length = lnOf b := by rw [List.length_take, List.length_drop]; omega
  refine ⟨hm, by omega, ?_⟩
  unfold elm
  rw [e1, ← hp, List.append_assoc, ← List.drop_drop, List.take_append_drop, List.take_append_drop]
theorem el_parts {b x r : List (BitVec 8)} {m : BitVec 8} (h : El b m x r) : gb b 0 = m ∧ b.take (hdn x.length) = hdr m x.length ∧ hdn x.length + x.length + r.length = b.length ∧ b.take (hdn x.length + x.length) = elm m x ∧ (b.drop (hdn x.length)).take x.length = x ∧ b.drop (hdn x.length + x.length) = r := by
  obtain ⟨_, h2, rfl⟩ := h
  refine ⟨?_, ?_, ?_, ?_, ?_, ?_⟩
  · unfold elm; rw [List.append_assoc, hdr_gb0]
  · unfold elm; rw [List.append_assoc, List.take_left' (hdr_len _ _)]
  · rw [List.length_append, elm_len]
  · rw [List.take_left' (elm_len _ _)]
  · unfold elm; rw [List.append_assoc, List.drop_left' (hdr_len _ _), List.take_left' rfl]
  · rw [List.drop_left' (elm_len _ _)]
theorem lnOf_hi (b : List (BitVec 8)) : lnOf b ≤ 65535 := by
  have h1 := (gb b 1).isLt
  have h2 := (gb b 2).isLt
  have h3 := (gb b 3).isLt
  unfold lnOf
  split
  · omega
  · split
    · omega
    · split <;> omega
/-- what a writer can hold -/
def VW : TWs → Prop
  | .ok _ st => st.length ≤ 24 ∧ ∀ x ∈ st, isW x.1 = true
  | .bad c => 0 < c ∧ c < 100
theorem VW.put {s : TWs} (h : VW s) (m : BitVec 8) (b : List (BitVec 8)) : VW (putS m b s) := by
  cases s with
  | bad c => exact h
  | ok cur st =>
    simp only [putS]
    split
    · split
      · exact h
      · exact ⟨by decide, by decide⟩
    · exact ⟨by decide, by decide⟩
theorem VW.open_ {s : TWs} (h : VW s) (m : BitVec 8) : VW (openS m s) := by
  cases s with
  | bad c => exact h
  | ok cur st =>
    simp only [openS]
    split
    · next hm =>
      split
      · next hl =>
        refine ⟨by rw [List.length_cons]; omega, fun x hx => ?_⟩
        rcases List.mem_cons.1 hx with rfl | hx
        · exact hm
        · exact h.2 x hx
      · exact ⟨by decide, by decide⟩
    · exact ⟨by decide, by decide⟩
theorem VW.close {s : TWs} (h : VW s) : VW (closeS s) := by
  cases s with
  | bad c => exact h
  | ok cur st =>
    cases st with
    | nil => exact ⟨by decide, by decide⟩
    | cons x st =>
      obtain ⟨m, out⟩ := x
      simp only [closeS]
      split
      · exact ⟨by have := h.1; rw [List.length_cons] at this; omega, fun y hy => h.2 y (List.mem_cons_of_mem _ hy)⟩
      · exact ⟨by decide, by decide⟩
end Go.Proofs.YthookcnkmlmgcaaGreatDoor
namespace Go.Proofs.YthookcnkmlmgcaaGreatDoor
open Go
set_option maxRecDepth 4000

/-- the groups ahead of the last one, each in a byte whose highest bit is 1; all of them -/
def g7hi (n : Nat) : List (BitVec 8) := if _h : n = 0 then [] else g7hi (n / 128) ++ [BitVec.ofNat 8 (n % 128 + 128)]
  termination_by n
  decreasing_by omega
def g7 (n : Nat) : List (BitVec 8) := g7hi (n / 128) ++ [BitVec.ofNat 8 (n % 128)]
theorem g7hi_zero : g7hi 0 = [] := by rw [g7hi]; rfl
theorem g7hi_pos (n : Nat) (h : n ≠ 0) : g7hi n = g7hi (n / 128) ++ [BitVec.ofNat 8 (n % 128 + 128)] := by
  conv => lhs; rw [g7hi]
  rw [dif_neg h]
theorem g7_small (n : Nat) (h : n < 128) : g7 n = [BitVec.ofNat 8 n] := by
  unfold g7
  rw [show n / 128 = 0 by omega, g7hi_zero, List.nil_append, show n % 128 = n by omega]
/-- how many bytes: five at most below 2^35 -/
theorem g7hi_len : ∀ (k n : Nat), n < 128 ^ k → (g7hi n).length ≤ k
  | 0, n, h => by rw [show n = 0 by simpa using h, g7hi_zero]; exact Nat.le_refl _
  | k + 1, n, h => by
    by_cases h0 : n = 0
    · rw [h0, g7hi_zero]; exact Nat.zero_le _
    · rw [g7hi_pos n h0, List.length_append, List.length_singleton]
      have := g7hi_len k (n / 128) (by rw [Nat.div_lt_iff_lt_mul (by decide)]; rw [Nat.pow_succ] at h; exact h)
      omega
theorem g7_len (n : Nat) (h : n < 4294967296) : 1 ≤ (g7 n).length ∧ (g7 n).length ≤ 5 := by
  unfold g7
  rw [List.length_append, List.length_singleton]
  have := g7hi_len 4 (n / 128) (by show n / 128 < 268435456; omega)
  omega
/-- the numbers that groups make, from a number on -/
def p7 : Nat → List (BitVec 8) → List Nat
  | _, [] => []
  | n, x :: r => if x.toNat < 128 then (n * 128 + x.toNat % 128) :: p7 0 r else p7 (n * 128 + x.toNat % 128) r
theorem p7_hi : ∀ (n : Nat) (r : List (BitVec 8)), p7 0 (g7hi n ++ r) = p7 n r := by
  intro n
  induction n using Nat.strongRecOn with
  | ind n ih =>
    intro r
    by_cases h0 : n = 0
    · rw [h0, g7hi_zero]; rfl
    · rw [g7hi_pos n h0, List.append_assoc, ih (n / 128) (by omega)]
      show p7 (n / 128) (BitVec.ofNat 8 (n % 128 + 128) :: r) = _
      have e : (BitVec.ofNat 8 (n % 128 + 128)).toNat = n % 128 + 128 := by rw [BitVec.toNat_ofNat]; omega
      rw [p7, e, if_neg (by omega), show n / 128 * 128 + (n % 128 + 128) % 128 = n by omega]
theorem p7_one (n : Nat) (r : List (BitVec 8)) : p7 0 (g7 n ++ r) = n :: p7 0 r := by
  unfold g7
  rw [List.append_assoc, p7_hi]
  show p7 (n / 128) (BitVec.ofNat 8 (n % 128) :: r) = _
  have e : (BitVec.ofNat 8 (n % 128)).toNat = n % 128 := by rw [BitVec.toNat_ofNat]; omega
  rw [p7, e, if_pos (by omega), show n / 128 * 128 + n % 128 % 128 = n by omega]
/-- numbers one behind the other -/
def g7s (l : List Nat) : List (BitVec 8) := l.flatMap g7
theorem p7_all : ∀ l : List Nat, p7 0 (g7s l) = l
  | [] => rfl
  | n :: r => by
    show p7 0 (g7 n ++ g7s r) = _
    rw [p7_one, p7_all r]
theorem g7s_inj {a b : List Nat} (h : g7s a = g7s b) : a = b := by rw [← p7_all a, h, p7_all]
theorem g7s_len : ∀ l : List Nat, (∀ n ∈ l, n < 4294967296) → l.length ≤ (g7s l).length ∧ (g7s l).length ≤ 5 * l.length
  | [], _ => ⟨Nat.le_refl _, Nat.le_refl _⟩
  | n :: r, h => by
    have h1 := g7s_len r fun m hm => h m (List.mem_cons_of_mem _ hm)
    have h2 := g7_len n (h n (by simp))
    show _ ≤ (g7 n ++ g7s r).length ∧ (g7 n ++ g7s r).length ≤ _
    rw [List.length_append, List.length_cons]
    omega
/-- identifiers: 2 to 16 numbers; the first two in one -/
def OidP (l : List Nat) : Prop := ∃ a b r, l = a :: b :: r ∧ l.length ≤ 16 ∧ a ≤ 2 ∧ (a < 2 → b < 40) ∧ b ≤ 4294967215 ∧ ∀ n ∈ r, n < 4294967296
def oidL (l : List Nat) : List Nat := match l with
  | a :: b :: r => (40 * a + b) :: r
  | _ => []
def oidB (l : List Nat) : List (BitVec 8) := g7s (oidL l)
/-- the identifier of numbers -/
def oidU (l : List Nat) : List Nat := match l with
  | [] => []
  | z :: r => (if z / 40 > 2 then 2 else z / 40) :: (z - 40 * (if z / 40 > 2 then 2 else z / 40)) :: r
theorem oidU_L {l : List Nat} (h : OidP l) : oidU (oidL l) = l := by
  obtain ⟨a, b, r, rfl, _, ha, hb, _, _⟩ := h
  show (if (40 * a + b) / 40 > 2 then 2 else (40 * a + b) / 40) :: ((40 * a + b) - 40 * (if (40 * a + b) / 40 > 2 then 2 else (40 * a + b) / 40)) :: r = _
  have e : (if (40 * a + b) / 40 > 2 then 2 else (40 * a + b) / 40) = a := by
    split <;> omega
  rw [e, show 40 * a + b - 40 * a = b by omega]
/-- each identifier has a body of its own, which says it -/
theorem oid_back {l : List Nat} (h : OidP l) : oidU (p7 0 (oidB l)) = l := by
  unfold oidB
  rw [p7_all, oidU_L h]
theorem oid_inj {a b : List Nat} (ha : OidP a) (hb : OidP b) (h : oidB a = oidB b) : a = b := by rw [← oid_back ha, h, oid_back hb]
theorem oidB_len {l : List Nat} (h : OidP l) : (oidB l).length ≤ 75 := by
  obtain ⟨a, b, r, rfl, h1, ha, hb, hc, hr⟩ := h
  have h2 := (g7s_len ((40 * a + b) :: r) fun n hn => by
    rcases List.mem_cons.1 hn with rfl | hn
    · omega
    · exact hr n hn).2
  show (g7s ((40 * a + b) :: r)).length ≤ 75
  rw [List.length_cons] at h1 h2
  rw [List.length_cons] at h1
  omega
end Go.Proofs.YthookcnkmlmgcaaGreatDoor
namespace Go.Proofs.YthookcnkmlmgcaaGreatDoor
open Go
set_option maxRecDepth 4000

/-- what stands ahead decides -/
theorem elm_cut {m m' : BitVec 8} {x y r s : List (BitVec 8)} (h : elm m x ++ r = elm m' y ++ s) (hx : x.length ≤ 65535) (hy : y.length ≤ 65535) (hm : mkB m = true) (hm' : mkB m' = true) : m = m' ∧ x = y ∧ r = s := by
  have e1 : El (elm m x ++ r) m x r := ⟨hm, hx, rfl⟩
  have e2 : El (elm m x ++ r) m' y s := ⟨hm', hy, h⟩
  have hl : x.length = y.length := (lnOf_el e1).symm.trans (lnOf_el e2)
  obtain ⟨a1, _, _, _, a5, a6⟩ := el_parts e1
  obtain ⟨b1, _, _, _, b5, b6⟩ := el_parts e2
  rw [← hl] at b5 b6
  exact ⟨a1.symm.trans b1, a5.symm.trans b5, a6.symm.trans b6⟩
theorem elm_inj {m m' : BitVec 8} {x y : List (BitVec 8)} (h : elm m x = elm m' y) (hx : x.length ≤ 65535) (hy : y.length ≤ 65535) (hm : mkB m = true) (hm' : mkB m' = true) : m = m' ∧ x = y := by
  have := elm_cut (r := []) (s := []) (by rw [h]) hx hy hm hm'
  exact ⟨this.1, this.2.1⟩
/-- an element -/
def IsEl (z : List (BitVec 8)) : Prop := ∃ m x, mkB m = true ∧ x.length ≤ 65535 ∧ z = elm m x
theorem IsEl.ne {z : List (BitVec 8)} (h : IsEl z) : z ≠ [] := by
  obtain ⟨m, x, _, _, rfl⟩ := h
  intro e
  have := congrArg List.length e
  rw [elm_len] at this
  have h2 := hdn_lo x.length
  simp at this
  omega
/-- elements one behind the other are told apart -/
theorem flat_inj : ∀ {a b : List (List (BitVec 8))}, (∀ z ∈ a, IsEl z) → (∀ z ∈ b, IsEl z) → a.flatten = b.flatten → a = b
  | [], [], _, _, _ => rfl
  | [], z :: b, _, hb, h => by
    have := (hb z (by simp)).ne
    simp at h
    exact absurd h.1 this
  | z :: a, [], ha, _, h => by
    have := (ha z (by simp)).ne
    simp at h
    exact absurd h.1 this
  | z :: a, y :: b, ha, hb, h => by
    obtain ⟨m, x, hm, hx, rfl⟩ := ha z (by simp)
    obtain ⟨m', x', hm', hx', rfl⟩ := hb y (by simp)
    rw [List.flatten_cons, List.flatten_cons] at h
    obtain ⟨rfl, rfl, h3⟩ := elm_cut h hx hx' hm hm'
    rw [flat_inj (fun z hz => ha z (by simp [hz])) (fun z hz => hb z (by simp [hz])) h3]
section
variable (T : BitVec 8 → List (BitVec 8) → Bool)
/-- may an attribute be? -/
structure MayA (a : Atr) : Prop where
  oid : OidP a.ty
  mark : a.mark = 12 ∨ a.mark = 19
  lo : 1 ≤ a.tx.length
  hi : a.tx.length ≤ 64
  text : T a.mark a.tx = true
def atrB (a : Atr) : List (BitVec 8) := elm 48 (elm 6 (oidB a.ty) ++ elm a.mark a.tx)
/-- the order of bytes -/
def Lt8 (a b : List (BitVec 8)) : Prop := a.map UInt8.ofBitVec < b.map UInt8.ofBitVec
structure MayS (s : List Atr) : Prop where
  lo : 1 ≤ s.length
  hi : s.length ≤ 4
  all : ∀ a ∈ s, MayA T a
  rise : (s.map atrB).Pairwise Lt8
def stpB (s : List Atr) : List (BitVec 8) := elm 49 (s.map atrB).flatten
structure MayN (n : List (List Atr)) : Prop where
  hi : n.length ≤ 8
  all : ∀ s ∈ n, MayS T s
def namB (n : List (List Atr)) : List (BitVec 8) := elm 48 (n.map stpB).flatten
variable {T}
theorem MayA.mkb {a : Atr} (h : MayA T a) : mkB a.mark = true := by
  rcases h.mark with e | e <;> rw [e] <;> decide
theorem elm_hi (m : BitVec 8) (x : List (BitVec 8)) : (elm m x).length ≤ x.length + 4 := by
  rw [elm_len]
  have := hdn_hi x.length
  omega
theorem MayA.body {a : Atr} (h : MayA T a) : (elm 6 (oidB a.ty) ++ elm a.mark a.tx).length ≤ 147 := by
  have h1 := oidB_len h.oid
  have h2 := elm_hi 6 (oidB a.ty)
  have h3 := elm_hi a.mark a.tx
  have h4 := h.hi
  rw [List.length_append]
  omega
theorem MayA.len {a : Atr} (h : MayA T a) : (atrB a).length ≤ 151 := by
  have h1 := h.body
  have h2 := elm_hi 48 (elm 6 (oidB a.ty) ++ elm a.mark a.tx)
  unfold atrB
  omega
theorem MayA.el {a : Atr} (h : MayA T a) : IsEl (atrB a) := ⟨48, _, by decide, by have := h.body; omega, rfl⟩
theorem atrB_inj {a b : Atr} (ha : MayA T a) (hb : MayA T b) (h : atrB a = atrB b) : a = b := by
  obtain ⟨_, h1⟩ := elm_inj h (by have := ha.body; omega) (by have := hb.body; omega) (by decide) (by decide)
  have h1a := oidB_len ha.oid
  have h1b := oidB_len hb.oid
  have h2 := ha.hi
  have h3 := hb.hi
  obtain ⟨_, e1, e2⟩ := elm_cut h1 (by omega) (by omega) (by decide) (by decide)
  obtain ⟨e3, e4⟩ := elm_inj e2 (by omega) (by omega) ha.mkb hb.mkb
  have e5 := oid_inj ha.oid hb.oid e1
  cases a
  cases b
  simp_all
theorem flat_len {k : Nat} : ∀ {l : List (List (BitVec 8))}, (∀ z ∈ l, z.length ≤ k) → l.flatten.length ≤ l.length * k
  | [], _ => by simp
  | z :: l, h => by
    have h1 := h z (by simp)
    have h2 := flat_len (k := k) (l := l) (fun y hy => h y (by simp [hy]))
    rw [List.flatten_cons, List.length_append, List.length_cons, Nat.succ_mul]
    omega
theorem MayS.body {s : List Atr} (h : MayS T s) : (s.map atrB).flatten.length ≤ 604 := by
  have h1 := flat_len (k := 151) (l := s.map atrB) (fun z hz => by
    obtain ⟨a, ha, rfl⟩ := List.mem_map.1 hz
    exact (h.all a ha).len)
  rw [List.length_map] at h1
  have h2 := h.hi
  have h3 : s.length * 151 ≤ 4 * 151 := Nat.mul_le_mul_right _ h2
  omega
theorem MayS.len {s : List Atr} (h : MayS T s) : (stpB s).length ≤ 608 := by
  have h1 := h.body
  have h2 := elm_hi 49 (s.map atrB).flatten
  unfold stpB
  omega
theorem MayS.el {s : List Atr} (h : MayS T s) : IsEl (stpB s) := ⟨49, _, by decide, by have := h.body; omega, rfl⟩
theorem MayN.body {n : List (List Atr)} (h : MayN T n) : (n.map stpB).flatten.length ≤ 4864 := by
  have h1 := flat_len (k := 608) (l := n.map stpB) (fun z hz => by
    obtain ⟨a, ha, rfl⟩ := List.mem_map.1 hz
    exact (h.all a ha).len)
  rw [List.length_map] at h1
  have h2 := h.hi
  have h3 : n.length * 608 ≤ 8 * 608 := Nat.mul_le_mul_right _ h2
  omega
theorem MayN.len {n : List (List Atr)} (h : MayN T n) : (namB n).length ≤ 4868 := by
  have h1 := h.body
  have h2 := elm_hi 48 (n.map stpB).flatten
  unfold namB
  omega
theorem map_inj_on {α β : Type} {f : α → β} {P : α → Prop} (hf : ∀ a b, P a → P b → f a = f b → a = b) : ∀ {l k : List α}, (∀ a ∈ l, P a) → (∀ a ∈ k, P a) → l.map f = k.map f → l = k
  | [], [], _, _, _ => rfl
  | [], b :: k, _, _, h => by simp at h
  | a :: l, [], _, _, h => by simp at h
  | a :: l, b :: k, hl, hk, h => by
    rw [List.map_cons, List.map_cons] at h
    injection h with h1 h2
    rw [hf a b (hl a (by simp)) (hk b (by simp)) h1, map_inj_on hf (fun x hx => hl x (by simp [hx])) (fun x hx => hk x (by simp [hx])) h2]
theorem stpB_inj {s t : List Atr} (hs : MayS T s) (ht : MayS T t) (h : stpB s = stpB t) : s = t := by
  obtain ⟨_, h1⟩ := elm_inj h (by have := hs.body; omega) (by have := ht.body; omega) (by decide) (by decide)
  have h2 := flat_inj (fun z hz => by obtain ⟨a, ha, rfl⟩ := List.mem_map.1 hz; exact (hs.all a ha).el) (fun z hz => by obtain ⟨a, ha, rfl⟩ := List.mem_map.1 hz; exact (ht.all a ha).el) h1
  exact map_inj_on (P := MayA T) (fun a b ha hb e => atrB_inj ha hb e) hs.all ht.all h2
/-- unlike names have unlike bytes -/
theorem namB_inj {n m : List (List Atr)} (hn : MayN T n) (hm : MayN T m) (h : namB n = namB m) : n = m := by
  obtain ⟨_, h1⟩ := elm_inj h (by have := hn.body; omega) (by have := hm.body; omega) (by decide) (by decide)
  have h2 := flat_inj (fun z hz => by obtain ⟨a, ha, rfl⟩ := List.mem_map.1 hz; exact (hn.all a ha).el) (fun z hz => by obtain ⟨a, ha, rfl⟩ := List.mem_map.1 hz; exact (hm.all a ha).el) h1
  exact map_inj_on (P := MayS T) (fun a b ha hb e => stpB_inj ha hb e) hn.all hm.all h2
/-- with a byte more they are none's -/
theorem namB_more {n m : List (List Atr)} (hn : MayN T n) (hm : MayN T m) (x : BitVec 8) : namB n ++ [x] ≠ namB m := fun h => by
  have h1 : namB n ++ [x] = namB m ++ [] := by rw [h, List.append_nil]
  obtain ⟨_, _, h2⟩ := elm_cut h1 (by have := hn.body; omega) (by have := hm.body; omega) (by decide) (by decide)
  simp at h2
end
end Go.Proofs.YthookcnkmlmgcaaGreatDoor
namespace Go.Proofs.YthookcnkmlmgcaaGreatDoor
open Go
set_option maxRecDepth 4000

theorem el_uniq {b x r x' r' : List (BitVec 8)} {m m' : BitVec 8} (h : El b m x r) (h' : El b m' x' r') : m = m' ∧ x = x' ∧ r = r' :=
  elm_cut (h.2.2.symm.trans h'.2.2) h.2.1 h'.2.1 h.1 h'.1
/-- an attribute that can be read -/
structure AtW (a : Atr) : Prop where
  oid : OidP a.ty
  pm : isP a.mark = true
  tx : a.tx.length ≤ 65535
  ol : (oidB a.ty).length ≤ 65535
  bd : (elm 6 (oidB a.ty) ++ elm a.mark a.tx).length ≤ 65535
structure StW (s : List Atr) : Prop where
  all : ∀ a ∈ s, AtW a
  bd : (s.map atrB).flatten.length ≤ 65535
structure NmW (n : List (List Atr)) : Prop where
  all : ∀ s ∈ n, StW s
  bd : (n.map stpB).flatten.length ≤ 65535
theorem isP_mk {m : BitVec 8} (h : isP m = true) : mkB m = true := by
  unfold isP at h
  rw [Bool.and_eq_true] at h
  exact h.1
section
variable {T : BitVec 8 → List (BitVec 8) → Bool}
theorem MayA.w {a : Atr} (h : MayA T a) : AtW a := by
  have h1 := oidB_len h.oid
  have h2 := h.hi
  have h3 := h.body
  refine ⟨h.oid, ?_, by omega, by omega, by omega⟩
  rcases h.mark with e | e <;> rw [e] <;> decide
theorem MayS.w {s : List Atr} (h : MayS T s) : StW s := ⟨fun a ha => (h.all a ha).w, by have := h.body; omega⟩
theorem MayN.w {n : List (List Atr)} (h : MayN T n) : NmW n := ⟨fun s hs => (h.all s hs).w, by have := h.body; omega⟩
end
/-- bytes that stand ahead are an item's in one way -/
structure Cut1 {α : Type} (W : α → Prop) (f : α → List (BitVec 8)) : Prop where
  cut : ∀ a b r s, W a → W b → f a ++ r = f b ++ s → a = b ∧ r = s
  ne : ∀ a, W a → f a ≠ []
theorem atr_cut : Cut1 AtW atrB where
  cut a b r s ha hb h := by
    obtain ⟨_, h1, h2⟩ := elm_cut h ha.bd hb.bd (by decide) (by decide)
    obtain ⟨_, e1, e2⟩ := elm_cut h1 ha.ol hb.ol (by decide) (by decide)
    obtain ⟨e3, e4⟩ := elm_inj e2 ha.tx hb.tx (isP_mk ha.pm) (isP_mk hb.pm)
    have e5 := oid_inj ha.oid hb.oid e1
    refine ⟨?_, h2⟩
    cases a
    cases b
    simp_all
  ne a ha e := (IsEl.ne ⟨48, _, by decide, ha.bd, rfl⟩ : atrB a ≠ []) e
/-- items one behind the other: one is ahead of the other -/
theorem Cut1.pre {α : Type} {W : α → Prop} {f : α → List (BitVec 8)} (h : Cut1 W f) : ∀ (l k : List α) (x : List (BitVec 8)), (∀ a ∈ l, W a) → (∀ a ∈ k, W a) → (l.map f).flatten ++ x = (k.map f).flatten → ∃ t, k = l ++ t ∧ x = (t.map f).flatten
  | [], k, x, _, _, e => ⟨k, rfl, by simpa using e⟩
  | a :: l, [], x, hl, _, e => by
    rw [List.map_cons, List.flatten_cons] at e
    simp at e
    exact absurd e.1 (h.ne a (hl a (by simp)))
  | a :: l, b :: k, x, hl, hk, e => by
    rw [List.map_cons, List.flatten_cons, List.map_cons, List.flatten_cons, List.append_assoc] at e
    obtain ⟨rfl, e2⟩ := h.cut a b _ _ (hl a (by simp)) (hk b (by simp)) e
    obtain ⟨t, rfl, e3⟩ := h.pre l k x (fun y hy => hl y (by simp [hy])) (fun y hy => hk y (by simp [hy])) e2
    exact ⟨t, rfl, e3⟩
theorem Cut1.inj {α : Type} {W : α → Prop} {f : α → List (BitVec 8)} (h : Cut1 W f) {l k : List α} (hl : ∀ a ∈ l, W a) (hk : ∀ a ∈ k, W a) (e : (l.map f).flatten = (k.map f).flatten) : l = k := by
  obtain ⟨t, rfl, e2⟩ := h.pre l k [] hl hk (by rw [List.append_nil]; exact e)
  cases t with
  | nil => simp
  | cons y t =>
    rw [List.map_cons, List.flatten_cons] at e2
    exact absurd (List.append_eq_nil_iff.1 e2.symm).1 (h.ne y (hk y (by simp)))
theorem stp_cut : Cut1 StW stpB where
  cut a b r s ha hb h := by
    obtain ⟨_, h1, h2⟩ := elm_cut h ha.bd hb.bd (by decide) (by decide)
    exact ⟨atr_cut.inj ha.all hb.all h1, h2⟩
  ne a ha e := (IsEl.ne ⟨49, _, by decide, ha.bd, rfl⟩ : stpB a ≠ []) e
theorem namW_inj {n m : List (List Atr)} (hn : NmW n) (hm : NmW m) (h : namB n = namB m) : n = m := by
  obtain ⟨_, h1⟩ := elm_inj h hn.bd hm.bd (by decide) (by decide)
  exact stp_cut.inj hn.all hm.all h1
end Go.Proofs.YthookcnkmlmgcaaGreatDoor
