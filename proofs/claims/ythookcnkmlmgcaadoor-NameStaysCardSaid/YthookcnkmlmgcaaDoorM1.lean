/-
  Names, plain: attributes, steps and names that are alike; a name within another one.
  Elements of bytes: marks, lengths, what a writer holds; plain.
  Numbers in groups of seven bits, one behind the other; identifiers; plain (for layer 8).
-/
import Derived.Test.YthookcnkmlmgcaaDoorM0
namespace Go.Proofs.YthookcnkmlmgcaaDoor
open Go
set_option maxRecDepth 4000

/-- an attribute: its type, its mark, its text -/
structure Atr where
  ty : List Nat
  mark : BitVec 8
  tx : List (BitVec 8)
/-- are two attributes alike? -/
def alA (a b : Atr) : Bool := decide (a.ty = b.ty) && decide (plainL a.tx = plainL b.tx)
theorem alA_refl (a : Atr) : alA a a = true := by simp [alA]
theorem alA_symm (a b : Atr) : alA a b = alA b a := by
  unfold alA
  rw [Bool.eq_iff_iff]
  simp only [Bool.and_eq_true, decide_eq_true_eq]
  exact ⟨fun h => ⟨h.1.symm, h.2.symm⟩, fun h => ⟨h.1.symm, h.2.symm⟩⟩
theorem alA_trans {a b c : Atr} (h1 : alA a b = true) (h2 : alA b c = true) : alA a c = true := by
  unfold alA at *
  simp only [Bool.and_eq_true, decide_eq_true_eq] at *
  exact ⟨h1.1.trans h2.1, h1.2.trans h2.2⟩
/-- is an attribute alike to one of a step's? -/
def hasA (l : List Atr) (a : Atr) : Bool := l.any fun b => alA b a
def alS (s t : List Atr) : Bool := s.all (hasA t) && t.all (hasA s)
theorem hasA_iff {l : List Atr} {a : Atr} : hasA l a = true ↔ ∃ b ∈ l, alA b a = true := by simp [hasA]
theorem alS_iff {s t : List Atr} : alS s t = true ↔ (∀ a ∈ s, ∃ b ∈ t, alA b a = true) ∧ ∀ b ∈ t, ∃ a ∈ s, alA a b = true := by
  unfold alS
  rw [Bool.and_eq_true, List.all_eq_true, List.all_eq_true]
  simp only [hasA_iff]
theorem alS_refl (s : List Atr) : alS s s = true := alS_iff.2 ⟨fun a h => ⟨a, h, alA_refl a⟩, fun a h => ⟨a, h, alA_refl a⟩⟩
theorem alS_symm (s t : List Atr) : alS s t = alS t s := by unfold alS; rw [Bool.and_comm]
theorem alS_trans {s t u : List Atr} (h1 : alS s t = true) (h2 : alS t u = true) : alS s u = true := by
  obtain ⟨a1, a2⟩ := alS_iff.1 h1
  obtain ⟨b1, b2⟩ := alS_iff.1 h2
  refine alS_iff.2 ⟨fun a ha => ?_, fun c hc => ?_⟩
  · obtain ⟨b, hb, e1⟩ := a1 a ha
    obtain ⟨c, hc, e2⟩ := b1 b hb
    exact ⟨c, hc, alA_trans e2 e1⟩
  · obtain ⟨b, hb, e1⟩ := b2 c hc
    obtain ⟨a, ha, e2⟩ := a2 b hb
    exact ⟨a, ha, alA_trans e2 e1⟩
/-- two names -/
def alN : List (List Atr) → List (List Atr) → Bool
  | [], [] => true
  | s :: a, t :: b => alS s t && alN a b
  | _, _ => false
theorem alN_len : ∀ {a b : List (List Atr)}, alN a b = true → a.length = b.length
  | [], [], _ => rfl
  | s :: a, t :: b, h => by
    unfold alN at h
    rw [Bool.and_eq_true] at h
    simp [alN_len h.2]
  | [], t :: b, h => by cases h
  | s :: a, [], h => by cases h
theorem alN_refl : ∀ a : List (List Atr), alN a a = true
  | [] => rfl
  | s :: a => by unfold alN; rw [alS_refl, alN_refl a]; rfl
theorem alN_symm : ∀ a b : List (List Atr), alN a b = alN b a
  | [], [] => rfl
  | s :: a, t :: b => by unfold alN; rw [alS_symm, alN_symm a b]
  | [], t :: b => rfl
  | s :: a, [] => rfl
theorem alN_trans : ∀ {a b c : List (List Atr)}, alN a b = true → alN b c = true → alN a c = true
  | [], [], c, _, h => h
  | s :: a, t :: b, [], _, h => by cases h
  | s :: a, t :: b, u :: c, h1, h2 => by
    unfold alN at *
    rw [Bool.and_eq_true] at *
    exact ⟨alS_trans h1.1 h2.1, alN_trans h1.2 h2.2⟩
  | [], t :: b, c, h, _ => by cases h
  | s :: a, [], c, h, _ => by cases h
/-- step by step -/
theorem alN_iff {a b : List (List Atr)} : alN a b = true ↔ a.length = b.length ∧ ∀ i, i < a.length → alS (a.getD i []) (b.getD i []) = true := by
  induction a generalizing b with
  | nil =>
    cases b with
    | nil => simp [alN]
    | cons t b => simp [alN]
  | cons s a ih =>
    cases b with
    | nil => simp [alN]
    | cons t b =>
      unfold alN
      rw [Bool.and_eq_true, ih]
      constructor
      · rintro ⟨h1, h2, h3⟩
        refine ⟨by simp [h2], fun i hi => ?_⟩
        cases i with
        | zero => exact h1
        | succ i => exact h3 i (by simpa using hi)
      · rintro ⟨h1, h2⟩
        exact ⟨h2 0 (by simp), by simpa using h1, fun i hi => h2 (i + 1) (by simpa using hi)⟩
/-- a name within another one -/
def wiN (a b : List (List Atr)) : Bool := decide (b.length ≤ a.length) && alN (a.take b.length) b
theorem wiN_refl (a : List (List Atr)) : wiN a a = true := by simp [wiN, alN_refl]
theorem alN_take : ∀ {a b : List (List Atr)} (k : Nat), alN a b = true → alN (a.take k) (b.take k) = true
  | a, b, 0, _ => by simp [alN]
  | [], [], k + 1, _ => by simp [alN]
  | s :: a, t :: b, k + 1, h => by
    unfold alN at h
    rw [Bool.and_eq_true] at h
    rw [List.take_succ_cons, List.take_succ_cons]
    unfold alN
    rw [h.1, alN_take k h.2]
    rfl
  | [], t :: b, k + 1, h => by cases h
  | s :: a, [], k + 1, h => by cases h
theorem wiN_trans {a b c : List (List Atr)} (h1 : wiN a b = true) (h2 : wiN b c = true) : wiN a c = true := by
  unfold wiN at *
  rw [Bool.and_eq_true, decide_eq_true_eq] at *
  refine ⟨by omega, ?_⟩
  have h3 := alN_take c.length h1.2
  rw [List.take_take, Nat.min_eq_left h2.1] at h3
  exact alN_trans h3 h2.2
theorem wiN_both (a b : List (List Atr)) : (wiN a b && wiN b a) = alN a b := by
  rw [Bool.eq_iff_iff]
  constructor
  · intro h
    rw [Bool.and_eq_true] at h
    have h1 := h.1
    have h2 := h.2
    unfold wiN at h1 h2
    rw [Bool.and_eq_true, decide_eq_true_eq] at h1 h2
    have e : b.length = a.length := by omega
    have h3 := h1.2
    rwa [e, List.take_length] at h3
  · intro h
    have e := alN_len h
    rw [Bool.and_eq_true]
    unfold wiN
    rw [Bool.and_eq_true, Bool.and_eq_true, decide_eq_true_eq, decide_eq_true_eq]
    refine ⟨⟨by omega, ?_⟩, by omega, ?_⟩
    · rw [← e, List.take_length]; exact h
    · rw [e, List.take_length, alN_symm]; exact h
end Go.Proofs.YthookcnkmlmgcaaDoor
namespace Go.Proofs.YthookcnkmlmgcaaDoor
open Go
set_option maxRecDepth 4000

/-- is a byte a mark; one of a whole; one of a part -/
def mkB (m : BitVec 8) : Bool := m.toNat % 32 != 31
def whB (m : BitVec 8) : Bool := m.toNat / 32 % 2 == 1
def isW (m : BitVec 8) : Bool := mkB m && whB m
def isP (m : BitVec 8) : Bool := mkB m && !whB m
/-- how long a mark and a length are; they themselves; an element -/
def hdn (n : Nat) : Nat := if n < 128 then 2 else if n < 256 then 3 else 4
def hdr (m : BitVec 8) (n : Nat) : List (BitVec 8) := if n < 128 then [m, BitVec.ofNat 8 n] else if n < 256 then [m, 129, BitVec.ofNat 8 n] else [m, 130, BitVec.ofNat 8 (n / 256), BitVec.ofNat 8 (n % 256)]
def elm (m : BitVec 8) (b : List (BitVec 8)) : List (BitVec 8) := hdr m b.length ++ b
theorem hdr_len (m : BitVec 8) (n : Nat) : (hdr m n).length = hdn n := by unfold hdr hdn; split; rfl; split <;> rfl
theorem hdn_lo (n : Nat) : 2 ≤ hdn n := by unfold hdn; split; omega; split <;> omega
theorem hdn_hi (n : Nat) : hdn n ≤ 4 := by unfold hdn; split; omega; split <;> omega
theorem elm_len (m : BitVec 8) (b : List (BitVec 8)) : (elm m b).length = hdn b.length + b.length := by unfold elm; rw [List.length_append, hdr_len]
theorem hdr_cons (m : BitVec 8) (n : Nat) : ∃ r, hdr m n = m :: r ∧ r.length = hdn n - 1 := by
  unfold hdr hdn; split
  · exact ⟨_, rfl, rfl⟩
  · split
    · exact ⟨_, rfl, rfl⟩
    · exact ⟨_, rfl, rfl⟩
theorem hdr_gb0 (m : BitVec 8) (n : Nat) (r : List (BitVec 8)) : gb (hdr m n ++ r) 0 = m := by
  obtain ⟨t, e, _⟩ := hdr_cons m n
  rw [e]; rfl
/-- what a writer holds: the innermost whole's body, ahead of it the marks and the bodies of those that it is in; or what was amiss -/
inductive TWs where
  | ok (cur : List (BitVec 8)) (st : List (BitVec 8 × List (BitVec 8)))
  | bad (c : Nat)
def putS (m : BitVec 8) (b : List (BitVec 8)) : TWs → TWs
  | .bad c => .bad c
  | .ok cur st => if isP m = true then (if b.length ≤ 65535 then .ok (cur ++ elm m b) st else .bad 4) else .bad 1
def openS (m : BitVec 8) : TWs → TWs
  | .bad c => .bad c
  | .ok cur st => if isW m = true then (if st.length < 24 then .ok [] ((m, cur) :: st) else .bad 5) else .bad 1
def closeS : TWs → TWs
  | .bad c => .bad c
  | .ok _ [] => .bad 17
  | .ok cur ((m, out) :: st) => if cur.length ≤ 65535 then .ok (out ++ elm m cur) st else .bad 4
def doneL : TWs → List (BitVec 8)
  | .ok cur [] => cur
  | _ => []
def doneC : TWs → Nat
  | .bad c => c
  | .ok _ [] => 0
  | .ok _ (_ :: _) => 17
/-- all that is written, the lengths of the open ones aside; where the marks of the open ones stand; their number -/
def flatT (cur : List (BitVec 8)) : List (BitVec 8 × List (BitVec 8)) → List (BitVec 8)
  | [] => cur
  | (m, out) :: st => flatT out st ++ (m :: cur)
def ahead : List (BitVec 8 × List (BitVec 8)) → List (BitVec 8)
  | [] => []
  | (m, out) :: st => ahead st ++ out ++ [m]
theorem flatT_eq (cur : List (BitVec 8)) : ∀ st, flatT cur st = ahead st ++ cur
  | [] => rfl
  | (m, out) :: st => by rw [flatT, flatT_eq out st, ahead]; simp
theorem flatT_app (cur x : List (BitVec 8)) (st : List (BitVec 8 × List (BitVec 8))) : flatT (cur ++ x) st = flatT cur st ++ x := by
  rw [flatT_eq, flatT_eq, List.append_assoc]
theorem flatT_open (m : BitVec 8) (cur : List (BitVec 8)) (st : List (BitVec 8 × List (BitVec 8))) : flatT [] ((m, cur) :: st) = flatT cur st ++ [m] := rfl
def posT : List (BitVec 8 × List (BitVec 8)) → List Nat
  | [] => []
  | (_, out) :: st => posT st ++ [(flatT out st).length]
theorem posT_len : ∀ st, (posT st).length = st.length
  | [] => rfl
  | (m, out) :: st => by rw [posT, List.length_append, posT_len st]; rfl
theorem posT_last (m : BitVec 8) (out : List (BitVec 8)) (st : List (BitVec 8 × List (BitVec 8))) : (posT ((m, out) :: st))[st.length]? = some (flatT out st).length := by
  rw [posT, List.getElem?_append_right (by rw [posT_len]; exact Nat.le_refl _), posT_len, Nat.sub_self]; rfl
theorem posT_take (m : BitVec 8) (out : List (BitVec 8)) (st : List (BitVec 8 × List (BitVec 8))) : (posT ((m, out) :: st)).take st.length = posT st := by
  rw [posT, List.take_append_of_le_length (by rw [posT_len]; exact Nat.le_refl _), ← posT_len, List.take_length]
theorem flatT_at (m : BitVec 8) (cur out : List (BitVec 8)) (st : List (BitVec 8 × List (BitVec 8))) : gb (flatT cur ((m, out) :: st)) (flatT out st).length = m := by
  rw [flatT, gb_app, if_neg (Nat.lt_irrefl _), Nat.sub_self]; rfl
/-- a whole is closed: its mark becomes mark and length -/
theorem flatT_close (m : BitVec 8) (cur out : List (BitVec 8)) (st : List (BitVec 8 × List (BitVec 8))) :
    flatT (out ++ elm m cur) st = flatT out st ++ hdr m cur.length ++ cur := by
  rw [flatT_app, elm, List.append_assoc]
theorem flatT_cut (m : BitVec 8) (cur out : List (BitVec 8)) (st : List (BitVec 8 × List (BitVec 8))) : (flatT cur ((m, out) :: st)).take (flatT out st).length = flatT out st ∧ (flatT cur ((m, out) :: st)).drop ((flatT out st).length + 1) = cur := by
  constructor
  · rw [flatT, List.take_left']
    rfl
  · rw [flatT, List.drop_append, List.drop_of_length_le (by omega)]
    simp
theorem flatT_len (m : BitVec 8) (cur out : List (BitVec 8)) (st : List (BitVec 8 × List (BitVec 8))) : (flatT cur ((m, out) :: st)).length = (flatT out st).length + 1 + cur.length := by
  rw [flatT]; simp; omega
/-- the reference's: marks and bodies from the outermost on -/
def mks : List (BitVec 8 × List (BitVec 8)) → List (BitVec 8)
  | [] => []
  | (m, _) :: st => mks st ++ [m]
def bods (cur : List (BitVec 8)) : List (BitVec 8 × List (BitVec 8)) → List (List (BitVec 8))
  | [] => [cur]
  | (_, out) :: st => bods out st ++ [cur]
theorem mks_len : ∀ st, (mks st).length = st.length
  | [] => rfl
  | (m, out) :: st => by rw [mks, List.length_append, mks_len st]; rfl
theorem bods_len (cur : List (BitVec 8)) : ∀ st, (bods cur st).length = st.length + 1
  | [] => rfl
  | (m, out) :: st => by rw [bods, List.length_append, bods_len out st]; rfl
theorem bods_last (cur : List (BitVec 8)) : ∀ st, (bods cur st)[st.length]? = some cur
  | [] => rfl
  | (m, out) :: st => by rw [bods, List.getElem?_append_right (by rw [bods_len, List.length_cons]; exact Nat.le_refl _), bods_len, List.length_cons, Nat.sub_self]; rfl
theorem bods_set (cur new : List (BitVec 8)) : ∀ st, (bods cur st).set st.length new = bods new st
  | [] => rfl
  | (m, out) :: st => by rw [bods, bods, List.set_append_right _ _ (by rw [bods_len, List.length_cons]; exact Nat.le_refl _), bods_len, List.length_cons, Nat.sub_self]; rfl
theorem bods_take (m : BitVec 8) (cur out : List (BitVec 8)) (st : List (BitVec 8 × List (BitVec 8))) : (bods cur ((m, out) :: st)).take (st.length + 1) = bods out st := by
  rw [bods, List.take_append_of_le_length (by rw [bods_len]; exact Nat.le_refl _), ← bods_len out st, List.take_length]
theorem mks_last (m : BitVec 8) (out : List (BitVec 8)) (st : List (BitVec 8 × List (BitVec 8))) : (mks ((m, out) :: st))[st.length]? = some m := by
  rw [mks, List.getElem?_append_right (by rw [mks_len]; exact Nat.le_refl _), mks_len, Nat.sub_self]; rfl
theorem mks_take (m : BitVec 8) (out : List (BitVec 8)) (st : List (BitVec 8 × List (BitVec 8))) : (mks ((m, out) :: st)).take st.length = mks st := by
  rw [mks, List.take_append_of_le_length (by rw [mks_len]; exact Nat.le_refl _), ← mks_len, List.take_length]
/-- how much is held in all -/
def szW : TWs → Nat
  | .ok cur st => (flatT cur st).length
  | .bad _ => 0
theorem szW_put (m : BitVec 8) (b : List (BitVec 8)) (s : TWs) : szW (putS m b s) ≤ szW s + b.length + 4 := by
  cases s with
  | bad c => simp [putS, szW]
  | ok cur st =>
    simp only [putS]
    split
    · split
      · have := hdn_hi b.length
        simp only [szW, flatT_app, List.length_append, elm_len]; omega
      · simp [szW]
    · simp [szW]
theorem szW_open (m : BitVec 8) (s : TWs) : szW (openS m s) ≤ szW s + 1 := by
  cases s with
  | bad c => simp [openS, szW]
  | ok cur st =>
    simp only [openS]
    split
    · split
      · simp [szW, flatT_open]
      · simp [szW]
    · simp [szW]
theorem szW_close (s : TWs) : szW (closeS s) ≤ szW s + 3 := by
  cases s with
  | bad c => simp [closeS, szW]
  | ok cur st =>
    cases st with
    | nil => simp [closeS, szW]
    | cons p st =>
      obtain ⟨m, out⟩ := p
      simp only [closeS]
      split
      · have := hdn_hi cur.length
        simp only [szW, flatT_close, List.length_append, hdr_len, flatT_len]; omega
      · simp [szW]
/-- what stands ahead of a byte's end: the first element -/
def lnOf (b : List (BitVec 8)) : Nat :=
  if 3 < b.length ∧ gb b 1 = 130 then (gb b 2).toNat * 256 + (gb b 3).toNat
  else if 2 < b.length ∧ gb b 1 = 129 then (gb b 2).toNat
  else if 1 < b.length then (gb b 1).toNat else 0
/-- an element stands there -/
def El (b : List (BitVec 8)) (m : BitVec 8) (x r : List (BitVec 8)) : Prop := mkB m = true ∧ x.length ≤ 65535 ∧ b = elm m x ++ r
theorem lnOf_el {b x r : List (BitVec 8)} {m : BitVec 8} (h : El b m x r) : lnOf b = x.length := by
  obtain ⟨_, h2, rfl⟩ := h
  unfold elm hdr
  by_cases h3 : x.length < 128
  · rw [if_pos h3]
    have e1 : gb ([m, BitVec.ofNat 8 x.length] ++ x ++ r) 1 = BitVec.ofNat 8 x.length := rfl
    have e2 : BitVec.ofNat 8 x.length ≠ 130 := fun e => by have := congrArg BitVec.toNat e; simp at this; omega
    have e3 : BitVec.ofNat 8 x.length ≠ 129 := fun e => by have := congrArg BitVec.toNat e; simp at this; omega
    unfold lnOf
    rw [e1, if_neg (fun h => e2 h.2), if_neg (fun h => e3 h.2), if_pos (by simp)]
    simp; omega
  · rw [if_neg h3]
    by_cases h4 : x.length < 256
    · rw [if_pos h4]
      have e1 : gb ([m, 129, BitVec.ofNat 8 x.length] ++ x ++ r) 1 = 129 := rfl
      have e2 : gb ([m, 129, BitVec.ofNat 8 x.length] ++ x ++ r) 2 = BitVec.ofNat 8 x.length := rfl
      unfold lnOf
      rw [e1, if_neg (fun h => absurd h.2 (by decide)), if_pos ⟨by simp, rfl⟩, e2]
      simp; omega
    · rw [if_neg h4]
      unfold lnOf
      rw [if_pos ⟨by simp, rfl⟩]
      show (BitVec.ofNat 8 (x.length / 256)).toNat * 256 + (BitVec.ofNat 8 (x.length % 256)).toNat = x.length
      simp; omega
/-- where the length that stands there makes the head that stands there, an element does -/
theorem el_of {b : List (BitVec 8)} (hm : mkB (gb b 0) = true) (hn : lnOf b ≤ 65535) (hp : b.take (hdn (lnOf b)) = hdr (gb b 0) (lnOf b)) (hr : hdn (lnOf b) + lnOf b ≤ b.length) :
    El b (gb b 0) ((b.drop (hdn (lnOf b))).take (lnOf b)) (b.drop (hdn (lnOf b) + lnOf b)) := by
  have e1 : ((b.drop (hdn (lnOf b))).take (lnOf b)).length = lnOf b := by rw [List.length_take, List.length_drop]; omega
  refine ⟨hm, by omega, ?_⟩
  unfold elm
  rw [e1, ← hp, List.append_assoc, ← List.drop_drop, List.take_append_drop, List.take_append_drop]
theorem el_parts {b x r : List (BitVec 8)} {m : BitVec 8} (h : El b m x r) : gb b 0 = m ∧ b.take (hdn x.length) = hdr m x.length ∧ hdn x.length + x.length + r.length = b.length ∧ b.take (hdn x.length + x.length) = elm m x ∧ (b.drop (hdn x.length)).take x.length = x ∧ b.drop (hdn x.length + x.length) = r := by
  obtain ⟨_, h2, rfl⟩ := h
  refine ⟨?_, ?_, ?_, ?_, ?_, ?_⟩
  · unfold elm; rw [List.append_assoc, hdr_gb0]
  · unfold elm; rw [List.append_assoc, List.take_left' (hdr_len _ _)]
  · rw [List.length_append, elm_len]
  · rw [List.take_left' (elm_len _ _)]
  · unfold elm; rw [List.append_assoc, List.drop_left' (hdr_len _ _), List.take_left' rfl]
  · rw [List.drop_left' (elm_len _ _)]
theorem lnOf_hi (b : List (BitVec 8)) : lnOf b ≤ 65535 := by
  have h1 := (gb b 1).isLt
  have h2 := (gb b 2).isLt
  have h3 := (gb b 3).isLt
  unfold lnOf
  split
  · omega
  · split
    · omega
    · split <;> omega
/-- what a writer can hold -/
def VW : TWs → Prop
  | .ok _ st => st.length ≤ 24 ∧ ∀ x ∈ st, isW x.1 = true
  | .bad c => 0 < c ∧ c < 100
theorem VW.put {s : TWs} (h : VW s) (m : BitVec 8) (b : List (BitVec 8)) : VW (putS m b s) := by
  cases s with
  | bad c => exact h
  | ok cur st =>
    simp only [putS]
    split
    · split
      · exact h
      · exact ⟨by decide, by decide⟩
    · exact ⟨by decide, by decide⟩
theorem VW.open_ {s : TWs} (h : VW s) (m : BitVec 8) : VW (openS m s) := by
  cases s with
  | bad c => exact h
  | ok cur st =>
    simp only [openS]
    split
    · next hm =>
      split
      · next hl =>
        refine ⟨by rw [List.length_cons]; omega, fun x hx => ?_⟩
        rcases List.mem_cons.1 hx with rfl | hx
        · exact hm
        · exact h.2 x hx
      · exact ⟨by decide, by decide⟩
    · exact ⟨by decide, by decide⟩
theorem VW.close {s : TWs} (h : VW s) : VW (closeS s) := by
  cases s with
  | bad c => exact h
  | ok cur st =>
    cases st with
    | nil => exact ⟨by decide, by decide⟩
    | cons x st =>
      obtain ⟨m, out⟩ := x
      simp only [closeS]
      split
      · exact ⟨by have := h.1; rw [List.length_cons] at this; omega, fun y hy => h.2 y (List.mem_cons_of_mem _ hy)⟩
      · exact ⟨by decide, by decide⟩
end Go.Proofs.YthookcnkmlmgcaaDoor
namespace Go.Proofs.YthookcnkmlmgcaaDoor
open Go
set_option maxRecDepth 4000

/-- the groups ahead of the last one, each in a byte whose highest bit is 1; all of them -/
def g7hi (n : Nat) : List (BitVec 8) := if _h : n = 0 then [] else g7hi (n / 128) ++ [BitVec.ofNat 8 (n % 128 + 128)]
  termination_by n
  decreasing_by omega
def g7 (n : Nat) : List (BitVec 8) := g7hi (n / 128) ++ [BitVec.ofNat 8 (n % 128)]
theorem g7hi_zero : g7hi 0 = [] := by rw [g7hi]; rfl
theorem g7hi_pos (n : Nat) (h : n ≠ 0) : g7hi n = g7hi (n / 128) ++ [BitVec.ofNat 8 (n % 128 + 128)] := by
  conv => lhs; rw [g7hi]
  rw [dif_neg h]
theorem g7_small (n : Nat) (h : n < 128) : g7 n = [BitVec.ofNat 8 n] := by
  unfold g7
  rw [show n / 128 = 0 by omega, g7hi_zero, List.nil_append, show n % 128 = n by omega]
/-- how many bytes: five at most below 2^35 -/
theorem g7hi_len : ∀ (k n : Nat), n < 128 ^ k → (g7hi n).length ≤ k
  | 0, n, h => by rw [show n = 0 by simpa using h, g7hi_zero]; exact Nat.le_refl _
  | k + 1, n, h => by
    by_cases h0 : n = 0
    · rw [h0, g7hi_zero]; exact Nat.zero_le _
    · rw [g7hi_pos n h0, List.length_append, List.length_singleton]
      have := g7hi_len k (n / 128) (by rw [Nat.div_lt_iff_lt_mul (by decide)]; rw [Nat.pow_succ] at h; exact h)
      omega
theorem g7_len (n : Nat) (h : n < 4294967296) : 1 ≤ (g7 n).length ∧ (g7 n).length ≤ 5 := by
  unfold g7
  rw [List.length_append, List.length_singleton]
  have := g7hi_len 4 (n / 128) (by show n / 128 < 268435456; omega)
  omega
/-- the numbers that groups make, from a number on -/
def p7 : Nat → List (BitVec 8) → List Nat
  | _, [] => []
  | n, x :: r => if x.toNat < 128 then (n * 128 + x.toNat % 128) :: p7 0 r else p7 (n * 128 + x.toNat % 128) r
theorem p7_hi : ∀ (n : Nat) (r : List (BitVec 8)), p7 0 (g7hi n ++ r) = p7 n r := by
  intro n
  induction n using Nat.strongRecOn with
  | ind n ih =>
    intro r
    by_cases h0 : n = 0
    · rw [h0, g7hi_zero]; rfl
    · rw [g7hi_pos n h0, List.append_assoc, ih (n / 128) (by omega)]
      show p7 (n / 128) (BitVec.ofNat 8 (n % 128 + 128) :: r) = _
      have e : (BitVec.ofNat 8 (n % 128 + 128)).toNat = n % 128 + 128 := by rw [BitVec.toNat_ofNat]; omega
      rw [p7, e, if_neg (by omega), show n / 128 * 128 + (n % 128 + 128) % 128 = n by omega]
theorem p7_one (n : Nat) (r : List (BitVec 8)) : p7 0 (g7 n ++ r) = n :: p7 0 r := by
  unfold g7
  rw [List.append_assoc, p7_hi]
  show p7 (n / 128) (BitVec.ofNat 8 (n % 128) :: r) = _
  have e : (BitVec.ofNat 8 (n % 128)).toNat = n % 128 := by rw [BitVec.toNat_ofNat]; omega
  rw [p7, e, if_pos (by omega), show n / 128 * 128 + n % 128 % 128 = n by omega]
/-- numbers one behind the other -/
def g7s (l : List Nat) : List (BitVec 8) := l.flatMap g7
theorem p7_all : ∀ l : List Nat, p7 0 (g7s l) = l
  | [] => rfl
  | n :: r => by
    show p7 0 (g7 n ++ g7s r) = _
    rw [p7_one, p7_all r]
theorem g7s_inj {a b : List Nat} (h : g7s a = g7s b) : a = b := by rw [← p7_all a, h, p7_all]
theorem g7s_len : ∀ l : List Nat, (∀ n ∈ l, n < 4294967296) → l.length ≤ (g7s l).length ∧ (g7s l).length ≤ 5 * l.length
  | [], _ => ⟨Nat.le_refl _, Nat.le_refl _⟩
  | n :: r, h => by
    have h1 := g7s_len r fun m hm => h m (List.mem_cons_of_mem _ hm)
    have h2 := g7_len n (h n (by simp))
    show _ ≤ (g7 n ++ g7s r).length ∧ (g7 n ++ g7s r).length ≤ _
    rw [List.length_append, List.length_cons]
    omega
/-- identifiers: 2 to 16 numbers; the first two in one -/
def OidP (l : List Nat) : Prop := ∃ a b r, l = a :: b :: r ∧ l.length ≤ 16 ∧ a ≤ 2 ∧ (a < 2 → b < 40) ∧ b ≤ 4294967215 ∧ ∀ n ∈ r, n < 4294967296
def oidL (l : List Nat) : List Nat := match l with
  | a :: b :: r => (40 * a + b) :: r
  | _ => []
def oidB (l : List Nat) : List (BitVec 8) := g7s (oidL l)
/-- the identifier of numbers -/
def oidU (l : List Nat) : List Nat := match l with
  | [] => []
  | z :: r => (if z / 40 > 2 then 2 else z / 40) :: (z - 40 * (if z / 40 > 2 then 2 else z / 40)) :: r
theorem oidU_L {l : List Nat} (h : OidP l) : oidU (oidL l) = l := by
  obtain ⟨a, b, r, rfl, _, ha, hb, _, _⟩ := h
  show (if (40 * a + b) / 40 > 2 then 2 else (40 * a + b) / 40) :: ((40 * a + b) - 40 * (if (40 * a + b) / 40 > 2 then 2 else (40 * a + b) / 40)) :: r = _
  have e : (if (40 * a + b) / 40 > 2 then 2 else (40 * a + b) / 40) = a := by
    split <;> omega
  rw [e, show 40 * a + b - 40 * a = b by omega]
/-- each identifier has a body of its own, which says it -/
theorem oid_back {l : List Nat} (h : OidP l) : oidU (p7 0 (oidB l)) = l := by
  unfold oidB
  rw [p7_all, oidU_L h]
theorem oid_inj {a b : List Nat} (ha : OidP a) (hb : OidP b) (h : oidB a = oidB b) : a = b := by rw [← oid_back ha, h, oid_back hb]
theorem oidB_len {l : List Nat} (h : OidP l) : (oidB l).length ≤ 75 := by
  obtain ⟨a, b, r, rfl, h1, ha, hb, hc, hr⟩ := h
  have h2 := (g7s_len ((40 * a + b) :: r) fun n hn => by
    rcases List.mem_cons.1 hn with rfl | hn
    · omega
    · exact hr n hn).2
  show (g7s ((40 * a + b) :: r)).length ≤ 75
  rw [List.length_cons] at h1 h2
  rw [List.length_cons] at h1
  omega
end Go.Proofs.YthookcnkmlmgcaaDoor
