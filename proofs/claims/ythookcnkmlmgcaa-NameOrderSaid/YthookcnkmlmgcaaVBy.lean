/-
  Lists of bytes: elements, pieces; rows that are filled in place, one after another; xor of bytes. No condition.
-/
import Derived.Test.YthookcnkmlmgcaaVPure
namespace Go.Proofs.Ythookcnkmlmgcaa
open Go
set_option maxRecDepth 4000

theorem ofInt8 (x : BitVec 8) : BitVec.ofInt 8 (ub x) = x := by
  unfold ub; rw [BitVec.ofInt_natCast]; simp
theorem wrap8_ub (x : BitVec 8) : IntKind.u8.wrap (x.toNat : Int) = ub x := by
  have := x.isLt
  unfold ub
  rw [IntKind.wrap_u8]; omega
@[go_sem] theorem b_xor8 (x y : BitVec 8) : bits .xor .u8 (ub x) (ub y) = ub (x ^^^ y) := by
  show IntKind.u8.wrap ((BitVec.ofInt 8 (ub x) ^^^ BitVec.ofInt 8 (ub y)).toNat : Int) = _
  rw [ofInt8, ofInt8, wrap8_ub]

theorem gbv (l : List (BitVec 8)) (i : Nat) (h : i < l.length) : gb l i = l[i] := by simp [gb, h]
theorem gb_out (l : List (BitVec 8)) (i : Nat) (h : l.length ≤ i) : gb l i = 0 := by simp [gb, h]
theorem ext_gb (x y : List (BitVec 8)) (h : x.length = y.length) (h2 : ∀ i, i < x.length → gb x i = gb y i) : x = y := by
  apply List.ext_getElem h
  intro i h1 h3
  rw [← gbv x i h1, ← gbv y i h3]
  exact h2 i h1
theorem gb_app (x y : List (BitVec 8)) (i : Nat) : gb (x ++ y) i = if i < x.length then gb x i else gb y (i - x.length) := by
  unfold gb
  rw [List.getD_eq_getElem?_getD, List.getD_eq_getElem?_getD, List.getD_eq_getElem?_getD, List.getElem?_append]
  split <;> rfl
theorem gb_set (l : List (BitVec 8)) (j i : Nat) (x : BitVec 8) (hj : j < l.length) : gb (l.set j x) i = if i = j then x else gb l i := by
  unfold gb
  rw [List.getD_eq_getElem?_getD, List.getD_eq_getElem?_getD, List.getElem?_set]
  by_cases h : i = j
  · subst h; simp [hj]
  · rw [if_neg h, if_neg (fun e => h e.symm)]
theorem gb_map_range (f : Nat → BitVec 8) (n i : Nat) (h : i < n) : gb ((List.range n).map f) i = f i := by
  simp [gb, h]
theorem gb_zb (n i : Nat) : gb (zb n) i = 0 := by
  unfold gb zb
  rw [List.getD_eq_getElem?_getD, List.getElem?_replicate]
  split <;> rfl
theorem gb_drop' (l : List (BitVec 8)) (k j : Nat) : gb (l.drop k) j = gb l (k + j) := by
  simp [gb, List.getElem?_drop]
theorem gb_take' (l : List (BitVec 8)) (k j : Nat) : gb (l.take k) j = if j < k then gb l j else 0 := by
  unfold gb
  rw [List.getD_eq_getElem?_getD, List.getD_eq_getElem?_getD, List.getElem?_take]
  split <;> rfl

/-- a row that is filled in place: the first k elements are f's -/
def li (n : Nat) (f : Nat → BitVec 8) : List (BitVec 8) := (List.range n).map f
theorem li_len (n : Nat) (f : Nat → BitVec 8) : (li n f).length = n := by simp [li]
theorem li_gb (n : Nat) (f : Nat → BitVec 8) (j : Nat) (h : j < n) : gb (li n f) j = f j := gb_map_range f n j h
theorem li_congr {n : Nat} {f g : Nat → BitVec 8} (h : ∀ j, j < n → f j = g j) : li n f = li n g := List.map_congr_left fun j hj => h j (by simpa using hj)
theorem li_succ (n : Nat) (f : Nat → BitVec 8) : li (n + 1) f = li n f ++ [f n] := by unfold li; rw [List.range_succ, List.map_append]; rfl
theorem li_self (l : List (BitVec 8)) (n : Nat) (h : l.length = n) : li n (gb l) = l := by
  apply ext_gb
  · rw [li_len, h]
  · intro i hi
    rw [li_gb _ _ _ (by rwa [li_len] at hi)]
def fl (n : Nat) (f : Nat → BitVec 8) (z : List (BitVec 8)) (k : Nat) : List (BitVec 8) := li n fun j => if j < k then f j else gb z j
theorem fl_len (n : Nat) (f : Nat → BitVec 8) (z : List (BitVec 8)) (k : Nat) : (fl n f z k).length = n := li_len _ _
theorem fl_gb (n : Nat) (f : Nat → BitVec 8) (z : List (BitVec 8)) (k j : Nat) (h : j < n) : gb (fl n f z k) j = if j < k then f j else gb z j := li_gb _ _ _ h
theorem fl_zero (n : Nat) (f : Nat → BitVec 8) (z : List (BitVec 8)) (h : z.length = n) : fl n f z 0 = z := by
  have e : fl n f z 0 = li n (gb z) := li_congr fun j _ => by rw [if_neg (Nat.not_lt_zero j)]
  rw [e, li_self z n h]
theorem fl_end (n : Nat) (f : Nat → BitVec 8) (z : List (BitVec 8)) : fl n f z n = li n f := li_congr fun j hj => by rw [if_pos hj]
theorem fl_succ (n : Nat) (f : Nat → BitVec 8) (z : List (BitVec 8)) (k : Nat) (h : k < n) : (fl n f z k).set k (f k) = fl n f z (k + 1) := by
  apply ext_gb
  · rw [List.length_set, fl_len, fl_len]
  · intro i hi
    rw [List.length_set, fl_len] at hi
    rw [gb_set _ _ _ _ (by rwa [fl_len]), fl_gb _ _ _ _ _ hi, fl_gb _ _ _ _ _ hi]
    by_cases h1 : i = k
    · subst h1; simp
    · rw [if_neg h1]
      by_cases h2 : i < k
      · rw [if_pos h2, if_pos (by omega)]
      · rw [if_neg h2, if_neg (by omega)]
/-- each byte, by its number -/
theorem all8 {p : BitVec 8 → Prop} (h : ∀ n, n < 256 → p (BitVec.ofNat 8 n)) (x : BitVec 8) : p x := by
  have := h x.toNat x.isLt
  rwa [BitVec.ofNat_toNat, BitVec.setWidth_eq] at this
end Go.Proofs.Ythookcnkmlmgcaa
