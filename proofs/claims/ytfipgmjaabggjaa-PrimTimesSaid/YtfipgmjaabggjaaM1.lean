/-
  Lists of bytes: elements, pieces; rows that are filled in place, one after another; xor of bytes. No condition.
  Moments as digits: two digits a number, their marks; plain (for layer 8).
-/
import Derived.Test.YtfipgmjaabggjaaM0
namespace Go.Proofs.Ytfipgmjaabggjaa
open Go
set_option maxRecDepth 4000

theorem ofInt8 (x : BitVec 8) : BitVec.ofInt 8 (ub x) = x := by
  unfold ub; rw [BitVec.ofInt_natCast]; simp
theorem wrap8_ub (x : BitVec 8) : IntKind.u8.wrap (x.toNat : Int) = ub x := by
  have := x.isLt
  unfold ub
  rw [IntKind.wrap_u8]; omega
@[go_sem] theorem b_xor8 (x y : BitVec 8) : bits .xor .u8 (ub x) (ub y) = ub (x ^^^ y) := by
  show IntKind.u8.wrap ((BitVec.ofInt 8 (ub x) ^^^ BitVec.ofInt 8 (ub y)).toNat : Int) = _
  rw [ofInt8, ofInt8, wrap8_ub]

theorem gbv (l : List (BitVec 8)) (i : Nat) (h : i < l.length) : gb l i = l[i] := by simp [gb, h]
theorem gb_out (l : List (BitVec 8)) (i : Nat) (h : l.length ≤ i) : gb l i = 0 := by simp [gb, h]
theorem ext_gb (x y : List (BitVec 8)) (h : x.length = y.length) (h2 : ∀ i, i < x.length → gb x i = gb y i) : x = y := by
  apply List.ext_getElem h
  intro i h1 h3
  rw [← gbv x i h1, ← gbv y i h3]
  exact h2 i h1
theorem gb_app (x y : List (BitVec 8)) (i : Nat) : gb (x ++ y) i = if i < x.length then gb x i else gb y (i - x.length) := by
  unfold gb
  rw [List.getD_eq_getElem?_getD, List.getD_eq_getElem?_getD, List.getD_eq_getElem?_getD, List.getElem?_append]
  split <;> rfl
theorem gb_set (l : List (BitVec 8)) (j i : Nat) (x : BitVec 8) (hj : j < l.length) : gb (l.set j x) i = if i = j then x else gb l i := by
  unfold gb
  rw [List.getD_eq_getElem?_getD, List.getD_eq_getElem?_getD, List.getElem?_set]
  by_cases h : i = j
  · subst h; simp [hj]
  · rw [if_neg h, if_neg (fun e => h e.symm)]
theorem gb_map_range (f : Nat → BitVec 8) (n i : Nat) (h : i < n) : gb ((List.range n).map f) i = f i := by
  simp [gb, h]
theorem gb_zb (n i : Nat) : gb (zb n) i = 0 := by
  unfold gb zb
  rw [List.getD_eq_getElem?_getD, List.getElem?_replicate]
  split <;> rfl
theorem gb_drop' (l : List (BitVec 8)) (k j : Nat) : gb (l.drop k) j = gb l (k + j) := by
  simp [gb, List.getElem?_drop]
theorem gb_take' (l : List (BitVec 8)) (k j : Nat) : gb (l.take k) j = if j < k then gb l j else 0 := by
  unfold gb
  rw [List.getD_eq_getElem?_getD, List.getD_eq_getElem?_getD, List.getElem?_take]
  split <;> rfl

/-- a row that is filled in place: the first k elements are f's -/
def li (n : Nat) (f : Nat → BitVec 8) : List (BitVec 8) := (List.range n).map f
theorem li_len (n : Nat) (f : Nat → BitVec 8) : (li n f).length = n := by simp [li]
theorem li_gb (n : Nat) (f : Nat → BitVec 8) (j : Nat) (h : j < n) : gb (li n f) j = f j := gb_map_range f n j h
theorem li_congr {n : Nat} {f g : Nat → BitVec 8} (h : ∀ j, j < n → f j = g j) : li n f = li n g := List.map_congr_left fun j hj => h j (by simpa using hj)
theorem li_succ (n : Nat) (f : Nat → BitVec 8) : li (n + 1) f = li n f ++ [f n] := by unfold li; rw [List.range_succ, List.map_append]; rfl
theorem li_self (l : List (BitVec 8)) (n : Nat) (h : l.length = n) : li n (gb l) = l := by
  apply ext_gb
  · rw [li_len, h]
  · intro i hi
    rw [li_gb _ _ _ (by rwa [li_len] at hi)]
def fl (n : Nat) (f : Nat → BitVec 8) (z : List (BitVec 8)) (k : Nat) : List (BitVec 8) := li n fun j => if j < k then f j else gb z j
theorem fl_len (n : Nat) (f : Nat → BitVec 8) (z : List (BitVec 8)) (k : Nat) : (fl n f z k).length = n := li_len _ _
theorem fl_gb (n : Nat) (f : Nat → BitVec 8) (z : List (BitVec 8)) (k j : Nat) (h : j < n) : gb (fl n f z k) j = if j < k then f j else gb z j := li_gb _ _ _ h
theorem fl_zero (n : Nat) (f : Nat → BitVec 8) (z : List (BitVec 8)) (h : z.length = n) : fl n f z 0 = z := by
  have e : fl n f z 0 = li n (gb z) := li_congr fun j _ => by rw [if_neg (Nat.not_lt_zero j)]
  rw [e, li_self z n h]
theorem fl_end (n : Nat) (f : Nat → BitVec 8) (z : List (BitVec 8)) : fl n f z n = li n f := li_congr fun j hj => by rw [if_pos hj]
theorem fl_succ (n : Nat) (f : Nat → BitVec 8) (z : List (BitVec 8)) (k : Nat) (h : k < n) : (fl n f z k).set k (f k) = fl n f z (k + 1) := by
  apply ext_gb
  · rw [List.length_set, fl_len, fl_len]
  · intro i hi
    rw [List.length_set, fl_len] at hi
    rw [gb_set _ _ _ _ (by rwa [fl_len]), fl_gb _ _ _ _ _ hi, fl_gb _ _ _ _ _ hi]
    by_cases h1 : i = k
    · subst h1; simp
    · rw [if_neg h1]
      by_cases h2 : i < k
      · rw [if_pos h2, if_pos (by omega)]
      · rw [if_neg h2, if_neg (by omega)]
/-- each byte, by its number -/
theorem all8 {p : BitVec 8 → Prop} (h : ∀ n, n < 256 → p (BitVec.ofNat 8 n)) (x : BitVec 8) : p x := by
  have := h x.toNat x.isLt
  rwa [BitVec.ofNat_toNat, BitVec.setWidth_eq] at this
end Go.Proofs.Ytfipgmjaabggjaa
namespace Go.Proofs.Ytfipgmjaabggjaa
open Go
set_option maxRecDepth 4000

/-- a number below 100 in two digits; is a byte a digit; the number of two -/
def d2 (n : Nat) : List (BitVec 8) := [BitVec.ofNat 8 (48 + n / 10 % 10), BitVec.ofNat 8 (48 + n % 10)]
def digB (x : BitVec 8) : Bool := decide (48 ≤ x.toNat) && decide (x.toNat ≤ 57)
def r2 (x y : BitVec 8) : Nat := 10 * (x.toNat - 48) + (y.toNat - 48)
theorem d2_len (n : Nat) : (d2 n).length = 2 := rfl
theorem d2_digit (n : Nat) : digB (gb (d2 n) 0) = true ∧ digB (gb (d2 n) 1) = true := by
  have h1 : (BitVec.ofNat 8 (48 + n / 10 % 10)).toNat = 48 + n / 10 % 10 := by rw [BitVec.toNat_ofNat]; omega
  have h2 : (BitVec.ofNat 8 (48 + n % 10)).toNat = 48 + n % 10 := by rw [BitVec.toNat_ofNat]; omega
  constructor
  · show digB (BitVec.ofNat 8 (48 + n / 10 % 10)) = true
    unfold digB
    rw [h1, decide_eq_true (by omega), decide_eq_true (by omega)]
    rfl
  · show digB (BitVec.ofNat 8 (48 + n % 10)) = true
    unfold digB
    rw [h2, decide_eq_true (by omega), decide_eq_true (by omega)]
    rfl
theorem r2_d2 (n : Nat) (h : n < 100) : r2 (gb (d2 n) 0) (gb (d2 n) 1) = n := by
  show 10 * ((BitVec.ofNat 8 (48 + n / 10 % 10)).toNat - 48) + ((BitVec.ofNat 8 (48 + n % 10)).toNat - 48) = n
  rw [BitVec.toNat_ofNat, BitVec.toNat_ofNat]
  omega
theorem d2_r2 (x y : BitVec 8) (hx : digB x = true) (hy : digB y = true) : d2 (r2 x y) = [x, y] ∧ r2 x y < 100 := by
  unfold digB at hx hy
  simp only [Bool.and_eq_true, decide_eq_true_eq] at hx hy
  refine ⟨?_, by unfold r2; omega⟩
  unfold d2 r2
  congr 1
  · apply BitVec.eq_of_toNat_eq
    rw [BitVec.toNat_ofNat]
    omega
  · congr 1
    apply BitVec.eq_of_toNat_eq
    rw [BitVec.toNat_ofNat]
    omega
theorem d2_inj {a b : Nat} (ha : a < 100) (hb : b < 100) (h : d2 a = d2 b) : a = b := by rw [← r2_d2 a ha, h, r2_d2 b hb]
/-- a moment's mark and body -/
def tmM (t : Tmt) : BitVec 8 := if 1950 ≤ t.y ∧ t.y ≤ 2049 then 23 else 24
def tmR (t : Tmt) : List (BitVec 8) := d2 t.mo ++ (d2 t.d ++ (d2 t.h ++ (d2 t.mi ++ (d2 t.s ++ [90]))))
def tmB (t : Tmt) : List (BitVec 8) := if 1950 ≤ t.y ∧ t.y ≤ 2049 then d2 (t.y % 100) ++ tmR t else d2 (t.y / 100) ++ (d2 (t.y % 100) ++ tmR t)
theorem tmR_len (t : Tmt) : (tmR t).length = 11 := rfl
theorem tmB_len (t : Tmt) : (tmB t).length = if 1950 ≤ t.y ∧ t.y ≤ 2049 then 13 else 15 := by unfold tmB; split <;> rfl
theorem d2_cut {a b : Nat} {x y : List (BitVec 8)} (h : d2 a ++ x = d2 b ++ y) : d2 a = d2 b ∧ x = y := List.append_inj h rfl
theorem tmR_inj {t u : Tmt} (ht : MayT t) (hu : MayT u) (h : tmR t = tmR u) : t.mo = u.mo ∧ t.d = u.d ∧ t.h = u.h ∧ t.mi = u.mi ∧ t.s = u.s := by
  have a1 := ht.m2
  have a2 := ht.d2
  have a3 := dim_hi t.y t.mo
  have a4 := ht.h2
  have a5 := ht.i2
  have a6 := ht.s2
  have b1 := hu.m2
  have b2 := hu.d2
  have b3 := dim_hi u.y u.mo
  have b4 := hu.h2
  have b5 := hu.i2
  have b6 := hu.s2
  obtain ⟨h1, h⟩ := d2_cut h
  obtain ⟨h2, h⟩ := d2_cut h
  obtain ⟨h3, h⟩ := d2_cut h
  obtain ⟨h4, h⟩ := d2_cut h
  obtain ⟨h5, _⟩ := d2_cut h
  exact ⟨d2_inj (by omega) (by omega) h1, d2_inj (by omega) (by omega) h2, d2_inj (by omega) (by omega) h3, d2_inj (by omega) (by omega) h4, d2_inj (by omega) (by omega) h5⟩
/-- each moment has a mark and body of its own -/
theorem tmB_inj {t u : Tmt} (ht : MayT t) (hu : MayT u) (hm : tmM t = tmM u) (h : tmB t = tmB u) : t = u := by
  have a1 := ht.y2
  have b1 := hu.y2
  have key : t.y = u.y ∧ tmR t = tmR u := by
    unfold tmM at hm
    unfold tmB at h
    by_cases c : 1950 ≤ t.y ∧ t.y ≤ 2049
    · by_cases c' : 1950 ≤ u.y ∧ u.y ≤ 2049
      · rw [if_pos c, if_pos c'] at h
        obtain ⟨h1, h2⟩ := d2_cut h
        have := d2_inj (by omega) (by omega) h1
        exact ⟨by omega, h2⟩
      · rw [if_pos c, if_neg c'] at hm
        exact absurd hm (by decide)
    · by_cases c' : 1950 ≤ u.y ∧ u.y ≤ 2049
      · rw [if_neg c, if_pos c'] at hm
        exact absurd hm (by decide)
      · rw [if_neg c, if_neg c'] at h
        obtain ⟨h1, h2⟩ := d2_cut h
        obtain ⟨h3, h4⟩ := d2_cut h2
        have e1 := d2_inj (by omega) (by omega) h1
        have e2 := d2_inj (by omega) (by omega) h3
        exact ⟨by omega, h4⟩
  obtain ⟨h1, h2, h3, h4, h5⟩ := tmR_inj ht hu key.2
  obtain ⟨y, mo, d, hh, mi, s⟩ := t
  obtain ⟨y', mo', d', hh', mi', s'⟩ := u
  have h0 := key.1
  simp only at h0 h1 h2 h3 h4 h5
  subst h0 h1 h2 h3 h4 h5
  rfl
end Go.Proofs.Ytfipgmjaabggjaa
