/-
  Moments as digits: two digits a number, their marks; plain (for layer 8).
-/
import Derived.Test.YthookcnkmlmgcaaVKa
import Derived.Test.YthookcnkmlmgcaaVBy
namespace Go.Proofs.Ythookcnkmlmgcaa
open Go
set_option maxRecDepth 4000

/-- a number below 100 in two digits; is a byte a digit; the number of two -/
def d2 (n : Nat) : List (BitVec 8) := [BitVec.ofNat 8 (48 + n / 10 % 10), BitVec.ofNat 8 (48 + n % 10)]
def digB (x : BitVec 8) : Bool := decide (48 ≤ x.toNat) && decide (x.toNat ≤ 57)
def r2 (x y : BitVec 8) : Nat := 10 * (x.toNat - 48) + (y.toNat - 48)
theorem d2_len (n : Nat) : (d2 n).length = 2 := rfl
theorem d2_digit (n : Nat) : digB (gb (d2 n) 0) = true ∧ digB (gb (d2 n) 1) = true := by
  have h1 : (BitVec.ofNat 8 (48 + n / 10 % 10)).toNat = 48 + n / 10 % 10 := by rw [BitVec.toNat_ofNat]; omega
  have h2 : (BitVec.ofNat 8 (48 + n % 10)).toNat = 48 + n % 10 := by rw [BitVec.toNat_ofNat]; omega
  constructor
  · show digB (BitVec.ofNat 8 (48 + n / 10 % 10)) = true
    unfold digB
    rw [h1, decide_eq_true (by omega), decide_eq_true (by omega)]
    rfl
  · show digB (BitVec.ofNat 8 (48 + n % 10)) = true
    unfold digB
    rw [h2, decide_eq_true (by omega), decide_eq_true (by omega)]
    rfl
theorem r2_d2 (n : Nat) (h : n < 100) : r2 (gb (d2 n) 0) (gb (d2 n) 1) = n := by
  show 10 * ((BitVec.ofNat 8 (48 + n / 10 % 10)).toNat - 48) + ((BitVec.ofNat 8 (48 + n % 10)).toNat - 48) = n
  rw [BitVec.toNat_ofNat, BitVec.toNat_ofNat]
  omega
theorem d2_r2 (x y : BitVec 8) (hx : digB x = true) (hy : digB y = true) : d2 (r2 x y) = [x, y] ∧ r2 x y < 100 := by
  unfold digB at hx hy
  simp only [Bool.and_eq_true, decide_eq_true_eq] at hx hy
  refine ⟨?_, by unfold r2; omega⟩
  unfold d2 r2
  congr 1
  · apply BitVec.eq_of_toNat_eq
    rw [BitVec.toNat_ofNat]
    omega
  · congr 1
    apply BitVec.eq_of_toNat_eq
    rw [BitVec.toNat_ofNat]
    omega
theorem d2_inj {a b : Nat} (ha : a < 100) (hb : b < 100) (h : d2 a = d2 b) : a = b := by rw [← r2_d2 a ha, h, r2_d2 b hb]
/-- a moment's mark and body -/
def tmM (t : Tmt) : BitVec 8 := if 1950 ≤ t.y ∧ t.y ≤ 2049 then 23 else 24
def tmR (t : Tmt) : List (BitVec 8) := d2 t.mo ++ (d2 t.d ++ (d2 t.h ++ (d2 t.mi ++ (d2 t.s ++ [90]))))
def tmB (t : Tmt) : List (BitVec 8) := if 1950 ≤ t.y ∧ t.y ≤ 2049 then d2 (t.y % 100) ++ tmR t else d2 (t.y / 100) ++ (d2 (t.y % 100) ++ tmR t)
theorem tmR_len (t : Tmt) : (tmR t).length = 11 := rfl
theorem tmB_len (t : Tmt) : (tmB t).length = if 1950 ≤ t.y ∧ t.y ≤ 2049 then 13 else 15 := by unfold tmB; split <;> rfl
theorem d2_cut {a b : Nat} {x y : List (BitVec 8)} (h : d2 a ++ x = d2 b ++ y) : d2 a = d2 b ∧ x = y := List.append_inj h rfl
theorem tmR_inj {t u : Tmt} (ht : MayT t) (hu : MayT u) (h : tmR t = tmR u) : t.mo = u.mo ∧ t.d = u.d ∧ t.h = u.h ∧ t.mi = u.mi ∧ t.s = u.s := by
  have a1 := ht.m2
  have a2 := ht.d2
  have a3 := dim_hi t.y t.mo
  have a4 := ht.h2
  have a5 := ht.i2
  have a6 := ht.s2
  have b1 := hu.m2
  have b2 := hu.d2
  have b3 := dim_hi u.y u.mo
  have b4 := hu.h2
  have b5 := hu.i2
  have b6 := hu.s2
  obtain ⟨h1, h⟩ := d2_cut h
  obtain ⟨h2, h⟩ := d2_cut h
  obtain ⟨h3, h⟩ := d2_cut h
  obtain ⟨h4, h⟩ := d2_cut h
  obtain ⟨h5, _⟩ := d2_cut h
  exact ⟨d2_inj (by omega) (by omega) h1, d2_inj (by omega) (by omega) h2, d2_inj (by omega) (by omega) h3, d2_inj (by omega) (by omega) h4, d2_inj (by omega) (by omega) h5⟩
/-- each moment has a mark and body of its own -/
theorem tmB_inj {t u : Tmt} (ht : MayT t) (hu : MayT u) (hm : tmM t = tmM u) (h : tmB t = tmB u) : t = u := by
  have a1 := ht.y2
  have b1 := hu.y2
  have key : t.y = u.y ∧ tmR t = tmR u := by
    unfold tmM at hm
    unfold tmB at h
    by_cases c : 1950 ≤ t.y ∧ t.y ≤ 2049
    · by_cases c' : 1950 ≤ u.y ∧ u.y ≤ 2049
      · rw [if_pos c, if_pos c'] at h
        obtain ⟨h1, h2⟩ := d2_cut h
        have := d2_inj (by omega) (by omega) h1
        exact ⟨by omega, h2⟩
      · rw [if_pos c, if_neg c'] at hm
        exact absurd hm (by decide)
    · by_cases c' : 1950 ≤ u.y ∧ u.y ≤ 2049
      · rw [if_neg c, if_pos c'] at hm
        exact absurd hm (by decide)
      · rw [if_neg c, if_neg c'] at h
        obtain ⟨h1, h2⟩ := d2_cut h
        obtain ⟨h3, h4⟩ := d2_cut h2
        have e1 := d2_inj (by omega) (by omega) h1
        have e2 := d2_inj (by omega) (by omega) h3
        exact ⟨by omega, h4⟩
  obtain ⟨h1, h2, h3, h4, h5⟩ := tmR_inj ht hu key.2
  obtain ⟨y, mo, d, hh, mi, s⟩ := t
  obtain ⟨y', mo', d', hh', mi', s'⟩ := u
  have h0 := key.1
  simp only at h0 h1 h2 h3 h4 h5
  subst h0 h1 h2 h3 h4 h5
  rfl
end Go.Proofs.Ythookcnkmlmgcaa
