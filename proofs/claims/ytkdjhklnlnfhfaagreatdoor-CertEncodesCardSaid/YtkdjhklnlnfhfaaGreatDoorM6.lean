/-
  Moments: days of months and years, the count of seconds; plain (for layer 8).
  Moments as digits: two digits a number, their marks; plain (for layer 8).
  prim: within, daysOf, daysAhead, isTime; the reference's Leap, Days.
  Numbers in twos' complement, in as few bytes as may be; numbers in groups of seven bits; plain (for layer 8).
-/
import Derived.WalkKit
import Derived.Test.YtkdjhklnlnfhfaaGreatDoorM1
import Derived.Test.YtkdjhklnlnfhfaaGreatDoorM5
import Derived.Lib.Hide
namespace Go.Proofs.YtkdjhklnlnfhfaaGreatDoor
open Go
set_option maxRecDepth 4000

/-- has a year 366 days; how many days a month has -/
def leapY (y : Nat) : Bool := y % 400 == 0 || (y % 4 == 0 && y % 100 != 0)
def dimM (y m : Nat) : Nat := if m = 2 then (if leapY y = true then 29 else 28) else if m = 4 ∨ m = 6 ∨ m = 9 ∨ m = 11 then 30 else 31
/-- how many days the first k years have; the first m months of a year -/
def ydN : Nat → Nat
  | 0 => 0
  | k + 1 => ydN k + 365 + (if leapY (k + 1) = true then 1 else 0)
def mdN (y : Nat) : Nat → Nat
  | 0 => 0
  | m + 1 => mdN y m + dimM y (m + 1)
theorem leap_eq (y : Nat) : (leapY y = true) ↔ (y % 400 = 0 ∨ (y % 4 = 0 ∧ y % 100 ≠ 0)) := by
  unfold leapY
  simp
theorem ydN_eq (k : Nat) : ydN k + k / 100 = 365 * k + k / 4 + k / 400 := by
  induction k with
  | zero => rfl
  | succ k ih =>
    rw [ydN]
    by_cases h : leapY (k + 1) = true
    · rw [if_pos h]
      rw [leap_eq] at h
      omega
    · rw [if_neg h]
      rw [leap_eq] at h
      omega
theorem dim_lo (y m : Nat) : 28 ≤ dimM y m := by unfold dimM; split; split <;> omega; split <;> omega
theorem dim_hi (y m : Nat) : dimM y m ≤ 31 := by unfold dimM; split; split <;> omega; split <;> omega
theorem mdN_12 (y : Nat) : mdN y 12 = 365 + (if leapY y = true then 1 else 0) := by
  by_cases h : leapY y = true <;> simp [mdN, dimM, h]
theorem mdN_mono (y : Nat) {a b : Nat} (h : a ≤ b) : mdN y a ≤ mdN y b := by
  induction b with
  | zero => rw [Nat.le_zero.1 h]; exact Nat.le_refl _
  | succ b ih =>
    rcases Nat.lt_or_ge a (b + 1) with h1 | h1
    · rw [mdN]
      have := ih (by omega)
      omega
    · rw [show a = b + 1 by omega]
      exact Nat.le_refl _
theorem ydN_mono {a b : Nat} (h : a ≤ b) : ydN a ≤ ydN b := by
  induction b with
  | zero => rw [Nat.le_zero.1 h]; exact Nat.le_refl _
  | succ b ih =>
    rcases Nat.lt_or_ge a (b + 1) with h1 | h1
    · rw [ydN]
      have := ih (by omega)
      omega
    · rw [show a = b + 1 by omega]
      exact Nat.le_refl _
/-- a moment -/
structure Tmt where
  y : Nat
  mo : Nat
  d : Nat
  h : Nat
  mi : Nat
  s : Nat
/-- may it be? -/
structure MayT (t : Tmt) : Prop where
  y1 : 1 ≤ t.y
  y2 : t.y ≤ 9999
  m1 : 1 ≤ t.mo
  m2 : t.mo ≤ 12
  d1 : 1 ≤ t.d
  d2 : t.d ≤ dimM t.y t.mo
  h2 : t.h ≤ 23
  i2 : t.mi ≤ 59
  s2 : t.s ≤ 59
/-- its day's number from the first one on, and its count -/
def dayT (t : Tmt) : Nat := ydN (t.y - 1) + mdN t.y (t.mo - 1) + (t.d - 1)
def cntT (t : Tmt) : Nat := dayT t * 86400 + t.h * 3600 + t.mi * 60 + t.s
theorem dayT_year {t : Tmt} (h : MayT t) : ydN (t.y - 1) ≤ dayT t ∧ dayT t < ydN t.y := by
  have h1 := h.m1
  have h2 := h.y1
  have h3 := mdN_mono t.y (show t.mo - 1 + 1 ≤ 12 by have := h.m2; omega)
  rw [mdN, show t.mo - 1 + 1 = t.mo by omega, mdN_12] at h3
  have h4 := h.d1
  have h5 := h.d2
  have h6 : ydN t.y = ydN (t.y - 1) + 365 + (if leapY t.y = true then 1 else 0) := by
    conv => lhs; rw [show t.y = t.y - 1 + 1 by omega]
    rw [ydN, show t.y - 1 + 1 = t.y by omega]
  unfold dayT
  omega
theorem dayT_month {t : Tmt} (h : MayT t) : ydN (t.y - 1) + mdN t.y (t.mo - 1) ≤ dayT t ∧ dayT t < ydN (t.y - 1) + mdN t.y t.mo := by
  have h1 := h.m1
  have h4 := h.d1
  have h5 := h.d2
  have h6 : mdN t.y t.mo = mdN t.y (t.mo - 1) + dimM t.y t.mo := by
    conv => lhs; rw [show t.mo = t.mo - 1 + 1 by omega]
    rw [mdN, show t.mo - 1 + 1 = t.mo by omega]
  unfold dayT
  omega
/-- earlier: by years, months, days, hours, minutes, seconds -/
def LtT (t u : Tmt) : Prop := t.y < u.y ∨ (t.y = u.y ∧ (t.mo < u.mo ∨ (t.mo = u.mo ∧ (t.d < u.d ∨ (t.d = u.d ∧ (t.h < u.h ∨ (t.h = u.h ∧ (t.mi < u.mi ∨ (t.mi = u.mi ∧ t.s < u.s)))))))))
theorem day_lt {t u : Tmt} (ht : MayT t) (hu : MayT u) (h : t.y < u.y ∨ (t.y = u.y ∧ (t.mo < u.mo ∨ (t.mo = u.mo ∧ t.d < u.d)))) : dayT t < dayT u := by
  rcases h with h | ⟨e, h | ⟨e2, h⟩⟩
  · have h1 := dayT_year ht
    have h2 := dayT_year hu
    have h3 := ydN_mono (show t.y ≤ u.y - 1 by omega)
    omega
  · have h1 := dayT_month ht
    have h2 := dayT_month hu
    have h3 := mdN_mono t.y (show t.mo ≤ u.mo - 1 by omega)
    rw [← e] at h2
    omega
  · have h1 := ht.d1
    unfold dayT
    rw [e, e2]
    omega
theorem cnt_lt {t u : Tmt} (ht : MayT t) (hu : MayT u) (h : LtT t u) : cntT t < cntT u := by
  have h1 := ht.h2
  have h2 := ht.i2
  have h3 := ht.s2
  unfold cntT
  by_cases hd : t.y < u.y ∨ (t.y = u.y ∧ (t.mo < u.mo ∨ (t.mo = u.mo ∧ t.d < u.d)))
  · have := day_lt ht hu hd
    omega
  · have e : t.y = u.y ∧ t.mo = u.mo ∧ t.d = u.d ∧ (t.h < u.h ∨ (t.h = u.h ∧ (t.mi < u.mi ∨ (t.mi = u.mi ∧ t.s < u.s)))) := by
      unfold LtT at h
      omega
    have e2 : dayT t = dayT u := by unfold dayT; rw [e.1, e.2.1, e.2.2.1]
    have := e.2.2.2
    omega
theorem lt_tri (t u : Tmt) : LtT t u ∨ t = u ∨ LtT u t := by
  obtain ⟨a, b, c, d, e, f⟩ := t
  obtain ⟨a', b', c', d', e', f'⟩ := u
  unfold LtT
  simp only [Tmt.mk.injEq]
  omega
/-- one moment alone has a count; the earlier one has the lesser one -/
theorem cnt_inj {t u : Tmt} (ht : MayT t) (hu : MayT u) (h : cntT t = cntT u) : t = u := by
  rcases lt_tri t u with h1 | h1 | h1
  · have := cnt_lt ht hu h1; omega
  · exact h1
  · have := cnt_lt hu ht h1; omega
theorem cnt_iff {t u : Tmt} (ht : MayT t) (hu : MayT u) : cntT t < cntT u ↔ LtT t u := by
  refine ⟨fun h => ?_, cnt_lt ht hu⟩
  rcases lt_tri t u with h1 | h1 | h1
  · exact h1
  · subst h1; omega
  · have := cnt_lt hu ht h1; omega
theorem cnt_hi {t : Tmt} (h : MayT t) : cntT t < 315537897600 := by
  have h1 := dayT_year h
  have h2 := ydN_mono h.y2
  have h3 : ydN 9999 = 3652059 := by have := ydN_eq 9999; omega
  have := h.h2
  have := h.i2
  have := h.s2
  unfold cntT
  omega
/-- each count below the last has its moment -/
theorem year_of (d : Nat) (h : d < 3652059) : ∃ y, 1 ≤ y ∧ y ≤ 9999 ∧ ydN (y - 1) ≤ d ∧ d < ydN y := by
  have key : ∀ k, d < ydN k → ∃ y, 1 ≤ y ∧ y ≤ k ∧ ydN (y - 1) ≤ d ∧ d < ydN y := by
    intro k
    induction k with
    | zero => intro h; exact absurd h (Nat.not_lt_zero _)
    | succ k ih =>
      intro hk
      rcases Nat.lt_or_ge d (ydN k) with h1 | h1
      · obtain ⟨y, a, b, c⟩ := ih h1
        exact ⟨y, a, by omega, c⟩
      · exact ⟨k + 1, by omega, Nat.le_refl _, h1, hk⟩
  exact key 9999 (by have := ydN_eq 9999; omega)
theorem month_of (y d : Nat) (h : d < mdN y 12) : ∃ m, 1 ≤ m ∧ m ≤ 12 ∧ mdN y (m - 1) ≤ d ∧ d < mdN y m := by
  have key : ∀ k, d < mdN y k → ∃ m, 1 ≤ m ∧ m ≤ k ∧ mdN y (m - 1) ≤ d ∧ d < mdN y m := by
    intro k
    induction k with
    | zero => intro h; exact absurd h (Nat.not_lt_zero _)
    | succ k ih =>
      intro hk
      rcases Nat.lt_or_ge d (mdN y k) with h1 | h1
      · obtain ⟨m, a, b, c⟩ := ih h1
        exact ⟨m, a, by omega, c⟩
      · exact ⟨k + 1, by omega, Nat.le_refl _, h1, hk⟩
  exact key 12 h
theorem moment_of (c : Nat) (h : c < 315537897600) : ∃ t, MayT t ∧ cntT t = c := by
  obtain ⟨y, y1, y2, y3, y4⟩ := year_of (c / 86400) (by omega)
  have hy : ydN y = ydN (y - 1) + mdN y 12 := by
    conv => lhs; rw [show y = y - 1 + 1 by omega]
    rw [ydN, show y - 1 + 1 = y by omega, mdN_12]
    omega
  obtain ⟨m, m1, m2, m3, m4⟩ := month_of y (c / 86400 - ydN (y - 1)) (by omega)
  have hm : mdN y m = mdN y (m - 1) + dimM y m := by
    conv => lhs; rw [show m = m - 1 + 1 by omega]
    rw [mdN, show m - 1 + 1 = m by omega]
  refine ⟨⟨y, m, c / 86400 - ydN (y - 1) - mdN y (m - 1) + 1, c % 86400 / 3600, c % 3600 / 60, c % 60⟩, ⟨y1, y2, m1, m2, by show 1 ≤ _ + 1; omega, by show _ + 1 ≤ dimM y m; omega, by show c % 86400 / 3600 ≤ 23; omega, by show c % 3600 / 60 ≤ 59; omega, by show c % 60 ≤ 59; omega⟩, ?_⟩
  show (ydN (y - 1) + mdN y (m - 1) + (c / 86400 - ydN (y - 1) - mdN y (m - 1) + 1 - 1)) * 86400 + c % 86400 / 3600 * 3600 + c % 3600 / 60 * 60 + c % 60 = c
  have e : ydN (y - 1) + mdN y (m - 1) + (c / 86400 - ydN (y - 1) - mdN y (m - 1) + 1 - 1) = c / 86400 := by omega
  rw [e]
  omega
end Go.Proofs.YtkdjhklnlnfhfaaGreatDoor
namespace Go.Proofs.YtkdjhklnlnfhfaaGreatDoor
open Go
set_option maxRecDepth 4000

/-- a number below 100 in two digits; is a byte a digit; the number of two -/
def d2 (n : Nat) : List (BitVec 8) := [BitVec.ofNat 8 (48 + n / 10 % 10), BitVec.ofNat 8 (48 + n % 10)]
def digB (x : BitVec 8) : Bool := decide (48 ≤ x.toNat) && decide (x.toNat ≤ 57)
def r2 (x y : BitVec 8) : Nat := 10 * (x.toNat - 48) + (y.toNat - 48)
theorem d2_len (n : Nat) : (d2 n).length = 2 := rfl
theorem d2_digit (n : Nat) : digB (gb (d2 n) 0) = true ∧ digB (gb (d2 n) 1) = true := by
  have h1 : (BitVec.ofNat 8 (48 + n / 10 % 10)).toNat = 48 + n / 10 % 10 := by rw [BitVec.toNat_ofNat]; omega
  have h2 : (BitVec.ofNat 8 (48 + n % 10)).toNat = 48 + n % 10 := by rw [BitVec.toNat_ofNat]; omega
  constructor
  · show digB (BitVec.ofNat 8 (48 + n / 10 % 10)) = true
    unfold digB
    rw [h1, decide_eq_true (by omega), decide_eq_true (by omega)]
    rfl
  · show digB (BitVec.ofNat 8 (48 + n % 10)) = true
    unfold digB
    rw [h2, decide_eq_true (by omega), decide_eq_true (by omega)]
    rfl
theorem r2_d2 (n : Nat) (h : n < 100) : r2 (gb (d2 n) 0) (gb (d2 n) 1) = n := by
  show 10 * ((BitVec.ofNat 8 (48 + n / 10 % 10)).toNat - 48) + ((BitVec.ofNat 8 (48 + n % 10)).toNat - 48) = n
  rw [BitVec.toNat_ofNat, BitVec.toNat_ofNat]
  omega
theorem d2_r2 (x y : BitVec 8) (hx : digB x = true) (hy : digB y = true) : d2 (r2 x y) = [x, y] ∧ r2 x y < 100 := by
  unfold digB at hx hy
  simp only [Bool.and_eq_true, decide_eq_true_eq] at hx hy
  refine ⟨?_, by unfold r2; omega⟩
  unfold d2 r2
  congr 1
  · apply BitVec.eq_of_toNat_eq
    rw [BitVec.toNat_ofNat]
    omega
  · congr 1
    apply BitVec.eq_of_toNat_eq
    rw [BitVec.toNat_ofNat]
    omega
theorem d2_inj {a b : Nat} (ha : a < 100) (hb : b < 100) (h : d2 a = d2 b) : a = b := by rw [← r2_d2 a ha, h, r2_d2 b hb]
/-- a moment's mark and body -/
def tmM (t : Tmt) : BitVec 8 := if 1950 ≤ t.y ∧ t.y ≤ 2049 then 23 else 24
def tmR (t : Tmt) : List (BitVec 8) := d2 t.mo ++ (d2 t.d ++ (d2 t.h ++ (d2 t.mi ++ (d2 t.s ++ [90]))))
def tmB (t : Tmt) : List (BitVec 8) := if 1950 ≤ t.y ∧ t.y ≤ 2049 then d2 (t.y % 100) ++ tmR t else d2 (t.y / 100) ++ (d2 (t.y % 100) ++ tmR t)
theorem tmR_len (t : Tmt) : (tmR t).length = 11 := rfl
theorem tmB_len (t : Tmt) : (tmB t).length = if 1950 ≤ t.y ∧ t.y ≤ 2049 then 13 else 15 := by unfold tmB; split <;> rfl
theorem d2_cut {a b : Nat} {x y : List (BitVec 8)} (h : d2 a ++ x = d2 b ++ y) : d2 a = d2 b ∧ x = y := List.append_inj h rfl
theorem tmR_inj {t u : Tmt} (ht : MayT t) (hu : MayT u) (h : tmR t = tmR u) : t.mo = u.mo ∧ t.d = u.d ∧ t.h = u.h ∧ t.mi = u.mi ∧ t.s = u.s := by
  have a1 := ht.m2
  have a2 := ht.d2
  have a3 := dim_hi t.y t.mo
  have a4 := ht.h2
  have a5 := ht.i2
  have a6 := ht.s2
  have b1 := hu.m2
  have b2 := hu.d2
  have b3 := dim_hi u.y u.mo
  have b4 := hu.h2
  have b5 := hu.i2
  have b6 := hu.s2
  obtain ⟨h1, h⟩ := d2_cut h
  obtain ⟨h2, h⟩ := d2_cut h
  obtain ⟨h3, h⟩ := d2_cut h
  obtain ⟨h4, h⟩ := d2_cut h
  obtain ⟨h5, _⟩ := d2_cut h
  exact ⟨d2_inj (by omega) (by omega) h1, d2_inj (by omega) (by omega) h2, d2_inj (by omega) (by omega) h3, d2_inj (by omega) (by omega) h4, d2_inj (by omega) (by omega) h5⟩
/-- each moment has a mark and body of its own -/
theorem tmB_inj {t u : Tmt} (ht : MayT t) (hu : MayT u) (hm : tmM t = tmM u) (h : tmB t = tmB u) : t = u := by
  have a1 := ht.y2
  have b1 := hu.y2
  have key : t.y = u.y ∧ tmR t = tmR u := by
    unfold tmM at hm
    unfold tmB at h
    by_cases c : 1950 ≤ t.y ∧ t.y ≤ 2049
    · by_cases c' : 1950 ≤ u.y ∧ u.y ≤ 2049
      · rw [if_pos c, if_pos c'] at h
        obtain ⟨h1, h2⟩ := d2_cut h
        have := d2_inj (by omega) (by omega) h1
        exact ⟨by omega, h2⟩
      · rw [if_pos c, if_neg c'] at hm
        exact absurd hm (by decide)
    · by_cases c' : 1950 ≤ u.y ∧ u.y ≤ 2049
      · rw [if_neg c, if_pos c'] at hm
        exact absurd hm (by decide)
      · rw [if_neg c, if_neg c'] at h
        obtain ⟨h1, h2⟩ := d2_cut h
        obtain ⟨h3, h4⟩ := d2_cut h2
        have e1 := d2_inj (by omega) (by omega) h1
        have e2 := d2_inj (by omega) (by omega) h3
        exact ⟨by omega, h4⟩
  obtain ⟨h1, h2, h3, h4, h5⟩ := tmR_inj ht hu key.2
  obtain ⟨y, mo, d, hh, mi, s⟩ := t
  obtain ⟨y', mo', d', hh', mi', s'⟩ := u
  have h0 := key.1
  simp only at h0 h1 h2 h3 h4 h5
  subst h0 h1 h2 h3 h4 h5
  rfl
end Go.Proofs.YtkdjhklnlnfhfaaGreatDoor
namespace Go.Proofs.YtkdjhklnlnfhfaaGreatDoor
open Go Go.RowKit
set_option maxRecDepth 4000

theorem within_yes (n a b : Int) (ha : a ≤ n) (hb : n ≤ b) (w : World) : Calls Tryz.prog 224 #[.int .i64 n, .int .i64 a, .int .i64 b] w fun e w' => e = .returned (.bool true) ∧ w' = w := by
  have h1 : decide (a ≤ n) = true := decide_eq_true ha
  have h2 : decide (n ≤ b) = true := decide_eq_true hb
  clear ha hb
  go_enter Tryz.func224, Tryz.ntmps224
  go_wp2
  go_ret
  exact ⟨rfl, rfl⟩
theorem within_no (n a b : Int) (h : ¬ (a ≤ n ∧ n ≤ b)) (w : World) : Calls Tryz.prog 224 #[.int .i64 n, .int .i64 a, .int .i64 b] w fun e w' => e = .returned (.bool false) ∧ w' = w := by
  by_cases ha : a ≤ n
  · have h1 : decide (a ≤ n) = true := decide_eq_true ha
    have h2 : decide (n ≤ b) = false := decide_eq_false fun e => h ⟨ha, e⟩
    clear ha h
    go_enter Tryz.func224, Tryz.ntmps224
    go_wp2
    go_ret
    exact ⟨rfl, rfl⟩
  · have h1 : decide (a ≤ n) = false := decide_eq_false ha
    clear ha h
    go_enter Tryz.func224, Tryz.ntmps224
    go_wp2
    go_ret
    exact ⟨rfl, rfl⟩
theorem tm_nat (y k : Nat) (_ : 0 < k) : (y : Int).tmod (k : Int) = ((y % k : Nat) : Int) := by
  rw [Int.tmod_eq_emod_of_nonneg (by omega)]
  exact (Int.natCast_emod y k).symm
theorem td_nat (y k : Nat) : (y : Int).tdiv (k : Int) = ((y / k : Nat) : Int) := by
  rw [Int.tdiv_eq_ediv_of_nonneg (by omega)]
  exact (Int.natCast_ediv y k).symm
theorem dimM_feb (y : Nat) : dimM y 2 = if leapY y = true then 29 else 28 := rfl
theorem dimM_else (y m : Nat) (h : m ≠ 2) : dimM y m = if m = 4 ∨ m = 6 ∨ m = 9 ∨ m = 11 then 30 else 31 := by unfold dimM; rw [if_neg h]
theorem modz (y k : Nat) (K : Int) (hK : (k : Int) = K) (hk : 0 < k) : ∃ A : Int, (y : Int).tmod K = A ∧ ((y % k = 0 ∧ A = 0) ∨ (y % k ≠ 0 ∧ (A == 0) = false ∧ (A != 0) = true ∧ ¬ A = 0)) := by
  subst hK
  refine ⟨_, tm_nat y k hk, ?_⟩
  by_cases h : y % k = 0
  · exact .inl ⟨h, by omega⟩
  · exact .inr ⟨h, beq_eq_false_iff_ne.2 (by omega), bne_iff_ne.2 (by omega), by omega⟩
theorem zeq (a : Nat) : ((a : Int) == 0) = decide (a = 0) := by rw [Bool.eq_iff_iff]; simp
theorem mod400 {y a c : Nat} (h4 : y % 4 = a) (h400 : y % 400 = c) (hc : c = 0) : a = 0 := by omega
set_option maxHeartbeats 2000000 in
theorem daysOf_any (y m : Nat) (hm : 1 ≤ m ∧ m ≤ 12) (w : World) : Calls Tryz.prog 182 #[.int .i64 (y : Int), .int .i64 (m : Int)] w fun e w' => e = .returned (.int .i64 (dimM y m : Int)) ∧ w' = w := by
  by_cases h2 : m = 2
  · subst h2
    rw [dimM_feb]
    obtain ⟨a, e4, h4⟩ := modz y 4 4 rfl (by decide)
    obtain ⟨b, e100, h100⟩ := modz y 100 100 rfl (by decide)
    obtain ⟨c, e400, h400⟩ := modz y 400 400 rfl (by decide)
    have hl : leapY y = (decide (y % 400 = 0) || (decide (y % 4 = 0) && !decide (y % 100 = 0))) := by
      rw [Bool.eq_iff_iff, leap_eq]; simp
    have hz : y % 400 = 0 → y % 4 = 0 := fun h => by omega
    generalize leapY y = L at *
    rcases h4 with ⟨h4, rfl⟩ | ⟨h4, b1, v1, b2⟩ <;> rcases h100 with ⟨h100, rfl⟩ | ⟨h100, b3, v3, b4⟩ <;> rcases h400 with ⟨h400, rfl⟩ | ⟨h400, b5, v5, b6⟩
    all_goals cases L
    all_goals first
      | (exfalso
         (first | rw [decide_eq_true h4] at hl | rw [decide_eq_false h4] at hl)
         (first | rw [decide_eq_true h100] at hl | rw [decide_eq_false h100] at hl)
         (first | rw [decide_eq_true h400] at hl | rw [decide_eq_false h400] at hl)
         revert hl
         decide)
      | exact absurd (hz h400) h4
      | (clear hl hz h4 h100 h400
         generalize (y : Int) = Y at *
         try rw [if_pos rfl]
         try rw [if_neg Bool.false_ne_true]
         go_enter Tryz.func182, Tryz.ntmps182
         go_wp2
         go_ret
         exact ⟨rfl, rfl⟩)
  · have b1 : ((m : Int) == 2) = false := beq_eq_false_iff_ne.2 (by omega)
    have b2 : ¬ m = 2 := h2
    rw [dimM_else y m h2]
    by_cases h : m = 4 ∨ m = 6 ∨ m = 9 ∨ m = 11
    · rw [if_pos h]
      rcases h with rfl | rfl | rfl | rfl
      all_goals
        go_enter Tryz.func182, Tryz.ntmps182
        go_wp2
        go_ret
        exact ⟨rfl, rfl⟩
    · rw [if_neg h]
      have b3 : ((m : Int) == 4) = false := beq_eq_false_iff_ne.2 (by omega)
      have b4 : ((m : Int) == 6) = false := beq_eq_false_iff_ne.2 (by omega)
      have b5 : ((m : Int) == 9) = false := beq_eq_false_iff_ne.2 (by omega)
      have b6 : ((m : Int) == 11) = false := beq_eq_false_iff_ne.2 (by omega)
      have d3 : ¬ m = 4 := fun e => h (.inl e)
      have d4 : ¬ m = 6 := fun e => h (.inr (.inl e))
      have d5 : ¬ m = 9 := fun e => h (.inr (.inr (.inl e)))
      have d6 : ¬ m = 11 := fun e => h (.inr (.inr (.inr e)))
      clear h hm h2
      go_enter Tryz.func182, Tryz.ntmps182
      go_wp2
      go_ret
      exact ⟨rfl, rfl⟩
set_option maxHeartbeats 2000000 in
theorem Leap_any (y : Nat) (w : World) : Calls Tryz.prog 94 #[.int .i64 (y : Int)] w fun e w' => e = .returned (.bool (leapY y)) ∧ w' = w := by
  obtain ⟨a, e4, h4⟩ := modz y 4 4 rfl (by decide)
  obtain ⟨b, e100, h100⟩ := modz y 100 100 rfl (by decide)
  obtain ⟨c, e400, h400⟩ := modz y 400 400 rfl (by decide)
  have hl : leapY y = (decide (y % 400 = 0) || (decide (y % 4 = 0) && !decide (y % 100 = 0))) := by
    rw [Bool.eq_iff_iff, leap_eq]; simp
  have hz : y % 400 = 0 → y % 4 = 0 := fun h => by omega
  generalize leapY y = L at *
  rcases h4 with ⟨h4, rfl⟩ | ⟨h4, b1, v1, b2⟩ <;> rcases h100 with ⟨h100, rfl⟩ | ⟨h100, b3, v3, b4⟩ <;> rcases h400 with ⟨h400, rfl⟩ | ⟨h400, b5, v5, b6⟩
  all_goals cases L
  all_goals first
    | (exfalso
       (first | rw [decide_eq_true h4] at hl | rw [decide_eq_false h4] at hl)
       (first | rw [decide_eq_true h100] at hl | rw [decide_eq_false h100] at hl)
       (first | rw [decide_eq_true h400] at hl | rw [decide_eq_false h400] at hl)
       revert hl
       decide)
    | exact absurd (hz h400) h4
    | (clear hl hz h4 h100 h400
       generalize (y : Int) = Y at *
       try rw [if_pos rfl]
       try rw [if_neg Bool.false_ne_true]
       go_enter Tryz.func94, Tryz.ntmps94
       go_wp2
       go_ret
       exact ⟨rfl, rfl⟩)
set_option maxHeartbeats 2000000 in
theorem Days_any (y m : Nat) (hm : 1 ≤ m ∧ m ≤ 12) (w : World) : Calls Tryz.prog 93 #[.int .i64 (y : Int), .int .i64 (m : Int)] w fun e w' => e = .returned (.int .i64 (dimM y m : Int)) ∧ w' = w := by
  by_cases h2 : m = 2
  · subst h2
    rw [dimM_feb]
    have hL := fun W => Leap_any y W
    generalize leapY y = L at *
    cases L with
    | true =>
      go_enter Tryz.func93, Tryz.ntmps93
      go_wp2_with (go_at_call 94; refine (hL _).mono ?_; rintro e w1 ⟨rfl, rfl⟩)
      go_ret
      exact ⟨rfl, rfl⟩
    | false =>
      go_enter Tryz.func93, Tryz.ntmps93
      go_wp2_with (go_at_call 94; refine (hL _).mono ?_; rintro e w1 ⟨rfl, rfl⟩)
      go_ret
      exact ⟨rfl, rfl⟩
  · have b1 : ((m : Int) == 2) = false := beq_eq_false_iff_ne.2 (by omega)
    have b2 : ¬ m = 2 := h2
    rw [dimM_else y m h2]
    by_cases h : m = 4 ∨ m = 6 ∨ m = 9 ∨ m = 11
    · rw [if_pos h]
      rcases h with rfl | rfl | rfl | rfl
      all_goals
        go_enter Tryz.func93, Tryz.ntmps93
        go_wp2
        go_ret
        exact ⟨rfl, rfl⟩
    · rw [if_neg h]
      have b3 : ((m : Int) == 4) = false := beq_eq_false_iff_ne.2 (by omega)
      have b4 : ((m : Int) == 6) = false := beq_eq_false_iff_ne.2 (by omega)
      have b5 : ((m : Int) == 9) = false := beq_eq_false_iff_ne.2 (by omega)
      have b6 : ((m : Int) == 11) = false := beq_eq_false_iff_ne.2 (by omega)
      have d3 : ¬ m = 4 := fun e => h (.inl e)
      have d4 : ¬ m = 6 := fun e => h (.inr (.inl e))
      have d5 : ¬ m = 9 := fun e => h (.inr (.inr (.inl e)))
      have d6 : ¬ m = 11 := fun e => h (.inr (.inr (.inr e)))
      clear h hm h2
      go_enter Tryz.func93, Tryz.ntmps93
      go_wp2
      go_ret
      exact ⟨rfl, rfl⟩
set_option maxHeartbeats 2000000 in
theorem daysAhead_any (y : Nat) (hy : y ≤ 20000) (w : World) : Calls Tryz.prog 181 #[.int .i64 ((y + 1 : Nat) : Int)] w fun e w' => e = .returned (.int .i64 (ydN y : Int)) ∧ w' = w := by
  have h := ydN_eq y
  have e0 : IntKind.i64.wrap (((y + 1 : Nat) : Int) - 1) = (y : Int) := by rw [IntKind.wrap_i64]; omega
  have e1 : IntKind.i64.wrap (365 * (y : Int)) = ((365 * y : Nat) : Int) := by rw [IntKind.wrap_i64]; omega
  have e4 : (y : Int).tdiv 4 = _ := td_nat y 4
  have e100 : (y : Int).tdiv 100 = _ := td_nat y 100
  have e400 : (y : Int).tdiv 400 = _ := td_nat y 400
  have f4 : IntKind.i64.wrap ((y / 4 : Nat) : Int) = ((y / 4 : Nat) : Int) := by rw [IntKind.wrap_i64]; omega
  have f100 : IntKind.i64.wrap ((y / 100 : Nat) : Int) = ((y / 100 : Nat) : Int) := by rw [IntKind.wrap_i64]; omega
  have f400 : IntKind.i64.wrap ((y / 400 : Nat) : Int) = ((y / 400 : Nat) : Int) := by rw [IntKind.wrap_i64]; omega
  have e5 : IntKind.i64.wrap (((365 * y : Nat) : Int) + ((y / 4 : Nat) : Int)) = ((365 * y + y / 4 : Nat) : Int) := by rw [IntKind.wrap_i64]; omega
  have e6 : IntKind.i64.wrap (((365 * y + y / 4 : Nat) : Int) - ((y / 100 : Nat) : Int)) = ((365 * y + y / 4 - y / 100 : Nat) : Int) := by rw [IntKind.wrap_i64]; omega
  have e7 : IntKind.i64.wrap (((365 * y + y / 4 - y / 100 : Nat) : Int) + ((y / 400 : Nat) : Int)) = (ydN y : Int) := by rw [IntKind.wrap_i64]; omega
  generalize ydN y = D at *
  generalize 365 * y + y / 4 - y / 100 = x3 at *
  generalize 365 * y + y / 4 = x2 at *
  generalize 365 * y = x1 at *
  generalize y / 4 = q4 at *
  generalize y / 100 = q100 at *
  generalize y / 400 = q400 at *
  obtain ⟨z, hz⟩ : ∃ z, z = y + 1 := ⟨_, rfl⟩
  rw [← hz] at e0 ⊢
  clear hz h hy
  go_enter Tryz.func181, Tryz.ntmps181
  go_wp2
  go_ret
  exact ⟨rfl, rfl⟩
end Go.Proofs.YtkdjhklnlnfhfaaGreatDoor
namespace Go.Proofs.YtkdjhklnlnfhfaaGreatDoor
open Go
set_option maxRecDepth 4000

/-- the number that bytes make, the highest first, from a number on -/
def beF (n : Int) (b : List (BitVec 8)) : Int := b.foldl (fun n x => n * 256 + (x.toNat : Int)) n
def beV (b : List (BitVec 8)) : Nat := b.foldl (fun n x => n * 256 + x.toNat) 0
theorem beV_app (b : List (BitVec 8)) : ∀ n : Nat, b.foldl (fun n x => n * 256 + x.toNat) n = n * 256 ^ b.length + beV b := by
  induction b with
  | nil => intro n; simp [beV]
  | cons x r ih =>
    intro n
    have h0 := ih (0 * 256 + x.toNat)
    have h1 := ih (n * 256 + x.toNat)
    unfold beV at *
    rw [List.foldl_cons, List.foldl_cons, h0, h1, List.length_cons, Nat.pow_succ]
    simp only [Nat.add_mul, Nat.mul_assoc, Nat.mul_comm 256, Nat.zero_mul, Nat.zero_add]
    omega
theorem beV_cons (x : BitVec 8) (r : List (BitVec 8)) : beV (x :: r) = x.toNat * 256 ^ r.length + beV r := by
  have := beV_app r (0 * 256 + x.toNat)
  unfold beV at *
  rw [List.foldl_cons, this]
  simp
theorem beV_lt (b : List (BitVec 8)) : beV b < 256 ^ b.length := by
  induction b with
  | nil => decide
  | cons x r ih =>
    rw [beV_cons, List.length_cons, Nat.pow_succ]
    have hx := x.isLt
    have h1 : x.toNat * 256 ^ r.length ≤ 255 * 256 ^ r.length := Nat.mul_le_mul_right _ (by omega)
    omega
theorem beF_eq (b : List (BitVec 8)) : ∀ n : Int, beF n b = n * ((256 ^ b.length : Nat) : Int) + (beV b : Int) := by
  induction b with
  | nil => intro n; simp [beF, beV]
  | cons x r ih =>
    intro n
    have h1 := ih (n * 256 + (x.toNat : Int))
    unfold beF at *
    rw [List.foldl_cons, h1, beV_cons, List.length_cons, Nat.pow_succ]
    push_cast
    rw [Int.add_mul, Int.mul_assoc, Int.mul_comm (256 : Int)]
    omega
/-- bytes of one length with one number are the same -/
theorem beV_inj : ∀ (a b : List (BitVec 8)), a.length = b.length → beV a = beV b → a = b
  | [], [], _, _ => rfl
  | [], _ :: _, h, _ => by simp at h
  | _ :: _, [], h, _ => by simp at h
  | x :: r, y :: s, h, he => by
    rw [List.length_cons, List.length_cons] at h
    rw [beV_cons, beV_cons, show s.length = r.length by omega] at he
    have h1 := beV_lt r
    have h2 := beV_lt s
    rw [show s.length = r.length by omega] at h2
    have h0 : 0 < 256 ^ r.length := Nat.pow_pos (by decide)
    have hx : x.toNat = y.toNat := by
      have e1 : (x.toNat * 256 ^ r.length + beV r) / 256 ^ r.length = x.toNat := by rw [Nat.mul_comm, Nat.mul_add_div h0, Nat.div_eq_of_lt h1]; rfl
      have e2 : (y.toNat * 256 ^ r.length + beV s) / 256 ^ r.length = y.toNat := by rw [Nat.mul_comm, Nat.mul_add_div h0, Nat.div_eq_of_lt h2]; rfl
      rw [← e1, he, e2]
    rw [hx] at he
    have hr := beV_inj r s (by omega) (by omega)
    rw [hr, BitVec.eq_of_toNat_eq hx]
/-- the number of a body -/
def tcV (b : List (BitVec 8)) : Int := beF (if 128 ≤ (gb b 0).toNat then -1 else 0) b
/-- is it in as few bytes as may be? -/
def tcB (b : List (BitVec 8)) : Bool := match b with
  | [] => false
  | [_] => true
  | x :: y :: _ => !(x == 0 && decide (y.toNat < 128)) && !(x == 255 && decide (128 ≤ y.toNat))
/-- half of what so many bytes can say -/
def tcH (k : Nat) : Nat := 128 * 256 ^ (k - 1)
theorem tcH_two (k : Nat) : 2 * tcH (k + 1) = 256 ^ (k + 1) := by unfold tcH; rw [Nat.add_sub_cancel, Nat.pow_succ]; omega
theorem tcV_range (b : List (BitVec 8)) (h : b ≠ []) : -(tcH b.length : Int) ≤ tcV b ∧ tcV b < (tcH b.length : Int) := by
  cases b with
  | nil => exact absurd rfl h
  | cons x r =>
    have h1 := beV_lt r
    have hx := x.isLt
    have h2 := tcH_two r.length
    unfold tcV
    rw [show gb (x :: r) 0 = x from rfl, beF_eq, beV_cons, List.length_cons]
    have h3 : tcH (r.length + 1) = 128 * 256 ^ r.length := by unfold tcH; rw [Nat.add_sub_cancel]
    have h4 : 256 ^ (r.length + 1) = 256 * 256 ^ r.length := by rw [Nat.pow_succ, Nat.mul_comm]
    rw [h3, h4]
    generalize 256 ^ r.length = P at *
    by_cases hs : 128 ≤ x.toNat
    · rw [if_pos hs]
      have h5 : 128 * P ≤ x.toNat * P := Nat.mul_le_mul_right _ hs
      have h6 : x.toNat * P ≤ 255 * P := Nat.mul_le_mul_right _ (by omega)
      push_cast
      rw [show ((x.toNat : Int) * (P : Int)) = ((x.toNat * P : Nat) : Int) by push_cast; rfl] at *
      generalize x.toNat * P = Q at *
      omega
    · rw [if_neg hs]
      have h6 : x.toNat * P ≤ 127 * P := Nat.mul_le_mul_right _ (by omega)
      push_cast
      rw [show ((x.toNat : Int) * (P : Int)) = ((x.toNat * P : Nat) : Int) by push_cast; rfl] at *
      generalize x.toNat * P = Q at *
      omega
theorem tcH_mono {j k : Nat} (h : j ≤ k) : tcH j ≤ tcH k := Nat.mul_le_mul_left _ (Nat.pow_le_pow_right (by decide) (by omega))
/-- a body as short as may be says what no shorter one can -/
theorem tcV_far (b : List (BitVec 8)) (h : tcB b = true) (h2 : 2 ≤ b.length) : tcV b < -(tcH (b.length - 1) : Int) ∨ (tcH (b.length - 1) : Int) ≤ tcV b := by
  match b, h2 with
  | x :: y :: r, _ =>
    have h1 := beV_lt r
    have hx := x.isLt
    have hy := y.isLt
    have h3 : tcH ((x :: y :: r).length - 1) = 128 * 256 ^ r.length := by unfold tcH; simp
    have e0 : ∀ z : BitVec 8, x = z ↔ x.toNat = z.toNat := fun z => ⟨fun e => by rw [e], BitVec.eq_of_toNat_eq⟩
    unfold tcB at h
    simp only [Bool.and_eq_true, Bool.not_eq_true', Bool.and_eq_false_iff, beq_eq_false_iff_ne, decide_eq_false_iff_not] at h
    obtain ⟨g1, g2⟩ := h
    rw [Ne, e0] at g1 g2
    unfold tcV
    rw [h3, show gb (x :: y :: r) 0 = x from rfl, beF_eq, beV_cons, beV_cons, List.length_cons, List.length_cons, Nat.pow_succ, Nat.pow_succ]
    generalize 256 ^ r.length = P at *
    have k0 : (0 : BitVec 8).toNat = 0 := rfl
    have k1 : (255 : BitVec 8).toNat = 255 := rfl
    rw [k0] at g1
    rw [k1] at g2
    generalize x.toNat = a at *
    generalize y.toNat = c at *
    generalize beV r = v at *
    push_cast
    rw [show ((a : Int) * ((P : Int) * 256)) = ((a * P : Nat) : Int) * 256 by push_cast; rw [Int.mul_assoc], show ((c : Int) * (P : Int)) = ((c * P : Nat) : Int) by push_cast; rfl]
    by_cases hs : 128 ≤ a
    · rw [if_pos hs]
      left
      rcases Nat.lt_or_ge a 255 with ha | ha
      · have q1 : a * P ≤ 254 * P := Nat.mul_le_mul_right _ (by omega)
        have q2 : c * P ≤ 255 * P := Nat.mul_le_mul_right _ (by omega)
        generalize a * P = Q at *
        generalize c * P = R at *
        omega
      · have hc : c ≤ 127 := by omega
        have q1 : a * P ≤ 255 * P := Nat.mul_le_mul_right _ (by omega)
        have q2 : c * P ≤ 127 * P := Nat.mul_le_mul_right _ hc
        generalize a * P = Q at *
        generalize c * P = R at *
        omega
    · rw [if_neg hs]
      right
      rcases Nat.eq_zero_or_pos a with ha | ha
      · have hc : 128 ≤ c := by omega
        have q2 : 128 * P ≤ c * P := Nat.mul_le_mul_right _ hc
        generalize a * P = Q at *
        generalize c * P = R at *
        omega
      · have q1 : 1 * P ≤ a * P := Nat.mul_le_mul_right _ ha
        generalize a * P = Q at *
        generalize c * P = R at *
        omega
/-- each number has one body -/
theorem tcV_inj {a b : List (BitVec 8)} (ha : tcB a = true) (hb : tcB b = true) (h : tcV a = tcV b) : a = b := by
  have na : a ≠ [] := fun e => by rw [e] at ha; cases ha
  have nb : b ≠ [] := fun e => by rw [e] at hb; cases hb
  have ra := tcV_range a na
  have rb := tcV_range b nb
  have la := List.length_pos_iff.2 na
  have lb := List.length_pos_iff.2 nb
  have hl : a.length = b.length := by
    rcases Nat.lt_trichotomy a.length b.length with hl | hl | hl
    · have h1 := tcV_far b hb (by omega)
      have h2 := tcH_mono (show a.length ≤ b.length - 1 by omega)
      omega
    · exact hl
    · have h1 := tcV_far a ha (by omega)
      have h2 := tcH_mono (show b.length ≤ a.length - 1 by omega)
      omega
  refine beV_inj a b hl ?_
  have h1 := beV_lt a
  have h2 := beV_lt b
  have ea := beF_eq a (if 128 ≤ (gb a 0).toNat then -1 else 0)
  have eb := beF_eq b (if 128 ≤ (gb b 0).toNat then -1 else 0)
  unfold tcV at h
  rw [ea, eb, ← hl] at h
  rw [← hl] at h2
  generalize 256 ^ a.length = P at *
  split at h <;> split at h <;> omega
end Go.Proofs.YtkdjhklnlnfhfaaGreatDoor
