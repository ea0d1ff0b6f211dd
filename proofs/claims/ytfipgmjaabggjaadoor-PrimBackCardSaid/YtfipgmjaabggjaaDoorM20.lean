/-
  Moments: days of months and years, the count of seconds; plain (for layer 8).
  Moments as digits: two digits a number, their marks; plain (for layer 8).
  prim: within, daysOf, daysAhead, isTime; the reference's Leap, Days.
  prim: isTime; the reference's May.
-/
import Derived.WalkKit
import Derived.Test.YtfipgmjaabggjaaDoorM3
import Derived.Test.YtfipgmjaabggjaaDoorM4
import Derived.Lib.Hide
namespace Go.Proofs.YtfipgmjaabggjaaDoor
open Go
set_option maxRecDepth 4000

/-- has a year 366 days; how many days a month has -/
def leapY (y : Nat) : Bool := y % 400 == 0 || (y % 4 == 0 && y % 100 != 0)
def dimM (y m : Nat) : Nat := if m = 2 then (if leapY y = true then 29 else 28) else if m = 4 ∨ m = 6 ∨ m = 9 ∨ m = 11 then 30 else 31
/-- how many days the first k years have; the first m months of a year -/
def ydN : Nat → Nat
  | 0 => 0
  | k + 1 => ydN k + 365 + (if leapY (k + 1) = true then 1 else 0)
def mdN (y : Nat) : Nat → Nat
  | 0 => 0
  | m + 1 => mdN y m + dimM y (m + 1)
theorem leap_eq (y : Nat) : (leapY y = true) ↔ (y % 400 = 0 ∨ (y % 4 = 0 ∧ y % 100 ≠ 0)) := by
  unfold leapY
  simp
theorem ydN_eq (k : Nat) : ydN k + k / 100 = 365 * k + k / 4 + k / 400 := by
  induction k with
  | zero => rfl
  | succ k ih =>
    rw [ydN]
    by_cases h : leapY (k + 1) = true
    · rw [if_pos h]
      rw [leap_eq] at h
      omega
    · rw [if_neg h]
      rw [leap_eq] at h
      omega
theorem dim_lo (y m : Nat) : 28 ≤ dimM y m := by unfold dimM; split; split <;> omega; split <;> omega
theorem dim_hi (y m : Nat) : dimM y m ≤ 31 := by unfold dimM; split; split <;> omega; split <;> omega
theorem mdN_12 (y : Nat) : mdN y 12 = 365 + (if leapY y = true then 1 else 0) := by
  by_cases h : leapY y = true <;> simp [mdN, dimM, h]
theorem mdN_mono (y : Nat) {a b : Nat} (h : a ≤ b) : mdN y a ≤ mdN y b := by
  induction b with
  | zero => rw [Nat.le_zero.1 h]; exact Nat.le_refl _
  | succ b ih =>
    rcases Nat.lt_or_ge a (b + 1) with h1 | h1
    · rw [mdN]
      have := ih (by omega)
      omega
    · rw [show a = b + 1 by omega]
      exact Nat.le_refl _
theorem ydN_mono {a b : Nat} (h : a ≤ b) : ydN a ≤ ydN b := by
  induction b with
  | zero => rw [Nat.le_zero.1 h]; exact Nat.le_refl _
  | succ b ih =>
    rcases Nat.lt_or_ge a (b + 1) with h1 | h1
    · rw [ydN]
      have := ih (by omega)
      omega
    · rw [show a = b + 1 by omega]
      exact Nat.le_refl _
/-- a moment -/
structure Tmt where
  y : Nat
  mo : Nat
  d : Nat
  h : Nat
  mi : Nat
  s : Nat
/-- may it be? -/
structure MayT (t : Tmt) : Prop where
  y1 : 1 ≤ t.y
  y2 : t.y ≤ 9999
  m1 : 1 ≤ t.mo
  m2 : t.mo ≤ 12
  d1 : 1 ≤ t.d
  d2 : t.d ≤ dimM t.y t.mo
  h2 : t.h ≤ 23
  i2 : t.mi ≤ 59
  s2 : t.s ≤ 59
/-- its day's number from the first one on, and its count -/
def dayT (t : Tmt) : Nat := ydN (t.y - 1) + mdN t.y (t.mo - 1) + (t.d - 1)
def cntT (t : Tmt) : Nat := dayT t * 86400 + t.h * 3600 + t.mi * 60 + t.s
theorem dayT_year {t : Tmt} (h : MayT t) : ydN (t.y - 1) ≤ dayT t ∧ dayT t < ydN t.y := by
  have h1 := h.m1
  have h2 := h.y1
  have h3 := mdN_mono t.y (show t.mo - 1 + 1 ≤ 12 by have := h.m2; omega)
  rw [mdN, show t.mo - 1 + 1 = t.mo by omega, mdN_12] at h3
  have h4 := h.d1
  have h5 := h.d2
  have h6 : ydN t.y = ydN (t.y - 1) + 365 + (if leapY t.y = true then 1 else 0) := by
    conv => lhs; rw [show t.y = t.y - 1 + 1 by omega]
    rw [ydN, show t.y - 1 + 1 = t.y by omega]
  unfold dayT
  omega
theorem dayT_month {t : Tmt} (h : MayT t) : ydN (t.y - 1) + mdN t.y (t.mo - 1) ≤ dayT t ∧ dayT t < ydN (t.y - 1) + mdN t.y t.mo := by
  have h1 := h.m1
  have h4 := h.d1
  have h5 := h.d2
  have h6 : mdN t.y t.mo = mdN t.y (t.mo - 1) + dimM t.y t.mo := by
    conv => lhs; rw [show t.mo = t.mo - 1 + 1 by omega]
    rw [mdN, show t.mo - 1 + 1 = t.mo by omega]
  unfold dayT
  omega
/-- earlier: by years, months, days, hours, minutes, seconds -/
def LtT (t u : Tmt) : Prop := t.y < u.y ∨ (t.y = u.y ∧ (t.mo < u.mo ∨ (t.mo = u.mo ∧ (t.d < u.d ∨ (t.d = u.d ∧ (t.h < u.h ∨ (t.h = u.h ∧ (t.mi < u.mi ∨ (t.mi = u.mi ∧ t.s < u.s)))))))))
theorem day_lt {t u : Tmt} (ht : MayT t) (hu : MayT u) (h : t.y < u.y ∨ (t.y = u.y ∧ (t.mo < u.mo ∨ (t.mo = u.mo ∧ t.d < u.d)))) : dayT t < dayT u := by
  rcases h with h | ⟨e, h | ⟨e2, h⟩⟩
  · have h1 := dayT_year ht
    have h2 := dayT_year hu
    have h3 := ydN_mono (show t.y ≤ u.y - 1 by omega)
    omega
  · have h1 := dayT_month ht
    have h2 := dayT_month hu
    have h3 := mdN_mono t.y (show t.mo ≤ u.mo - 1 by omega)
    rw [← e] at h2
    omega
  · have h1 := ht.d1
    unfold dayT
    rw [e, e2]
    omega
theorem cnt_lt {t u : Tmt} (ht : MayT t) (hu : MayT u) (h : LtT t u) : cntT t < cntT u := by
  have h1 := ht.h2
  have h2 := ht.i2
  have h3 := ht.s2
  unfold cntT
  by_cases hd : t.y < u.y ∨ (t.y = u.y ∧ (t.mo < u.mo ∨ (t.mo = u.mo ∧ t.d < u.d)))
  · have := day_lt ht hu hd
    omega
  · have e : t.y = u.y ∧ t.mo = u.mo ∧ t.d = u.d ∧ (t.h < u.h ∨ (t.h = u.h ∧ (t.mi < u.mi ∨ (t.mi = u.mi ∧ t.s < u.s)))) := by
      unfold LtT at h
      omega
    have e2 : dayT t = dayT u := by unfold dayT; rw [e.1, e.2.1, e.2.2.1]
    have := e.2.2.2
    omega
theorem lt_tri (t u : Tmt) : LtT t u ∨ t = u ∨ LtT u t := by
  obtain ⟨a, b, c, d, e, f⟩ := t
  obtain ⟨a', b', c', d', e', f'⟩ := u
  unfold LtT
  simp only [Tmt.mk.injEq]
  omega
/-- one moment alone has a count; the earlier one has the lesser one -/
theorem cnt_inj {t u : Tmt} (ht : MayT t) (hu : MayT u) (h : cntT t = cntT u) : t = u := by
  rcases lt_tri t u with h1 | h1 | h1
  · have := cnt_lt ht hu h1; omega
  · exact h1
  · have := cnt_lt hu ht h1; omega
theorem cnt_iff {t u : Tmt} (ht : MayT t) (hu : MayT u) : cntT t < cntT u ↔ LtT t u := by
  refine ⟨fun h => ?_, cnt_lt ht hu⟩
  rcases lt_tri t u with h1 | h1 | h1
  · exact h1
  · subst h1; omega
  · have := cnt_lt hu ht h1; omega
theorem cnt_hi {t : Tmt} (h : MayT t) : cntT t < 315537897600 := by
  have h1 := dayT_year h
  have h2 := ydN_mono h.y2
  have h3 : ydN 9999 = 3652059 := by have := ydN_eq 9999; omega
  have := h.h2
  have := h.i2
  have := h.s2
  unfold cntT
  omega
/-- each count below the last has its moment -/
theorem year_of (d : Nat) (h : d < 3652059) : ∃ y, 1 ≤ y ∧ y ≤ 9999 ∧ ydN (y - 1) ≤ d ∧ d < ydN y := by
  have key : ∀ k, d < ydN k → ∃ y, 1 ≤ y ∧ y ≤ k ∧ ydN (y - 1) ≤ d ∧ d < ydN y := by
    intro k
    induction k with
    | zero => intro h; exact absurd h (Nat.not_lt_zero _)
    | succ k ih =>
      intro hk
      rcases Nat.lt_or_ge d (ydN k) with h1 | h1
      · obtain ⟨y, a, b, c⟩ := ih h1
        exact ⟨y, a, by omega, c⟩
      · exact ⟨k + 1, by omega, Nat.le_refl _, h1, hk⟩
  exact key 9999 (by have := ydN_eq 9999; omega)
theorem month_of (y d : Nat) (h : d < mdN y 12) : ∃ m, 1 ≤ m ∧ m ≤ 12 ∧ mdN y (m - 1) ≤ d ∧ d < mdN y m := by
  have key : ∀ k, d < mdN y k → ∃ m, 1 ≤ m ∧ m ≤ k ∧ mdN y (m - 1) ≤ d ∧ d < mdN y m := by
    intro k
    induction k with
    | zero => intro h; exact absurd h (Nat.not_lt_zero _)
    | succ k ih =>
      intro hk
      rcases Nat.lt_or_ge d (mdN y k) with h1 | h1
      · obtain ⟨m, a, b, c⟩ := ih h1
        exact ⟨m, a, by omega, c⟩
      · exact ⟨k + 1, by omega, Nat.le_refl _, h1, hk⟩
  exact key 12 h
theorem moment_of (c : Nat) (h : c < 315537897600) : ∃ t, MayT t ∧ cntT t = c := by
  obtain ⟨y, y1, y2, y3, y4⟩ := year_of (c / 86400) (by omega)
  have hy : ydN y = ydN (y - 1) + mdN y 12 := by
    conv => lhs; rw [show y = y - 1 + 1 by omega]
    rw [ydN, show y - 1 + 1 = y by omega, mdN_12]
    omega
  obtain ⟨m, m1, m2, m3, m4⟩ := month_of y (c / 86400 - ydN (y - 1)) (by omega)
  have hm : mdN y m = mdN y (m - 1) + dimM y m := by
    conv => lhs; rw [show m = m - 1 + 1 by omega]
    rw [mdN, show m - 1 + 1 = m by omega]
  refine ⟨⟨y, m, c / 86400 - ydN (y - 1) - mdN y (m - 1) + 1, c % 86400 / 3600, c % 3600 / 60, c % 60⟩, ⟨y1, y2, m1, m2, by show 1 ≤ _ + 1; omega, by show _ + 1 ≤ dimM y m; omega, by show c % 86400 / 3600 ≤ 23; omega, by show c % 3600 / 60 ≤ 59; omega, by show c % 60 ≤ 59; omega⟩, ?_⟩
  show (ydN (y - 1) + mdN y (m - 1) + (c / 86400 - ydN (y - 1) - mdN y (m - 1) + 1 - 1)) * 86400 + c % 86400 / 3600 * 3600 + c % 3600 / 60 * 60 + c % 60 = c
  have e : ydN (y - 1) + mdN y (m - 1) + (c / 86400 - ydN (y - 1) - mdN y (m - 1) + 1 - 1) = c / 86400 := by omega
  rw [e]
  omega
end Go.Proofs.YtfipgmjaabggjaaDoor
namespace Go.Proofs.YtfipgmjaabggjaaDoor
open Go
set_option maxRecDepth 4000

/-- a number below 100 in two digits; is a byte a digit; the number of two -/
def d2 (n : Nat) : List (BitVec 8) := [BitVec.ofNat 8 (48 + n / 10 % 10), BitVec.ofNat 8 (48 + n % 10)]
def digB (x : BitVec 8) : Bool := decide (48 ≤ x.toNat) && decide (x.toNat ≤ 57)
def r2 (x y : BitVec 8) : Nat := 10 * (x.toNat - 48) + (y.toNat - 48)
theorem d2_len (n : Nat) : (d2 n).length = 2 := rfl
theorem d2_digit (n : Nat) : digB (gb (d2 n) 0) = true ∧ digB (gb (d2 n) 1) = true := by
  have h1 : (BitVec.ofNat 8 (48 + n / 10 % 10)).toNat = 48 + n / 10 % 10 := by rw [BitVec.toNat_ofNat]; omega
  have h2 : (BitVec.ofNat 8 (48 + n % 10)).toNat = 48 + n % 10 := by rw [BitVec.toNat_ofNat]; omega
  constructor
  · show digB (BitVec.ofNat 8 (48 + n / 10 % 10)) = true
    unfold digB
    rw [h1, decide_eq_true (by omega), decide_eq_true (by omega)]
    rfl
  · show digB (BitVec.ofNat 8 (48 + n % 10)) = true
    unfold digB
    rw [h2, decide_eq_true (by omega), decide_eq_true (by omega)]
    rfl
theorem r2_d2 (n : Nat) (h : n < 100) : r2 (gb (d2 n) 0) (gb (d2 n) 1) = n := by
  show 10 * ((BitVec.ofNat 8 (48 + n / 10 % 10)).toNat - 48) + ((BitVec.ofNat 8 (48 + n % 10)).toNat - 48) = n
  rw [BitVec.toNat_ofNat, BitVec.toNat_ofNat]
  omega
theorem d2_r2 (x y : BitVec 8) (hx : digB x = true) (hy : digB y = true) : d2 (r2 x y) = [x, y] ∧ r2 x y < 100 := by
  unfold digB at hx hy
  simp only [Bool.and_eq_true, decide_eq_true_eq] at hx hy
  refine ⟨?_, by unfold r2; omega⟩
  unfold d2 r2
  congr 1
  · apply BitVec.eq_of_toNat_eq
    rw [BitVec.toNat_ofNat]
    omega
  · congr 1
    apply BitVec.eq_of_toNat_eq
    rw [BitVec.toNat_ofNat]
    omega
theorem d2_inj {a b : Nat} (ha : a < 100) (hb : b < 100) (h : d2 a = d2 b) : a = b := by rw [← r2_d2 a ha, h, r2_d2 b hb]
/-- a moment's mark and body -/
def tmM (t : Tmt) : BitVec 8 := if 1950 ≤ t.y ∧ t.y ≤ 2049 then 23 else 24
def tmR (t : Tmt) : List (BitVec 8) := d2 t.mo ++ (d2 t.d ++ (d2 t.h ++ (d2 t.mi ++ (d2 t.s ++ [90]))))
def tmB (t : Tmt) : List (BitVec 8) := if 1950 ≤ t.y ∧ t.y ≤ 2049 then d2 (t.y % 100) ++ tmR t else d2 (t.y / 100) ++ (d2 (t.y % 100) ++ tmR t)
theorem tmR_len (t : Tmt) : (tmR t).length = 11 := rfl
theorem tmB_len (t : Tmt) : (tmB t).length = if 1950 ≤ t.y ∧ t.y ≤ 2049 then 13 else 15 := by unfold tmB; split <;> rfl
theorem d2_cut {a b : Nat} {x y : List (BitVec 8)} (h : d2 a ++ x = d2 b ++ y) : d2 a = d2 b ∧ x = y := List.append_inj h rfl
theorem tmR_inj {t u : Tmt} (ht : MayT t) (hu : MayT u) (h : tmR t = tmR u) : t.mo = u.mo ∧ t.d = u.d ∧ t.h = u.h ∧ t.mi = u.mi ∧ t.s = u.s := by
  have a1 := ht.m2
  have a2 := ht.d2
  have a3 := dim_hi t.y t.mo
  have a4 := ht.h2
  have a5 := ht.i2
  have a6 := ht.s2
  have b1 := hu.m2
  have b2 := hu.d2
  have b3 := dim_hi u.y u.mo
  have b4 := hu.h2
  have b5 := hu.i2
  have b6 := hu.s2
  obtain ⟨h1, h⟩ := d2_cut h
  obtain ⟨h2, h⟩ := d2_cut h
  obtain ⟨h3, h⟩ := d2_cut h
  obtain ⟨h4, h⟩ := d2_cut h
  obtain ⟨h5, _⟩ := d2_cut h
  exact ⟨d2_inj (by omega) (by omega) h1, d2_inj (by omega) (by omega) h2, d2_inj (by omega) (by omega) h3, d2_inj (by omega) (by omega) h4, d2_inj (by omega) (by omega) h5⟩
/-- each moment has a mark and body of its own -/
theorem tmB_inj {t u : Tmt} (ht : MayT t) (hu : MayT u) (hm : tmM t = tmM u) (h : tmB t = tmB u) : t = u := by
  have a1 := ht.y2
  have b1 := hu.y2
  have key : t.y = u.y ∧ tmR t = tmR u := by
    unfold tmM at hm
    unfold tmB at h
    by_cases c : 1950 ≤ t.y ∧ t.y ≤ 2049
    · by_cases c' : 1950 ≤ u.y ∧ u.y ≤ 2049
      · rw [if_pos c, if_pos c'] at h
        obtain ⟨h1, h2⟩ := d2_cut h
        have := d2_inj (by omega) (by omega) h1
        exact ⟨by omega, h2⟩
      · rw [if_pos c, if_neg c'] at hm
        exact absurd hm (by decide)
    · by_cases c' : 1950 ≤ u.y ∧ u.y ≤ 2049
      · rw [if_neg c, if_pos c'] at hm
        exact absurd hm (by decide)
      · rw [if_neg c, if_neg c'] at h
        obtain ⟨h1, h2⟩ := d2_cut h
        obtain ⟨h3, h4⟩ := d2_cut h2
        have e1 := d2_inj (by omega) (by omega) h1
        have e2 := d2_inj (by omega) (by omega) h3
        exact ⟨by omega, h4⟩
  obtain ⟨h1, h2, h3, h4, h5⟩ := tmR_inj ht hu key.2
  obtain ⟨y, mo, d, hh, mi, s⟩ := t
  obtain ⟨y', mo', d', hh', mi', s'⟩ := u
  have h0 := key.1
  simp only at h0 h1 h2 h3 h4 h5
  subst h0 h1 h2 h3 h4 h5
  rfl
end Go.Proofs.YtfipgmjaabggjaaDoor
namespace Go.Proofs.YtfipgmjaabggjaaDoor
open Go Go.RowKit
set_option maxRecDepth 4000

theorem within_yes (n a b : Int) (ha : a ≤ n) (hb : n ≤ b) (w : World) : Calls Tryd.prog 76 #[.int .i64 n, .int .i64 a, .int .i64 b] w fun e w' => e = .returned (.bool true) ∧ w' = w := by
  have h1 : decide (a ≤ n) = true := decide_eq_true ha
  have h2 : decide (n ≤ b) = true := decide_eq_true hb
  clear ha hb
  go_enter Tryd.func76, Tryd.ntmps76
  go_wp2
  go_ret
  exact ⟨rfl, rfl⟩
theorem within_no (n a b : Int) (h : ¬ (a ≤ n ∧ n ≤ b)) (w : World) : Calls Tryd.prog 76 #[.int .i64 n, .int .i64 a, .int .i64 b] w fun e w' => e = .returned (.bool false) ∧ w' = w := by
  by_cases ha : a ≤ n
  · have h1 : decide (a ≤ n) = true := decide_eq_true ha
    have h2 : decide (n ≤ b) = false := decide_eq_false fun e => h ⟨ha, e⟩
    clear ha h
    go_enter Tryd.func76, Tryd.ntmps76
    go_wp2
    go_ret
    exact ⟨rfl, rfl⟩
  · have h1 : decide (a ≤ n) = false := decide_eq_false ha
    clear ha h
    go_enter Tryd.func76, Tryd.ntmps76
    go_wp2
    go_ret
    exact ⟨rfl, rfl⟩
theorem tm_nat (y k : Nat) (_ : 0 < k) : (y : Int).tmod (k : Int) = ((y % k : Nat) : Int) := by
  rw [Int.tmod_eq_emod_of_nonneg (by omega)]
  exact (Int.natCast_emod y k).symm
theorem td_nat (y k : Nat) : (y : Int).tdiv (k : Int) = ((y / k : Nat) : Int) := by
  rw [Int.tdiv_eq_ediv_of_nonneg (by omega)]
  exact (Int.natCast_ediv y k).symm
theorem dimM_feb (y : Nat) : dimM y 2 = if leapY y = true then 29 else 28 := rfl
theorem dimM_else (y m : Nat) (h : m ≠ 2) : dimM y m = if m = 4 ∨ m = 6 ∨ m = 9 ∨ m = 11 then 30 else 31 := by unfold dimM; rw [if_neg h]
theorem modz (y k : Nat) (K : Int) (hK : (k : Int) = K) (hk : 0 < k) : ∃ A : Int, (y : Int).tmod K = A ∧ ((y % k = 0 ∧ A = 0) ∨ (y % k ≠ 0 ∧ (A == 0) = false ∧ (A != 0) = true ∧ ¬ A = 0)) := by
  subst hK
  refine ⟨_, tm_nat y k hk, ?_⟩
  by_cases h : y % k = 0
  · exact .inl ⟨h, by omega⟩
  · exact .inr ⟨h, beq_eq_false_iff_ne.2 (by omega), bne_iff_ne.2 (by omega), by omega⟩
theorem zeq (a : Nat) : ((a : Int) == 0) = decide (a = 0) := by rw [Bool.eq_iff_iff]; simp
theorem mod400 {y a c : Nat} (h4 : y % 4 = a) (h400 : y % 400 = c) (hc : c = 0) : a = 0 := by omega
set_option maxHeartbeats 2000000 in
theorem daysOf_any (y m : Nat) (hm : 1 ≤ m ∧ m ≤ 12) (w : World) : Calls Tryd.prog 56 #[.int .i64 (y : Int), .int .i64 (m : Int)] w fun e w' => e = .returned (.int .i64 (dimM y m : Int)) ∧ w' = w := by
  by_cases h2 : m = 2
  · subst h2
    rw [dimM_feb]
    obtain ⟨a, e4, h4⟩ := modz y 4 4 rfl (by decide)
    obtain ⟨b, e100, h100⟩ := modz y 100 100 rfl (by decide)
    obtain ⟨c, e400, h400⟩ := modz y 400 400 rfl (by decide)
    have hl : leapY y = (decide (y % 400 = 0) || (decide (y % 4 = 0) && !decide (y % 100 = 0))) := by
      rw [Bool.eq_iff_iff, leap_eq]; simp
    have hz : y % 400 = 0 → y % 4 = 0 := fun h => by omega
    generalize leapY y = L at *
    rcases h4 with ⟨h4, rfl⟩ | ⟨h4, b1, v1, b2⟩ <;> rcases h100 with ⟨h100, rfl⟩ | ⟨h100, b3, v3, b4⟩ <;> rcases h400 with ⟨h400, rfl⟩ | ⟨h400, b5, v5, b6⟩
    all_goals cases L
    all_goals first
      | (exfalso
         (first | rw [decide_eq_true h4] at hl | rw [decide_eq_false h4] at hl)
         (first | rw [decide_eq_true h100] at hl | rw [decide_eq_false h100] at hl)
         (first | rw [decide_eq_true h400] at hl | rw [decide_eq_false h400] at hl)
         revert hl
         decide)
      | exact absurd (hz h400) h4
      | (clear hl hz h4 h100 h400
         generalize (y : Int) = Y at *
         try rw [if_pos rfl]
         try rw [if_neg Bool.false_ne_true]
         go_enter Tryd.func56, Tryd.ntmps56
         go_wp2
         go_ret
         exact ⟨rfl, rfl⟩)
  · have b1 : ((m : Int) == 2) = false := beq_eq_false_iff_ne.2 (by omega)
    have b2 : ¬ m = 2 := h2
    rw [dimM_else y m h2]
    by_cases h : m = 4 ∨ m = 6 ∨ m = 9 ∨ m = 11
    · rw [if_pos h]
      rcases h with rfl | rfl | rfl | rfl
      all_goals
        go_enter Tryd.func56, Tryd.ntmps56
        go_wp2
        go_ret
        exact ⟨rfl, rfl⟩
    · rw [if_neg h]
      have b3 : ((m : Int) == 4) = false := beq_eq_false_iff_ne.2 (by omega)
      have b4 : ((m : Int) == 6) = false := beq_eq_false_iff_ne.2 (by omega)
      have b5 : ((m : Int) == 9) = false := beq_eq_false_iff_ne.2 (by omega)
      have b6 : ((m : Int) == 11) = false := beq_eq_false_iff_ne.2 (by omega)
      have d3 : ¬ m = 4 := fun e => h (.inl e)
      have d4 : ¬ m = 6 := fun e => h (.inr (.inl e))
      have d5 : ¬ m = 9 := fun e => h (.inr (.inr (.inl e)))
      have d6 : ¬ m = 11 := fun e => h (.inr (.inr (.inr e)))
      clear h hm h2
      go_enter Tryd.func56, Tryd.ntmps56
      go_wp2
      go_ret
      exact ⟨rfl, rfl⟩
set_option maxHeartbeats 2000000 in
theorem daysAhead_any (y : Nat) (hy : y ≤ 20000) (w : World) : Calls Tryd.prog 55 #[.int .i64 ((y + 1 : Nat) : Int)] w fun e w' => e = .returned (.int .i64 (ydN y : Int)) ∧ w' = w := by
  have h := ydN_eq y
  have e0 : IntKind.i64.wrap (((y + 1 : Nat) : Int) - 1) = (y : Int) := by rw [IntKind.wrap_i64]; omega
  have e1 : IntKind.i64.wrap (365 * (y : Int)) = ((365 * y : Nat) : Int) := by rw [IntKind.wrap_i64]; omega
  have e4 : (y : Int).tdiv 4 = _ := td_nat y 4
  have e100 : (y : Int).tdiv 100 = _ := td_nat y 100
  have e400 : (y : Int).tdiv 400 = _ := td_nat y 400
  have f4 : IntKind.i64.wrap ((y / 4 : Nat) : Int) = ((y / 4 : Nat) : Int) := by rw [IntKind.wrap_i64]; omega
  have f100 : IntKind.i64.wrap ((y / 100 : Nat) : Int) = ((y / 100 : Nat) : Int) := by rw [IntKind.wrap_i64]; omega
  have f400 : IntKind.i64.wrap ((y / 400 : Nat) : Int) = ((y / 400 : Nat) : Int) := by rw [IntKind.wrap_i64]; omega
  have e5 : IntKind.i64.wrap (((365 * y : Nat) : Int) + ((y / 4 : Nat) : Int)) = ((365 * y + y / 4 : Nat) : Int) := by rw [IntKind.wrap_i64]; omega
  have e6 : IntKind.i64.wrap (((365 * y + y / 4 : Nat) : Int) - ((y / 100 : Nat) : Int)) = ((365 * y + y / 4 - y / 100 : Nat) : Int) := by rw [IntKind.wrap_i64]; omega
  have e7 : IntKind.i64.wrap (((365 * y + y / 4 - y / 100 : Nat) : Int) + ((y / 400 : Nat) : Int)) = (ydN y : Int) := by rw [IntKind.wrap_i64]; omega
  generalize ydN y = D at *
  generalize 365 * y + y / 4 - y / 100 = x3 at *
  generalize 365 * y + y / 4 = x2 at *
  generalize 365 * y = x1 at *
  generalize y / 4 = q4 at *
  generalize y / 100 = q100 at *
  generalize y / 400 = q400 at *
  obtain ⟨z, hz⟩ : ∃ z, z = y + 1 := ⟨_, rfl⟩
  rw [← hz] at e0 ⊢
  clear hz h hy
  go_enter Tryd.func55, Tryd.ntmps55
  go_wp2
  go_ret
  exact ⟨rfl, rfl⟩
end Go.Proofs.YtfipgmjaabggjaaDoor
namespace Go.Proofs.YtfipgmjaabggjaaDoor
open Go Go.RowKit
set_option maxRecDepth 4000

abbrev tmt : TypeId := 45
/-- six ints that are a moment, and the moment's cells -/
def tci (y mo d h mi s : Int) : Array Value := #[.int .i64 y, .int .i64 mo, .int .i64 d, .int .i64 h, .int .i64 mi, .int .i64 s]
def tcs (t : Tmt) : Array Value := tci t.y t.mo t.d t.h t.mi t.s
def MayI (y mo d h mi s : Int) : Prop := ∃ t, MayT t ∧ y = (t.y : Int) ∧ mo = (t.mo : Int) ∧ d = (t.d : Int) ∧ h = (t.h : Int) ∧ mi = (t.mi : Int) ∧ s = (t.s : Int)
/-- what is amiss first -/
theorem may_cases (y mo d h mi s : Int) : MayI y mo d h mi s ∨ (¬ MayI y mo d h mi s ∧ (¬ (1 ≤ y ∧ y ≤ 9999) ∨ ((1 ≤ y ∧ y ≤ 9999) ∧ ¬ (1 ≤ mo ∧ mo ≤ 12)) ∨
    ∃ Y M : Nat, y = (Y : Int) ∧ mo = (M : Int) ∧ (1 ≤ Y ∧ Y ≤ 9999) ∧ (1 ≤ M ∧ M ≤ 12) ∧ (¬ (1 ≤ d ∧ d ≤ (dimM Y M : Int)) ∨ ((1 ≤ d ∧ d ≤ (dimM Y M : Int)) ∧ ¬ (0 ≤ h ∧ h ≤ 23)) ∨ ((1 ≤ d ∧ d ≤ (dimM Y M : Int)) ∧ (0 ≤ h ∧ h ≤ 23) ∧ ¬ (0 ≤ mi ∧ mi ≤ 59)) ∨
      ((1 ≤ d ∧ d ≤ (dimM Y M : Int)) ∧ (0 ≤ h ∧ h ≤ 23) ∧ (0 ≤ mi ∧ mi ≤ 59) ∧ ¬ (0 ≤ s ∧ s ≤ 59))))) := by
  have hN : ∀ {P : Prop}, (∀ t, MayT t → y = (t.y : Int) → mo = (t.mo : Int) → d = (t.d : Int) → h = (t.h : Int) → mi = (t.mi : Int) → s = (t.s : Int) → P → False) → P → ¬ MayI y mo d h mi s := fun hp hP ⟨t, ht, a, b, c, e, f, g⟩ => hp t ht a b c e f g hP
  by_cases h1 : 1 ≤ y ∧ y ≤ 9999
  · by_cases h2 : 1 ≤ mo ∧ mo ≤ 12
    · obtain ⟨Y, rfl⟩ : ∃ Y : Nat, y = (Y : Int) := ⟨y.toNat, by omega⟩
      obtain ⟨M, rfl⟩ : ∃ M : Nat, mo = (M : Int) := ⟨mo.toNat, by omega⟩
      have k1 : 1 ≤ Y ∧ Y ≤ 9999 := by omega
      have k2 : 1 ≤ M ∧ M ≤ 12 := by omega
      have hD : ∀ t : Tmt, (Y : Int) = (t.y : Int) → (M : Int) = (t.mo : Int) → dimM Y M = dimM t.y t.mo := fun t a b => by
        rw [show Y = t.y by omega, show M = t.mo by omega]
      by_cases h3 : 1 ≤ d ∧ d ≤ (dimM Y M : Int)
      · by_cases h4 : 0 ≤ h ∧ h ≤ 23
        · by_cases h5 : 0 ≤ mi ∧ mi ≤ 59
          · by_cases h6 : 0 ≤ s ∧ s ≤ 59
            · refine .inl ⟨⟨Y, M, d.toNat, h.toNat, mi.toNat, s.toNat⟩, ⟨k1.1, k1.2, k2.1, k2.2, ?_, ?_, ?_, ?_, ?_⟩, rfl, rfl, ?_, ?_, ?_, ?_⟩
              all_goals first | (show 1 ≤ d.toNat; omega) | (show d.toNat ≤ dimM Y M; omega) | (show h.toNat ≤ 23; omega) | (show mi.toNat ≤ 59; omega) | (show s.toNat ≤ 59; omega) | (show d = (d.toNat : Int); omega) | (show h = (h.toNat : Int); omega) | (show mi = (mi.toNat : Int); omega) | (show s = (s.toNat : Int); omega)
            · exact .inr ⟨hN (fun t ht _ _ _ _ _ g hP => hP (by have := ht.s2; omega)) h6, .inr (.inr ⟨Y, M, rfl, rfl, k1, k2, .inr (.inr (.inr ⟨h3, h4, h5, h6⟩))⟩)⟩
          · exact .inr ⟨hN (fun t ht _ _ _ _ f _ hP => hP (by have := ht.i2; omega)) h5, .inr (.inr ⟨Y, M, rfl, rfl, k1, k2, .inr (.inr (.inl ⟨h3, h4, h5⟩))⟩)⟩
        · exact .inr ⟨hN (fun t ht _ _ _ e _ _ hP => hP (by have := ht.h2; omega)) h4, .inr (.inr ⟨Y, M, rfl, rfl, k1, k2, .inr (.inl ⟨h3, h4⟩)⟩)⟩
      · exact .inr ⟨hN (fun t ht a b c _ _ _ hP => hP (by have h7 := ht.d1; have h8 := ht.d2; have h9 := hD t a b; omega)) h3, .inr (.inr ⟨Y, M, rfl, rfl, k1, k2, .inl h3⟩)⟩
    · exact .inr ⟨hN (fun t ht _ b _ _ _ _ hP => hP (by have := ht.m1; have := ht.m2; omega)) h2, .inr (.inl ⟨h1, h2⟩)⟩
  · exact .inr ⟨hN (fun t ht a _ _ _ _ _ hP => hP (by have := ht.y1; have := ht.y2; omega)) h1, .inl h1⟩
set_option maxHeartbeats 4000000 in
theorem isTime_no1 (y mo d h mi s D : Int) (w1 : ∀ w : World, Calls Tryd.prog 76 #[.int .i64 y, .int .i64 1, .int .i64 9999] w fun e w' => e = .returned (.bool false) ∧ w' = w) (w : World) :
    Calls Tryd.prog 51 #[.agg (tci y mo d h mi s)] w fun e w' => e = .returned (.bool false) ∧ Ext w w' := by
  unfold tci
  go_enter Tryd.func51, Tryd.ntmps51
  go_wp2_with fail
  go_quiet (first | (go_at_call 76; first | with_reducible exact Calls.quiet_of_same (w1 _)) | fail)
  go_wp2_with fail
  go_ret
  exact ⟨rfl, (by (repeat (first | assumption | exact Ext.refl _ | apply Ext.drew | apply Ext.drewN | apply Ext.alloc | refine Ext.trans ?_ (by assumption))); first | done | fail)⟩
set_option maxHeartbeats 4000000 in
theorem isTime_no2 (y mo d h mi s D : Int) (w1 : ∀ w : World, Calls Tryd.prog 76 #[.int .i64 y, .int .i64 1, .int .i64 9999] w fun e w' => e = .returned (.bool true) ∧ w' = w) (w2 : ∀ w : World, Calls Tryd.prog 76 #[.int .i64 mo, .int .i64 1, .int .i64 12] w fun e w' => e = .returned (.bool false) ∧ w' = w) (w : World) :
    Calls Tryd.prog 51 #[.agg (tci y mo d h mi s)] w fun e w' => e = .returned (.bool false) ∧ Ext w w' := by
  unfold tci
  go_enter Tryd.func51, Tryd.ntmps51
  go_wp2_with fail
  go_quiet (first | (go_at_call 76; first | with_reducible exact Calls.quiet_of_same (w1 _) | with_reducible exact Calls.quiet_of_same (w2 _)) | fail)
  go_wp2_with fail
  go_ret
  exact ⟨rfl, (by (repeat (first | assumption | exact Ext.refl _ | apply Ext.drew | apply Ext.drewN | apply Ext.alloc | refine Ext.trans ?_ (by assumption))); first | done | fail)⟩
set_option maxHeartbeats 4000000 in
theorem isTime_no3 (y mo d h mi s D : Int) (w1 : ∀ w : World, Calls Tryd.prog 76 #[.int .i64 y, .int .i64 1, .int .i64 9999] w fun e w' => e = .returned (.bool true) ∧ w' = w) (w2 : ∀ w : World, Calls Tryd.prog 76 #[.int .i64 mo, .int .i64 1, .int .i64 12] w fun e w' => e = .returned (.bool true) ∧ w' = w) (w3 : ∀ w : World, Calls Tryd.prog 76 #[.int .i64 d, .int .i64 1, .int .i64 D] w fun e w' => e = .returned (.bool false) ∧ w' = w) (hD : ∀ w : World, Calls Tryd.prog 56 #[.int .i64 y, .int .i64 mo] w fun e w' => e = .returned (.int .i64 D) ∧ w' = w) (w : World) :
    Calls Tryd.prog 51 #[.agg (tci y mo d h mi s)] w fun e w' => e = .returned (.bool false) ∧ Ext w w' := by
  unfold tci
  go_enter Tryd.func51, Tryd.ntmps51
  go_wp2_with fail
  go_quiet (first | (go_at_call 76; first | with_reducible exact Calls.quiet_of_same (w1 _) | with_reducible exact Calls.quiet_of_same (w2 _) | with_reducible exact Calls.quiet_of_same (w3 _)) | (go_at_call 56; exact Calls.quiet_of_same (hD _)) | fail)
  go_wp2_with fail
  go_ret
  exact ⟨rfl, (by (repeat (first | assumption | exact Ext.refl _ | apply Ext.drew | apply Ext.drewN | apply Ext.alloc | refine Ext.trans ?_ (by assumption))); first | done | fail)⟩
set_option maxHeartbeats 4000000 in
theorem isTime_no4 (y mo d h mi s D : Int) (w1 : ∀ w : World, Calls Tryd.prog 76 #[.int .i64 y, .int .i64 1, .int .i64 9999] w fun e w' => e = .returned (.bool true) ∧ w' = w) (w2 : ∀ w : World, Calls Tryd.prog 76 #[.int .i64 mo, .int .i64 1, .int .i64 12] w fun e w' => e = .returned (.bool true) ∧ w' = w) (w3 : ∀ w : World, Calls Tryd.prog 76 #[.int .i64 d, .int .i64 1, .int .i64 D] w fun e w' => e = .returned (.bool true) ∧ w' = w) (w4 : ∀ w : World, Calls Tryd.prog 76 #[.int .i64 h, .int .i64 0, .int .i64 23] w fun e w' => e = .returned (.bool false) ∧ w' = w) (hD : ∀ w : World, Calls Tryd.prog 56 #[.int .i64 y, .int .i64 mo] w fun e w' => e = .returned (.int .i64 D) ∧ w' = w) (w : World) :
    Calls Tryd.prog 51 #[.agg (tci y mo d h mi s)] w fun e w' => e = .returned (.bool false) ∧ Ext w w' := by
  unfold tci
  go_enter Tryd.func51, Tryd.ntmps51
  go_wp2_with fail
  go_quiet (first | (go_at_call 76; first | with_reducible exact Calls.quiet_of_same (w1 _) | with_reducible exact Calls.quiet_of_same (w2 _) | with_reducible exact Calls.quiet_of_same (w3 _) | with_reducible exact Calls.quiet_of_same (w4 _)) | (go_at_call 56; exact Calls.quiet_of_same (hD _)) | fail)
  go_wp2_with fail
  go_ret
  exact ⟨rfl, (by (repeat (first | assumption | exact Ext.refl _ | apply Ext.drew | apply Ext.drewN | apply Ext.alloc | refine Ext.trans ?_ (by assumption))); first | done | fail)⟩
set_option maxHeartbeats 4000000 in
theorem isTime_no5 (y mo d h mi s D : Int) (w1 : ∀ w : World, Calls Tryd.prog 76 #[.int .i64 y, .int .i64 1, .int .i64 9999] w fun e w' => e = .returned (.bool true) ∧ w' = w) (w2 : ∀ w : World, Calls Tryd.prog 76 #[.int .i64 mo, .int .i64 1, .int .i64 12] w fun e w' => e = .returned (.bool true) ∧ w' = w) (w3 : ∀ w : World, Calls Tryd.prog 76 #[.int .i64 d, .int .i64 1, .int .i64 D] w fun e w' => e = .returned (.bool true) ∧ w' = w) (w4 : ∀ w : World, Calls Tryd.prog 76 #[.int .i64 h, .int .i64 0, .int .i64 23] w fun e w' => e = .returned (.bool true) ∧ w' = w) (w5 : ∀ w : World, Calls Tryd.prog 76 #[.int .i64 mi, .int .i64 0, .int .i64 59] w fun e w' => e = .returned (.bool false) ∧ w' = w) (hD : ∀ w : World, Calls Tryd.prog 56 #[.int .i64 y, .int .i64 mo] w fun e w' => e = .returned (.int .i64 D) ∧ w' = w) (w : World) :
    Calls Tryd.prog 51 #[.agg (tci y mo d h mi s)] w fun e w' => e = .returned (.bool false) ∧ Ext w w' := by
  unfold tci
  go_enter Tryd.func51, Tryd.ntmps51
  go_wp2_with fail
  go_quiet (first | (go_at_call 76; first | with_reducible exact Calls.quiet_of_same (w1 _) | with_reducible exact Calls.quiet_of_same (w2 _) | with_reducible exact Calls.quiet_of_same (w3 _) | with_reducible exact Calls.quiet_of_same (w4 _) | with_reducible exact Calls.quiet_of_same (w5 _)) | (go_at_call 56; exact Calls.quiet_of_same (hD _)) | fail)
  go_wp2_with fail
  go_ret
  exact ⟨rfl, (by (repeat (first | assumption | exact Ext.refl _ | apply Ext.drew | apply Ext.drewN | apply Ext.alloc | refine Ext.trans ?_ (by assumption))); first | done | fail)⟩
set_option maxHeartbeats 4000000 in
theorem isTime_no6 (y mo d h mi s D : Int) (w1 : ∀ w : World, Calls Tryd.prog 76 #[.int .i64 y, .int .i64 1, .int .i64 9999] w fun e w' => e = .returned (.bool true) ∧ w' = w) (w2 : ∀ w : World, Calls Tryd.prog 76 #[.int .i64 mo, .int .i64 1, .int .i64 12] w fun e w' => e = .returned (.bool true) ∧ w' = w) (w3 : ∀ w : World, Calls Tryd.prog 76 #[.int .i64 d, .int .i64 1, .int .i64 D] w fun e w' => e = .returned (.bool true) ∧ w' = w) (w4 : ∀ w : World, Calls Tryd.prog 76 #[.int .i64 h, .int .i64 0, .int .i64 23] w fun e w' => e = .returned (.bool true) ∧ w' = w) (w5 : ∀ w : World, Calls Tryd.prog 76 #[.int .i64 mi, .int .i64 0, .int .i64 59] w fun e w' => e = .returned (.bool true) ∧ w' = w) (w6 : ∀ w : World, Calls Tryd.prog 76 #[.int .i64 s, .int .i64 0, .int .i64 59] w fun e w' => e = .returned (.bool false) ∧ w' = w) (hD : ∀ w : World, Calls Tryd.prog 56 #[.int .i64 y, .int .i64 mo] w fun e w' => e = .returned (.int .i64 D) ∧ w' = w) (w : World) :
    Calls Tryd.prog 51 #[.agg (tci y mo d h mi s)] w fun e w' => e = .returned (.bool false) ∧ Ext w w' := by
  unfold tci
  go_enter Tryd.func51, Tryd.ntmps51
  go_wp2_with fail
  go_quiet (first | (go_at_call 76; first | with_reducible exact Calls.quiet_of_same (w1 _) | with_reducible exact Calls.quiet_of_same (w2 _) | with_reducible exact Calls.quiet_of_same (w3 _) | with_reducible exact Calls.quiet_of_same (w4 _) | with_reducible exact Calls.quiet_of_same (w5 _) | with_reducible exact Calls.quiet_of_same (w6 _)) | (go_at_call 56; exact Calls.quiet_of_same (hD _)) | fail)
  go_wp2_with fail
  go_ret
  exact ⟨rfl, (by (repeat (first | assumption | exact Ext.refl _ | apply Ext.drew | apply Ext.drewN | apply Ext.alloc | refine Ext.trans ?_ (by assumption))); first | done | fail)⟩
set_option maxHeartbeats 4000000 in
theorem isTime_yes (y mo d h mi s D : Int) (w1 : ∀ w : World, Calls Tryd.prog 76 #[.int .i64 y, .int .i64 1, .int .i64 9999] w fun e w' => e = .returned (.bool true) ∧ w' = w) (w2 : ∀ w : World, Calls Tryd.prog 76 #[.int .i64 mo, .int .i64 1, .int .i64 12] w fun e w' => e = .returned (.bool true) ∧ w' = w) (w3 : ∀ w : World, Calls Tryd.prog 76 #[.int .i64 d, .int .i64 1, .int .i64 D] w fun e w' => e = .returned (.bool true) ∧ w' = w) (w4 : ∀ w : World, Calls Tryd.prog 76 #[.int .i64 h, .int .i64 0, .int .i64 23] w fun e w' => e = .returned (.bool true) ∧ w' = w) (w5 : ∀ w : World, Calls Tryd.prog 76 #[.int .i64 mi, .int .i64 0, .int .i64 59] w fun e w' => e = .returned (.bool true) ∧ w' = w) (w6 : ∀ w : World, Calls Tryd.prog 76 #[.int .i64 s, .int .i64 0, .int .i64 59] w fun e w' => e = .returned (.bool true) ∧ w' = w) (hD : ∀ w : World, Calls Tryd.prog 56 #[.int .i64 y, .int .i64 mo] w fun e w' => e = .returned (.int .i64 D) ∧ w' = w) (w : World) :
    Calls Tryd.prog 51 #[.agg (tci y mo d h mi s)] w fun e w' => e = .returned (.bool true) ∧ Ext w w' := by
  unfold tci
  go_enter Tryd.func51, Tryd.ntmps51
  go_wp2_with fail
  go_quiet (first | (go_at_call 76; first | with_reducible exact Calls.quiet_of_same (w1 _) | with_reducible exact Calls.quiet_of_same (w2 _) | with_reducible exact Calls.quiet_of_same (w3 _) | with_reducible exact Calls.quiet_of_same (w4 _) | with_reducible exact Calls.quiet_of_same (w5 _) | with_reducible exact Calls.quiet_of_same (w6 _)) | (go_at_call 56; exact Calls.quiet_of_same (hD _)) | fail)
  go_wp2_with fail
  go_ret
  exact ⟨rfl, (by (repeat (first | assumption | exact Ext.refl _ | apply Ext.drew | apply Ext.drewN | apply Ext.alloc | refine Ext.trans ?_ (by assumption))); first | done | fail)⟩
theorem isTime_any (y mo d h mi s : Int) (w : World) (b : Bool) (hb : b = true ↔ MayI y mo d h mi s) : Calls Tryd.prog 51 #[.agg (tci y mo d h mi s)] w fun e w' => e = .returned (.bool b) ∧ Ext w w' := by
  rcases may_cases y mo d h mi s with hM | ⟨hM, hN⟩
  · obtain rfl : b = true := hb.2 hM
    obtain ⟨t, ht, rfl, rfl, rfl, rfl, rfl, rfl⟩ := hM
    exact isTime_yes _ _ _ _ _ _ (dimM t.y t.mo : Int) (within_yes _ _ _ (by have := ht.y1; omega) (by have := ht.y2; omega)) (within_yes _ _ _ (by have := ht.m1; omega) (by have := ht.m2; omega)) (within_yes _ _ _ (by have := ht.d1; omega) (by have := ht.d2; omega)) (within_yes _ _ _ (by omega) (by have := ht.h2; omega)) (within_yes _ _ _ (by omega) (by have := ht.i2; omega)) (within_yes _ _ _ (by omega) (by have := ht.s2; omega)) (daysOf_any t.y t.mo ⟨ht.m1, ht.m2⟩) w
  · have hbf : b = false := by
      cases b with
      | false => rfl
      | true => exact absurd (hb.1 rfl) hM
    subst hbf
    rcases hN with h1 | ⟨h1, h2⟩ | ⟨Y, M, rfl, rfl, k1, k2, h3⟩
    · exact isTime_no1 _ _ _ _ _ _ 0 (within_no _ _ _ h1) w
    · exact isTime_no2 _ _ _ _ _ _ 0 (within_yes _ _ _ h1.1 h1.2) (within_no _ _ _ h2) w
    · have w1 := within_yes (Y : Int) 1 9999 (by omega) (by omega)
      have w2 := within_yes (M : Int) 1 12 (by omega) (by omega)
      have hD := daysOf_any Y M k2
      rcases h3 with h3 | ⟨h3, h4⟩ | ⟨h3, h4, h5⟩ | ⟨h3, h4, h5, h6⟩
      · exact isTime_no3 _ _ _ _ _ _ _ w1 w2 (within_no _ _ _ h3) hD w
      · exact isTime_no4 _ _ _ _ _ _ _ w1 w2 (within_yes _ _ _ h3.1 h3.2) (within_no _ _ _ h4) hD w
      · exact isTime_no5 _ _ _ _ _ _ _ w1 w2 (within_yes _ _ _ h3.1 h3.2) (within_yes _ _ _ h4.1 h4.2) (within_no _ _ _ h5) hD w
      · exact isTime_no6 _ _ _ _ _ _ _ w1 w2 (within_yes _ _ _ h3.1 h3.2) (within_yes _ _ _ h4.1 h4.2) (within_yes _ _ _ h5.1 h5.2) (within_no _ _ _ h6) hD w
end Go.Proofs.YtfipgmjaabggjaaDoor
