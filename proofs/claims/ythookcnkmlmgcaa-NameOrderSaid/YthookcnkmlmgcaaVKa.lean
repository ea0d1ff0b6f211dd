/-
  Moments: days of months and years, the count of seconds; plain (for layer 8).
-/
import Derived.WalkKit
namespace Go.Proofs.Ythookcnkmlmgcaa
open Go
set_option maxRecDepth 4000

/-- has a year 366 days; how many days a month has -/
def leapY (y : Nat) : Bool := y % 400 == 0 || (y % 4 == 0 && y % 100 != 0)
def dimM (y m : Nat) : Nat := if m = 2 then (if leapY y = true then 29 else 28) else if m = 4 ∨ m = 6 ∨ m = 9 ∨ m = 11 then 30 else 31
/-- how many days the first k years have; the first m months of a year -/
def ydN : Nat → Nat
  | 0 => 0
  | k + 1 => ydN k + 365 + (if leapY (k + 1) = true then 1 else 0)
def mdN (y : Nat) : Nat → Nat
  | 0 => 0
  | m + 1 => mdN y m + dimM y (m + 1)
theorem leap_eq (y : Nat) : (leapY y = true) ↔ (y % 400 = 0 ∨ (y % 4 = 0 ∧ y % 100 ≠ 0)) := by
  unfold leapY
  simp
theorem ydN_eq (k : Nat) : ydN k + k / 100 = 365 * k + k / 4 + k / 400 := by
  induction k with
  | zero => rfl
  | succ k ih =>
    rw [ydN]
    by_cases h : leapY (k + 1) = true
    · rw [if_pos h]
      rw [leap_eq] at h
      omega
    · rw [if_neg h]
      rw [leap_eq] at h
      omega
theorem dim_lo (y m : Nat) : 28 ≤ dimM y m := by unfold dimM; split; split <;> omega; split <;> omega
theorem dim_hi (y m : Nat) : dimM y m ≤ 31 := by unfold dimM; split; split <;> omega; split <;> omega
theorem mdN_12 (y : Nat) : mdN y 12 = 365 + (if leapY y = true then 1 else 0) := by
  by_cases h : leapY y = true <;> simp [mdN, dimM, h]
theorem mdN_mono (y : Nat) {a b : Nat} (h : a ≤ b) : mdN y a ≤ mdN y b := by
  induction b with
  | zero => rw [Nat.le_zero.1 h]; exact Nat.le_refl _
  | succ b ih =>
    rcases Nat.lt_or_ge a (b + 1) with h1 | h1
    · rw [mdN]
      have := ih (by omega)
      omega
    · rw [show a = b + 1 by omega]
      exact Nat.le_refl _
theorem ydN_mono {a b : Nat} (h : a ≤ b) : ydN a ≤ ydN b := by
  induction b with
  | zero => rw [Nat.le_zero.1 h]; exact Nat.le_refl _
  | succ b ih =>
    rcases Nat.lt_or_ge a (b + 1) with h1 | h1
    · rw [ydN]
      have := ih (by omega)
      omega
    · rw [show a = b + 1 by omega]
      exact Nat.le_refl _
/-- a moment -/
structure Tmt where
  y : Nat
  mo : Nat
  d : Nat
  h : Nat
  mi : Nat
  s : Nat
/-- may it be? -/
structure MayT (t : Tmt) : Prop where
  y1 : 1 ≤ t.y
  y2 : t.y ≤ 9999
  m1 : 1 ≤ t.mo
  m2 : t.mo ≤ 12
  d1 : 1 ≤ t.d
  d2 : t.d ≤ dimM t.y t.mo
  h2 : t.h ≤ 23
  i2 : t.mi ≤ 59
  s2 : t.s ≤ 59
/-- its day's number from the first one on, and its count -/
def dayT (t : Tmt) : Nat := ydN (t.y - 1) + mdN t.y (t.mo - 1) + (t.d - 1)
def cntT (t : Tmt) : Nat := dayT t * 86400 + t.h * 3600 + t.mi * 60 + t.s
theorem dayT_year {t : Tmt} (h : MayT t) : ydN (t.y - 1) ≤ dayT t ∧ dayT t < ydN t.y := by
  have h1 := h.m1
  have h2 := h.y1
  have h3 := mdN_mono t.y (show t.mo - 1 + 1 ≤ 12 by have := h.m2; omega)
  rw [mdN, show t.mo - 1 + 1 = t.mo by omega, mdN_12] at h3
  have h4 := h.d1
  have h5 := h.d2
  have h6 : ydN t.y = ydN (t.y - 1) + 365 + (if leapY t.y = true then 1 else 0) := by
    conv => lhs; rw [show t.y = t.y - 1 + 1 by omega]
    rw [ydN, show t.y - 1 + 1 = t.y by omega]
  unfold dayT
  omega
theorem dayT_month {t : Tmt} (h : MayT t) : ydN (t.y - 1) + mdN t.y (t.mo - 1) ≤ dayT t ∧ dayT t < ydN (t.y - 1) + mdN t.y t.mo := by
  have h1 := h.m1
  have h4 := h.d1
  have h5 := h.d2
  have h6 : mdN t.y t.mo = mdN t.y (t.mo - 1) + dimM t.y t.mo := by
    conv => lhs; rw [show t.mo = t.mo - 1 + 1 by omega]
    rw [mdN, show t.mo - 1 + 1 = t.mo by omega]
  unfold dayT
  omega
/-- earlier: by years, months, days, hours, minutes, seconds -/
def LtT (t u : Tmt) : Prop := t.y < u.y ∨ (t.y = u.y ∧ (t.mo < u.mo ∨ (t.mo = u.mo ∧ (t.d < u.d ∨ (t.d = u.d ∧ (t.h < u.h ∨ (t.h = u.h ∧ (t.mi < u.mi ∨ (t.mi = u.mi ∧ t.s < u.s)))))))))
theorem day_lt {t u : Tmt} (ht : MayT t) (hu : MayT u) (h : t.y < u.y ∨ (t.y = u.y ∧ (t.mo < u.mo ∨ (t.mo = u.mo ∧ t.d < u.d)))) : dayT t < dayT u := by
  rcases h with h | ⟨e, h | ⟨e2, h⟩⟩
  · have h1 := dayT_year ht
    have h2 := dayT_year hu
    have h3 := ydN_mono (show t.y ≤ u.y - 1 by omega)
    omega
  · have h1 := dayT_month ht
    have h2 := dayT_month hu
    have h3 := mdN_mono t.y (show t.mo ≤ u.mo - 1 by omega)
    rw [← e] at h2
    omega
  · have h1 := ht.d1
    unfold dayT
    rw [e, e2]
    omega
theorem cnt_lt {t u : Tmt} (ht : MayT t) (hu : MayT u) (h : LtT t u) : cntT t < cntT u := by
  have h1 := ht.h2
  have h2 := ht.i2
  have h3 := ht.s2
  unfold cntT
  by_cases hd : t.y < u.y ∨ (t.y = u.y ∧ (t.mo < u.mo ∨ (t.mo = u.mo ∧ t.d < u.d)))
  · have := day_lt ht hu hd
    omega
  · have e : t.y = u.y ∧ t.mo = u.mo ∧ t.d = u.d ∧ (t.h < u.h ∨ (t.h = u.h ∧ (t.mi < u.mi ∨ (t.mi = u.mi ∧ t.s < u.s)))) := by
      unfold LtT at h
      omega
    have e2 : dayT t = dayT u := by unfold dayT; rw [e.1, e.2.1, e.2.2.1]
    have := e.2.2.2
    omega
theorem lt_tri (t u : Tmt) : LtT t u ∨ t = u ∨ LtT u t := by
  obtain ⟨a, b, c, d, e, f⟩ := t
  obtain ⟨a', b', c', d', e', f'⟩ := u
  unfold LtT
  simp only [Tmt.mk.injEq]
  omega
/-- one moment alone has a count; the earlier one has the lesser one -/
theorem cnt_inj {t u : Tmt} (ht : MayT t) (hu : MayT u) (h : cntT t = cntT u) : t = u := by
  rcases lt_tri t u with h1 | h1 | h1
  · have := cnt_lt ht hu h1; omega
  · exact h1
  · have := cnt_lt hu ht h1; omega
theorem cnt_iff {t u : Tmt} (ht : MayT t) (hu : MayT u) : cntT t < cntT u ↔ LtT t u := by
  refine ⟨fun h => ?_, cnt_lt ht hu⟩
  rcases lt_tri t u with h1 | h1 | h1
  · exact h1
  · subst h1; omega
  · have := cnt_lt hu ht h1; omega
theorem cnt_hi {t : Tmt} (h : MayT t) : cntT t < 315537897600 := by
  have h1 := dayT_year h
  have h2 := ydN_mono h.y2
  have h3 : ydN 9999 = 3652059 := by have := ydN_eq 9999; omega
  have := h.h2
  have := h.i2
  have := h.s2
  unfold cntT
  omega
/-- each count below the last has its moment -/
theorem year_of (d : Nat) (h : d < 3652059) : ∃ y, 1 ≤ y ∧ y ≤ 9999 ∧ ydN (y - 1) ≤ d ∧ d < ydN y := by
  have key : ∀ k, d < ydN k → ∃ y, 1 ≤ y ∧ y ≤ k ∧ ydN (y - 1) ≤ d ∧ d < ydN y := by
    intro k
    induction k with
    | zero => intro h; exact absurd h (Nat.not_lt_zero _)
    | succ k ih =>
      intro hk
      rcases Nat.lt_or_ge d (ydN k) with h1 | h1
      · obtain ⟨y, a, b, c⟩ := ih h1
        exact ⟨y, a, by omega, c⟩
      · exact ⟨k + 1, by omega, Nat.le_refl _, h1, hk⟩
  exact key 9999 (by have := ydN_eq 9999; omega)
theorem month_of (y d : Nat) (h : d < mdN y 12) : ∃ m, 1 ≤ m ∧ m ≤ 12 ∧ mdN y (m - 1) ≤ d ∧ d < mdN y m := by
  have key : ∀ k, d < mdN y k → ∃ m, 1 ≤ m ∧ m ≤ k ∧ mdN y (m - 1) ≤ d ∧ d < mdN y m := by
    intro k
    induction k with
    | zero => intro h; exact absurd h (Nat.not_lt_zero _)
    | succ k ih =>
      intro hk
      rcases Nat.lt_or_ge d (mdN y k) with h1 | h1
      · obtain ⟨m, a, b, c⟩ := ih h1
        exact ⟨m, a, by omega, c⟩
      · exact ⟨k + 1, by omega, Nat.le_refl _, h1, hk⟩
  exact key 12 h
theorem moment_of (c : Nat) (h : c < 315537897600) : ∃ t, MayT t ∧ cntT t = c := by
  obtain ⟨y, y1, y2, y3, y4⟩ := year_of (c / 86400) (by omega)
  have hy : ydN y = ydN (y - 1) + mdN y 12 := by
    conv => lhs; rw [show y = y - 1 + 1 by omega]
    rw [ydN, show y - 1 + 1 = y by omega, mdN_12]
    omega
  obtain ⟨m, m1, m2, m3, m4⟩ := month_of y (c / 86400 - ydN (y - 1)) (by omega)
  have hm : mdN y m = mdN y (m - 1) + dimM y m := by
    conv => lhs; rw [show m = m - 1 + 1 by omega]
    rw [mdN, show m - 1 + 1 = m by omega]
  refine ⟨⟨y, m, c / 86400 - ydN (y - 1) - mdN y (m - 1) + 1, c % 86400 / 3600, c % 3600 / 60, c % 60⟩, ⟨y1, y2, m1, m2, by show 1 ≤ _ + 1; omega, by show _ + 1 ≤ dimM y m; omega, by show c % 86400 / 3600 ≤ 23; omega, by show c % 3600 / 60 ≤ 59; omega, by show c % 60 ≤ 59; omega⟩, ?_⟩
  show (ydN (y - 1) + mdN y (m - 1) + (c / 86400 - ydN (y - 1) - mdN y (m - 1) + 1 - 1)) * 86400 + c % 86400 / 3600 * 3600 + c % 3600 / 60 * 60 + c % 60 = c
  have e : ydN (y - 1) + mdN y (m - 1) + (c / 86400 - ydN (y - 1) - mdN y (m - 1) + 1 - 1) = c / 86400 := by omega
  rw [e]
  omega
end Go.Proofs.Ythookcnkmlmgcaa
