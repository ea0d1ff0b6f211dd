/-
  Names' bytes, plain: what may be, its bytes, and that unlike names have unlike bytes. T: whether bytes are a text of a mark.
  Moments: days of months and years, the count of seconds; plain (for layer 8).
  Moments as digits: two digits a number, their marks; plain (for layer 8).
-/
import Derived.Test.YthookcnkmlmgcaaDoorM1
import Derived.WalkKit
import Derived.Test.YthookcnkmlmgcaaDoorM0
namespace Go.Proofs.YthookcnkmlmgcaaDoor
open Go
set_option maxRecDepth 4000

/-- what stands ahead decides -/
theorem elm_cut {m m' : BitVec 8} {x y r s : List (BitVec 8)} (h : elm m x ++ r = elm m' y ++ s) (hx : x.length ≤ 65535) (hy : y.length ≤ 65535) (hm : mkB m = true) (hm' : mkB m' = true) : m = m' ∧ x = y ∧ r = s := by
  have e1 : El (elm m x ++ r) m x r := ⟨hm, hx, rfl⟩
  have e2 : El (elm m x ++ r) m' y s := ⟨hm', hy, h⟩
  have hl : x.length = y.length := (lnOf_el e1).symm.trans (lnOf_el e2)
  obtain ⟨a1, _, _, _, a5, a6⟩ := el_parts e1
  obtain ⟨b1, _, _, _, b5, b6⟩ := el_parts e2
  rw [← hl] at b5 b6
  exact ⟨a1.symm.trans b1, a5.symm.trans b5, a6.symm.trans b6⟩
theorem elm_inj {m m' : BitVec 8} {x y : List (BitVec 8)} (h : elm m x = elm m' y) (hx : x.length ≤ 65535) (hy : y.length ≤ 65535) (hm : mkB m = true) (hm' : mkB m' = true) : m = m' ∧ x = y := by
  have := elm_cut (r := []) (s := []) (by rw [h]) hx hy hm hm'
  exact ⟨this.1, this.2.1⟩
/-- an element -/
def IsEl (z : List (BitVec 8)) : Prop := ∃ m x, mkB m = true ∧ x.length ≤ 65535 ∧ z = elm m x
theorem IsEl.ne {z : List (BitVec 8)} (h : IsEl z) : z ≠ [] := by
  obtain ⟨m, x, _, _, rfl⟩ := h
  intro e
  have := congrArg List.length e
  rw [elm_len] at this
  have h2 := hdn_lo x.length
  simp at this
  omega
/-- elements one behind the other are told apart -/
theorem flat_inj : ∀ {a b : List (List (BitVec 8))}, (∀ z ∈ a, IsEl z) → (∀ z ∈ b, IsEl z) → a.flatten = b.flatten → a = b
  | [], [], _, _, _ => rfl
  | [], z :: b, _, hb, h => by
    have := (hb z (by simp)).ne
    simp at h
    exact absurd h.1 this
  | z :: a, [], ha, _, h => by
    have := (ha z (by simp)).ne
    simp at h
    exact absurd h.1 this
  | z :: a, y :: b, ha, hb, h => by
    obtain ⟨m, x, hm, hx, rfl⟩ := ha z (by simp)
    obtain ⟨m', x', hm', hx', rfl⟩ := hb y (by simp)
    rw [List.flatten_cons, List.flatten_cons] at h
    obtain ⟨rfl, rfl, h3⟩ := elm_cut h hx hx' hm hm'
    rw [flat_inj (fun z hz => ha z (by simp [hz])) (fun z hz => hb z (by simp [hz])) h3]
section
variable (T : BitVec 8 → List (BitVec 8) → Bool)
/-- may an attribute be? -/
structure MayA (a : Atr) : Prop where
  oid : OidP a.ty
  mark : a.mark = 12 ∨ a.mark = 19
  lo : 1 ≤ a.tx.length
  hi : a.tx.length ≤ 64
  text : T a.mark a.tx = true
def atrB (a : Atr) : List (BitVec 8) := elm 48 (elm 6 (oidB a.ty) ++ elm a.mark a.tx)
/-- the order of bytes -/
def Lt8 (a b : List (BitVec 8)) : Prop := a.map UInt8.ofBitVec < b.map UInt8.ofBitVec
structure MayS (s : List Atr) : Prop where
  lo : 1 ≤ s.length
  hi : s.length ≤ 4
  all : ∀ a ∈ s, MayA T a
  rise : (s.map atrB).Pairwise Lt8
def stpB (s : List Atr) : List (BitVec 8) := elm 49 (s.map atrB).flatten
structure MayN (n : List (List Atr)) : Prop where
  hi : n.length ≤ 8
  all : ∀ s ∈ n, MayS T s
def namB (n : List (List Atr)) : List (BitVec 8) := elm 48 (n.map stpB).flatten
variable {T}
theorem MayA.mkb {a : Atr} (h : MayA T a) : mkB a.mark = true := by
  rcases h.mark with e | e <;> rw [e] <;> decide
theorem elm_hi (m : BitVec 8) (x : List (BitVec 8)) : (elm m x).length ≤ x.length + 4 := by
  rw [elm_len]
  have := hdn_hi x.length
  omega
theorem MayA.body {a : Atr} (h : MayA T a) : (elm 6 (oidB a.ty) ++ elm a.mark a.tx).length ≤ 147 := by
  have h1 := oidB_len h.oid
  have h2 := elm_hi 6 (oidB a.ty)
  have h3 := elm_hi a.mark a.tx
  have h4 := h.hi
  rw [List.length_append]
  omega
theorem MayA.len {a : Atr} (h : MayA T a) : (atrB a).length ≤ 151 := by
  have h1 := h.body
  have h2 := elm_hi 48 (elm 6 (oidB a.ty) ++ elm a.mark a.tx)
  unfold atrB
  omega
theorem MayA.el {a : Atr} (h : MayA T a) : IsEl (atrB a) := ⟨48, _, by decide, by have := h.body; omega, rfl⟩
theorem atrB_inj {a b : Atr} (ha : MayA T a) (hb : MayA T b) (h : atrB a = atrB b) : a = b := by
  obtain ⟨_, h1⟩ := elm_inj h (by have := ha.body; omega) (by have := hb.body; omega) (by decide) (by decide)
  have h1a := oidB_len ha.oid
  have h1b := oidB_len hb.oid
  have h2 := ha.hi
  have h3 := hb.hi
  obtain ⟨_, e1, e2⟩ := elm_cut h1 (by omega) (by omega) (by decide) (by decide)
  obtain ⟨e3, e4⟩ := elm_inj e2 (by omega) (by omega) ha.mkb hb.mkb
  have e5 := oid_inj ha.oid hb.oid e1
  cases a
  cases b
  simp_all
theorem flat_len {k : Nat} : ∀ {l : List (List (BitVec 8))}, (∀ z ∈ l, z.length ≤ k) → l.flatten.length ≤ l.length * k
  | [], _ => by simp
  | z :: l, h => by
    have h1 := h z (by simp)
    have h2 := flat_len (k := k) (l := l) (fun y hy => h y (by simp [hy]))
    rw [List.flatten_cons, List.length_append, List.length_cons, Nat.succ_mul]
    omega
theorem MayS.body {s : List Atr} (h : MayS T s) : (s.map atrB).flatten.length ≤ 604 := by
  have h1 := flat_len (k := 151) (l := s.map atrB) (fun z hz => by
    obtain ⟨a, ha, rfl⟩ := List.mem_map.1 hz
    exact (h.all a ha).len)
  rw [List.length_map] at h1
  have h2 := h.hi
  have h3 : s.length * 151 ≤ 4 * 151 := Nat.mul_le_mul_right _ h2
  omega
theorem MayS.len {s : List Atr} (h : MayS T s) : (stpB s).length ≤ 608 := by
  have h1 := h.body
  have h2 := elm_hi 49 (s.map atrB).flatten
  unfold stpB
  omega
theorem MayS.el {s : List Atr} (h : MayS T s) : IsEl (stpB s) := ⟨49, _, by decide, by have := h.body; omega, rfl⟩
theorem MayN.body {n : List (List Atr)} (h : MayN T n) : (n.map stpB).flatten.length ≤ 4864 := by
  have h1 := flat_len (k := 608) (l := n.map stpB) (fun z hz => by
    obtain ⟨a, ha, rfl⟩ := List.mem_map.1 hz
    exact (h.all a ha).len)
  rw [List.length_map] at h1
  have h2 := h.hi
  have h3 : n.length * 608 ≤ 8 * 608 := Nat.mul_le_mul_right _ h2
  omega
theorem MayN.len {n : List (List Atr)} (h : MayN T n) : (namB n).length ≤ 4868 := by
  have h1 := h.body
  have h2 := elm_hi 48 (n.map stpB).flatten
  unfold namB
  omega
theorem map_inj_on {α β : Type} {f : α → β} {P : α → Prop} (hf : ∀ a b, P a → P b → f a = f b → a = b) : ∀ {l k : List α}, (∀ a ∈ l, P a) → (∀ a ∈ k, P a) → l.map f = k.map f → l = k
  | [], [], _, _, _ => rfl
  | [], b :: k, _, _, h => by simp at h
  | a :: l, [], _, _, h => by simp at h
  | a :: l, b :: k, hl, hk, h => by
    rw [List.map_cons, List.map_cons] at h
    injection h with h1 h2
    rw [hf a b (hl a (by simp)) (hk b (by simp)) h1, map_inj_on hf (fun x hx => hl x (by simp [hx])) (fun x hx => hk x (by simp [hx])) h2]
theorem stpB_inj {s t : List Atr} (hs : MayS T s) (ht : MayS T t) (h : stpB s = stpB t) : s = t := by
  obtain ⟨_, h1⟩ := elm_inj h (by have := hs.body; omega) (by have := ht.body; omega) (by decide) (by decide)
  have h2 := flat_inj (fun z hz => by obtain ⟨a, ha, rfl⟩ := List.mem_map.1 hz; exact (hs.all a ha).el) (fun z hz => by obtain ⟨a, ha, rfl⟩ := List.mem_map.1 hz; exact (ht.all a ha).el) h1
  exact map_inj_on (P := MayA T) (fun a b ha hb e => atrB_inj ha hb e) hs.all ht.all h2
/-- unlike names have unlike bytes -/
theorem namB_inj {n m : List (List Atr)} (hn : MayN T n) (hm : MayN T m) (h : namB n = namB m) : n = m := by
  obtain ⟨_, h1⟩ := elm_inj h (by have := hn.body; omega) (by have := hm.body; omega) (by decide) (by decide)
  have h2 := flat_inj (fun z hz => by obtain ⟨a, ha, rfl⟩ := List.mem_map.1 hz; exact (hn.all a ha).el) (fun z hz => by obtain ⟨a, ha, rfl⟩ := List.mem_map.1 hz; exact (hm.all a ha).el) h1
  exact map_inj_on (P := MayS T) (fun a b ha hb e => stpB_inj ha hb e) hn.all hm.all h2
/-- with a byte more they are none's -/
theorem namB_more {n m : List (List Atr)} (hn : MayN T n) (hm : MayN T m) (x : BitVec 8) : namB n ++ [x] ≠ namB m := fun h => by
  have h1 : namB n ++ [x] = namB m ++ [] := by rw [h, List.append_nil]
  obtain ⟨_, _, h2⟩ := elm_cut h1 (by have := hn.body; omega) (by have := hm.body; omega) (by decide) (by decide)
  simp at h2
end
end Go.Proofs.YthookcnkmlmgcaaDoor
namespace Go.Proofs.YthookcnkmlmgcaaDoor
open Go
set_option maxRecDepth 4000

/-- has a year 366 days; how many days a month has -/
def leapY (y : Nat) : Bool := y % 400 == 0 || (y % 4 == 0 && y % 100 != 0)
def dimM (y m : Nat) : Nat := if m = 2 then (if leapY y = true then 29 else 28) else if m = 4 ∨ m = 6 ∨ m = 9 ∨ m = 11 then 30 else 31
/-- how many days the first k years have; the first m months of a year -/
def ydN : Nat → Nat
  | 0 => 0
  | k + 1 => ydN k + 365 + (if leapY (k + 1) = true then 1 else 0)
def mdN (y : Nat) : Nat → Nat
  | 0 => 0
  | m + 1 => mdN y m + dimM y (m + 1)
theorem leap_eq (y : Nat) : (leapY y = true) ↔ (y % 400 = 0 ∨ (y % 4 = 0 ∧ y % 100 ≠ 0)) := by
  unfold leapY
  simp
theorem ydN_eq (k : Nat) : ydN k + k / 100 = 365 * k + k / 4 + k / 400 := by
  induction k with
  | zero => rfl
  | succ k ih =>
    rw [ydN]
    by_cases h : leapY (k + 1) = true
    · rw [if_pos h]
      rw [leap_eq] at h
      omega
    · rw [if_neg h]
      rw [leap_eq] at h
      omega
theorem dim_lo (y m : Nat) : 28 ≤ dimM y m := by unfold dimM; split; split <;> omega; split <;> omega
theorem dim_hi (y m : Nat) : dimM y m ≤ 31 := by unfold dimM; split; split <;> omega; split <;> omega
theorem mdN_12 (y : Nat) : mdN y 12 = 365 + (if leapY y = true then 1 else 0) := by
  by_cases h : leapY y = true <;> simp [mdN, dimM, h]
theorem mdN_mono (y : Nat) {a b : Nat} (h : a ≤ b) : mdN y a ≤ mdN y b := by
  induction b with
  | zero => rw [Nat.le_zero.1 h]; exact Nat.le_refl _
  | succ b ih =>
    rcases Nat.lt_or_ge a (b + 1) with h1 | h1
    · rw [mdN]
      have := ih (by omega)
      omega
    · rw [show a = b + 1 by omega]
      exact Nat.le_refl _
theorem ydN_mono {a b : Nat} (h : a ≤ b) : ydN a ≤ ydN b := by
  induction b with
  | zero => rw [Nat.le_zero.1 h]; exact Nat.le_refl _
  | succ b ih =>
    rcases Nat.lt_or_ge a (b + 1) with h1 | h1
    · rw [ydN]
      have := ih (by omega)
      omega
    · rw [show a = b + 1 by omega]
      exact Nat.le_refl _
/-- a moment -/
structure Tmt where
  y : Nat
  mo : Nat
  d : Nat
  h : Nat
  mi : Nat
  s : Nat
/-- may it be? -/
structure MayT (t : Tmt) : Prop where
  y1 : 1 ≤ t.y
  y2 : t.y ≤ 9999
  m1 : 1 ≤ t.mo
  m2 : t.mo ≤ 12
  d1 : 1 ≤ t.d
  d2 : t.d ≤ dimM t.y t.mo
  h2 : t.h ≤ 23
  i2 : t.mi ≤ 59
  s2 : t.s ≤ 59
/-- its day's number from the first one on, and its count -/
def dayT (t : Tmt) : Nat := ydN (t.y - 1) + mdN t.y (t.mo - 1) + (t.d - 1)
def cntT (t : Tmt) : Nat := dayT t * 86400 + t.h * 3600 + t.mi * 60 + t.s
theorem dayT_year {t : Tmt} (h : MayT t) : ydN (t.y - 1) ≤ dayT t ∧ dayT t < ydN t.y := by
  have h1 := h.m1
  have h2 := h.y1
  have h3 := mdN_mono t.y (show t.mo - 1 + 1 ≤ 12 by have := h.m2; omega)
  rw [mdN, show t.mo - 1 + 1 = t.mo by omega, mdN_12] at h3
  have h4 := h.d1
  have h5 := h.d2
  have h6 : ydN t.y = ydN (t.y - 1) + 365 + (if leapY t.y = true then 1 else 0) := by
    conv => lhs; rw [show t.y = t.y - 1 + 1 by omega]
    rw [ydN, show t.y - 1 + 1 = t.y by omega]
  unfold dayT
  omega
theorem dayT_month {t : Tmt} (h : MayT t) : ydN (t.y - 1) + mdN t.y (t.mo - 1) ≤ dayT t ∧ dayT t < ydN (t.y - 1) + mdN t.y t.mo := by
  have h1 := h.m1
  have h4 := h.d1
  have h5 := h.d2
  have h6 : mdN t.y t.mo = mdN t.y (t.mo - 1) + dimM t.y t.mo := by
    conv => lhs; rw [show t.mo = t.mo - 1 + 1 by omega]
    rw [mdN, show t.mo - 1 + 1 = t.mo by omega]
  unfold dayT
  omega
/-- earlier: by years, months, days, hours, minutes, seconds -/
def LtT (t u : Tmt) : Prop := t.y < u.y ∨ (t.y = u.y ∧ (t.mo < u.mo ∨ (t.mo = u.mo ∧ (t.d < u.d ∨ (t.d = u.d ∧ (t.h < u.h ∨ (t.h = u.h ∧ (t.mi < u.mi ∨ (t.mi = u.mi ∧ t.s < u.s)))))))))
theorem day_lt {t u : Tmt} (ht : MayT t) (hu : MayT u) (h : t.y < u.y ∨ (t.y = u.y ∧ (t.mo < u.mo ∨ (t.mo = u.mo ∧ t.d < u.d)))) : dayT t < dayT u := by
  rcases h with h | ⟨e, h | ⟨e2, h⟩⟩
  · have h1 := dayT_year ht
    have h2 := dayT_year hu
    have h3 := ydN_mono (show t.y ≤ u.y - 1 by omega)
    omega
  · have h1 := dayT_month ht
    have h2 := dayT_month hu
    have h3 := mdN_mono t.y (show t.mo ≤ u.mo - 1 by omega)
    rw [← e] at h2
    omega
  · have h1 := ht.d1
    unfold dayT
    rw [e, e2]
    omega
theorem cnt_lt {t u : Tmt} (ht : MayT t) (hu : MayT u) (h : LtT t u) : cntT t < cntT u := by
  have h1 := ht.h2
  have h2 := ht.i2
  have h3 := ht.s2
  unfold cntT
  by_cases hd : t.y < u.y ∨ (t.y = u.y ∧ (t.mo < u.mo ∨ (t.mo = u.mo ∧ t.d < u.d)))
  · have := day_lt ht hu hd
    omega
  · have e : t.y = u.y ∧ t.mo = u.mo ∧ t.d = u.d ∧ (t.h < u.h ∨ (t.h = u.h ∧ (t.mi < u.mi ∨ (t.mi = u.mi ∧ t.s < u.s)))) := by
      unfold LtT at h
      omega
    have e2 : dayT t = dayT u := by unfold dayT; rw [e.1, e.2.1, e.2.2.1]
    have := e.2.2.2
    omega
theorem lt_tri (t u : Tmt) : LtT t u ∨ t = u ∨ LtT u t := by
  obtain ⟨a, b, c, d, e, f⟩ := t
  obtain ⟨a', b', c', d', e', f'⟩ := u
  unfold LtT
  simp only [Tmt.mk.injEq]
  omega
/-- one moment alone has a count; the earlier one has the lesser one -/
theorem cnt_inj {t u : Tmt} (ht : MayT t) (hu : MayT u) (h : cntT t = cntT u) : t = u := by
  rcases lt_tri t u with h1 | h1 | h1
  · have := cnt_lt ht hu h1; omega
  · exact h1
  · have := cnt_lt hu ht h1; omega
theorem cnt_iff {t u : Tmt} (ht : MayT t) (hu : MayT u) : cntT t < cntT u ↔ LtT t u := by
  refine ⟨fun h => ?_, cnt_lt ht hu⟩
  rcases lt_tri t u with h1 | h1 | h1
  · exact h1
  · subst h1; omega
  · have := cnt_lt hu ht h1; omega
theorem cnt_hi {t : Tmt} (h : MayT t) : cntT t < 315537897600 := by
  have h1 := dayT_year h
  have h2 := ydN_mono h.y2
  have h3 : ydN 9999 = 3652059 := by have := ydN_eq 9999; omega
  have := h.h2
  have := h.i2
  have := h.s2
  unfold cntT
  omega
/-- each count below the last has its moment -/
theorem year_of (d : Nat) (h : d < 3652059) : ∃ y, 1 ≤ y ∧ y ≤ 9999 ∧ ydN (y - 1) ≤ d ∧ d < ydN y := by
  have key : ∀ k, d < ydN k → ∃ y, 1 ≤ y ∧ y ≤ k ∧ ydN (y - 1) ≤ d ∧ d < ydN y := by
    intro k
    induction k with
    | zero => intro h; exact absurd h (Nat.not_lt_zero _)
    | succ k ih =>
      intro hk
      rcases Nat.lt_or_ge d (ydN k) with h1 | h1
      · obtain ⟨y, a, b, c⟩ := ih h1
        exact ⟨y, a, by omega, c⟩
      · exact ⟨k + 1, by omega, Nat.le_refl _, h1, hk⟩
  exact key 9999 (by have := ydN_eq 9999; omega)
theorem month_of (y d : Nat) (h : d < mdN y 12) : ∃ m, 1 ≤ m ∧ m ≤ 12 ∧ mdN y (m - 1) ≤ d ∧ d < mdN y m := by
  have key : ∀ k, d < mdN y k → ∃ m, 1 ≤ m ∧ m ≤ k ∧ mdN y (m - 1) ≤ d ∧ d < mdN y m := by
    intro k
    induction k with
    | zero => intro h; exact absurd h (Nat.not_lt_zero _)
    | succ k ih =>
      intro hk
      rcases Nat.lt_or_ge d (mdN y k) with h1 | h1
      · obtain ⟨m, a, b, c⟩ := ih h1
        exact ⟨m, a, by omega, c⟩
      · exact ⟨k + 1, by omega, Nat.le_refl _, h1, hk⟩
  exact key 12 h
theorem moment_of (c : Nat) (h : c < 315537897600) : ∃ t, MayT t ∧ cntT t = c := by
  obtain ⟨y, y1, y2, y3, y4⟩ := year_of (c / 86400) (by omega)
  have hy : ydN y = ydN (y - 1) + mdN y 12 := by
    conv => lhs; rw [show y = y - 1 + 1 by omega]
    rw [ydN, show y - 1 + 1 = y by omega, mdN_12]
    omega
  obtain ⟨m, m1, m2, m3, m4⟩ := month_of y (c / 86400 - ydN (y - 1)) (by omega)
  have hm : mdN y m = mdN y (m - 1) + dimM y m := by
    conv => lhs; rw [show m = m - 1 + 1 by omega]
    rw [mdN, show m - 1 + 1 = m by omega]
  refine ⟨⟨y, m, c / 86400 - ydN (y - 1) - mdN y (m - 1) + 1, c % 86400 / 3600, c % 3600 / 60, c % 60⟩, ⟨y1, y2, m1, m2, by show 1 ≤ _ + 1; omega, by show _ + 1 ≤ dimM y m; omega, by show c % 86400 / 3600 ≤ 23; omega, by show c % 3600 / 60 ≤ 59; omega, by show c % 60 ≤ 59; omega⟩, ?_⟩
  show (ydN (y - 1) + mdN y (m - 1) + (c / 86400 - ydN (y - 1) - mdN y (m - 1) + 1 - 1)) * 86400 + c % 86400 / 3600 * 3600 + c % 3600 / 60 * 60 + c % 60 = c
  have e : ydN (y - 1) + mdN y (m - 1) + (c / 86400 - ydN (y - 1) - mdN y (m - 1) + 1 - 1) = c / 86400 := by omega
  rw [e]
  omega
end Go.Proofs.YthookcnkmlmgcaaDoor
namespace Go.Proofs.YthookcnkmlmgcaaDoor
open Go
set_option maxRecDepth 4000

/-- a number below 100 in two digits; is a byte a digit; the number of two -/
def d2 (n : Nat) : List (BitVec 8) := [BitVec.ofNat 8 (48 + n / 10 % 10), BitVec.ofNat 8 (48 + n % 10)]
def digB (x : BitVec 8) : Bool := decide (48 ≤ x.toNat) && decide (x.toNat ≤ 57)
def r2 (x y : BitVec 8) : Nat := 10 * (x.toNat - 48) + (y.toNat - 48)
theorem d2_len (n : Nat) : (d2 n).length = 2 := rfl
theorem d2_digit (n : Nat) : digB (gb (d2 n) 0) = true ∧ digB (gb (d2 n) 1) = true := by
  have h1 : (BitVec.ofNat 8 (48 + n / 10 % 10)).toNat = 48 + n / 10 % 10 := by rw [BitVec.toNat_ofNat]; omega
  have h2 : (BitVec.ofNat 8 (48 + n % 10)).toNat = 48 + n % 10 := by rw [BitVec.toNat_ofNat]; omega
  constructor
  · show digB (BitVec.ofNat 8 (48 + n / 10 % 10)) = true
    unfold digB
    rw [h1, decide_eq_true (by omega), decide_eq_true (by omega)]
    rfl
  · show digB (BitVec.ofNat 8 (48 + n % 10)) = true
    unfold digB
    rw [h2, decide_eq_true (by omega), decide_eq_true (by omega)]
    rfl
theorem r2_d2 (n : Nat) (h : n < 100) : r2 (gb (d2 n) 0) (gb (d2 n) 1) = n := by
  show 10 * ((BitVec.ofNat 8 (48 + n / 10 % 10)).toNat - 48) + ((BitVec.ofNat 8 (48 + n % 10)).toNat - 48) = n
  rw [BitVec.toNat_ofNat, BitVec.toNat_ofNat]
  omega
theorem d2_r2 (x y : BitVec 8) (hx : digB x = true) (hy : digB y = true) : d2 (r2 x y) = [x, y] ∧ r2 x y < 100 := by
  unfold digB at hx hy
  simp only [Bool.and_eq_true, decide_eq_true_eq] at hx hy
  refine ⟨?_, by unfold r2; omega⟩
  unfold d2 r2
  congr 1
  · apply BitVec.eq_of_toNat_eq
    rw [BitVec.toNat_ofNat]
    omega
  · congr 1
    apply BitVec.eq_of_toNat_eq
    rw [BitVec.toNat_ofNat]
    omega
theorem d2_inj {a b : Nat} (ha : a < 100) (hb : b < 100) (h : d2 a = d2 b) : a = b := by rw [← r2_d2 a ha, h, r2_d2 b hb]
/-- a moment's mark and body -/
def tmM (t : Tmt) : BitVec 8 := if 1950 ≤ t.y ∧ t.y ≤ 2049 then 23 else 24
def tmR (t : Tmt) : List (BitVec 8) := d2 t.mo ++ (d2 t.d ++ (d2 t.h ++ (d2 t.mi ++ (d2 t.s ++ [90]))))
def tmB (t : Tmt) : List (BitVec 8) := if 1950 ≤ t.y ∧ t.y ≤ 2049 then d2 (t.y % 100) ++ tmR t else d2 (t.y / 100) ++ (d2 (t.y % 100) ++ tmR t)
theorem tmR_len (t : Tmt) : (tmR t).length = 11 := rfl
theorem tmB_len (t : Tmt) : (tmB t).length = if 1950 ≤ t.y ∧ t.y ≤ 2049 then 13 else 15 := by unfold tmB; split <;> rfl
theorem d2_cut {a b : Nat} {x y : List (BitVec 8)} (h : d2 a ++ x = d2 b ++ y) : d2 a = d2 b ∧ x = y := List.append_inj h rfl
theorem tmR_inj {t u : Tmt} (ht : MayT t) (hu : MayT u) (h : tmR t = tmR u) : t.mo = u.mo ∧ t.d = u.d ∧ t.h = u.h ∧ t.mi = u.mi ∧ t.s = u.s := by
  have a1 := ht.m2
  have a2 := ht.d2
  have a3 := dim_hi t.y t.mo
  have a4 := ht.h2
  have a5 := ht.i2
  have a6 := ht.s2
  have b1 := hu.m2
  have b2 := hu.d2
  have b3 := dim_hi u.y u.mo
  have b4 := hu.h2
  have b5 := hu.i2
  have b6 := hu.s2
  obtain ⟨h1, h⟩ := d2_cut h
  obtain ⟨h2, h⟩ := d2_cut h
  obtain ⟨h3, h⟩ := d2_cut h
  obtain ⟨h4, h⟩ := d2_cut h
  obtain ⟨h5, _⟩ := d2_cut h
  exact ⟨d2_inj (by omega) (by omega) h1, d2_inj (by omega) (by omega) h2, d2_inj (by omega) (by omega) h3, d2_inj (by omega) (by omega) h4, d2_inj (by omega) (by omega) h5⟩
/-- each moment has a mark and body of its own -/
theorem tmB_inj {t u : Tmt} (ht : MayT t) (hu : MayT u) (hm : tmM t = tmM u) (h : tmB t = tmB u) : t = u := by
  have a1 := ht.y2
  have b1 := hu.y2
  have key : t.y = u.y ∧ tmR t = tmR u := by
    unfold tmM at hm
    unfold tmB at h
    by_cases c : 1950 ≤ t.y ∧ t.y ≤ 2049
    · by_cases c' : 1950 ≤ u.y ∧ u.y ≤ 2049
      · rw [if_pos c, if_pos c'] at h
        obtain ⟨h1, h2⟩ := d2_cut h
        have := d2_inj (by omega) (by omega) h1
        exact ⟨by omega, h2⟩
      · rw [if_pos c, if_neg c'] at hm
        exact absurd hm (by decide)
    · by_cases c' : 1950 ≤ u.y ∧ u.y ≤ 2049
      · rw [if_neg c, if_pos c'] at hm
        exact absurd hm (by decide)
      · rw [if_neg c, if_neg c'] at h
        obtain ⟨h1, h2⟩ := d2_cut h
        obtain ⟨h3, h4⟩ := d2_cut h2
        have e1 := d2_inj (by omega) (by omega) h1
        have e2 := d2_inj (by omega) (by omega) h3
        exact ⟨by omega, h4⟩
  obtain ⟨h1, h2, h3, h4, h5⟩ := tmR_inj ht hu key.2
  obtain ⟨y, mo, d, hh, mi, s⟩ := t
  obtain ⟨y', mo', d', hh', mi', s'⟩ := u
  have h0 := key.1
  simp only at h0 h1 h2 h3 h4 h5
  subst h0 h1 h2 h3 h4 h5
  rfl
end Go.Proofs.YthookcnkmlmgcaaDoor
