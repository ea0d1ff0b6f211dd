/-
  Comparing in three ways; what attributes that are alike have in common, in its order; a sorted list with each once is told by its members. Plain.
  Moments: days of months and years, the count of seconds; plain (for layer 8).
  Moments as digits: two digits a number, their marks; plain (for layer 8).
  What a block of the call's own holds, whole; kept over draws, new blocks, stores elsewhere.
-/
import Derived.Test.YthookcnkmlmgcaaGreatDoorM0
import Derived.WalkKit
import Derived.Deep.Draws
import Derived.ChangeKeysEq
import Derived.StillTailTactics
namespace Go.Proofs.YthookcnkmlmgcaaGreatDoor
open Go
set_option maxRecDepth 4000

/-- a comparison: 0 for the same, the other way round the other sign, handed on -/
structure Cmp3 {α : Type} (c : α → α → Int) : Prop where
  zero : ∀ x y, c x y = 0 ↔ x = y
  anti : ∀ x y, c y x = - c x y
  tr : ∀ x y z, c x y < 0 → c y z < 0 → c x z < 0
theorem Cmp3.refl {α : Type} {c : α → α → Int} (h : Cmp3 c) (x : α) : c x x = 0 := (h.zero x x).2 rfl
/-- lists of numbers -/
def cmpL : List Nat → List Nat → Int
  | [], [] => 0
  | [], _ :: _ => -1
  | _ :: _, [] => 1
  | a :: x, b :: y => if a < b then -1 else if b < a then 1 else cmpL x y
theorem cmpL_zero : ∀ x y : List Nat, cmpL x y = 0 ↔ x = y
  | [], [] => by simp [cmpL]
  | [], _ :: _ => by simp [cmpL]
  | _ :: _, [] => by simp [cmpL]
  | a :: x, b :: y => by
    have ih := cmpL_zero x y
    unfold cmpL
    by_cases h1 : a < b
    · rw [if_pos h1]; simp; omega
    · rw [if_neg h1]
      by_cases h2 : b < a
      · rw [if_pos h2]; simp; omega
      · rw [if_neg h2, ih]
        have : a = b := by omega
        simp [this]
theorem cmpL_anti : ∀ x y : List Nat, cmpL y x = - cmpL x y
  | [], [] => by simp [cmpL]
  | [], _ :: _ => by simp [cmpL]
  | _ :: _, [] => by simp [cmpL]
  | a :: x, b :: y => by
    have ih := cmpL_anti x y
    unfold cmpL
    by_cases h1 : a < b
    · rw [if_neg (by omega : ¬ b < a), if_pos h1, if_pos h1]; simp
    · by_cases h2 : b < a
      · rw [if_pos h2, if_neg h1, if_pos h2]
      · rw [if_neg h2, if_neg h1, if_neg h1, if_neg h2, ih]
theorem cmpL_tr : ∀ x y z : List Nat, cmpL x y < 0 → cmpL y z < 0 → cmpL x z < 0
  | [], [], z, h, _ => by simp [cmpL] at h
  | _ :: _, [], z, h, _ => by simp [cmpL] at h
  | _, _ :: _, [], _, h => by simp [cmpL] at h
  | [], _ :: _, _ :: _, _, _ => by simp [cmpL]
  | a :: x, b :: y, c :: z, h1, h2 => by
    have ih := cmpL_tr x y z
    have e : ∀ (a b : Nat) (x y : List Nat), cmpL (a :: x) (b :: y) = if a < b then -1 else if b < a then 1 else cmpL x y := fun _ _ _ _ => rfl
    rw [e] at h1 h2 ⊢
    by_cases a1 : a < b
    · by_cases b1 : b < c
      · rw [if_pos (by omega)]; omega
      · rw [if_neg b1] at h2
        by_cases b2 : c < b
        · rw [if_pos b2] at h2; omega
        · rw [if_pos (by omega)]; omega
    · rw [if_neg a1] at h1
      by_cases a2 : b < a
      · rw [if_pos a2] at h1; omega
      · rw [if_neg a2] at h1
        obtain rfl : a = b := by omega
        by_cases b1 : a < c
        · rw [if_pos b1]; omega
        · rw [if_neg b1] at h2 ⊢
          by_cases b2 : c < a
          · rw [if_pos b2] at h2; omega
          · rw [if_neg b2] at h2 ⊢
            exact ih h1 h2
theorem cmpL_is : Cmp3 cmpL := ⟨cmpL_zero, cmpL_anti, cmpL_tr⟩
theorem cmpL_lo : ∀ x y : List Nat, -1 ≤ cmpL x y ∧ cmpL x y ≤ 1
  | [], [] => by simp [cmpL]
  | [], _ :: _ => by simp [cmpL]
  | _ :: _, [] => by simp [cmpL]
  | a :: x, b :: y => by
    have ih := cmpL_lo x y
    unfold cmpL
    split
    · omega
    · split
      · omega
      · exact ih
/-- by the first, then by the second -/
def cmp2 {α β : Type} (c : α → α → Int) (d : β → β → Int) (x y : α × β) : Int := if c x.1 y.1 ≠ 0 then c x.1 y.1 else d x.2 y.2
theorem cmp2_is {α β : Type} {c : α → α → Int} {d : β → β → Int} (hc : Cmp3 c) (hd : Cmp3 d) : Cmp3 (cmp2 c d) where
  zero x y := by
    obtain ⟨x1, x2⟩ := x
    obtain ⟨y1, y2⟩ := y
    unfold cmp2
    simp only
    have h1 := hc.zero x1 y1
    have h2 := hd.zero x2 y2
    by_cases h : c x1 y1 = 0
    · rw [if_neg (by simpa using h), h2]
      have := h1.1 h
      simp [this]
    · rw [if_pos h]
      constructor
      · exact fun e => absurd e h
      · intro e
        rw [Prod.mk.injEq] at e
        exact absurd (h1.2 e.1) h
  anti x y := by
    obtain ⟨x1, x2⟩ := x
    obtain ⟨y1, y2⟩ := y
    unfold cmp2
    simp only
    have h1 := hc.anti x1 y1
    have h2 := hd.anti x2 y2
    by_cases h : c x1 y1 = 0
    · rw [if_neg (by omega), if_neg (by omega)]; exact h2
    · rw [if_pos (by omega), if_pos h]; exact h1
  tr x y z h1 h2 := by
    obtain ⟨x1, x2⟩ := x
    obtain ⟨y1, y2⟩ := y
    obtain ⟨z1, z2⟩ := z
    unfold cmp2 at *
    simp only at *
    by_cases a : c x1 y1 = 0
    · rw [if_neg (by omega)] at h1
      have e := (hc.zero _ _).1 a
      subst e
      by_cases b : c x1 z1 = 0
      · rw [if_neg (by omega)] at h2 ⊢
        exact hd.tr _ _ _ h1 h2
      · rw [if_pos b] at h2 ⊢
        exact h2
    · rw [if_pos a] at h1
      by_cases b : c y1 z1 = 0
      · have e := (hc.zero _ _).1 b
        subst e
        rw [if_pos a]
        exact h1
      · rw [if_pos b] at h2
        have := hc.tr _ _ _ h1 h2
        rw [if_pos (by omega)]
        exact this
/-- bytes, as numbers -/
def cmpB (x y : List (BitVec 8)) : Int := cmpL (x.map BitVec.toNat) (y.map BitVec.toNat)
theorem map_toNat_inj : ∀ {x y : List (BitVec 8)}, x.map BitVec.toNat = y.map BitVec.toNat → x = y
  | [], [], _ => rfl
  | [], _ :: _, h => by simp at h
  | _ :: _, [], h => by simp at h
  | a :: x, b :: y, h => by
    rw [List.map_cons, List.map_cons] at h
    injection h with h1 h2
    rw [BitVec.eq_of_toNat_eq h1, map_toNat_inj h2]
theorem cmpB_is : Cmp3 cmpB := ⟨fun x y => (cmpL_zero _ _).trans ⟨map_toNat_inj, fun e => by rw [e]⟩, fun _ _ => cmpL_anti _ _, fun _ _ _ => cmpL_tr _ _ _⟩
/-- what attributes that are alike have in common -/
abbrev Sns := List Nat × List (BitVec 8)
def snA (a : Atr) : Sns := (a.ty, plainL a.tx)
def cmpS : Sns → Sns → Int := cmp2 cmpL cmpB
theorem cmpS_is : Cmp3 cmpS := cmp2_is cmpL_is cmpB_is
theorem alA_iff {a b : Atr} : alA a b = true ↔ snA a = snA b := by
  unfold alA snA
  rw [Bool.and_eq_true, decide_eq_true_eq, decide_eq_true_eq, Prod.mk.injEq]
theorem alS_mem {s t : List Atr} : alS s t = true ↔ ∀ x, x ∈ s.map snA ↔ x ∈ t.map snA := by
  rw [alS_iff]
  simp only [List.mem_map, alA_iff]
  constructor
  · rintro ⟨h1, h2⟩ x
    constructor
    · rintro ⟨a, ha, rfl⟩
      obtain ⟨b, hb, e⟩ := h1 a ha
      exact ⟨b, hb, e⟩
    · rintro ⟨b, hb, rfl⟩
      obtain ⟨a, ha, e⟩ := h2 b hb
      exact ⟨a, ha, e⟩
  · intro h
    exact ⟨fun a ha => (h _).1 ⟨a, ha, rfl⟩, fun b hb => (h _).2 ⟨b, hb, rfl⟩⟩
section
variable {α : Type} {c : α → α → Int}
/-- rising: each less than all behind it -/
def Ris (c : α → α → Int) (l : List α) : Prop := l.Pairwise fun x y => c x y < 0
theorem ris_one (hc : Cmp3 c) : ∀ {l k : List α}, Ris c l → Ris c k → (∀ x, x ∈ l ↔ x ∈ k) → l = k
  | [], [], _, _, _ => rfl
  | [], b :: k, _, _, h => absurd ((h b).2 (by simp)) (by simp)
  | a :: l, [], _, _, h => absurd ((h a).1 (by simp)) (by simp)
  | a :: l, b :: k, hl, hk, h => by
    have hl' := List.pairwise_cons.1 hl
    have hk' := List.pairwise_cons.1 hk
    have e : a = b := by
      rcases List.mem_cons.1 ((h a).1 (by simp)) with e | h1
      · exact e
      · rcases List.mem_cons.1 ((h b).2 (by simp)) with e | h2
        · exact e.symm
        · have a1 := hk'.1 a h1
          have a2 := hl'.1 b h2
          have a3 := hc.anti a b
          omega
    subst e
    have h2 : ∀ x, x ∈ l ↔ x ∈ k := fun x => by
      have hx := h x
      rw [List.mem_cons, List.mem_cons] at hx
      constructor
      · intro hm
        rcases hx.1 (.inr hm) with e | h3
        · subst e
          have := hl'.1 x hm
          have := hc.refl x
          omega
        · exact h3
      · intro hm
        rcases hx.2 (.inr hm) with e | h3
        · subst e
          have := hk'.1 x hm
          have := hc.refl x
          omega
        · exact h3
    rw [ris_one hc hl'.2 hk'.2 h2]
end
/-- of elements side by side with one key the first: p is the key of the one ahead -/
def cpA {α κ : Type} [DecidableEq κ] (key : α → κ) (p : κ) : List α → List α
  | [] => []
  | y :: t => if key y = p then cpA key (key y) t else y :: cpA key (key y) t
def cpt {α κ : Type} [DecidableEq κ] (key : α → κ) : List α → List α
  | [] => []
  | x :: t => x :: cpA key (key x) t
section
variable {α κ : Type} [DecidableEq κ] {key : α → κ} {c : κ → κ → Int}
/-- no later one is less -/
def Sor (c : κ → κ → Int) (l : List κ) : Prop := l.Pairwise fun x y => ¬ c y x < 0
theorem cpA_ris (hc : Cmp3 c) : ∀ (t : List α) (p : κ), Sor c (p :: t.map key) → Ris c ((cpA key p t).map key) ∧ (∀ x ∈ (cpA key p t).map key, c p x < 0) ∧ ∀ x, (x = p ∨ x ∈ (cpA key p t).map key) ↔ (x = p ∨ x ∈ t.map key)
  | [], p, _ => ⟨List.Pairwise.nil, (fun x h => by simp [cpA] at h), fun x => by simp [cpA]⟩
  | y :: t, p, h => by
    rw [List.map_cons] at h
    have h1 := List.pairwise_cons.1 h
    have h2 := List.pairwise_cons.1 h1.2
    obtain ⟨i1, i2, i3⟩ := cpA_ris hc t (key y) h1.2
    unfold cpA
    by_cases hy : key y = p
    · rw [if_pos hy]
      subst hy
      refine ⟨i1, i2, fun x => ?_⟩
      rw [List.map_cons, List.mem_cons, i3 x]
      constructor
      · rintro (e | e)
        · exact .inl e
        · exact .inr (.inr e)
      · rintro (e | e | e)
        · exact .inl e
        · exact .inl e
        · exact .inr e
    · rw [if_neg hy]
      have hp : c p (key y) < 0 := by
        have a1 := h1.1 (key y) (by simp)
        have a2 := hc.anti p (key y)
        have a3 := hc.zero p (key y)
        have a4 : c p (key y) ≠ 0 := fun e => hy (a3.1 e).symm
        omega
      rw [List.map_cons]
      refine ⟨List.pairwise_cons.2 ⟨i2, i1⟩, fun x hx => ?_, fun x => ?_⟩
      · rcases List.mem_cons.1 hx with e | hx
        · rw [e]; exact hp
        · exact hc.tr _ _ _ hp (i2 x hx)
      · rw [List.mem_cons, i3 x, List.map_cons, List.mem_cons]
theorem cpt_ris (hc : Cmp3 c) {l : List α} (h : Sor c (l.map key)) : Ris c ((cpt key l).map key) ∧ ∀ x, x ∈ (cpt key l).map key ↔ x ∈ l.map key := by
  cases l with
  | nil => exact ⟨List.Pairwise.nil, fun x => Iff.rfl⟩
  | cons y t =>
    obtain ⟨i1, i2, i3⟩ := cpA_ris hc t (key y) (by rw [List.map_cons] at h; exact h)
    unfold cpt
    refine ⟨by rw [List.map_cons]; exact List.pairwise_cons.2 ⟨i2, i1⟩, fun x => ?_⟩
    rw [List.map_cons, List.mem_cons, i3 x, List.map_cons, List.mem_cons]
theorem cpA_take : ∀ (l : List α) (p : κ) (j : Nat) (x : α), l[j]? = some x → cpA key p (l.take (j + 1)) = cpA key p (l.take j) ++ (if key x = (if j = 0 then p else (match l[j - 1]? with | some y => key y | none => p)) then [] else [x])
  | [], p, j, x, h => by simp at h
  | y :: t, p, 0, x, h => by
    simp at h
    subst h
    simp [cpA]
  | y :: t, p, j + 1, x, h => by
    have ih := cpA_take t (key y) j x (by simpa using h)
    rw [List.take_succ_cons, List.take_succ_cons]
    have e : (match (y :: t)[j + 1 - 1]? with | some y => key y | none => p) = (if j = 0 then key y else (match t[j - 1]? with | some y => key y | none => key y)) := by
      cases j with
      | zero => simp
      | succ j =>
        have hj : j < t.length := by
          have := (List.getElem?_eq_some_iff.1 h).1
          simp at this
          omega
        simp [hj]
    rw [if_neg (Nat.succ_ne_zero j), e]
    unfold cpA
    split
    · exact ih
    · rw [ih]; rfl
end
/-- two steps are alike if what they have in common is, sorted, the same -/
theorem alS_ris {s t : List Atr} {l k : List Sns} (hl : Ris cmpS l) (hk : Ris cmpS k) (ml : ∀ x, x ∈ l ↔ x ∈ s.map snA) (mk : ∀ x, x ∈ k ↔ x ∈ t.map snA) : alS s t = decide (l = k) := by
  rw [Bool.eq_iff_iff, alS_mem, decide_eq_true_eq]
  constructor
  · exact fun h => ris_one cmpS_is hl hk fun x => by rw [ml, mk]; exact h x
  · rintro rfl x
    rw [← ml, ← mk]
end Go.Proofs.YthookcnkmlmgcaaGreatDoor
namespace Go.Proofs.YthookcnkmlmgcaaGreatDoor
open Go
set_option maxRecDepth 4000

/-- has a year 366 days; how many days a month has -/
def leapY (y : Nat) : Bool := y % 400 == 0 || (y % 4 == 0 && y % 100 != 0)
def dimM (y m : Nat) : Nat := if m = 2 then (if leapY y = true then 29 else 28) else if m = 4 ∨ m = 6 ∨ m = 9 ∨ m = 11 then 30 else 31
/-- how many days the first k years have; the first m months of a year -/
def ydN : Nat → Nat
  | 0 => 0
  | k + 1 => ydN k + 365 + (if leapY (k + 1) = true then 1 else 0)
def mdN (y : Nat) : Nat → Nat
  | 0 => 0
  | m + 1 => mdN y m + dimM y (m + 1)
theorem leap_eq (y : Nat) : (leapY y = true) ↔ (y % 400 = 0 ∨ (y % 4 = 0 ∧ y % 100 ≠ 0)) := by
  unfold leapY
  simp
theorem ydN_eq (k : Nat) : ydN k + k / 100 = 365 * k + k / 4 + k / 400 := by
  induction k with
  | zero => rfl
  | succ k ih =>
    rw [ydN]
    by_cases h : leapY (k + 1) = true
    · rw [if_pos h]
      rw [leap_eq] at h
      omega
    · rw [if_neg h]
      rw [leap_eq] at h
      omega
theorem dim_lo (y m : Nat) : 28 ≤ dimM y m := by unfold dimM; split; split <;> omega; split <;> omega
theorem dim_hi (y m : Nat) : dimM y m ≤ 31 := by unfold dimM; split; split <;> omega; split <;> omega
theorem mdN_12 (y : Nat) : mdN y 12 = 365 + (if leapY y = true then 1 else 0) := by
  by_cases h : leapY y = true <;> simp [mdN, dimM, h]
theorem mdN_mono (y : Nat) {a b : Nat} (h : a ≤ b) : mdN y a ≤ mdN y b := by
  induction b with
  | zero => rw [Nat.le_zero.1 h]; exact Nat.le_refl _
  | succ b ih =>
    rcases Nat.lt_or_ge a (b + 1) with h1 | h1
    · rw [mdN]
      have := ih (by omega)
      omega
    · rw [show a = b + 1 by omega]
      exact Nat.le_refl _
theorem ydN_mono {a b : Nat} (h : a ≤ b) : ydN a ≤ ydN b := by
  induction b with
  | zero => rw [Nat.le_zero.1 h]; exact Nat.le_refl _
  | succ b ih =>
    rcases Nat.lt_or_ge a (b + 1) with h1 | h1
    · rw [ydN]
      have := ih (by omega)
      omega
    · rw [show a = b + 1 by omega]
      exact Nat.le_refl _
/-- a moment -/
structure Tmt where
  y : Nat
  mo : Nat
  d : Nat
  h : Nat
  mi : Nat
  s : Nat
/-- may it be? -/
structure MayT (t : Tmt) : Prop where
  y1 : 1 ≤ t.y
  y2 : t.y ≤ 9999
  m1 : 1 ≤ t.mo
  m2 : t.mo ≤ 12
  d1 : 1 ≤ t.d
  d2 : t.d ≤ dimM t.y t.mo
  h2 : t.h ≤ 23
  i2 : t.mi ≤ 59
  s2 : t.s ≤ 59
/-- its day's number from the first one on, and its count -/
def dayT (t : Tmt) : Nat := ydN (t.y - 1) + mdN t.y (t.mo - 1) + (t.d - 1)
def cntT (t : Tmt) : Nat := dayT t * 86400 + t.h * 3600 + t.mi * 60 + t.s
theorem dayT_year {t : Tmt} (h : MayT t) : ydN (t.y - 1) ≤ dayT t ∧ dayT t < ydN t.y := by
  have h1 := h.m1
  have h2 := h.y1
  have h3 := mdN_mono t.y (show t.mo - 1 + 1 ≤ 12 by have := h.m2; omega)
  rw [mdN, show t.mo - 1 + 1 = t.mo by omega, mdN_12] at h3
  have h4 := h.d1
  have h5 := h.d2
  have h6 : ydN t.y = ydN (t.y - 1) + 365 + (if leapY t.y = true then 1 else 0) := by
    conv => lhs; rw [show t.y = t.y - 1 + 1 by omega]
    rw [ydN, show t.y - 1 + 1 = t.y by omega]
  unfold dayT
  omega
theorem dayT_month {t : Tmt} (h : MayT t) : ydN (t.y - 1) + mdN t.y (t.mo - 1) ≤ dayT t ∧ dayT t < ydN (t.y - 1) + mdN t.y t.mo := by
  have h1 := h.m1
  have h4 := h.d1
  have h5 := h.d2
  have h6 : mdN t.y t.mo = mdN t.y (t.mo - 1) + dimM t.y t.mo := by
    conv => lhs; rw [show t.mo = t.mo - 1 + 1 by omega]
    rw [mdN, show t.mo - 1 + 1 = t.mo by omega]
  unfold dayT
  omega
/-- earlier: by years, months, days, hours, minutes, seconds -/
def LtT (t u : Tmt) : Prop := t.y < u.y ∨ (t.y = u.y ∧ (t.mo < u.mo ∨ (t.mo = u.mo ∧ (t.d < u.d ∨ (t.d = u.d ∧ (t.h < u.h ∨ (t.h = u.h ∧ (t.mi < u.mi ∨ (t.mi = u.mi ∧ t.s < u.s)))))))))
theorem day_lt {t u : Tmt} (ht : MayT t) (hu : MayT u) (h : t.y < u.y ∨ (t.y = u.y ∧ (t.mo < u.mo ∨ (t.mo = u.mo ∧ t.d < u.d)))) : dayT t < dayT u := by
  rcases h with h | ⟨e, h | ⟨e2, h⟩⟩
  · have h1 := dayT_year ht
    have h2 := dayT_year hu
    have h3 := ydN_mono (show t.y ≤ u.y - 1 by omega)
    omega
  · have h1 := dayT_month ht
    have h2 := dayT_month hu
    have h3 := mdN_mono t.y (show t.mo ≤ u.mo - 1 by omega)
    rw [← e] at h2
    omega
  · have h1 := ht.d1
    unfold dayT
    rw [e, e2]
    omega
theorem cnt_lt {t u : Tmt} (ht : MayT t) (hu : MayT u) (h : LtT t u) : cntT t < cntT u := by
  have h1 := ht.h2
  have h2 := ht.i2
  have h3 := ht.s2
  unfold cntT
  by_cases hd : t.y < u.y ∨ (t.y = u.y ∧ (t.mo < u.mo ∨ (t.mo = u.mo ∧ t.d < u.d)))
  · have := day_lt ht hu hd
    omega
  · have e : t.y = u.y ∧ t.mo = u.mo ∧ t.d = u.d ∧ (t.h < u.h ∨ (t.h = u.h ∧ (t.mi < u.mi ∨ (t.mi = u.mi ∧ t.s < u.s)))) := by
      unfold LtT at h
      omega
    have e2 : dayT t = dayT u := by unfold dayT; rw [e.1, e.2.1, e.2.2.1]
    have := e.2.2.2
    omega
theorem lt_tri (t u : Tmt) : LtT t u ∨ t = u ∨ LtT u t := by
  obtain ⟨a, b, c, d, e, f⟩ := t
  obtain ⟨a', b', c', d', e', f'⟩ := u
  unfold LtT
  simp only [Tmt.mk.injEq]
  omega
/-- one moment alone has a count; the earlier one has the lesser one -/
theorem cnt_inj {t u : Tmt} (ht : MayT t) (hu : MayT u) (h : cntT t = cntT u) : t = u := by
  rcases lt_tri t u with h1 | h1 | h1
  · have := cnt_lt ht hu h1; omega
  · exact h1
  · have := cnt_lt hu ht h1; omega
theorem cnt_iff {t u : Tmt} (ht : MayT t) (hu : MayT u) : cntT t < cntT u ↔ LtT t u := by
  refine ⟨fun h => ?_, cnt_lt ht hu⟩
  rcases lt_tri t u with h1 | h1 | h1
  · exact h1
  · subst h1; omega
  · have := cnt_lt hu ht h1; omega
theorem cnt_hi {t : Tmt} (h : MayT t) : cntT t < 315537897600 := by
  have h1 := dayT_year h
  have h2 := ydN_mono h.y2
  have h3 : ydN 9999 = 3652059 := by have := ydN_eq 9999; omega
  have := h.h2
  have := h.i2
  have := h.s2
  unfold cntT
  omega
/-- each count below the last has its moment -/
theorem year_of (d : Nat) (h : d < 3652059) : ∃ y, 1 ≤ y ∧ y ≤ 9999 ∧ ydN (y - 1) ≤ d ∧ d < ydN y := by
  have key : ∀ k, d < ydN k → ∃ y, 1 ≤ y ∧ y ≤ k ∧ ydN (y - 1) ≤ d ∧ d < ydN y := by
    intro k
    induction k with
    | zero => intro h; exact absurd h (Nat.not_lt_zero _)
    | succ k ih =>
      intro hk
      rcases Nat.lt_or_ge d (ydN k) with h1 | h1
      · obtain ⟨y, a, b, c⟩ := ih h1
        exact ⟨y, a, by omega, c⟩
      · exact ⟨k + 1, by omega, Nat.le_refl _, h1, hk⟩
  exact key 9999 (by have := ydN_eq 9999; omega)
theorem month_of (y d : Nat) (h : d < mdN y 12) : ∃ m, 1 ≤ m ∧ m ≤ 12 ∧ mdN y (m - 1) ≤ d ∧ d < mdN y m := by
  have key : ∀ k, d < mdN y k → ∃ m, 1 ≤ m ∧ m ≤ k ∧ mdN y (m - 1) ≤ d ∧ d < mdN y m := by
    intro k
    induction k with
    | zero => intro h; exact absurd h (Nat.not_lt_zero _)
    | succ k ih =>
      intro hk
      rcases Nat.lt_or_ge d (mdN y k) with h1 | h1
      · obtain ⟨m, a, b, c⟩ := ih h1
        exact ⟨m, a, by omega, c⟩
      · exact ⟨k + 1, by omega, Nat.le_refl _, h1, hk⟩
  exact key 12 h
theorem moment_of (c : Nat) (h : c < 315537897600) : ∃ t, MayT t ∧ cntT t = c := by
  obtain ⟨y, y1, y2, y3, y4⟩ := year_of (c / 86400) (by omega)
  have hy : ydN y = ydN (y - 1) + mdN y 12 := by
    conv => lhs; rw [show y = y - 1 + 1 by omega]
    rw [ydN, show y - 1 + 1 = y by omega, mdN_12]
    omega
  obtain ⟨m, m1, m2, m3, m4⟩ := month_of y (c / 86400 - ydN (y - 1)) (by omega)
  have hm : mdN y m = mdN y (m - 1) + dimM y m := by
    conv => lhs; rw [show m = m - 1 + 1 by omega]
    rw [mdN, show m - 1 + 1 = m by omega]
  refine ⟨⟨y, m, c / 86400 - ydN (y - 1) - mdN y (m - 1) + 1, c % 86400 / 3600, c % 3600 / 60, c % 60⟩, ⟨y1, y2, m1, m2, by show 1 ≤ _ + 1; omega, by show _ + 1 ≤ dimM y m; omega, by show c % 86400 / 3600 ≤ 23; omega, by show c % 3600 / 60 ≤ 59; omega, by show c % 60 ≤ 59; omega⟩, ?_⟩
  show (ydN (y - 1) + mdN y (m - 1) + (c / 86400 - ydN (y - 1) - mdN y (m - 1) + 1 - 1)) * 86400 + c % 86400 / 3600 * 3600 + c % 3600 / 60 * 60 + c % 60 = c
  have e : ydN (y - 1) + mdN y (m - 1) + (c / 86400 - ydN (y - 1) - mdN y (m - 1) + 1 - 1) = c / 86400 := by omega
  rw [e]
  omega
end Go.Proofs.YthookcnkmlmgcaaGreatDoor
namespace Go.Proofs.YthookcnkmlmgcaaGreatDoor
open Go
set_option maxRecDepth 4000

/-- a number below 100 in two digits; is a byte a digit; the number of two -/
def d2 (n : Nat) : List (BitVec 8) := [BitVec.ofNat 8 (48 + n / 10 % 10), BitVec.ofNat 8 (48 + n % 10)]
def digB (x : BitVec 8) : Bool := decide (48 ≤ x.toNat) && decide (x.toNat ≤ 57)
def r2 (x y : BitVec 8) : Nat := 10 * (x.toNat - 48) + (y.toNat - 48)
theorem d2_len (n : Nat) : (d2 n).length = 2 := rfl
theorem d2_digit (n : Nat) : digB (gb (d2 n) 0) = true ∧ digB (gb (d2 n) 1) = true := by
  have h1 : (BitVec.ofNat 8 (48 + n / 10 % 10)).toNat = 48 + n / 10 % 10 := by rw [BitVec.toNat_ofNat]; omega
  have h2 : (BitVec.ofNat 8 (48 + n % 10)).toNat = 48 + n % 10 := by rw [BitVec.toNat_ofNat]; omega
  constructor
  · show digB (BitVec.ofNat 8 (48 + n / 10 % 10)) = true
    unfold digB
    rw [h1, decide_eq_true (by omega), decide_eq_true (by omega)]
    rfl
  · show digB (BitVec.ofNat 8 (48 + n % 10)) = true
    unfold digB
    rw [h2, decide_eq_true (by omega), decide_eq_true (by omega)]
    rfl
theorem r2_d2 (n : Nat) (h : n < 100) : r2 (gb (d2 n) 0) (gb (d2 n) 1) = n := by
  show 10 * ((BitVec.ofNat 8 (48 + n / 10 % 10)).toNat - 48) + ((BitVec.ofNat 8 (48 + n % 10)).toNat - 48) = n
  rw [BitVec.toNat_ofNat, BitVec.toNat_ofNat]
  omega
theorem d2_r2 (x y : BitVec 8) (hx : digB x = true) (hy : digB y = true) : d2 (r2 x y) = [x, y] ∧ r2 x y < 100 := by
  unfold digB at hx hy
  simp only [Bool.and_eq_true, decide_eq_true_eq] at hx hy
  refine ⟨?_, by unfold r2; omega⟩
  unfold d2 r2
  congr 1
  · apply BitVec.eq_of_toNat_eq
    rw [BitVec.toNat_ofNat]
    omega
  · congr 1
    apply BitVec.eq_of_toNat_eq
    rw [BitVec.toNat_ofNat]
    omega
theorem d2_inj {a b : Nat} (ha : a < 100) (hb : b < 100) (h : d2 a = d2 b) : a = b := by rw [← r2_d2 a ha, h, r2_d2 b hb]
/-- a moment's mark and body -/
def tmM (t : Tmt) : BitVec 8 := if 1950 ≤ t.y ∧ t.y ≤ 2049 then 23 else 24
def tmR (t : Tmt) : List (BitVec 8) := d2 t.mo ++ (d2 t.d ++ (d2 t.h ++ (d2 t.mi ++ (d2 t.s ++ [90]))))
def tmB (t : Tmt) : List (BitVec 8) := if 1950 ≤ t.y ∧ t.y ≤ 2049 then d2 (t.y % 100) ++ tmR t else d2 (t.y / 100) ++ (d2 (t.y % 100) ++ tmR t)
theorem tmR_len (t : Tmt) : (tmR t).length = 11 := rfl
theorem tmB_len (t : Tmt) : (tmB t).length = if 1950 ≤ t.y ∧ t.y ≤ 2049 then 13 else 15 := by unfold tmB; split <;> rfl
theorem d2_cut {a b : Nat} {x y : List (BitVec 8)} (h : d2 a ++ x = d2 b ++ y) : d2 a = d2 b ∧ x = y := List.append_inj h rfl
theorem tmR_inj {t u : Tmt} (ht : MayT t) (hu : MayT u) (h : tmR t = tmR u) : t.mo = u.mo ∧ t.d = u.d ∧ t.h = u.h ∧ t.mi = u.mi ∧ t.s = u.s := by
  have a1 := ht.m2
  have a2 := ht.d2
  have a3 := dim_hi t.y t.mo
  have a4 := ht.h2
  have a5 := ht.i2
  have a6 := ht.s2
  have b1 := hu.m2
  have b2 := hu.d2
  have b3 := dim_hi u.y u.mo
  have b4 := hu.h2
  have b5 := hu.i2
  have b6 := hu.s2
  obtain ⟨h1, h⟩ := d2_cut h
  obtain ⟨h2, h⟩ := d2_cut h
  obtain ⟨h3, h⟩ := d2_cut h
  obtain ⟨h4, h⟩ := d2_cut h
  obtain ⟨h5, _⟩ := d2_cut h
  exact ⟨d2_inj (by omega) (by omega) h1, d2_inj (by omega) (by omega) h2, d2_inj (by omega) (by omega) h3, d2_inj (by omega) (by omega) h4, d2_inj (by omega) (by omega) h5⟩
/-- each moment has a mark and body of its own -/
theorem tmB_inj {t u : Tmt} (ht : MayT t) (hu : MayT u) (hm : tmM t = tmM u) (h : tmB t = tmB u) : t = u := by
  have a1 := ht.y2
  have b1 := hu.y2
  have key : t.y = u.y ∧ tmR t = tmR u := by
    unfold tmM at hm
    unfold tmB at h
    by_cases c : 1950 ≤ t.y ∧ t.y ≤ 2049
    · by_cases c' : 1950 ≤ u.y ∧ u.y ≤ 2049
      · rw [if_pos c, if_pos c'] at h
        obtain ⟨h1, h2⟩ := d2_cut h
        have := d2_inj (by omega) (by omega) h1
        exact ⟨by omega, h2⟩
      · rw [if_pos c, if_neg c'] at hm
        exact absurd hm (by decide)
    · by_cases c' : 1950 ≤ u.y ∧ u.y ≤ 2049
      · rw [if_neg c, if_pos c'] at hm
        exact absurd hm (by decide)
      · rw [if_neg c, if_neg c'] at h
        obtain ⟨h1, h2⟩ := d2_cut h
        obtain ⟨h3, h4⟩ := d2_cut h2
        have e1 := d2_inj (by omega) (by omega) h1
        have e2 := d2_inj (by omega) (by omega) h3
        exact ⟨by omega, h4⟩
  obtain ⟨h1, h2, h3, h4, h5⟩ := tmR_inj ht hu key.2
  obtain ⟨y, mo, d, hh, mi, s⟩ := t
  obtain ⟨y', mo', d', hh', mi', s'⟩ := u
  have h0 := key.1
  simp only at h0 h1 h2 h3 h4 h5
  subst h0 h1 h2 h3 h4 h5
  rfl
end Go.Proofs.YthookcnkmlmgcaaGreatDoor
namespace Go.Proofs.YthookcnkmlmgcaaGreatDoor
open Go Go.RowKit
set_option maxRecDepth 4000

/-- block g holds just these cells, none of them frozen -/
def Has (w : World) (g : Nat) (t : TypeId) (cs : Array Value) : Prop := w.heap[g]? = some (.cells cs t (0, 0))

section
variable {w w' : World} {g : Nat} {t : TypeId} {cs : Array Value}
theorem Has.lt (h : Has w g t cs) : g < w.heap.size := by
  rcases Nat.lt_or_ge g w.heap.size with hlt | hge
  · exact hlt
  · unfold Has at h; rw [Array.getElem?_eq_none hge] at h; cases h
theorem Has.cell (h : Has w g t cs) (i : Nat) : w.cell? ⟨g, i, none⟩ = cs[i]? := cell_of_row w g i cs t (0, 0) h
theorem Has.frozen (h : Has w g t cs) (i : Nat) : w.frozen? ⟨g, i, none⟩ = false := frozen_of_row w g i cs t h
theorem Has.new (w : World) (t : TypeId) (cs : Array Value) (g : Nat) (hg : g = w.heap.size) : Has (w.alloc (.cells cs t)) g t cs := by
  subst hg; exact heap_alloc_new w _
theorem Has.drew (h : Has w g t cs) : Has w.drew g t cs := h
theorem Has.drewN (h : Has w g t cs) (n : Nat) : Has (w.drewN n) g t cs := h
theorem Has.alloc (h : Has w g t cs) (o : Obj) : Has (w.alloc o) g t cs := (Below.heap_alloc w o g h.lt).trans h
theorem Has.set (h : Has w g t cs) (i : Nat) (u : Value) : Has (w.setCell ⟨g, i, none⟩ u) g t (cs.setIfInBounds i u) := heap_setCell_same w g i cs t u h
theorem Has.far (h : Has w g t cs) {p : Addr} (hp : g ≠ p.block) (u : Value) : Has (w.setCell p u) g t cs := (Below.heap_setCell w p u g hp).trans h
theorem Has.below {B : Nat} (h : Has w g t cs) (hb : Below B w w') (hg : g < B) : Has w' g t cs := (hb.block g hg).trans h
theorem Has.row (h : Has w g t cs) (cs' : Array Value) : Has (w.setRow g cs') g t cs' := setRow_heap w g cs cs' t _ h
theorem Has.rowfar (h : Has w g t cs) {g' : Nat} (hg : g ≠ g') (cs' : Array Value) : Has (w.setRow g' cs') g t cs := (setRow_other w g' g cs' hg).trans h
theorem Has.grown (h : Has w g t cs) {row : Option Nat} (hb : w.grownBy w' row) (hg : some g ≠ row) : Has w' g t cs := (hb.block g h.lt hg).trans h
end
/-- an element of an array by value -/
theorem run_index_arr {P : Program} (w : World) (t e n : Nat) (cs : Array Value) (k : Nat) (v : Value) (h : P.underlying t = some (.array n e)) (he : P.plainKey e = true)
    (hs : (P.info? e).map (·.size) = some 1) (hk : k < n) (hv : cs[k]? = some v) : (Instr.index t (.agg cs) (.int .i64 (k : Int))).run P w = .ok v w := by
  cases hq : P.info? e with
  | none => simp [hq] at hs
  | some i =>
    have hs1 : i.size = 1 := by simpa [hq] using hs
    have hp := run_part_plain (P := P) (w := w) he hv
    simp [Instr.index, run_underlying h, asIntOf, sizeOf, typeInfo, hq, hs1, go_sem]
    rw [if_pos hk]
    simpa [part, go_sem, sizeOf, typeInfo, hq, hs1] using hp
/-- a whole array out of cells -/
theorem run_load_at {P : Program} (w : World) (t e n g o : Nat) (cs : Array Value) (h : P.underlying t = some (.array n e)) (hi : (P.info? t).map (·.size) = some cs.size)
    (hc : ∀ j v, cs[j]? = some v → w.cell? ⟨g, o + j, none⟩ = some v) : (Instr.loadAt t (.pointer (some ⟨g, o, none⟩))).run P w = .ok (.agg cs) w := by
  have hl : (loadCells ⟨g, o, none⟩ cs.toList.length).run P w = .ok cs.toList.toArray w :=
    run_loadCells_list (P := P) w ⟨g, o, none⟩ cs.toList (fun j v hv => by
      have hadd : (⟨g, o, none⟩ : Addr).add j = ⟨g, o + j, none⟩ := by unfold Addr.add; split <;> simp_all
      rw [hadd]
      exact hc j v (by simpa using hv))
  cases hq : P.info? t with
  | none => simp [hq] at hi
  | some i =>
    have hs : i.size = cs.size := by simpa [hq] using hi
    have hagg : (isAgg t).run P w = .ok true w := by
      unfold isAgg
      rw [Sem.run_bind, run_underlying h w]
      rfl
    simp only [Array.length_toList, Array.toArray_toList] at hl
    simp [Instr.loadAt, Instr.sureAddr, loadVar, Sem.run_bind, hagg, sizeOf, typeInfo, hq, hs, hl]
theorem run_load_arr {P : Program} (w : World) (t e n g : Nat) (cs : Array Value) (h : P.underlying t = some (.array n e)) (hi : (P.info? t).map (·.size) = some cs.size)
    (hc : ∀ j v, cs[j]? = some v → w.cell? ⟨g, j, none⟩ = some v) : (Instr.loadAt t (.pointer (some ⟨g, 0, none⟩))).run P w = .ok (.agg cs) w :=
  run_load_at w t e n g 0 cs h hi (fun j v hv => by rw [Nat.zero_add]; exact hc j v hv)
/-- a whole array read, in a region that draws its order -/
theorem wpStill_load_row {P : Program} {ops : Array Oper} {rest : List Oper} {o : Oper} {a : Act} {w : World} {Q : Act → Prop} (hgd : o.guard = none) (t : TypeId) (x : Operand) (ho : o.op = .load t x)
    (ad : Addr) (hx : a.eval x = .pointer (some ad)) (cs : Array Value) (hr : (Instr.loadAt t (.pointer (some ad))).run P w = .ok (.agg cs) w)
    (h : wpStill P ops w Q rest (a.put o.dst (.agg cs))) : wpStill P ops w Q (o :: rest) a := by
  refine wpStill_step fun K hK => ?_
  simp only [Region.wanted, hgd, if_true]
  unfold Oper.still execOp
  simp only [ho, hx, Sem.run_bind, hr, Result.andThen_ok, Sem.run_pure]
  exact ⟨rfl, hK _ h⟩
/-- the same where the operation is guarded -/
theorem wpStill_load_if {P : Program} {ops : Array Oper} {rest : List Oper} {o : Oper} {a : Act} {w : World} {Q : Act → Prop} (hw : Region.wanted o (yielded ops a.tmps) = true) (t : TypeId) (x : Operand) (ho : o.op = .load t x)
    (ad : Addr) (hx : a.eval x = .pointer (some ad)) (cs : Array Value) (hr : (Instr.loadAt t (.pointer (some ad))).run P w = .ok (.agg cs) w)
    (h : wpStill P ops w Q rest (a.put o.dst (.agg cs))) : wpStill P ops w Q (o :: rest) a := by
  refine wpStill_step fun K hK => ?_
  rw [if_pos hw]
  unfold Oper.still execOp
  simp only [ho, hx, Sem.run_bind, hr, Result.andThen_ok, Sem.run_pure]
  exact ⟨rfl, hK _ h⟩
/-- single operations of a region that draws its order -/
theorem exec_load {P : Program} {o : Oper} {a : Act} {w : World} (t : TypeId) (x : Operand) (ho : o.op = .load t x) (ad : Addr) (hx : a.eval x = .pointer (some ad)) (v : Value)
    (hr : (Instr.loadAt t (.pointer (some ad))).run P w = .ok v w) : (execOp a.eval o).run P w = .ok (.value v) w := by
  unfold execOp
  simp only [ho, hx, Sem.run_bind, hr, Result.andThen_ok, Sem.run_pure]
theorem exec_move {P : Program} {o : Oper} {a : Act} {w : World} (x : Operand) (ho : o.op = .move x) (v : Value) (hx : a.eval x = v) : (execOp a.eval o).run P w = .ok (.value v) w := by
  unfold execOp
  simp only [ho, hx, Sem.run_pure]
theorem exec_slice {P : Program} {o : Oper} {a : Act} {w : World} (t : TypeId) (x : Operand) (lo hi : Option Operand) (ho : o.op = .slice t x lo hi none) (v vx : Value) (l h : Option Value) (hx : a.eval x = vx) (hl : lo.map a.eval = l) (hh : hi.map a.eval = h)
    (hr : (Instr.sliceAt t vx l h none).run P w = .ok v w) : (execOp a.eval o).run P w = .ok (.value v) w := by
  subst hx hl hh
  unfold execOp
  simp only [ho, Sem.run_bind, Option.map_none, hr, Result.andThen_ok, Sem.run_pure]
theorem exec_conv {P : Program} {o : Oper} {a : Act} {w : World} (t u : TypeId) (x : Operand) (ho : o.op = .convert t u x) (v vx : Value) (hx : a.eval x = vx)
    (hr : (convert t u vx).run P w = .ok v w) : (execOp a.eval o).run P w = .ok (.value v) w := by
  subst hx
  unfold execOp
  simp only [ho, Sem.run_bind, hr, Result.andThen_ok, Sem.run_pure]
theorem wpOp_step {P : Program} {ops : Array Oper} {Q : Exit → Act → World → Prop} {i : Nat} {o : Oper} {K : Act → World → Prop} {a : Act} {w : World} (hi : ops[i]? = some o) (hg : o.guard = none)
    (h : ∀ K' : Act → World → Prop, (∀ a w, K a w → K' a w) → o.wp P a w K' Q) : wpOp P ops Q i K a w := by
  unfold wpOp
  simp only [hi, Region.wanted, hg, if_true]
  exact .inl (h K fun _ _ h => h)
theorem below_row {B : Nat} {a w : World} (h : Below B a w) {g : Nat} (hg : B ≤ g) (cs : Array Value) : Below B a (w.setRow g cs) :=
  h.trans ⟨rfl, rfl, rfl, by simp, fun k hk => setRow_other w g k cs (by omega)⟩
theorem size_below {B : Nat} {a w : World} (h : Below B a w) : a.heap.size ≤ w.heap.size := h.size
end Go.Proofs.YthookcnkmlmgcaaGreatDoor
