/-
  Comparing in three ways; what attributes that are alike have in common, in its order; a sorted list with each once is told by its members. Plain.
-/
import Derived.Test.YthookcnkmlmgcaaDoorM1
namespace Go.Proofs.YthookcnkmlmgcaaDoor
open Go
set_option maxRecDepth 4000

/-- a comparison: 0 for the same, the other way round the other sign, handed on -/
structure Cmp3 {α : Type} (c : α → α → Int) : Prop where
  zero : ∀ x y, c x y = 0 ↔ x = y
  anti : ∀ x y, c y x = - c x y
  tr : ∀ x y z, c x y < 0 → c y z < 0 → c x z < 0
theorem Cmp3.refl {α : Type} {c : α → α → Int} (h : Cmp3 c) (x : α) : c x x = 0 := (h.zero x x).2 rfl
/-- lists of numbers -/
def cmpL : List Nat → List Nat → Int
  | [], [] => 0
  | [], _ :: _ => -1
  | _ :: _, [] => 1
  | a :: x, b :: y => if a < b then -1 else if b < a then 1 else cmpL x y
theorem cmpL_zero : ∀ x y : List Nat, cmpL x y = 0 ↔ x = y
  | [], [] => by simp [cmpL]
  | [], _ :: _ => by simp [cmpL]
  | _ :: _, [] => by simp [cmpL]
  | a :: x, b :: y => by
    have ih := cmpL_zero x y
    unfold cmpL
    by_cases h1 : a < b
    · rw [if_pos h1]; simp; omega
    · rw [if_neg h1]
      by_cases h2 : b < a
      · rw [if_pos h2]; simp; omega
      · rw [if_neg h2, ih]
        have : a = b := by omega
        simp [this]
theorem cmpL_anti : ∀ x y : List Nat, cmpL y x = - cmpL x y
  | [], [] => by simp [cmpL]
  | [], _ :: _ => by simp [cmpL]
  | _ :: _, [] => by simp [cmpL]
  | a :: x, b :: y => by
    have ih := cmpL_anti x y
    unfold cmpL
    by_cases h1 : a < b
    · rw [if_neg (by omega : ¬ b < a), if_pos h1, if_pos h1]; simp
    · by_cases h2 : b < a
      · rw [if_pos h2, if_neg h1, if_pos h2]
      · rw [if_neg h2, if_neg h1, if_neg h1, if_neg h2, ih]
theorem cmpL_tr : ∀ x y z : List Nat, cmpL x y < 0 → cmpL y z < 0 → cmpL x z < 0
  | [], [], z, h, _ => by simp [cmpL] at h
  | _ :: _, [], z, h, _ => by simp [cmpL] at h
  | _, _ :: _, [], _, h => by simp [cmpL] at h
  | [], _ :: _, _ :: _, _, _ => by simp [cmpL]
  | a :: x, b :: y, c :: z, h1, h2 => by
    have ih := cmpL_tr x y z
    have e : ∀ (a b : Nat) (x y : List Nat), cmpL (a :: x) (b :: y) = if a < b then -1 else if b < a then 1 else cmpL x y := fun _ _ _ _ => rfl
    rw [e] at h1 h2 ⊢
    by_cases a1 : a < b
    · by_cases b1 : b < c
      · rw [if_pos (by omega)]; omega
      · rw [if_neg b1] at h2
        by_cases b2 : c < b
        · rw [if_pos b2] at h2; omega
        · rw [if_pos (by omega)]; omega
    · rw [if_neg a1] at h1
      by_cases a2 : b < a
      · rw [if_pos a2] at h1; omega
      · rw [if_neg a2] at h1
        obtain rfl : a = b := by omega
        by_cases b1 : a < c
        · rw [if_pos b1]; omega
        · rw [if_neg b1] at h2 ⊢
          by_cases b2 : c < a
          · rw [if_pos b2] at h2; omega
          · rw [if_neg b2] at h2 ⊢
            exact ih h1 h2
theorem cmpL_is : Cmp3 cmpL := ⟨cmpL_zero, cmpL_anti, cmpL_tr⟩
theorem cmpL_lo : ∀ x y : List Nat, -1 ≤ cmpL x y ∧ cmpL x y ≤ 1
  | [], [] => by simp [cmpL]
  | [], _ :: _ => by simp [cmpL]
  | _ :: _, [] => by simp [cmpL]
  | a :: x, b :: y => by
    have ih := cmpL_lo x y
    unfold cmpL
    split
    · omega
    · split
      · omega
      · exact ih
/-- by the first, then by the second -/
def cmp2 {α β : Type} (c : α → α → Int) (d : β → β → Int) (x y : α × β) : Int := if c x.1 y.1 ≠ 0 then c x.1 y.1 else d x.2 y.2
theorem cmp2_is {α β : Type} {c : α → α → Int} {d : β → β → Int} (hc : Cmp3 c) (hd : Cmp3 d) : Cmp3 (cmp2 c d) where
  zero x y := by
    obtain ⟨x1, x2⟩ := x
    obtain ⟨y1, y2⟩ := y
    unfold cmp2
    simp only
    have h1 := hc.zero x1 y1
    have h2 := hd.zero x2 y2
    by_cases h : c x1 y1 = 0
    · rw [if_neg (by simpa using h), h2]
      have := h1.1 h
      simp [this]
    · rw [if_pos h]
      constructor
      · exact fun e => absurd e h
      · intro e
        rw [Prod.mk.injEq] at e
        exact absurd (h1.2 e.1) h
  anti x y := by
    obtain ⟨x1, x2⟩ := x
    obtain ⟨y1, y2⟩ := y
    unfold cmp2
    simp only
    have h1 := hc.anti x1 y1
    have h2 := hd.anti x2 y2
    by_cases h : c x1 y1 = 0
    · rw [if_neg (by omega), if_neg (by omega)]; exact h2
    · rw [if_pos (by omega), if_pos h]; exact h1
  tr x y z h1 h2 := by
    obtain ⟨x1, x2⟩ := x
    obtain ⟨y1, y2⟩ := y
    obtain ⟨z1, z2⟩ := z
    unfold cmp2 at *
    simp only at *
    by_cases a : c x1 y1 = 0
    · rw [if_neg (by omega)] at h1
      have e := (hc.zero _ _).1 a
      subst e
      by_cases b : c x1 z1 = 0
      · rw [if_neg (by omega)] at h2 ⊢
        exact hd.tr _ _ _ h1 h2
      · rw [if_pos b] at h2 ⊢
        exact h2
    · rw [if_pos a] at h1
      by_cases b : c y1 z1 = 0
      · have e := (hc.zero _ _).1 b
        subst e
        rw [if_pos a]
        exact h1
      · rw [if_pos b] at h2
        have := hc.tr _ _ _ h1 h2
        rw [if_pos (by omega)]
        exact this
/-- bytes, as numbers -/
def cmpB (x y : List (BitVec 8)) : Int := cmpL (x.map BitVec.toNat) (y.map BitVec.toNat)
theorem map_toNat_inj : ∀ {x y : List (BitVec 8)}, x.map BitVec.toNat = y.map BitVec.toNat → x = y
  | [], [], _ => rfl
  | [], _ :: _, h => by simp at h
  | _ :: _, [], h => by simp at h
  | a :: x, b :: y, h => by
    rw [List.map_cons, List.map_cons] at h
    injection h with h1 h2
    rw [BitVec.eq_of_toNat_eq h1, map_toNat_inj h2]
theorem cmpB_is : Cmp3 cmpB := ⟨fun x y => (cmpL_zero _ _).trans ⟨map_toNat_inj, fun e => by rw [e]⟩, fun _ _ => cmpL_anti _ _, fun _ _ _ => cmpL_tr _ _ _⟩
/-- what attributes that are alike have in common -/
abbrev Sns := List Nat × List (BitVec 8)
def snA (a : Atr) : Sns := (a.ty, plainL a.tx)
def cmpS : Sns → Sns → Int := cmp2 cmpL cmpB
theorem cmpS_is : Cmp3 cmpS := cmp2_is cmpL_is cmpB_is
theorem alA_iff {a b : Atr} : alA a b = true ↔ snA a = snA b := by
  unfold alA snA
  rw [Bool.and_eq_true, decide_eq_true_eq, decide_eq_true_eq, Prod.mk.injEq]
theorem alS_mem {s t : List Atr} : alS s t = true ↔ ∀ x, x ∈ s.map snA ↔ x ∈ t.map snA := by
  rw [alS_iff]
  simp only [List.mem_map, alA_iff]
  constructor
  · rintro ⟨h1, h2⟩ x
    constructor
    · rintro ⟨a, ha, rfl⟩
      obtain ⟨b, hb, e⟩ := h1 a ha
      exact ⟨b, hb, e⟩
    · rintro ⟨b, hb, rfl⟩
      obtain ⟨a, ha, e⟩ := h2 b hb
      exact ⟨a, ha, e⟩
  · intro h
    exact ⟨fun a ha => (h _).1 ⟨a, ha, rfl⟩, fun b hb => (h _).2 ⟨b, hb, rfl⟩⟩
section
variable {α : Type} {c : α → α → Int}
/-- rising: each less than all behind it -/
def Ris (c : α → α → Int) (l : List α) : Prop := l.Pairwise fun x y => c x y < 0
theorem ris_one (hc : Cmp3 c) : ∀ {l k : List α}, Ris c l → Ris c k → (∀ x, x ∈ l ↔ x ∈ k) → l = k
  | [], [], _, _, _ => rfl
  | [], b :: k, _, _, h => absurd ((h b).2 (by simp)) (by simp)
  | a :: l, [], _, _, h => absurd ((h a).1 (by simp)) (by simp)
  | a :: l, b :: k, hl, hk, h => by
    have hl' := List.pairwise_cons.1 hl
    have hk' := List.pairwise_cons.1 hk
    have e : a = b := by
      rcases List.mem_cons.1 ((h a).1 (by simp)) with e | h1
      · exact e
      · rcases List.mem_cons.1 ((h b).2 (by simp)) with e | h2
        · exact e.symm
        · have a1 := hk'.1 a h1
          have a2 := hl'.1 b h2
          have a3 := hc.anti a b
          omega
    subst e
    have h2 : ∀ x, x ∈ l ↔ x ∈ k := fun x => by
      have hx := h x
      rw [List.mem_cons, List.mem_cons] at hx
      constructor
      · intro hm
        rcases hx.1 (.inr hm) with e | h3
        · subst e
          have := hl'.1 x hm
          have := hc.refl x
          omega
        · exact h3
      · intro hm
        rcases hx.2 (.inr hm) with e | h3
        · subst e
          have := hk'.1 x hm
          have := hc.refl x
          omega
        · exact h3
    rw [ris_one hc hl'.2 hk'.2 h2]
end
/-- of elements side by side with one key the first: p is the key of the one ahead -/
def cpA {α κ : Type} [DecidableEq κ] (key : α → κ) (p : κ) : List α → List α
  | [] => []
  | y :: t => if key y = p then cpA key (key y) t else y :: cpA key (key y) t
def cpt {α κ : Type} [DecidableEq κ] (key : α → κ) : List α → List α
  | [] => []
  | x :: t => x :: cpA key (key x) t
section
variable {α κ : Type} [DecidableEq κ] {key : α → κ} {c : κ → κ → Int}
/-- no later one is less -/
def Sor (c : κ → κ → Int) (l : List κ) : Prop := l.Pairwise fun x y => ¬ c y x < 0
theorem cpA_ris (hc : Cmp3 c) : ∀ (t : List α) (p : κ), Sor c (p :: t.map key) → Ris c ((cpA key p t).map key) ∧ (∀ x ∈ (cpA key p t).map key, c p x < 0) ∧ ∀ x, (x = p ∨ x ∈ (cpA key p t).map key) ↔ (x = p ∨ x ∈ t.map key)
  | [], p, _ => ⟨List.Pairwise.nil, (fun x h => by simp [cpA] at h), fun x => by simp [cpA]⟩
  | y :: t, p, h => by
    rw [List.map_cons] at h
    have h1 := List.pairwise_cons.1 h
    have h2 := List.pairwise_cons.1 h1.2
    obtain ⟨i1, i2, i3⟩ := cpA_ris hc t (key y) h1.2
    unfold cpA
    by_cases hy : key y = p
    · rw [if_pos hy]
      subst hy
      refine ⟨i1, i2, fun x => ?_⟩
      rw [List.map_cons, List.mem_cons, i3 x]
      constructor
      · rintro (e | e)
        · exact .inl e
        · exact .inr (.inr e)
      · rintro (e | e | e)
        · exact .inl e
        · exact .inl e
        · exact .inr e
    · rw [if_neg hy]
      have hp : c p (key y) < 0 := by
        have a1 := h1.1 (key y) (by simp)
        have a2 := hc.anti p (key y)
        have a3 := hc.zero p (key y)
        have a4 : c p (key y) ≠ 0 := fun e => hy (a3.1 e).symm
        omega
      rw [List.map_cons]
      refine ⟨List.pairwise_cons.2 ⟨i2, i1⟩, fun x hx => ?_, fun x => ?_⟩
      · rcases List.mem_cons.1 hx with e | hx
        · rw [e]; exact hp
        · exact hc.tr _ _ _ hp (i2 x hx)
      · rw [List.mem_cons, i3 x, List.map_cons, List.mem_cons]
theorem cpt_ris (hc : Cmp3 c) {l : List α} (h : Sor c (l.map key)) : Ris c ((cpt key l).map key) ∧ ∀ x, x ∈ (cpt key l).map key ↔ x ∈ l.map key := by
  cases l with
  | nil => exact ⟨List.Pairwise.nil, fun x => Iff.rfl⟩
  | cons y t =>
    obtain ⟨i1, i2, i3⟩ := cpA_ris hc t (key y) (by rw [List.map_cons] at h; exact h)
    unfold cpt
    refine ⟨by rw [List.map_cons]; exact List.pairwise_cons.2 ⟨i2, i1⟩, fun x => ?_⟩
    rw [List.map_cons, List.mem_cons, i3 x, List.map_cons, List.mem_cons]
theorem cpA_take : ∀ (l : List α) (p : κ) (j : Nat) (x : α), l[j]? = some x → cpA key p (l.take (j + 1)) = cpA key p (l.take j) ++ (if key x = (if j = 0 then p else (match l[j - 1]? with | some y => key y | none => p)) then [] else [x])
  | [], p, j, x, h => by simp at h
  | y :: t, p, 0, x, h => by
    simp at h
    subst h
    simp [cpA]
  | y :: t, p, j + 1, x, h => by
    have ih := cpA_take t (key y) j x (by simpa using h)
    rw [List.take_succ_cons, List.take_succ_cons]
    have e : (match (y :: t)[j + 1 - 1]? with | some y => key y | none => p) = (if j = 0 then key y else (match t[j - 1]? with | some y => key y | none => key y)) := by
      cases j with
      | zero => simp
      | succ j =>
        have hj : j < t.length := by
          have := (List.getElem?_eq_some_iff.1 h).1
          simp at this
          omega
        simp [hj]
    rw [if_neg (Nat.succ_ne_zero j), e]
    unfold cpA
    split
    · exact ih
    · rw [ih]; rfl
end
/-- two steps are alike if what they have in common is, sorted, the same -/
theorem alS_ris {s t : List Atr} {l k : List Sns} (hl : Ris cmpS l) (hk : Ris cmpS k) (ml : ∀ x, x ∈ l ↔ x ∈ s.map snA) (mk : ∀ x, x ∈ k ↔ x ∈ t.map snA) : alS s t = decide (l = k) := by
  rw [Bool.eq_iff_iff, alS_mem, decide_eq_true_eq]
  constructor
  · exact fun h => ris_one cmpS_is hl hk fun x => by rw [ml, mk]; exact h x
  · rintro rfl x
    rw [← ml, ← mk]
end Go.Proofs.YthookcnkmlmgcaaDoor
