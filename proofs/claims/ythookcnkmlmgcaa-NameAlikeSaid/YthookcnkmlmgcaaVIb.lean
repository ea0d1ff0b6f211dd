/-
  Names, plain: attributes, steps and names that are alike; a name within another one.
-/
import Derived.Test.YthookcnkmlmgcaaVIa
namespace Go.Proofs.Ythookcnkmlmgcaa
open Go
set_option maxRecDepth 4000

/-- an attribute: its type, its mark, its text -/
structure Atr where
  ty : List Nat
  mark : BitVec 8
  tx : List (BitVec 8)
/-- are two attributes alike? -/
def alA (a b : Atr) : Bool := decide (a.ty = b.ty) && decide (plainL a.tx = plainL b.tx)
theorem alA_refl (a : Atr) : alA a a = true := by simp [alA]
theorem alA_symm (a b : Atr) : alA a b = alA b a := by
  unfold alA
  rw [Bool.eq_iff_iff]
  simp only [Bool.and_eq_true, decide_eq_true_eq]
  exact ⟨fun h => ⟨h.1.symm, h.2.symm⟩, fun h => ⟨h.1.symm, h.2.symm⟩⟩
theorem alA_trans {a b c : Atr} (h1 : alA a b = true) (h2 : alA b c = true) : alA a c = true := by
  unfold alA at *
  simp only [Bool.and_eq_true, decide_eq_true_eq] at *
  exact ⟨h1.1.trans h2.1, h1.2.trans h2.2⟩
/-- is an attribute alike to one of a step's? -/
def hasA (l : List Atr) (a : Atr) : Bool := l.any fun b => alA b a
def alS (s t : List Atr) : Bool := s.all (hasA t) && t.all (hasA s)
theorem hasA_iff {l : List Atr} {a : Atr} : hasA l a = true ↔ ∃ b ∈ l, alA b a = true := by simp [hasA]
theorem alS_iff {s t : List Atr} : alS s t = true ↔ (∀ a ∈ s, ∃ b ∈ t, alA b a = true) ∧ ∀ b ∈ t, ∃ a ∈ s, alA a b = true := by
  unfold alS
  rw [Bool.and_eq_true, List.all_eq_true, List.all_eq_true]
  simp only [hasA_iff]
theorem alS_refl (s : List Atr) : alS s s = true := alS_iff.2 ⟨fun a h => ⟨a, h, alA_refl a⟩, fun a h => ⟨a, h, alA_refl a⟩⟩
theorem alS_symm (s t : List Atr) : alS s t = alS t s := by unfold alS; rw [Bool.and_comm]
theorem alS_trans {s t u : List Atr} (h1 : alS s t = true) (h2 : alS t u = true) : alS s u = true := by
  obtain ⟨a1, a2⟩ := alS_iff.1 h1
  obtain ⟨b1, b2⟩ := alS_iff.1 h2
  refine alS_iff.2 ⟨fun a ha => ?_, fun c hc => ?_⟩
  · obtain ⟨b, hb, e1⟩ := a1 a ha
    obtain ⟨c, hc, e2⟩ := b1 b hb
    exact ⟨c, hc, alA_trans e2 e1⟩
  · obtain ⟨b, hb, e1⟩ := b2 c hc
    obtain ⟨a, ha, e2⟩ := a2 b hb
    exact ⟨a, ha, alA_trans e2 e1⟩
/-- two names -/
def alN : List (List Atr) → List (List Atr) → Bool
  | [], [] => true
  | s :: a, t :: b => alS s t && alN a b
  | _, _ => false
theorem alN_len : ∀ {a b : List (List Atr)}, alN a b = true → a.length = b.length
  | [], [], _ => rfl
  | s :: a, t :: b, h => by
    unfold alN at h
    rw [Bool.and_eq_true] at h
    simp [alN_len h.2]
  | [], t :: b, h => by cases h
  | s :: a, [], h => by cases h
theorem alN_refl : ∀ a : List (List Atr), alN a a = true
  | [] => rfl
  | s :: a => by unfold alN; rw [alS_refl, alN_refl a]; rfl
theorem alN_symm : ∀ a b : List (List Atr), alN a b = alN b a
  | [], [] => rfl
  | s :: a, t :: b => by unfold alN; rw [alS_symm, alN_symm a b]
  | [], t :: b => rfl
  | s :: a, [] => rfl
theorem alN_trans : ∀ {a b c : List (List Atr)}, alN a b = true → alN b c = true → alN a c = true
  | [], [], c, _, h => h
  | s :: a, t :: b, [], _, h => by cases h
  | s :: a, t :: b, u :: c, h1, h2 => by
    unfold alN at *
    rw [Bool.and_eq_true] at *
    exact ⟨alS_trans h1.1 h2.1, alN_trans h1.2 h2.2⟩
  | [], t :: b, c, h, _ => by cases h
  | s :: a, [], c, h, _ => by cases h
/-- step by step -/
theorem alN_iff {a b : List (List Atr)} : alN a b = true ↔ a.length = b.length ∧ ∀ i, i < a.length → alS (a.getD i []) (b.getD i []) = true := by
  induction a generalizing b with
  | nil =>
    cases b with
    | nil => simp [alN]
    | cons t b => simp [alN]
  | cons s a ih =>
    cases b with
    | nil => simp [alN]
    | cons t b =>
      unfold alN
      rw [Bool.and_eq_true, ih]
      constructor
      · rintro ⟨h1, h2, h3⟩
        refine ⟨by simp [h2], fun i hi => ?_⟩
        cases i with
        | zero => exact h1
        | succ i => exact h3 i (by simpa using hi)
      · rintro ⟨h1, h2⟩
        exact ⟨h2 0 (by simp), by simpa using h1, fun i hi => h2 (i + 1) (by simpa using hi)⟩
/-- a name within another one -/
def wiN (a b : List (List Atr)) : Bool := decide (b.length ≤ a.length) && alN (a.take b.length) b
theorem wiN_refl (a : List (List Atr)) : wiN a a = true := by simp [wiN, alN_refl]
theorem alN_take : ∀ {a b : List (List Atr)} (k : Nat), alN a b = true → alN (a.take k) (b.take k) = true
  | a, b, 0, _ => by simp [alN]
  | [], [], k + 1, _ => by simp [alN]
  | s :: a, t :: b, k + 1, h => by
    unfold alN at h
    rw [Bool.and_eq_true] at h
    rw [List.take_succ_cons, List.take_succ_cons]
    unfold alN
    rw [h.1, alN_take k h.2]
    rfl
  | [], t :: b, k + 1, h => by cases h
  | s :: a, [], k + 1, h => by cases h
theorem wiN_trans {a b c : List (List Atr)} (h1 : wiN a b = true) (h2 : wiN b c = true) : wiN a c = true := by
  unfold wiN at *
  rw [Bool.and_eq_true, decide_eq_true_eq] at *
  refine ⟨by omega, ?_⟩
  have h3 := alN_take c.length h1.2
  rw [List.take_take, Nat.min_eq_left h2.1] at h3
  exact alN_trans h3 h2.2
theorem wiN_both (a b : List (List Atr)) : (wiN a b && wiN b a) = alN a b := by
  rw [Bool.eq_iff_iff]
  constructor
  · intro h
    rw [Bool.and_eq_true] at h
    have h1 := h.1
    have h2 := h.2
    unfold wiN at h1 h2
    rw [Bool.and_eq_true, decide_eq_true_eq] at h1 h2
    have e : b.length = a.length := by omega
    have h3 := h1.2
    rwa [e, List.take_length] at h3
  · intro h
    have e := alN_len h
    rw [Bool.and_eq_true]
    unfold wiN
    rw [Bool.and_eq_true, Bool.and_eq_true, decide_eq_true_eq, decide_eq_true_eq]
    refine ⟨⟨by omega, ?_⟩, by omega, ?_⟩
    · rw [← e, List.take_length]; exact h
    · rw [e, List.take_length, alN_symm]; exact h
end Go.Proofs.Ythookcnkmlmgcaa
