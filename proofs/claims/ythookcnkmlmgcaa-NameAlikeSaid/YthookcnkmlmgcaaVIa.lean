/-
  Plain texts: blanks ahead and behind left out, of blanks side by side one left, letters made small; it is its own plain text. Plain.
-/
import Derived.Test.YthookcnkmlmgcaaVBy
namespace Go.Proofs.Ythookcnkmlmgcaa
open Go
set_option maxRecDepth 4000

/-- a letter made small -/
def lowB (x : BitVec 8) : BitVec 8 := if 65 ≤ x.toNat ∧ x.toNat ≤ 90 then x + 32 else x
theorem low_low (x : BitVec 8) : lowB (lowB x) = lowB x := by
  revert x
  refine all8 ?_
  decide +kernel
theorem low_blank (x : BitVec 8) (h : x ≠ 32) : lowB x ≠ 32 := by
  revert x
  refine all8 ?_
  decide +kernel
/-- behind a letter, or (true) behind a blank that stands behind a letter -/
def plF (p : Bool) : List (BitVec 8) → List (BitVec 8)
  | [] => []
  | x :: t => if x = 32 then plF true t else if p = true then 32 :: lowB x :: plF false t else lowB x :: plF false t
/-- behind a letter -/
def plS (t : List (BitVec 8)) : List (BitVec 8) := plF false t
/-- behind a blank that stands behind a letter -/
def plP (t : List (BitVec 8)) : List (BitVec 8) := plF true t
theorem plS_nil : plS [] = [] := rfl
theorem plP_nil : plP [] = [] := rfl
theorem plS_cons (x : BitVec 8) (t : List (BitVec 8)) : plS (x :: t) = if x = 32 then plP t else lowB x :: plS t := by
  show (if x = 32 then plF true t else if false = true then 32 :: lowB x :: plF false t else lowB x :: plF false t) = _
  rw [if_neg (by decide : ¬(false = true))]
  rfl
theorem plP_cons (x : BitVec 8) (t : List (BitVec 8)) : plP (x :: t) = if x = 32 then plP t else 32 :: lowB x :: plS t := by
  show (if x = 32 then plF true t else if true = true then 32 :: lowB x :: plF false t else lowB x :: plF false t) = _
  rw [if_pos (rfl : true = true)]
  rfl
/-- the plain text -/
def plainL : List (BitVec 8) → List (BitVec 8)
  | [] => []
  | x :: t => if x = 32 then plainL t else lowB x :: plS t
theorem plS_plS : ∀ t : List (BitVec 8), plS (plS t) = plS t ∧ plS (plP t) = plP t
  | [] => ⟨rfl, rfl⟩
  | x :: t => by
    obtain ⟨h1, h2⟩ := plS_plS t
    by_cases hx : x = 32
    · subst hx
      simp only [plS, plP_cons, if_pos]
      exact ⟨h2, h2⟩
    · have hl := low_blank x hx
      have h32 : (32 : BitVec 8) = 32 := rfl
      constructor
      · rw [plS_cons, if_neg hx, plS_cons, if_neg hl, low_low, h1]
      · rw [plP_cons, if_neg hx, plS_cons, if_pos h32, plP_cons, if_neg hl, low_low, h1]
/-- a plain text is its own plain text -/
theorem plain_plain : ∀ t : List (BitVec 8), plainL (plainL t) = plainL t
  | [] => rfl
  | x :: t => by
    by_cases hx : x = 32
    · rw [plainL, if_pos hx]
      exact plain_plain t
    · rw [plainL, if_neg hx, plainL, if_neg (low_blank x hx), low_low, (plS_plS t).1]
/-- step by step, as the reference goes: what is told so far, and whether a blank stands ahead -/
def plGo (out : List (BitVec 8)) (p : Bool) : List (BitVec 8) → List (BitVec 8)
  | [] => out
  | x :: t => if x = 32 then plGo out true t else plGo ((if out ≠ [] ∧ p = true then out ++ [32] else out) ++ [lowB x]) false t
theorem plGo_eq : ∀ (t out : List (BitVec 8)) (p : Bool), plGo out p t = out ++ (if out = [] then plainL t else if p then plP t else plS t)
  | [], out, p => by
    rw [plP_nil, plS_nil]
    unfold plGo plainL
    split
    · simp
    · split <;> simp
  | x :: t, out, p => by
    have ih := plGo_eq t
    unfold plGo
    by_cases hx : x = 32
    · rw [if_pos hx, ih]
      by_cases ho : out = []
      · rw [if_pos ho, if_pos ho, plainL, if_pos hx]
      · rw [if_neg ho, if_neg ho, if_pos rfl]
        cases p
        · simp only [Bool.false_eq_true, if_false]
          rw [plS_cons, if_pos hx]
        · simp only [if_true]
          rw [plP_cons, if_pos hx]
    · rw [if_neg hx, ih]
      by_cases ho : out = []
      · subst ho
        simp only [ne_eq, not_true_eq_false, false_and, if_false, List.nil_append, if_true]
        rw [if_neg (by simp), plainL, if_neg hx]
        simp
      · rw [if_neg ho]
        cases p
        · rw [if_neg (by simp), if_neg (by simp)]
          simp only [Bool.false_eq_true, if_false]
          rw [plS_cons, if_neg hx]
          simp
        · rw [if_pos ⟨ho, rfl⟩, if_neg (by simp)]
          simp only [if_true, Bool.false_eq_true, if_false]
          rw [plP_cons, if_neg hx]
          simp
theorem plGo_all (t : List (BitVec 8)) : plGo [] false t = plainL t := by rw [plGo_eq, if_pos rfl, List.nil_append]
theorem pl_len : ∀ t : List (BitVec 8), (plS t).length ≤ t.length ∧ (plP t).length ≤ t.length + 1
  | [] => ⟨Nat.le_refl _, Nat.zero_le _⟩
  | x :: t => by
    obtain ⟨h1, h2⟩ := pl_len t
    rw [plS_cons, plP_cons]
    constructor
    · split
      · simp; omega
      · simp; omega
    · split
      · simp; omega
      · simp; omega
theorem plS_len (t : List (BitVec 8)) : (plS t).length ≤ t.length := (pl_len t).1
theorem plP_len (t : List (BitVec 8)) : (plP t).length ≤ t.length + 1 := (pl_len t).2
end Go.Proofs.Ythookcnkmlmgcaa
