/-
  A list of bytes turned byte by byte.
-/
import Derived.Test.YtkjfhgbpiogigaaDoorPureb
namespace Go.Proofs.YtkjfhgbpiogigaaDoor
open Go

/-- the first k bytes turned by f -/
def bump (f : BitVec 8 → BitVec 8) (D : List (BitVec 8)) : Nat → List (BitVec 8)
  | 0 => D
  | k + 1 => (bump f D k).set k (f (gb (bump f D k) k))
theorem bump_len (f : BitVec 8 → BitVec 8) (D : List (BitVec 8)) (k : Nat) : (bump f D k).length = D.length := by
  induction k with
  | zero => rfl
  | succ k ih => simp [bump, ih]
theorem bump_at (f : BitVec 8 → BitVec 8) (D : List (BitVec 8)) (k j : Nat) (hj : j < D.length) (hk : k ≤ D.length) : (bump f D k)[j]? = some (if j < k then f (gb D j) else gb D j) := by
  induction k with
  | zero =>
    rw [if_neg (Nat.not_lt_zero _)]
    show D[j]? = some (gb D j)
    simp [gb, hj]
  | succ k ih =>
    rw [bump, List.getElem?_set]
    by_cases e : k = j
    · subst e
      have h := ih (by omega)
      rw [if_neg (Nat.lt_irrefl _)] at h
      rw [if_pos rfl, if_pos (by rw [bump_len]; exact hj), if_pos (Nat.lt_succ_self _)]
      rw [show gb (bump f D k) k = gb D k by unfold gb at h ⊢; rw [List.getD_eq_getElem?_getD, h]; rfl]
    · rw [if_neg e, ih (by omega)]
      by_cases h : j < k
      · rw [if_pos h, if_pos (by omega)]
      · rw [if_neg h, if_neg (by omega)]
theorem bump_back (D : List (BitVec 8)) (n : Nat) (h : D.length = n) : bump (fun x => x - 1) (bump (fun x => x + 1) D n) n = D := by
  subst h
  apply List.ext_getElem?
  intro j
  by_cases hj : j < D.length
  · rw [bump_at _ _ _ _ (by rw [bump_len]; exact hj) (by rw [bump_len]; exact Nat.le_refl _), if_pos hj]
    have h1 := bump_at (fun x => x + 1) D D.length j hj (Nat.le_refl _)
    rw [if_pos hj] at h1
    have h2 : gb (bump (fun x => x + 1) D D.length) j = gb D j + 1 := by unfold gb at h1 ⊢; rw [List.getD_eq_getElem?_getD, h1]; rfl
    rw [h2, List.getElem?_eq_getElem hj]
    have h3 : gb D j = D[j] := by simp [gb, hj]
    rw [h3]
    exact congrArg some (BitVec.add_sub_cancel _ _)
  · rw [List.getElem?_eq_none (by rw [bump_len, bump_len]; omega), List.getElem?_eq_none (by omega)]
theorem ub_inc (x : BitVec 8) : (ub x + 1) % (256 : Int) = ub (x + 1) := by
  unfold ub; rw [BitVec.toNat_add]; simp
theorem ub_dec (x : BitVec 8) : (ub x - 1) % (256 : Int) = ub (x - 1) := by
  have := x.isLt
  unfold ub; rw [BitVec.toNat_sub]; simp; omega
end Go.Proofs.YtkjfhgbpiogigaaDoor
