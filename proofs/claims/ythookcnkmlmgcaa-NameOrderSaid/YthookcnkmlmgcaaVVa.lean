/-
  prim: within, daysOf, daysAhead, isTime; the reference's Leap, Days.
-/
import Derived.Test.YthookcnkmlmgcaaVKd
import Derived.Test.YthookcnkmlmgcaaVHa
import Derived.Lib.Hide
namespace Go.Proofs.Ythookcnkmlmgcaa
open Go Go.RowKit
set_option maxRecDepth 4000

theorem tm_nat (y k : Nat) (_ : 0 < k) : (y : Int).tmod (k : Int) = ((y % k : Nat) : Int) := by
  rw [Int.tmod_eq_emod_of_nonneg (by omega)]
  exact (Int.natCast_emod y k).symm
theorem td_nat (y k : Nat) : (y : Int).tdiv (k : Int) = ((y / k : Nat) : Int) := by
  rw [Int.tdiv_eq_ediv_of_nonneg (by omega)]
  exact (Int.natCast_ediv y k).symm
theorem dimM_feb (y : Nat) : dimM y 2 = if leapY y = true then 29 else 28 := rfl
theorem dimM_else (y m : Nat) (h : m ≠ 2) : dimM y m = if m = 4 ∨ m = 6 ∨ m = 9 ∨ m = 11 then 30 else 31 := by unfold dimM; rw [if_neg h]
theorem modz (y k : Nat) (K : Int) (hK : (k : Int) = K) (hk : 0 < k) : ∃ A : Int, (y : Int).tmod K = A ∧ ((y % k = 0 ∧ A = 0) ∨ (y % k ≠ 0 ∧ (A == 0) = false ∧ (A != 0) = true ∧ ¬ A = 0)) := by
  subst hK
  refine ⟨_, tm_nat y k hk, ?_⟩
  by_cases h : y % k = 0
  · exact .inl ⟨h, by omega⟩
  · exact .inr ⟨h, beq_eq_false_iff_ne.2 (by omega), bne_iff_ne.2 (by omega), by omega⟩
theorem zeq (a : Nat) : ((a : Int) == 0) = decide (a = 0) := by rw [Bool.eq_iff_iff]; simp
theorem mod400 {y a c : Nat} (h4 : y % 4 = a) (h400 : y % 400 = c) (hc : c = 0) : a = 0 := by omega
end Go.Proofs.Ythookcnkmlmgcaa
