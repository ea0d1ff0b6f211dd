/-
  prim: within, daysOf, daysAhead, isTime; the reference's Leap, Days.
-/
import Derived.Test.YtfipgmjaabggjaaDoorVKd
import Derived.Test.YtfipgmjaabggjaaDoorVHa
import Derived.Lib.Hide
namespace Go.Proofs.YtfipgmjaabggjaaDoor
open Go Go.RowKit
set_option maxRecDepth 4000

theorem within_yes (n a b : Int) (ha : a ≤ n) (hb : n ≤ b) (w : World) : Calls Tryd.prog 76 #[.int .i64 n, .int .i64 a, .int .i64 b] w fun e w' => e = .returned (.bool true) ∧ w' = w := by
  have h1 : decide (a ≤ n) = true := decide_eq_true ha
  have h2 : decide (n ≤ b) = true := decide_eq_true hb
  clear ha hb
  go_enter Tryd.func76, Tryd.ntmps76
  go_wp2
  go_ret
  exact ⟨rfl, rfl⟩
theorem within_no (n a b : Int) (h : ¬ (a ≤ n ∧ n ≤ b)) (w : World) : Calls Tryd.prog 76 #[.int .i64 n, .int .i64 a, .int .i64 b] w fun e w' => e = .returned (.bool false) ∧ w' = w := by
  by_cases ha : a ≤ n
  · have h1 : decide (a ≤ n) = true := decide_eq_true ha
    have h2 : decide (n ≤ b) = false := decide_eq_false fun e => h ⟨ha, e⟩
    clear ha h
    go_enter Tryd.func76, Tryd.ntmps76
    go_wp2
    go_ret
    exact ⟨rfl, rfl⟩
  · have h1 : decide (a ≤ n) = false := decide_eq_false ha
    clear ha h
    go_enter Tryd.func76, Tryd.ntmps76
    go_wp2
    go_ret
    exact ⟨rfl, rfl⟩
theorem tm_nat (y k : Nat) (_ : 0 < k) : (y : Int).tmod (k : Int) = ((y % k : Nat) : Int) := by
  rw [Int.tmod_eq_emod_of_nonneg (by omega)]
  exact (Int.natCast_emod y k).symm
theorem td_nat (y k : Nat) : (y : Int).tdiv (k : Int) = ((y / k : Nat) : Int) := by
  rw [Int.tdiv_eq_ediv_of_nonneg (by omega)]
  exact (Int.natCast_ediv y k).symm
theorem dimM_feb (y : Nat) : dimM y 2 = if leapY y = true then 29 else 28 := rfl
theorem dimM_else (y m : Nat) (h : m ≠ 2) : dimM y m = if m = 4 ∨ m = 6 ∨ m = 9 ∨ m = 11 then 30 else 31 := by unfold dimM; rw [if_neg h]
theorem modz (y k : Nat) (K : Int) (hK : (k : Int) = K) (hk : 0 < k) : ∃ A : Int, (y : Int).tmod K = A ∧ ((y % k = 0 ∧ A = 0) ∨ (y % k ≠ 0 ∧ (A == 0) = false ∧ (A != 0) = true ∧ ¬ A = 0)) := by
  subst hK
  refine ⟨_, tm_nat y k hk, ?_⟩
  by_cases h : y % k = 0
  · exact .inl ⟨h, by omega⟩
  · exact .inr ⟨h, beq_eq_false_iff_ne.2 (by omega), bne_iff_ne.2 (by omega), by omega⟩
theorem zeq (a : Nat) : ((a : Int) == 0) = decide (a = 0) := by rw [Bool.eq_iff_iff]; simp
theorem mod400 {y a c : Nat} (h4 : y % 4 = a) (h400 : y % 400 = c) (hc : c = 0) : a = 0 := by omega
set_option maxHeartbeats 2000000 in
theorem daysOf_any (y m : Nat) (hm : 1 ≤ m ∧ m ≤ 12) (w : World) : Calls Tryd.prog 56 #[.int .i64 (y : Int), .int .i64 (m : Int)] w fun e w' => e = .returned (.int .i64 (dimM y m : Int)) ∧ w' = w := by
  by_cases h2 : m = 2
  · subst h2
    rw [dimM_feb]
    obtain ⟨a, e4, h4⟩ := modz y 4 4 rfl (by decide)
    obtain ⟨b, e100, h100⟩ := modz y 100 100 rfl (by decide)
    obtain ⟨c, e400, h400⟩ := modz y 400 400 rfl (by decide)
    have hl : leapY y = (decide (y % 400 = 0) || (decide (y % 4 = 0) && !decide (y % 100 = 0))) := by
      rw [Bool.eq_iff_iff, leap_eq]; simp
    have hz : y % 400 = 0 → y % 4 = 0 := fun h => by omega
    generalize leapY y = L at *
    rcases h4 with ⟨h4, rfl⟩ | ⟨h4, b1, v1, b2⟩ <;> rcases h100 with ⟨h100, rfl⟩ | ⟨h100, b3, v3, b4⟩ <;> rcases h400 with ⟨h400, rfl⟩ | ⟨h400, b5, v5, b6⟩
    all_goals cases L
    all_goals first
      | (exfalso
         (first | rw [decide_eq_true h4] at hl | rw [decide_eq_false h4] at hl)
         (first | rw [decide_eq_true h100] at hl | rw [decide_eq_false h100] at hl)
         (first | rw [decide_eq_true h400] at hl | rw [decide_eq_false h400] at hl)
         revert hl
         decide)
      | exact absurd (hz h400) h4
      | (clear hl hz h4 h100 h400
         generalize (y : Int) = Y at *
         try rw [if_pos rfl]
         try rw [if_neg Bool.false_ne_true]
         go_enter Tryd.func56, Tryd.ntmps56
         go_wp2
         go_ret
         exact ⟨rfl, rfl⟩)
  · have b1 : ((m : Int) == 2) = false := beq_eq_false_iff_ne.2 (by omega)
    have b2 : ¬ m = 2 := h2
    rw [dimM_else y m h2]
    by_cases h : m = 4 ∨ m = 6 ∨ m = 9 ∨ m = 11
    · rw [if_pos h]
      rcases h with rfl | rfl | rfl | rfl
      all_goals
        go_enter Tryd.func56, Tryd.ntmps56
        go_wp2
        go_ret
        exact ⟨rfl, rfl⟩
    · rw [if_neg h]
      have b3 : ((m : Int) == 4) = false := beq_eq_false_iff_ne.2 (by omega)
      have b4 : ((m : Int) == 6) = false := beq_eq_false_iff_ne.2 (by omega)
      have b5 : ((m : Int) == 9) = false := beq_eq_false_iff_ne.2 (by omega)
      have b6 : ((m : Int) == 11) = false := beq_eq_false_iff_ne.2 (by omega)
      have d3 : ¬ m = 4 := fun e => h (.inl e)
      have d4 : ¬ m = 6 := fun e => h (.inr (.inl e))
      have d5 : ¬ m = 9 := fun e => h (.inr (.inr (.inl e)))
      have d6 : ¬ m = 11 := fun e => h (.inr (.inr (.inr e)))
      clear h hm h2
      go_enter Tryd.func56, Tryd.ntmps56
      go_wp2
      go_ret
      exact ⟨rfl, rfl⟩
set_option maxHeartbeats 2000000 in
theorem daysAhead_any (y : Nat) (hy : y ≤ 20000) (w : World) : Calls Tryd.prog 55 #[.int .i64 ((y + 1 : Nat) : Int)] w fun e w' => e = .returned (.int .i64 (ydN y : Int)) ∧ w' = w := by
  have h := ydN_eq y
  have e0 : IntKind.i64.wrap (((y + 1 : Nat) : Int) - 1) = (y : Int) := by rw [IntKind.wrap_i64]; omega
  have e1 : IntKind.i64.wrap (365 * (y : Int)) = ((365 * y : Nat) : Int) := by rw [IntKind.wrap_i64]; omega
  have e4 : (y : Int).tdiv 4 = _ := td_nat y 4
  have e100 : (y : Int).tdiv 100 = _ := td_nat y 100
  have e400 : (y : Int).tdiv 400 = _ := td_nat y 400
  have f4 : IntKind.i64.wrap ((y / 4 : Nat) : Int) = ((y / 4 : Nat) : Int) := by rw [IntKind.wrap_i64]; omega
  have f100 : IntKind.i64.wrap ((y / 100 : Nat) : Int) = ((y / 100 : Nat) : Int) := by rw [IntKind.wrap_i64]; omega
  have f400 : IntKind.i64.wrap ((y / 400 : Nat) : Int) = ((y / 400 : Nat) : Int) := by rw [IntKind.wrap_i64]; omega
  have e5 : IntKind.i64.wrap (((365 * y : Nat) : Int) + ((y / 4 : Nat) : Int)) = ((365 * y + y / 4 : Nat) : Int) := by rw [IntKind.wrap_i64]; omega
  have e6 : IntKind.i64.wrap (((365 * y + y / 4 : Nat) : Int) - ((y / 100 : Nat) : Int)) = ((365 * y + y / 4 - y / 100 : Nat) : Int) := by rw [IntKind.wrap_i64]; omega
  have e7 : IntKind.i64.wrap (((365 * y + y / 4 - y / 100 : Nat) : Int) + ((y / 400 : Nat) : Int)) = (ydN y : Int) := by rw [IntKind.wrap_i64]; omega
  generalize ydN y = D at *
  generalize 365 * y + y / 4 - y / 100 = x3 at *
  generalize 365 * y + y / 4 = x2 at *
  generalize 365 * y = x1 at *
  generalize y / 4 = q4 at *
  generalize y / 100 = q100 at *
  generalize y / 400 = q400 at *
  obtain ⟨z, hz⟩ : ∃ z, z = y + 1 := ⟨_, rfl⟩
  rw [← hz] at e0 ⊢
  clear hz h hy
  go_enter Tryd.func55, Tryd.ntmps55
  go_wp2
  go_ret
  exact ⟨rfl, rfl⟩
end Go.Proofs.YtfipgmjaabggjaaDoor
