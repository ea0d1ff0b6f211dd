/-
  Bytes compared: a strict weak order.
-/
import Derived.Test.YtfipgmjaabggjaaDoorVYg
namespace Go.Proofs.YtfipgmjaabggjaaDoor
open Go Go.RowKit Go.Sort
set_option maxRecDepth 4000

theorem cmp_lt : ∀ (x y : List UInt8), (Lib.compareBytes x y < 0) ↔ x < y
  | [], [] => by simp [Lib.compareBytes]
  | [], b :: l2 => by simp [Lib.compareBytes]
  | a :: l1, [] => by simp [Lib.compareBytes]
  | a :: l1, b :: l2 => by
    have ih := cmp_lt l1 l2
    unfold Lib.compareBytes
    rw [List.cons_lt_cons_iff]
    by_cases h1 : a < b
    · rw [if_pos h1]; simp [h1]
    · rw [if_neg h1]
      by_cases h2 : b < a
      · rw [if_pos h2]
        have hne : a ≠ b := fun e => by subst e; exact h1 h2
        simp [h1, hne]
      · rw [if_neg h2]
        have he : a = b := by
          have a1 : ¬ a.toNat < b.toNat := fun e => h1 (UInt8.lt_iff_toNat_lt.2 e)
          have a2 : ¬ b.toNat < a.toNat := fun e => h2 (UInt8.lt_iff_toNat_lt.2 e)
          exact UInt8.toNat_inj.1 (by omega)
        subst he
        simp [h1, ih]
theorem cmp_eq0 (x y : List UInt8) (h : ¬ x < y) (h' : ¬ y < x) : x = y := by
  exact List.le_antisymm (List.not_lt.1 h') (List.not_lt.1 h)
theorem swoB {α : Type} (f : α → List UInt8) : SWO (ltOf fun a b => Lib.compareBytes (f a) (f b)) where
  irrefl x := by unfold ltOf; rw [decide_eq_false_iff_not, cmp_lt]; exact List.lt_irrefl _
  trans x y z h1 h2 := by
    unfold ltOf at *
    rw [decide_eq_true_eq, cmp_lt] at *
    exact List.lt_trans h1 h2
  ntrans x y z h1 h2 := by
    unfold ltOf at *
    rw [decide_eq_false_iff_not, cmp_lt] at *
    exact fun h => (List.not_lt.2 (List.le_trans (List.not_lt.1 h2) (List.not_lt.1 h1))) h
end Go.Proofs.YtfipgmjaabggjaaDoor
