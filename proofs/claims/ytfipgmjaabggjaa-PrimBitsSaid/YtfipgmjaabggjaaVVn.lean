/-
  prim: areBits, Bits; the reference's Bits.
-/
import Derived.Test.YtfipgmjaabggjaaVVa
import Derived.Test.YtfipgmjaabggjaaVKf
import Derived.Test.YtfipgmjaabggjaaVTc
namespace Go.Proofs.Ytfipgmjaabggjaa
open Go Go.RowKit
set_option maxRecDepth 4000

abbrev bit : TypeId := 45
/-- may bits be? -/
def bitsB (l : List (BitVec 8)) (u : Int) : Bool := if l = [] then decide (u = 0) else decide (0 ≤ u) && (decide (u ≤ 7) && decide ((gb l (l.length - 1)).toNat % 2 ^ u.toNat = 0))
theorem and_low (x : BitVec 8) : bits .and .u8 (ub x) 0 = ((x.toNat % 1 : Nat) : Int) ∧ bits .and .u8 (ub x) 1 = ((x.toNat % 2 : Nat) : Int) ∧ bits .and .u8 (ub x) 3 = ((x.toNat % 4 : Nat) : Int) ∧ bits .and .u8 (ub x) 7 = ((x.toNat % 8 : Nat) : Int) ∧
    bits .and .u8 (ub x) 15 = ((x.toNat % 16 : Nat) : Int) ∧ bits .and .u8 (ub x) 31 = ((x.toNat % 32 : Nat) : Int) ∧ bits .and .u8 (ub x) 63 = ((x.toNat % 64 : Nat) : Int) ∧ bits .and .u8 (ub x) 127 = ((x.toNat % 128 : Nat) : Int) := by
  revert x
  refine all8 ?_
  decide +kernel
theorem eq0_dec (q : Nat) : ((q : Int) == 0) = decide (q = 0) := by rw [Bool.eq_iff_iff]; simp
set_option maxHeartbeats 4000000 in
theorem areBits_any {l : List (BitVec 8)} {A : Option Addr} {n c : Nat} {w : World} (h : Bs w A n c l) (hnm : n ≤ 140737488355328) (u : Int) : Calls Try.prog 40 #[.agg #[.slice A n c, .int .i64 u]] w fun e w' => e = .returned (.bool (bitsB l u)) ∧ Ext w w' := by
  have hl := h.len
  by_cases h0 : u < 0
  · have e : bitsB l u = false := by
      unfold bitsB
      rw [decide_eq_false (p := u = 0) (by omega), decide_eq_false (p := 0 ≤ u) (by omega)]
      split <;> rfl
    rw [e]
    have b1 : decide (u < 0) = true := decide_eq_true h0
    clear h hl e h0
    go_enter Try.func40, Try.ntmps40
    go_wp2_with fail
    go_ret
    exact ⟨rfl, (by (repeat (first | assumption | exact Ext.refl _ | apply Ext.drew | apply Ext.drewN | apply Ext.alloc | refine Ext.trans ?_ (by assumption))); first | done | fail)⟩
  by_cases h7 : 7 < u
  · have e : bitsB l u = false := by
      unfold bitsB
      rw [decide_eq_false (p := u = 0) (by omega), decide_eq_false (p := u ≤ 7) (by omega), Bool.false_and, Bool.and_false]
      split <;> rfl
    rw [e]
    have b1 : decide (u < 0) = false := decide_eq_false h0
    have b2 : decide (7 < u) = true := decide_eq_true h7
    clear h hl e h0 h7
    go_enter Try.func40, Try.ntmps40
    go_wp2_with fail
    go_ret
    exact ⟨rfl, (by (repeat (first | assumption | exact Ext.refl _ | apply Ext.drew | apply Ext.drewN | apply Ext.alloc | refine Ext.trans ?_ (by assumption))); first | done | fail)⟩
  have b1 : decide (u < 0) = false := decide_eq_false h0
  have b2 : decide (7 < u) = false := decide_eq_false h7
  by_cases hn : n = 0
  · subst hn
    have e : bitsB l u = (u == 0) := by
      unfold bitsB
      rw [if_pos (List.eq_nil_of_length_eq_zero hl), Bool.eq_iff_iff]
      simp
    rw [e]
    clear h hl e h0 h7
    go_enter Try.func40, Try.ntmps40
    go_wp2_with fail
    go_ret
    exact ⟨rfl, (by (repeat (first | assumption | exact Ext.refl _ | apply Ext.drew | apply Ext.drewN | apply Ext.alloc | refine Ext.trans ?_ (by assumption))); first | done | fail)⟩
  obtain ⟨g, o, rfl, hc⟩ := h.s.2.2.2 (by omega)
  obtain ⟨k, hk⟩ : ∃ k, k = n - 1 := ⟨_, rfl⟩
  have c1 : ∀ w', Ext w w' → w'.cell? ⟨g, o + k, none⟩ = some (.int .u8 (ub (gb l k))) := fun w' hx => by
    obtain ⟨g', o', e, hc'⟩ := (h.ext hx).s.2.2.2 (by omega)
    cases e
    exact hc' k (by omega)
  have hne : l ≠ [] := fun e => by rw [e] at hl; exact hn hl.symm
  have e : bitsB l u = decide ((gb l k).toNat % 2 ^ u.toNat = 0) := by
    unfold bitsB
    rw [if_neg hne, decide_eq_true (p := 0 ≤ u) (by omega), decide_eq_true (p := u ≤ 7) (by omega), hl, ← hk, Bool.true_and, Bool.true_and]
  rw [e]
  have z1 : ((n : Int) == 0) = false := beq_eq_false_iff_ne.2 (by omega)
  have z2 : ¬ n = 0 := hn
  have s1 : IntKind.i64.wrap ((n : Int) - 1) = (k : Int) := by rw [IntKind.wrap_i64]; omega
  have d1 : (k : Int) < (n : Int) := by omega
  have d2 : k < n := by omega
  obtain ⟨a0, a1, a2, a3, a4, a5, a6, a7⟩ := and_low (gb l k)
  clear h hl e hc hne hk hn
  generalize gb l k = x at *
  rcases (by omega : u = 0 ∨ u = 1 ∨ u = 2 ∨ u = 3 ∨ u = 4 ∨ u = 5 ∨ u = 6 ∨ u = 7) with rfl | rfl | rfl | rfl | rfl | rfl | rfl | rfl
  all_goals
    first
      | rw [show x.toNat % 2 ^ (0 : Int).toNat = x.toNat % 1 from rfl, ← eq0_dec, ← a0]
      | rw [show x.toNat % 2 ^ (1 : Int).toNat = x.toNat % 2 from rfl, ← eq0_dec, ← a1]
      | rw [show x.toNat % 2 ^ (2 : Int).toNat = x.toNat % 4 from rfl, ← eq0_dec, ← a2]
      | rw [show x.toNat % 2 ^ (3 : Int).toNat = x.toNat % 8 from rfl, ← eq0_dec, ← a3]
      | rw [show x.toNat % 2 ^ (4 : Int).toNat = x.toNat % 16 from rfl, ← eq0_dec, ← a4]
      | rw [show x.toNat % 2 ^ (5 : Int).toNat = x.toNat % 32 from rfl, ← eq0_dec, ← a5]
      | rw [show x.toNat % 2 ^ (6 : Int).toNat = x.toNat % 64 from rfl, ← eq0_dec, ← a6]
      | rw [show x.toNat % 2 ^ (7 : Int).toNat = x.toNat % 128 from rfl, ← eq0_dec, ← a7]
    clear a0 a1 a2 a3 a4 a5 a6 a7 h0 h7
    go_enter Try.func40, Try.ntmps40
    go_wp2_with fail
    go_quiet (fail)
    go_wp2_with fail
    go_ret
    exact ⟨rfl, (by (repeat (first | assumption | exact Ext.refl _ | apply Ext.drew | apply Ext.drewN | apply Ext.alloc | refine Ext.trans ?_ (by assumption))); first | done | fail)⟩
end Go.Proofs.Ytfipgmjaabggjaa
