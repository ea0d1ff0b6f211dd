/-
  The reference's two, digits.
-/
import Derived.Test.YtfipgmjaabggjaaVVz
namespace Go.Proofs.Ytfipgmjaabggjaa
open Go Go.RowKit
set_option maxRecDepth 4000

set_option maxHeartbeats 2000000 in
theorem refTwo_any (n : Nat) (hn : n ≤ 100000) (w : World) : Calls Try.prog 45 #[.int .i64 (n : Int)] w fun e w' => Fresh w 2 (d2 n) e w' := by
  have hd : d2 n = [gb (d2 n) 0, gb (d2 n) 1] := rfl
  have g0 : gb (d2 n) 0 = BitVec.ofNat 8 (48 + n / 10 % 10) := rfl
  have g1 : gb (d2 n) 1 = BitVec.ofNat 8 (48 + n % 10) := rfl
  have e1 : (n : Int).tdiv 10 = ((n / 10 : Nat) : Int) := td_nat n 10
  have e2 : ((n / 10 : Nat) : Int).tmod 10 = ((n / 10 % 10 : Nat) : Int) := tm_nat (n / 10) 10 (by decide)
  have e3 : (n : Int).tmod 10 = ((n % 10 : Nat) : Int) := tm_nat n 10 (by decide)
  have f1 : IntKind.i64.wrap ((n / 10 : Nat) : Int) = ((n / 10 : Nat) : Int) := by rw [IntKind.wrap_i64]; omega
  have f2 : IntKind.i64.wrap ((n / 10 % 10 : Nat) : Int) = ((n / 10 % 10 : Nat) : Int) := by rw [IntKind.wrap_i64]; omega
  have f3 : IntKind.i64.wrap ((n % 10 : Nat) : Int) = ((n % 10 : Nat) : Int) := by rw [IntKind.wrap_i64]; omega
  have f4 : IntKind.i64.wrap (48 + ((n / 10 % 10 : Nat) : Int)) = ((48 + n / 10 % 10 : Nat) : Int) := by rw [IntKind.wrap_i64]; omega
  have f5 : IntKind.i64.wrap (48 + ((n % 10 : Nat) : Int)) = ((48 + n % 10 : Nat) : Int) := by rw [IntKind.wrap_i64]; omega
  have f6 : IntKind.u8.wrap ((48 + n / 10 % 10 : Nat) : Int) = ub (gb (d2 n) 0) := by rw [g0]; unfold ub; rw [BitVec.toNat_ofNat, IntKind.wrap_u8]; omega
  have f7 : IntKind.u8.wrap ((48 + n % 10 : Nat) : Int) = ub (gb (d2 n) 1) := by rw [g1]; unfold ub; rw [BitVec.toNat_ofNat, IntKind.wrap_u8]; omega
  rw [hd]
  generalize gb (d2 n) 0 = x at *
  generalize gb (d2 n) 1 = y at *
  generalize 48 + n / 10 % 10 = z1 at *
  generalize 48 + n % 10 = z2 at *
  generalize n / 10 % 10 = z3 at *
  generalize n / 10 = z4 at *
  generalize n % 10 = z5 at *
  clear hd g0 g1
  have ho := Own.new w w.heap.size 2 [x, y] rfl (Nat.le_refl _) (by decide)
  go_enter Try.func45, Try.ntmps45
  go_wp2_with fail
  go_ret
  exact ⟨_, _, rfl, ho.bs, ho, (by (repeat (first | assumption | exact Ext.refl _ | apply Ext.drew | apply Ext.drewN | apply Ext.alloc | refine Ext.trans ?_ (by assumption))); first | done | fail)⟩
/-- what two bytes tell the reference: below 0, if they are no digits -/
def dgI (x y : BitVec 8) : Int := if digB x = true ∧ digB y = true then (pr8 x y : Int) else -1
set_option maxHeartbeats 4000000 in
theorem refDigits_any {b : List (BitVec 8)} {A : Option Addr} {n c : Nat} {w : World} (h : Bs w A n c b) (k : Nat) (hk : k + 1 < n) (hn : n ≤ 100) : Calls Try.prog 48 #[.slice A n c, .int .i64 (k : Int)] w fun e w' => e = .returned (.int .i64 (dgI (gb b k) (gb b (k + 1)))) ∧ Ext w w' := by
  obtain ⟨g, o, rfl, hc⟩ := h.s.2.2.2 (by omega)
  have c0 := hc k (by omega)
  have c1 := hc (k + 1) hk
  have b0 : (k : Int) < (n : Int) := by omega
  have b1 : ((k + 1 : Nat) : Int) < (n : Int) := by omega
  have b2 : k < n := by omega
  have s1 : IntKind.i64.wrap ((k : Int) + 1) = ((k + 1 : Nat) : Int) := by rw [IntKind.wrap_i64]; omega
  obtain ⟨k1, hk1⟩ : ∃ k1, k1 = k + 1 := ⟨_, rfl⟩
  rw [← hk1] at c1 b1 s1 hk ⊢
  clear hc h hk1
  generalize gb b k = x at *
  generalize gb b k1 = y at *
  have hx := x.isLt
  have hy := y.isLt
  have t0 := sub48 x
  have t1 := sub48 y
  have hxs := (x - 48).isLt
  have hys := (y - 48).isLt
  have w0 : IntKind.i64.wrap (ub (x - 48)) = ub (x - 48) := by unfold ub; rw [IntKind.wrap_i64]; omega
  have w1 : IntKind.i64.wrap (ub (y - 48)) = ub (y - 48) := by unfold ub; rw [IntKind.wrap_i64]; omega
  have w2 : IntKind.i64.wrap (10 * ub (x - 48)) = 10 * ub (x - 48) := by unfold ub; rw [IntKind.wrap_i64]; omega
  have w3 : IntKind.i64.wrap (10 * ub (x - 48) + ub (y - 48)) = (pr8 x y : Int) := by unfold pr8 ub; rw [IntKind.wrap_i64]; omega
  have hdx : ∀ z : BitVec 8, digB z = true ↔ ¬ ub z < 48 ∧ ¬ 57 < ub z := fun z => by unfold digB ub; simp only [Bool.and_eq_true, decide_eq_true_eq]; omega
  have hD : dgI x y = if (¬ ub x < 48 ∧ ¬ 57 < ub x) ∧ ¬ ub y < 48 ∧ ¬ 57 < ub y then (pr8 x y : Int) else -1 := by
    unfold dgI
    simp only [hdx]
  rw [hD]
  clear hD hdx hx hy hxs hys
  generalize x - 48 = x' at *
  generalize y - 48 = y' at *
  generalize (pr8 x y : Int) = p at *
  generalize ub x = X at *
  generalize ub y = Y at *
  by_cases d1 : X < 48
  · rw [if_neg (fun e => e.1.1 d1)]
    have q1 : decide (X < 48) = true := decide_eq_true d1
    clear d1
    go_enter Try.func48, Try.ntmps48
    go_wp2_with fail
    go_ret
    exact ⟨rfl, (by (repeat (first | assumption | exact Ext.refl _ | apply Ext.drew | apply Ext.drewN | apply Ext.alloc | refine Ext.trans ?_ (by assumption))); first | done | fail)⟩
  have q1 : decide (X < 48) = false := decide_eq_false d1
  by_cases d2 : 57 < X
  · rw [if_neg (fun e => e.1.2 d2)]
    have q2 : decide (57 < X) = true := decide_eq_true d2
    clear d1 d2
    go_enter Try.func48, Try.ntmps48
    go_wp2_with fail
    go_ret
    exact ⟨rfl, (by (repeat (first | assumption | exact Ext.refl _ | apply Ext.drew | apply Ext.drewN | apply Ext.alloc | refine Ext.trans ?_ (by assumption))); first | done | fail)⟩
  have q2 : decide (57 < X) = false := decide_eq_false d2
  by_cases d3 : Y < 48
  · rw [if_neg (fun e => e.2.1 d3)]
    have q3 : decide (Y < 48) = true := decide_eq_true d3
    clear d1 d2 d3
    go_enter Try.func48, Try.ntmps48
    go_wp2_with fail
    go_ret
    exact ⟨rfl, (by (repeat (first | assumption | exact Ext.refl _ | apply Ext.drew | apply Ext.drewN | apply Ext.alloc | refine Ext.trans ?_ (by assumption))); first | done | fail)⟩
  have q3 : decide (Y < 48) = false := decide_eq_false d3
  by_cases d4 : 57 < Y
  · rw [if_neg (fun e => e.2.2 d4)]
    have q4 : decide (57 < Y) = true := decide_eq_true d4
    clear d1 d2 d3 d4
    go_enter Try.func48, Try.ntmps48
    go_wp2_with fail
    go_ret
    exact ⟨rfl, (by (repeat (first | assumption | exact Ext.refl _ | apply Ext.drew | apply Ext.drewN | apply Ext.alloc | refine Ext.trans ?_ (by assumption))); first | done | fail)⟩
  have q4 : decide (57 < Y) = false := decide_eq_false d4
  rw [if_pos ⟨⟨d1, d2⟩, d3, d4⟩]
  clear d1 d2 d3 d4
  go_enter Try.func48, Try.ntmps48
  go_wp2_with fail
  go_quiet (fail)
  go_wp2_with fail
  go_ret
  exact ⟨rfl, (by (repeat (first | assumption | exact Ext.refl _ | apply Ext.drew | apply Ext.drewN | apply Ext.alloc | refine Ext.trans ?_ (by assumption))); first | done | fail)⟩
end Go.Proofs.Ytfipgmjaabggjaa
