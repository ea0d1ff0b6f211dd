/-
  prim: yearOf.
-/
import Derived.Test.YtfipgmjaabggjaaDoorVVw
namespace Go.Proofs.YtfipgmjaabggjaaDoor
open Go Go.RowKit
set_option maxRecDepth 4000

set_option maxHeartbeats 2000000 in
theorem yearOf_A {b : List (BitVec 8)} {A : Option Addr} {n c : Nat} {w : World} (h : Bs w A n c b) (h2 : 2 ≤ n) : Calls Tryd.prog 53 #[.int .u8 23, .slice A n c] w fun e w' => ∃ R, e = .returned (.tuple #[.int .i64 (yA b : Int), .slice R (n - 2) (c - 2)]) ∧ Bs w' R (n - 2) (c - 2) (b.drop 2) ∧ Ext w w' := by
  obtain ⟨R, hR, hD⟩ := h.cut 2 h2
  have hcut := run_from (P := Tryd.prog) A n c 24 5 Tryd.underlying24 szB 2 2 rfl h2
  rw [hR] at hcut
  have hp := pair_any h h2
  have b1 : decide ((2 : Int) ≤ (n : Int)) = true := decide_eq_true (by omega)
  have b2 : decide (2 ≤ n) = true := decide_eq_true (by omega)
  have hh := pr8_hi (gb b 0) (gb b 1)
  have w1 : IntKind.i64.wrap (1900 + (pr8 (gb b 0) (gb b 1) : Int)) = ((1900 + pr8 (gb b 0) (gb b 1) : Nat) : Int) := by rw [IntKind.wrap_i64]; omega
  have w2 : IntKind.i64.wrap (((1900 + pr8 (gb b 0) (gb b 1) : Nat) : Int) + 100) = ((1900 + pr8 (gb b 0) (gb b 1) + 100 : Nat) : Int) := by rw [IntKind.wrap_i64]; omega
  have hy : (1900 + pr8 (gb b 0) (gb b 1) < 1950 ∧ yA b = 1900 + pr8 (gb b 0) (gb b 1) + 100) ∨ (¬ 1900 + pr8 (gb b 0) (gb b 1) < 1950 ∧ yA b = 1900 + pr8 (gb b 0) (gb b 1)) := by
    unfold yA
    split
    · rename_i k; exact .inl ⟨k, rfl⟩
    · rename_i k; exact .inr ⟨k, rfl⟩
  have HD := Kp.mk hD
  generalize hP : pr8 (gb b 0) (gb b 1) = p at *
  generalize 1900 + p + 100 = z2 at *
  generalize 1900 + p = z1 at *
  generalize yA b = Y at *
  clear hR hD h hh hP h2
  rcases hy with ⟨k, rfl⟩ | ⟨k, rfl⟩
  · have b3 : decide ((z1 : Int) < 1950) = true := decide_eq_true (by omega)
    have b4 : decide (z1 < 1950) = true := decide_eq_true k
    clear k
    go_enter Tryd.func53, Tryd.ntmps53
    go_wp2_with (go_at_call 54; refine hp.mono ?_; rintro e w3 ⟨rfl, q, rfl⟩)
    go_quiet (fail)
    go_wp2_with fail
    go_ret2
    exact ⟨R, rfl, HD.out.ext (by (repeat (first | assumption | exact Ext.refl _ | apply Ext.drew | apply Ext.drewN | apply Ext.alloc | refine Ext.trans ?_ (by assumption))); first | done | fail), (by (repeat (first | assumption | exact Ext.refl _ | apply Ext.drew | apply Ext.drewN | apply Ext.alloc | refine Ext.trans ?_ (by assumption))); first | done | fail)⟩
  · have b3 : decide ((Y : Int) < 1950) = false := decide_eq_false (by omega)
    have b4 : decide (Y < 1950) = false := decide_eq_false k
    clear k
    go_enter Tryd.func53, Tryd.ntmps53
    go_wp2_with (go_at_call 54; refine hp.mono ?_; rintro e w3 ⟨rfl, q, rfl⟩)
    go_quiet (fail)
    go_wp2_with fail
    go_ret2
    exact ⟨R, rfl, HD.out.ext (by (repeat (first | assumption | exact Ext.refl _ | apply Ext.drew | apply Ext.drewN | apply Ext.alloc | refine Ext.trans ?_ (by assumption))); first | done | fail), (by (repeat (first | assumption | exact Ext.refl _ | apply Ext.drew | apply Ext.drewN | apply Ext.alloc | refine Ext.trans ?_ (by assumption))); first | done | fail)⟩
set_option maxHeartbeats 2000000 in
theorem yearOf_B {b : List (BitVec 8)} {A : Option Addr} {n c : Nat} {w : World} (h : Bs w A n c b) (h4 : 4 ≤ n) : Calls Tryd.prog 53 #[.int .u8 24, .slice A n c] w fun e w' => ∃ R, e = .returned (.tuple #[.int .i64 (yB b : Int), .slice R (n - 4) (c - 4)]) ∧ Bs w' R (n - 4) (c - 4) (b.drop 4) ∧ Ext w w' := by
  obtain ⟨R, hR, hD⟩ := h.cut 4 h4
  have hcut := run_from (P := Tryd.prog) A n c 24 5 Tryd.underlying24 szB 4 4 rfl h4
  rw [hR] at hcut
  obtain ⟨R2, hR2, hD2⟩ := h.cut 2 (by omega)
  have hcut2 := run_from (P := Tryd.prog) A n c 24 5 Tryd.underlying24 szB 2 2 rfl (by omega)
  rw [hR2] at hcut2
  have b1 : decide ((4 : Int) ≤ (n : Int)) = true := decide_eq_true (by omega)
  have b2 : decide (4 ≤ n) = true := decide_eq_true (by omega)
  have g2 : gb (b.drop 2) 0 = gb b 2 := gb_drop b 2 0
  have g3 : gb (b.drop 2) 1 = gb b 3 := gb_drop b 2 1
  have hp1 := fun W (hx : Ext w W) => pair_any (h.ext hx) (by omega)
  have hp2 := fun W (hx : Ext w W) => pair_any (hD2.ext hx) (by omega)
  rw [g2, g3] at hp2
  have hh1 := pr8_hi (gb b 0) (gb b 1)
  have hh2 := pr8_hi (gb b 2) (gb b 3)
  have w1 : IntKind.i64.wrap (100 * (pr8 (gb b 0) (gb b 1) : Int)) = ((100 * pr8 (gb b 0) (gb b 1) : Nat) : Int) := by rw [IntKind.wrap_i64]; omega
  have w2 : IntKind.i64.wrap (((100 * pr8 (gb b 0) (gb b 1) : Nat) : Int) + (pr8 (gb b 2) (gb b 3) : Int)) = (yB b : Int) := by unfold yB; rw [IntKind.wrap_i64]; omega
  have HD := Kp.mk hD
  have H1 := Kp.mk hp1
  have H2 := Kp.mk hp2
  generalize pr8 (gb b 0) (gb b 1) = p1 at *
  generalize pr8 (gb b 2) (gb b 3) = p2 at *
  generalize 100 * p1 = z1 at *
  generalize yB b = Y at *
  clear hR hD h hh1 hh2 h4 hR2 hD2 g2 g3 hp1 hp2
  go_enter Tryd.func53, Tryd.ntmps53
  go_wp2_with fail
  go_quiet (first | (go_at_call 54; first | with_reducible exact Calls.quiet_of (H1.out _ ((Ext.refl w).drewN _)) | with_reducible exact Calls.quiet_of (H2.out _ ((Ext.refl w).drewN _))) | fail)
  go_wp2_with fail
  go_ret2
  exact ⟨R, rfl, HD.out.ext (by (repeat (first | assumption | exact Ext.refl _ | apply Ext.drew | apply Ext.drewN | apply Ext.alloc | refine Ext.trans ?_ (by assumption))); first | done | fail), (by (repeat (first | assumption | exact Ext.refl _ | apply Ext.drew | apply Ext.drewN | apply Ext.alloc | refine Ext.trans ?_ (by assumption))); first | done | fail)⟩
theorem yearOf_C {A : Option Addr} {n c : Nat} (x : BitVec 8) (h1 : ¬ (x = 23 ∧ 2 ≤ n)) (h2 : ¬ (x = 24 ∧ 4 ≤ n)) (w : World) : Calls Tryd.prog 53 #[.int .u8 (ub x), .slice A n c] w fun e w' => e = .returned (.tuple #[.int .i64 0, .slice none 0 0]) ∧ Ext w w' := by
  by_cases k1 : x = 23
  · have b1 : decide ((2 : Int) ≤ (n : Int)) = false := decide_eq_false (by have : ¬ 2 ≤ n := fun e => h1 ⟨k1, e⟩; omega)
    have b2 : decide (2 ≤ n) = false := decide_eq_false (fun e => h1 ⟨k1, e⟩)
    subst k1
    have u : ub (23 : BitVec 8) = 23 := rfl
    rw [u]
    clear h1 h2
    go_enter Tryd.func53, Tryd.ntmps53
    go_wp2_with fail
    go_ret2
    exact ⟨rfl, (by (repeat (first | assumption | exact Ext.refl _ | apply Ext.drew | apply Ext.drewN | apply Ext.alloc | refine Ext.trans ?_ (by assumption))); first | done | fail)⟩
  · by_cases k2 : x = 24
    · have b1 : decide ((4 : Int) ≤ (n : Int)) = false := decide_eq_false (by have : ¬ 4 ≤ n := fun e => h2 ⟨k2, e⟩; omega)
      have b2 : decide (4 ≤ n) = false := decide_eq_false (fun e => h2 ⟨k2, e⟩)
      subst k2
      have u : ub (24 : BitVec 8) = 24 := rfl
      rw [u]
      clear h1 h2 k1
      go_enter Tryd.func53, Tryd.ntmps53
      go_wp2_with fail
      go_ret2
      exact ⟨rfl, (by (repeat (first | assumption | exact Ext.refl _ | apply Ext.drew | apply Ext.drewN | apply Ext.alloc | refine Ext.trans ?_ (by assumption))); first | done | fail)⟩
    · have e1 := (ub_neq k1 23 rfl).1
      have e2 := (ub_neq k2 24 rfl).1
      clear h1 h2 k1 k2
      go_enter Tryd.func53, Tryd.ntmps53
      go_wp2_with fail
      go_ret2
      exact ⟨rfl, (by (repeat (first | assumption | exact Ext.refl _ | apply Ext.drew | apply Ext.drewN | apply Ext.alloc | refine Ext.trans ?_ (by assumption))); first | done | fail)⟩
end Go.Proofs.YtfipgmjaabggjaaDoor
