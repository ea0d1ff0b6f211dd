/-
  tlv: lengthOf, elementOf; an error's number.
-/
import Derived.Test.YtadndhenfoppiaaVHc
import Derived.Test.YtadndhenfoppiaaVTc
import Derived.Lib.Hide
namespace Go.Proofs.Ytadndhenfoppiaa
open Go Go.RowKit
set_option maxRecDepth 4000

theorem or_bytes (x y : BitVec 8) : bits .or .i64 (ub x * 256) (ub y) = ub x * 256 + ub y := by
  have hx := x.isLt
  have hy := y.isLt
  have e1 : ub x * (256 : Int) = ((x.toNat <<< 8 : Nat) : Int) := by unfold ub; rw [Nat.shiftLeft_eq]; omega
  rw [e1]
  unfold ub
  show IntKind.i64.wrap ((BitVec.ofInt 64 ((x.toNat <<< 8 : Nat) : Int) ||| BitVec.ofInt 64 (y.toNat : Int)).toNat : Int) = _
  rw [BitVec.ofInt_natCast, BitVec.ofInt_natCast, BitVec.toNat_or, BitVec.toNat_ofNat, BitVec.toNat_ofNat, Nat.mod_eq_of_lt (by rw [Nat.shiftLeft_eq]; omega), Nat.mod_eq_of_lt (by omega), ← Nat.shiftLeft_add_eq_or_of_lt (by omega : y.toNat < 2 ^ 8)]
  rw [IntKind.wrap_i64, Nat.shiftLeft_eq]
  omega
theorem ub_ne {x : BitVec 8} {k : BitVec 8} (h : x ≠ k) (z : Int) (hz : ub k = z) : (ub x == z) = false ∧ ¬ ub x = z := by
  have e : ¬ ub x = z := fun e => h (by rw [← hz] at e; unfold ub at e; exact BitVec.eq_of_toNat_eq (by omega))
  exact ⟨beq_eq_false_iff_ne.2 e, e⟩
set_option maxHeartbeats 2000000 in
theorem lengthOf_any {b : List (BitVec 8)} {A : Option Addr} {n c : Nat} {w : World} (h : Bs w A n c b) : Calls Try.prog 47 #[.slice A n c] w fun e w' => e = .returned (.int .i64 (lnOf b : Int)) ∧ Ext w w' := by
  have hl := h.len
  by_cases h1 : n ≤ 1
  · have e : lnOf b = 0 := by unfold lnOf; rw [if_neg (by omega), if_neg (by omega), if_neg (by omega)]
    rw [e]
    have b1 : decide ((3 : Int) < (n : Int)) = false := decide_eq_false (by omega)
    have b2 : decide ((2 : Int) < (n : Int)) = false := decide_eq_false (by omega)
    have b3 : decide ((1 : Int) < (n : Int)) = false := decide_eq_false (by omega)
    have b4 : decide (1 < n) = false := decide_eq_false (by omega)
    have b5 : ¬ 1 < n := by omega
    clear h hl e h1
    go_enter Try.func47, Try.ntmps47
    go_wp2_with fail
    go_ret
    exact ⟨rfl, (by (repeat (first | assumption | exact Ext.refl _ | apply Ext.drew | apply Ext.drewN | apply Ext.alloc | refine Ext.trans ?_ (by assumption))); first | done | fail)⟩
  · obtain ⟨g, o, rfl, hc⟩ := h.s.2.2.2 (by omega)
    have c1 := fun (w' : World) (hx : Ext w w') => ((h.ext hx).s.2.2.2 (by omega))
    have k1 : ∀ (w' : World), Ext w w' → w'.cell? ⟨g, o + 1, none⟩ = some (.int .u8 (ub (gb b 1))) := fun w' hx => by
      obtain ⟨g', o', e, hc'⟩ := c1 w' hx
      cases e
      exact hc' 1 (by omega)
    have a1 : (1 : Int) < (n : Int) := by omega
    by_cases h2 : n = 2
    · have e : lnOf b = (gb b 1).toNat := by unfold lnOf; rw [if_neg (by omega), if_neg (by omega), if_pos (by omega)]
      have e2 : ((lnOf b : Nat) : Int) = ub (gb b 1) := by rw [e]; rfl
      rw [e2]
      have b1 : decide ((3 : Int) < (n : Int)) = false := decide_eq_false (by omega)
      have b2 : decide ((2 : Int) < (n : Int)) = false := decide_eq_false (by omega)
      subst h2
      clear h hl e h1 hc c1 e2 b1 b2
      generalize gb b 1 = x1 at *
      have hx := x1.isLt
      have w1 : IntKind.i64.wrap (ub x1) = ub x1 := by unfold ub; rw [IntKind.wrap_i64]; omega
      clear hx
      go_enter Try.func47, Try.ntmps47
      go_wp2_with fail
      go_ret
      exact ⟨rfl, (by (repeat (first | assumption | exact Ext.refl _ | apply Ext.drew | apply Ext.drewN | apply Ext.alloc | refine Ext.trans ?_ (by assumption))); first | done | fail)⟩
    · have a2 : (2 : Int) < (n : Int) := by omega
      have k2 : ∀ (w' : World), Ext w w' → w'.cell? ⟨g, o + 2, none⟩ = some (.int .u8 (ub (gb b 2))) := fun w' hx => by
        obtain ⟨g', o', e, hc'⟩ := c1 w' hx
        cases e
        exact hc' 2 (by omega)
      by_cases h3 : 3 < n ∧ gb b 1 = 130
      · have e : lnOf b = (gb b 2).toNat * 256 + (gb b 3).toNat := by unfold lnOf; rw [if_pos ⟨by omega, h3.2⟩]
        have e2 : ((lnOf b : Nat) : Int) = ub (gb b 2) * 256 + ub (gb b 3) := by rw [e]; unfold ub; omega
        rw [e2]
        have a3 : (3 : Int) < (n : Int) := by omega
        have k3 : ∀ (w' : World), Ext w w' → w'.cell? ⟨g, o + 3, none⟩ = some (.int .u8 (ub (gb b 3))) := fun w' hx => by
          obtain ⟨g', o', e, hc'⟩ := c1 w' hx
          cases e
          exact hc' 3 (by omega)
        rw [h3.2] at k1
        have u1 : ub (130 : BitVec 8) = 130 := rfl
        rw [u1] at k1
        clear h hl e h1 hc c1 e2 h2 h3
        generalize gb b 2 = x2 at *
        generalize gb b 3 = x3 at *
        have hx2 := x2.isLt
        have hx3 := x3.isLt
        have hor := or_bytes x2 x3
        have w2 : IntKind.i64.wrap (ub x2) = ub x2 := by unfold ub; rw [IntKind.wrap_i64]; omega
        have w3 : IntKind.i64.wrap (ub x3) = ub x3 := by unfold ub; rw [IntKind.wrap_i64]; omega
        have w4 : IntKind.i64.wrap (ub x2 * 256) = ub x2 * 256 := by unfold ub; rw [IntKind.wrap_i64]; omega
        clear hx2 hx3
        go_enter Try.func47, Try.ntmps47
        go_wp2_with fail
        refine wp_region_held_drew (S := fun w' => Ext w w') (by kernel_rfl) (Ext.refl w).drew (fun hHeld => ?_)
        refine wpAnyH_take (i := 0) (oi := ⟨some 13, _, _, _, _, _⟩) (v := ?_) rfl (by kernel_rfl) (by kernel_rfl) (by kernel_rfl) (fun _ _ _ h => h) (Or.inl ⟨by rfl, ?_⟩) (by assumption) ?_
        rotate_left
        · (intro w hSw; (try dsimp only at hSw); go_simp; try with_reducible rfl)
        try simp only [Act.put, List.setIfInBounds_toArray, List.set_cons_zero, List.set_cons_succ]
        refine wpAnyH_take (i := 1) (oi := ⟨some 14, _, _, _, _, _⟩) (v := ?_) rfl (by kernel_rfl) (by kernel_rfl) (by kernel_rfl) (fun _ _ _ h => h) (Or.inl ⟨by rfl, ?_⟩) (by assumption) ?_
        rotate_left
        · (intro w hSw; (try dsimp only at hSw); go_simp; try with_reducible rfl)
        try simp only [Act.put, List.setIfInBounds_toArray, List.set_cons_zero, List.set_cons_succ]
        refine wpAnyH_take (i := 2) (oi := ⟨some 15, _, _, _, _, _⟩) (v := ?_) rfl (by kernel_rfl) (by kernel_rfl) (by kernel_rfl) (fun _ _ _ h => h) (Or.inl ⟨by rfl, ?_⟩) (by assumption) ?_
        rotate_left
        · (intro w hSw; (try dsimp only at hSw); go_simp; try with_reducible rfl)
        try simp only [Act.put, List.setIfInBounds_toArray, List.set_cons_zero, List.set_cons_succ]
        refine wpAnyH_take (i := 3) (oi := ⟨some 16, _, _, _, _, _⟩) (v := ?_) rfl (by kernel_rfl) (by kernel_rfl) (by kernel_rfl) (fun _ _ _ h => h) (Or.inl ⟨by rfl, ?_⟩) (by assumption) ?_
        rotate_left
        · (intro w hSw; (try dsimp only at hSw); go_simp; try with_reducible rfl)
        try simp only [Act.put, List.setIfInBounds_toArray, List.set_cons_zero, List.set_cons_succ]
        refine wpAnyH_take (i := 4) (oi := ⟨some 17, _, _, _, _, _⟩) (v := ?_) rfl (by kernel_rfl) (by kernel_rfl) (by kernel_rfl) (fun _ _ _ h => h) (Or.inl ⟨by rfl, ?_⟩) (by assumption) ?_
        rotate_left
        · (intro w hSw; (try dsimp only at hSw); go_simp; try with_reducible rfl)
        try simp only [Act.put, List.setIfInBounds_toArray, List.set_cons_zero, List.set_cons_succ]
        refine wpAnyH_take (i := 5) (oi := ⟨some 18, _, _, _, _, _⟩) (v := ?_) rfl (by kernel_rfl) (by kernel_rfl) (by kernel_rfl) (fun _ _ _ h => h) (Or.inl ⟨by rfl, ?_⟩) (by assumption) ?_
        rotate_left
        · (intro w hSw; (try dsimp only at hSw); go_simp; try with_reducible rfl)
        try simp only [Act.put, List.setIfInBounds_toArray, List.set_cons_zero, List.set_cons_succ]
        refine wpAnyH_take (i := 6) (oi := ⟨some 19, _, _, _, _, _⟩) (v := ?_) rfl (by kernel_rfl) (by kernel_rfl) (by kernel_rfl) (fun _ _ _ h => h) (Or.inl ⟨by rfl, ?_⟩) (by assumption) ?_
        rotate_left
        · (intro w hSw; (try dsimp only at hSw); go_simp; try with_reducible rfl)
        try simp only [Act.put, List.setIfInBounds_toArray, List.set_cons_zero, List.set_cons_succ]
        refine wpAnyH_take (i := 7) (oi := ⟨some 20, _, _, _, _, _⟩) (v := ?_) rfl (by kernel_rfl) (by kernel_rfl) (by kernel_rfl) (fun _ _ _ h => h) (Or.inl ⟨by rfl, ?_⟩) (by assumption) ?_
        rotate_left
        · (intro w hSw; (try dsimp only at hSw); go_simp; try with_reducible rfl)
        try simp only [Act.put, List.setIfInBounds_toArray, List.set_cons_zero, List.set_cons_succ]
        refine wpAnyH_take (i := 8) (oi := ⟨some 21, _, _, _, _, _⟩) (v := ?_) rfl (by kernel_rfl) (by kernel_rfl) (by kernel_rfl) (fun _ _ _ h => h) (Or.inl ⟨by rfl, ?_⟩) (by assumption) ?_
        rotate_left
        · (intro w hSw; (try dsimp only at hSw); go_simp; try with_reducible rfl)
        try simp only [Act.put, List.setIfInBounds_toArray, List.set_cons_zero, List.set_cons_succ]
        refine wpAnyH_take (i := 9) (oi := ⟨some 22, _, _, _, _, _⟩) (v := ?_) rfl (by kernel_rfl) (by kernel_rfl) (by kernel_rfl) (fun _ _ _ h => h) (Or.inl ⟨by rfl, ?_⟩) (by assumption) ?_
        rotate_left
        · (intro w hSw; (try dsimp only at hSw); go_simp; try with_reducible rfl)
        try simp only [Act.put, List.setIfInBounds_toArray, List.set_cons_zero, List.set_cons_succ]
        refine wpAnyH_take (i := 10) (oi := ⟨some 2, _, _, _, _, _⟩) (v := ?_) rfl (by kernel_rfl) (by kernel_rfl) (by kernel_rfl) (fun _ _ _ h => h) (Or.inl ⟨by rfl, ?_⟩) (by assumption) ?_
        rotate_left
        · (intro w hSw; (try dsimp only at hSw); go_simp; try with_reducible rfl)
        try simp only [Act.put, List.setIfInBounds_toArray, List.set_cons_zero, List.set_cons_succ]
        refine wpAnyH_done (by kernel_rfl) ?_ _
        go_wp2_with fail
        go_ret
        exact ⟨rfl, (by (repeat (first | assumption | exact Ext.refl _ | apply Ext.drew | apply Ext.drewN | apply Ext.alloc | refine Ext.trans ?_ (by assumption))); first | done | fail)⟩
      · by_cases h4 : gb b 1 = 129
        · have e : lnOf b = (gb b 2).toNat := by unfold lnOf; rw [if_neg (fun h => h3 ⟨by omega, h.2⟩), if_pos ⟨by omega, h4⟩]
          have e2 : ((lnOf b : Nat) : Int) = ub (gb b 2) := by rw [e]; rfl
          rw [e2]
          rw [h4] at k1
          have u1 : ub (129 : BitVec 8) = 129 := rfl
          rw [u1] at k1
          clear h hl e h1 hc c1 e2 h2 h3 h4
          generalize gb b 2 = x2 at *
          have hx2 := x2.isLt
          have w2 : IntKind.i64.wrap (ub x2) = ub x2 := by unfold ub; rw [IntKind.wrap_i64]; omega
          clear hx2
          go_enter Try.func47, Try.ntmps47
          go_wp2_with fail
          all_goals go_ret
          all_goals exact ⟨rfl, (by (repeat (first | assumption | exact Ext.refl _ | apply Ext.drew | apply Ext.drewN | apply Ext.alloc | refine Ext.trans ?_ (by assumption))); first | done | fail)⟩
        · have e : lnOf b = (gb b 1).toNat := by unfold lnOf; rw [if_neg (fun h => h3 ⟨by omega, h.2⟩), if_neg (fun h => h4 h.2), if_pos (by omega)]
          have e2 : ((lnOf b : Nat) : Int) = ub (gb b 1) := by rw [e]; rfl
          rw [e2]
          obtain ⟨d1, d2⟩ := ub_ne h4 129 rfl
          by_cases h5 : 3 < n
          · obtain ⟨d3, d4⟩ := ub_ne (fun e => h3 ⟨h5, e⟩) 130 rfl
            have a3 : (3 : Int) < (n : Int) := by omega
            clear h hl e h1 hc c1 e2 h2 h3 h4 h5
            generalize gb b 1 = x1 at *
            have hx := x1.isLt
            have w1 : IntKind.i64.wrap (ub x1) = ub x1 := by unfold ub; rw [IntKind.wrap_i64]; omega
            clear hx
            go_enter Try.func47, Try.ntmps47
            go_wp2_with fail
            go_ret
            exact ⟨rfl, (by (repeat (first | assumption | exact Ext.refl _ | apply Ext.drew | apply Ext.drewN | apply Ext.alloc | refine Ext.trans ?_ (by assumption))); first | done | fail)⟩
          · have b1 : decide ((3 : Int) < (n : Int)) = false := decide_eq_false (by omega)
            have b1' : ¬ (3 : Int) < (n : Int) := by omega
            clear h hl e h1 hc c1 e2 h2 h3 h4 h5
            generalize gb b 1 = x1 at *
            have hx := x1.isLt
            have w1 : IntKind.i64.wrap (ub x1) = ub x1 := by unfold ub; rw [IntKind.wrap_i64]; omega
            clear hx
            go_enter Try.func47, Try.ntmps47
            go_wp2_with fail
            go_ret
            exact ⟨rfl, (by (repeat (first | assumption | exact Ext.refl _ | apply Ext.drew | apply Ext.drewN | apply Ext.alloc | refine Ext.trans ?_ (by assumption))); first | done | fail)⟩
end Go.Proofs.Ytadndhenfoppiaa
