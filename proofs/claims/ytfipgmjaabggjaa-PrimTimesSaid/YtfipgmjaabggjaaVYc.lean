/-
  The reference's ReadTime.
-/
import Derived.Test.YtfipgmjaabggjaaVYb
import Derived.Test.YtfipgmjaabggjaaVVc
namespace Go.Proofs.Ytfipgmjaabggjaa
open Go Go.RowKit
set_option maxRecDepth 4000

theorem dgI_hi (x y : BitVec 8) : -1 ≤ dgI x y ∧ dgI x y ≤ 2805 := by
  unfold dgI
  have := pr8_hi x y
  split <;> omega
theorem dgI_d2 (n : Nat) (h : n < 100) : dgI (gb (d2 n) 0) (gb (d2 n) 1) = (n : Int) := by
  unfold dgI
  rw [if_pos (d2_digit n), pr8_d2 n h]
theorem str_ne8 {x y : List (BitVec 8)} (h : x ≠ y) : ((strOf x).toList == (strOf y).toList) = false := beq_eq_false_iff_ne.2 fun e => h (strOf_inj e)
set_option maxHeartbeats 8000000 in
theorem refCore13 (x : BitVec 8) {b : List (BitVec 8)} {A : Option Addr} {cc : Nat} {w : World} (hb : Bs w A 13 cc b) (Y P0 P2 P4 P6 P8 : Int)
    (hYd : Y = if 50 ≤ dgI (gb b 0) (gb b 1) then dgI (gb b 0) (gb b 1) + 1900 else dgI (gb b 0) (gb b 1) + 2000)
    (e0 : dgI (gb b 2) (gb b 3) = P0) (e2 : dgI (gb b 4) (gb b 5) = P2) (e4 : dgI (gb b 6) (gb b 7) = P4) (e6 : dgI (gb b 8) (gb b 9) = P6) (e8 : dgI (gb b 10) (gb b 11) = P8) :
    Calls Try.prog 28 #[.int .u8 (ub x), .slice A 13 cc] w fun e w' =>
      ((¬ ∃ t, MayT t ∧ tmM t = x ∧ tmB t = b ∧ tci Y P0 P2 P4 P6 P8 = tcs t) ∧ e = .returned (.tuple #[.agg (tci 0 0 0 0 0 0), .bool false]) ∧ Ext w w') ∨
      (∃ t, MayT t ∧ tmM t = x ∧ tmB t = b ∧ tci Y P0 P2 P4 P6 P8 = tcs t ∧ e = .returned (.tuple #[.agg (tcs t), .bool true]) ∧ Ext w w') := by
  have HB := Kp.mk hb
  have HR := Kp.mk (Blk.new w tmt (tci 0 0 0 0 0 0))
  obtain ⟨D, hD⟩ : ∃ D, dgI (gb b 0) (gb b 1) = D := ⟨_, rfl⟩
  have hDr := dgI_hi (gb b 0) (gb b 1)
  rw [hD] at hDr hYd
  have dY : ∀ W, Ext w W → Calls Try.prog 48 #[.slice A 13 cc, .int .i64 0] W fun e w' => e = .returned (.int .i64 D) ∧ Ext W w' := fun W hx => by
    have := refDigits_any (HB.out.ext hx) 0 (by decide) (by decide)
    rw [hD] at this
    exact this
  have dP0 : ∀ W, Ext w W → Calls Try.prog 48 #[.slice A 13 cc, .int .i64 2] W fun e w' => e = .returned (.int .i64 P0) ∧ Ext W w' := fun W hx => by
    have := refDigits_any (HB.out.ext hx) 2 (by decide) (by decide)
    rw [e0] at this
    exact this
  have dP2 : ∀ W, Ext w W → Calls Try.prog 48 #[.slice A 13 cc, .int .i64 4] W fun e w' => e = .returned (.int .i64 P2) ∧ Ext W w' := fun W hx => by
    have := refDigits_any (HB.out.ext hx) 4 (by decide) (by decide)
    rw [e2] at this
    exact this
  have dP4 : ∀ W, Ext w W → Calls Try.prog 48 #[.slice A 13 cc, .int .i64 6] W fun e w' => e = .returned (.int .i64 P4) ∧ Ext W w' := fun W hx => by
    have := refDigits_any (HB.out.ext hx) 6 (by decide) (by decide)
    rw [e4] at this
    exact this
  have dP6 : ∀ W, Ext w W → Calls Try.prog 48 #[.slice A 13 cc, .int .i64 8] W fun e w' => e = .returned (.int .i64 P6) ∧ Ext W w' := fun W hx => by
    have := refDigits_any (HB.out.ext hx) 8 (by decide) (by decide)
    rw [e6] at this
    exact this
  have dP8 : ∀ W, Ext w W → Calls Try.prog 48 #[.slice A 13 cc, .int .i64 10] W fun e w' => e = .returned (.int .i64 P8) ∧ Ext W w' := fun W hx => by
    have := refDigits_any (HB.out.ext hx) 10 (by decide) (by decide)
    rw [e8] at this
    exact this
  have KdY := Kp.mk dY
  have KdP0 := Kp.mk dP0
  have KdP2 := Kp.mk dP2
  have KdP4 := Kp.mk dP4
  have KdP6 := Kp.mk dP6
  have KdP8 := Kp.mk dP8
  clear hb e0 e2 e4 e6 e8 dY dP0 dP2 dP4 dP6 dP8 hD
  have hy : (decide (50 ≤ D) = true ∧ IntKind.i64.wrap (D + 1900) = Y) ∨ (decide (50 ≤ D) = false ∧ IntKind.i64.wrap (D + 2000) = Y) := by
    by_cases k : 50 ≤ D
    · rw [if_pos k] at hYd
      exact .inl ⟨decide_eq_true k, by rw [IntKind.wrap_i64, hYd]; omega⟩
    · rw [if_neg k] at hYd
      exact .inr ⟨decide_eq_false k, by rw [IntKind.wrap_i64, hYd]; omega⟩
  clear hYd hDr
  rcases hy with ⟨j1, j2⟩ | ⟨j1, j2⟩
  all_goals
    unfold tci at *
    go_enter Try.func28, Try.ntmps28
    go_wp2_with fail
    refine (KdY.out _ (by (repeat (first | assumption | exact Ext.refl _ | apply Ext.drew | apply Ext.drewN | apply Ext.alloc | refine Ext.trans ?_ (by assumption))); first | done | fail)).mono ?_
    rintro e w1 ⟨rfl, x1⟩
    have Xa := Kp.mk (show Ext w w1 from Ext.trans (by (repeat (first | assumption | exact Ext.refl _ | apply Ext.drew | apply Ext.drewN | apply Ext.alloc | refine Ext.trans ?_ (by assumption))); first | done | fail) x1)
    have Ra := Kp.mk (HR.out.ext x1)
    clear x1
    go_wp2_with fail
    refine (KdP0.out _ Xa.out).mono ?_
    rintro e w3 ⟨rfl, x3⟩
    have Xa := Kp.mk (Xa.out.trans x3)
    have Ra := Kp.mk (Ra.out.ext x3)
    clear x3
    go_wp2_with fail
    refine (KdP2.out _ Xa.out).mono ?_
    rintro e w4 ⟨rfl, x4⟩
    have Xa := Kp.mk (Xa.out.trans x4)
    have Ra := Kp.mk (Ra.out.ext x4)
    clear x4
    go_wp2_with fail
    refine (KdP4.out _ Xa.out).mono ?_
    rintro e w5 ⟨rfl, x5⟩
    have Xa := Kp.mk (Xa.out.trans x5)
    have Ra := Kp.mk (Ra.out.ext x5)
    clear x5
    go_wp2_with fail
    refine (KdP6.out _ Xa.out).mono ?_
    rintro e w6 ⟨rfl, x6⟩
    have Xa := Kp.mk (Xa.out.trans x6)
    have Ra := Kp.mk (Ra.out.ext x6)
    clear x6
    go_wp2_with fail
    refine (KdP8.out _ Xa.out).mono ?_
    rintro e w7 ⟨rfl, x7⟩
    have Xa := Kp.mk (Xa.out.trans x7)
    have Ra := Kp.mk (Ra.out.ext x7)
    clear x7
    go_wp2_with fail
    obtain ⟨W9, hW9⟩ : ∃ W9, W9 = w7.alloc (.cells #[.int .i64 Y, .int .i64 P0, .int .i64 P2, .int .i64 P4, .int .i64 P6, .int .i64 P8] tmt) := ⟨_, rfl⟩
    have hx9 : Ext w7 W9 := by rw [hW9]; exact (by (repeat (first | assumption | exact Ext.refl _ | apply Ext.drew | apply Ext.drewN | apply Ext.alloc | refine Ext.trans ?_ (by assumption))); first | done | fail)
    have H9 := Kp.mk (show Blk W9 w7.heap.size tmt #[.int .i64 Y, .int .i64 P0, .int .i64 P2, .int .i64 P4, .int .i64 P6, .int .i64 P8] from hW9 ▸ Blk.new w7 tmt _)
    rw [← hW9]
    have X9 := Kp.mk (Xa.out.trans hx9)
    have R9 := Kp.mk (Ra.out.ext hx9)
    clear hW9 hx9 Xa Ra
    by_cases hM : MayI Y P0 P2 P4 P6 P8
    · obtain ⟨t, ht, q1, q2, q3, q4, q5, q6⟩ := hM
      have hMay := fun W => May_any Y P0 P2 P4 P6 P8 W true (iff_of_true rfl ⟨t, ht, q1, q2, q3, q4, q5, q6⟩)
      have hQ : tci Y P0 P2 P4 P6 P8 = tcs t := by unfold tcs; rw [q1, q2, q3, q4, q5, q6]
      have hTm := fun W => refTime_any t ht W
      rw [← hQ] at hTm
      have HQ := Kp.mk hQ
      have HT := Kp.mk ht
      unfold tci at hMay hTm
      have HMay := Kp.mk hMay
      have HTm := Kp.mk hTm
      clear hMay hTm hQ q1 q2 q3 q4 q5 q6 ht
      refine (HMay.out _).mono ?_
      rintro e w11 ⟨rfl, x11⟩
      have Xb := Kp.mk (X9.out.trans x11)
      have Rb := Kp.mk (R9.out.ext x11)
      have Hb := Kp.mk (H9.out.ext x11)
      clear x11
      obtain ⟨c0, k1, k2, k3, k4, k5⟩ := box6 Hb.out (Ext.refl _)
      go_wp2_with fail
      refine (HTm.out _).mono ?_
      rintro e w12 ⟨A12, c12, rfl, hs12, x12⟩
      have Xc := Kp.mk (Xb.out.trans x12)
      have Rc := Kp.mk (Rb.out.ext x12)
      have Hc := Kp.mk (Hb.out.ext x12)
      clear x12 c0 k1 k2 k3 k4 k5
      have S1 := hs12.str (Ext.refl _)
      have S2 := (HB.out.ext Xc.out).str (Ext.refl _)
      by_cases hm : tmM t = x
      · have u1 : ub (tmM t) = ub x := by rw [hm]
        rw [u1]
        by_cases he : tmB t = b
        · have hS : ((strOf (tmB t)).toList == (strOf b).toList) = true := by rw [he]; exact beq_self_eq_true _
          have HM := Kp.mk (And.intro hm he)
          clear hm he u1 hs12
          generalize (tmB t).length = M at *
          obtain ⟨c0, k1, k2, k3, k4, k5⟩ := box6 Hc.out (Ext.refl _)
          go_wp2_with (first | ((with_reducible refine at_store 4 84 ?_); refine wpList_store_row rfl tmt _ _ rfl w.heap.size #[.int .i64 Y, .int .i64 P0, .int .i64 P2, .int .i64 P4, .int .i64 P6, .int .i64 P8] rfl rfl tmt _ Rc.out.h szTm rfl (by simp [Value.oneCell']) ?_) | fail)
          have hx := Xc.out.setRow (Nat.le_refl _) #[.int .i64 Y, .int .i64 P0, .int .i64 P2, .int .i64 P4, .int .i64 P6, .int .i64 P8]
          refine bodyPost_ret (v := .tuple #[.agg #[.int .i64 Y, .int .i64 P0, .int .i64 P2, .int .i64 P4, .int .i64 P6, .int .i64 P8], .bool true]) ?_ rfl ?_
          · exact results_cell_row2 rfl _ _ w.heap.size tmt _ _ _ rfl rfl (Rc.out.row _) Try.underlying52 rfl szTm
          exact .inr ⟨t, HT.out, HM.out.1, HM.out.2, HQ.out, by rw [← HQ.out]; rfl, hx⟩
        · have hS := str_ne8 he
          have HM := Kp.mk he
          clear hm he u1 hs12
          generalize (tmB t).length = M at *
          go_wp2_with (first | ((with_reducible refine at_store 4 83 ?_); refine wpList_store_row rfl tmt _ _ rfl w.heap.size #[.int .i64 0, .int .i64 0, .int .i64 0, .int .i64 0, .int .i64 0, .int .i64 0] rfl rfl tmt _ Rc.out.h szTm rfl (by simp [Value.oneCell']) ?_) | fail)
          have hx := Xc.out.setRow (Nat.le_refl _) #[.int .i64 0, .int .i64 0, .int .i64 0, .int .i64 0, .int .i64 0, .int .i64 0]
          refine bodyPost_ret (v := .tuple #[.agg #[.int .i64 0, .int .i64 0, .int .i64 0, .int .i64 0, .int .i64 0, .int .i64 0], .bool false]) ?_ rfl ?_
          · exact results_cell_row2 rfl _ _ w.heap.size tmt _ _ _ rfl rfl (Rc.out.row _) Try.underlying52 rfl szTm
          exact (.inl ⟨fun ⟨t2, _, _, b2, q2⟩ => HM.out (tcs_inj (HQ.out.symm.trans q2) ▸ b2), rfl, hx⟩)
      · have e1 := (ub_neq (x := tmM t) hm (ub x) rfl).1
        have e2 : (ub (tmM t) != ub x) = true := bne_iff_ne.2 (ub_neq (x := tmM t) hm (ub x) rfl).2
        have HM := Kp.mk hm
        clear hm hs12 S1 S2
        generalize ub (tmM t) = um at *
        generalize (tmB t).length = M at *
        go_wp2_with (first | ((with_reducible refine at_store 4 83 ?_); refine wpList_store_row rfl tmt _ _ rfl w.heap.size #[.int .i64 0, .int .i64 0, .int .i64 0, .int .i64 0, .int .i64 0, .int .i64 0] rfl rfl tmt _ Rc.out.h szTm rfl (by simp [Value.oneCell']) ?_) | fail)
        have hx := Xc.out.setRow (Nat.le_refl _) #[.int .i64 0, .int .i64 0, .int .i64 0, .int .i64 0, .int .i64 0, .int .i64 0]
        refine bodyPost_ret (v := .tuple #[.agg #[.int .i64 0, .int .i64 0, .int .i64 0, .int .i64 0, .int .i64 0, .int .i64 0], .bool false]) ?_ rfl ?_
        · exact results_cell_row2 rfl _ _ w.heap.size tmt _ _ _ rfl rfl (Rc.out.row _) Try.underlying52 rfl szTm
        exact (.inl ⟨fun ⟨t2, _, m2, _, q2⟩ => HM.out (tcs_inj (HQ.out.symm.trans q2) ▸ m2), rfl, hx⟩)
    · have hMay := fun W => May_any Y P0 P2 P4 P6 P8 W false (by simp [hM])
      have HM := Kp.mk hM
      clear hM
      unfold tci at hMay
      refine (hMay _).mono ?_
      rintro e w11 ⟨rfl, x11⟩
      have Xb := Kp.mk (X9.out.trans x11)
      have Rb := Kp.mk (R9.out.ext x11)
      clear x11 hMay
      go_wp2_with (first | ((with_reducible refine at_store 4 67 ?_); refine wpList_store_row rfl tmt _ _ rfl w.heap.size #[.int .i64 0, .int .i64 0, .int .i64 0, .int .i64 0, .int .i64 0, .int .i64 0] rfl rfl tmt _ Rb.out.h szTm rfl (by simp [Value.oneCell']) ?_) | fail)
      have hx := Xb.out.setRow (Nat.le_refl _) #[.int .i64 0, .int .i64 0, .int .i64 0, .int .i64 0, .int .i64 0, .int .i64 0]
      refine bodyPost_ret (v := .tuple #[.agg #[.int .i64 0, .int .i64 0, .int .i64 0, .int .i64 0, .int .i64 0, .int .i64 0], .bool false]) ?_ rfl ?_
      · exact results_cell_row2 rfl _ _ w.heap.size tmt _ _ _ rfl rfl (Rb.out.row _) Try.underlying52 rfl szTm
      exact (.inl ⟨fun ⟨t2, h2, _, _, q2⟩ => HM.out (may_of' h2 q2), rfl, hx⟩)
set_option maxHeartbeats 8000000 in
theorem refCore15 (x : BitVec 8) {b : List (BitVec 8)} {A : Option Addr} {cc : Nat} {w : World} (hb : Bs w A 15 cc b) (Y P0 P2 P4 P6 P8 : Int)
    (hYd : Y = dgI (gb b 2) (gb b 3) + 100 * dgI (gb b 0) (gb b 1))
    (e0 : dgI (gb b 4) (gb b 5) = P0) (e2 : dgI (gb b 6) (gb b 7) = P2) (e4 : dgI (gb b 8) (gb b 9) = P4) (e6 : dgI (gb b 10) (gb b 11) = P6) (e8 : dgI (gb b 12) (gb b 13) = P8) :
    Calls Try.prog 28 #[.int .u8 (ub x), .slice A 15 cc] w fun e w' =>
      ((¬ ∃ t, MayT t ∧ tmM t = x ∧ tmB t = b ∧ tci Y P0 P2 P4 P6 P8 = tcs t) ∧ e = .returned (.tuple #[.agg (tci 0 0 0 0 0 0), .bool false]) ∧ Ext w w') ∨
      (∃ t, MayT t ∧ tmM t = x ∧ tmB t = b ∧ tci Y P0 P2 P4 P6 P8 = tcs t ∧ e = .returned (.tuple #[.agg (tcs t), .bool true]) ∧ Ext w w') := by
  have HB := Kp.mk hb
  have HR := Kp.mk (Blk.new w tmt (tci 0 0 0 0 0 0))
  obtain ⟨D, hD⟩ : ∃ D, dgI (gb b 2) (gb b 3) = D := ⟨_, rfl⟩
  have hDr := dgI_hi (gb b 2) (gb b 3)
  rw [hD] at hDr hYd
  have dY : ∀ W, Ext w W → Calls Try.prog 48 #[.slice A 15 cc, .int .i64 2] W fun e w' => e = .returned (.int .i64 D) ∧ Ext W w' := fun W hx => by
    have := refDigits_any (HB.out.ext hx) 2 (by decide) (by decide)
    rw [hD] at this
    exact this
  obtain ⟨D0, hD0⟩ : ∃ D, dgI (gb b 0) (gb b 1) = D := ⟨_, rfl⟩
  have hDr0 := dgI_hi (gb b 0) (gb b 1)
  rw [hD0] at hDr0 hYd
  have dY0 : ∀ W, Ext w W → Calls Try.prog 48 #[.slice A 15 cc, .int .i64 0] W fun e w' => e = .returned (.int .i64 D0) ∧ Ext W w' := fun W hx => by
    have := refDigits_any (HB.out.ext hx) 0 (by decide) (by decide)
    rw [hD0] at this
    exact this
  have s1 : IntKind.i64.wrap (100 * D0) = 100 * D0 := by rw [IntKind.wrap_i64]; omega
  have s2 : IntKind.i64.wrap (D + 100 * D0) = Y := by rw [IntKind.wrap_i64, hYd]; omega
  have dP0 : ∀ W, Ext w W → Calls Try.prog 48 #[.slice A 15 cc, .int .i64 4] W fun e w' => e = .returned (.int .i64 P0) ∧ Ext W w' := fun W hx => by
    have := refDigits_any (HB.out.ext hx) 4 (by decide) (by decide)
    rw [e0] at this
    exact this
  have dP2 : ∀ W, Ext w W → Calls Try.prog 48 #[.slice A 15 cc, .int .i64 6] W fun e w' => e = .returned (.int .i64 P2) ∧ Ext W w' := fun W hx => by
    have := refDigits_any (HB.out.ext hx) 6 (by decide) (by decide)
    rw [e2] at this
    exact this
  have dP4 : ∀ W, Ext w W → Calls Try.prog 48 #[.slice A 15 cc, .int .i64 8] W fun e w' => e = .returned (.int .i64 P4) ∧ Ext W w' := fun W hx => by
    have := refDigits_any (HB.out.ext hx) 8 (by decide) (by decide)
    rw [e4] at this
    exact this
  have dP6 : ∀ W, Ext w W → Calls Try.prog 48 #[.slice A 15 cc, .int .i64 10] W fun e w' => e = .returned (.int .i64 P6) ∧ Ext W w' := fun W hx => by
    have := refDigits_any (HB.out.ext hx) 10 (by decide) (by decide)
    rw [e6] at this
    exact this
  have dP8 : ∀ W, Ext w W → Calls Try.prog 48 #[.slice A 15 cc, .int .i64 12] W fun e w' => e = .returned (.int .i64 P8) ∧ Ext W w' := fun W hx => by
    have := refDigits_any (HB.out.ext hx) 12 (by decide) (by decide)
    rw [e8] at this
    exact this
  have KdY := Kp.mk dY
  have KdY0 := Kp.mk dY0
  have KdP0 := Kp.mk dP0
  have KdP2 := Kp.mk dP2
  have KdP4 := Kp.mk dP4
  have KdP6 := Kp.mk dP6
  have KdP8 := Kp.mk dP8
  clear hb e0 e2 e4 e6 e8 dY dY0 dP0 dP2 dP4 dP6 dP8 hD hD0 hYd hDr hDr0
  unfold tci at *
  go_enter Try.func28, Try.ntmps28
  go_wp2_with fail
  refine (KdY.out _ (by (repeat (first | assumption | exact Ext.refl _ | apply Ext.drew | apply Ext.drewN | apply Ext.alloc | refine Ext.trans ?_ (by assumption))); first | done | fail)).mono ?_
  rintro e w1 ⟨rfl, x1⟩
  have Xa := Kp.mk (show Ext w w1 from Ext.trans (by (repeat (first | assumption | exact Ext.refl _ | apply Ext.drew | apply Ext.drewN | apply Ext.alloc | refine Ext.trans ?_ (by assumption))); first | done | fail) x1)
  have Ra := Kp.mk (HR.out.ext x1)
  clear x1
  go_wp2_with fail
  refine (KdY0.out _ Xa.out).mono ?_
  rintro e w2 ⟨rfl, x2⟩
  have Xa := Kp.mk (Xa.out.trans x2)
  have Ra := Kp.mk (Ra.out.ext x2)
  clear x2
  go_wp2_with fail
  refine (KdP0.out _ Xa.out).mono ?_
  rintro e w3 ⟨rfl, x3⟩
  have Xa := Kp.mk (Xa.out.trans x3)
  have Ra := Kp.mk (Ra.out.ext x3)
  clear x3
  go_wp2_with fail
  refine (KdP2.out _ Xa.out).mono ?_
  rintro e w4 ⟨rfl, x4⟩
  have Xa := Kp.mk (Xa.out.trans x4)
  have Ra := Kp.mk (Ra.out.ext x4)
  clear x4
  go_wp2_with fail
  refine (KdP4.out _ Xa.out).mono ?_
  rintro e w5 ⟨rfl, x5⟩
  have Xa := Kp.mk (Xa.out.trans x5)
  have Ra := Kp.mk (Ra.out.ext x5)
  clear x5
  go_wp2_with fail
  refine (KdP6.out _ Xa.out).mono ?_
  rintro e w6 ⟨rfl, x6⟩
  have Xa := Kp.mk (Xa.out.trans x6)
  have Ra := Kp.mk (Ra.out.ext x6)
  clear x6
  go_wp2_with fail
  refine (KdP8.out _ Xa.out).mono ?_
  rintro e w7 ⟨rfl, x7⟩
  have Xa := Kp.mk (Xa.out.trans x7)
  have Ra := Kp.mk (Ra.out.ext x7)
  clear x7
  go_wp2_with fail
  obtain ⟨W9, hW9⟩ : ∃ W9, W9 = w7.alloc (.cells #[.int .i64 Y, .int .i64 P0, .int .i64 P2, .int .i64 P4, .int .i64 P6, .int .i64 P8] tmt) := ⟨_, rfl⟩
  have hx9 : Ext w7 W9 := by rw [hW9]; exact (by (repeat (first | assumption | exact Ext.refl _ | apply Ext.drew | apply Ext.drewN | apply Ext.alloc | refine Ext.trans ?_ (by assumption))); first | done | fail)
  have H9 := Kp.mk (show Blk W9 w7.heap.size tmt #[.int .i64 Y, .int .i64 P0, .int .i64 P2, .int .i64 P4, .int .i64 P6, .int .i64 P8] from hW9 ▸ Blk.new w7 tmt _)
  rw [← hW9]
  have X9 := Kp.mk (Xa.out.trans hx9)
  have R9 := Kp.mk (Ra.out.ext hx9)
  clear hW9 hx9 Xa Ra
  by_cases hM : MayI Y P0 P2 P4 P6 P8
  · obtain ⟨t, ht, q1, q2, q3, q4, q5, q6⟩ := hM
    have hMay := fun W => May_any Y P0 P2 P4 P6 P8 W true (iff_of_true rfl ⟨t, ht, q1, q2, q3, q4, q5, q6⟩)
    have hQ : tci Y P0 P2 P4 P6 P8 = tcs t := by unfold tcs; rw [q1, q2, q3, q4, q5, q6]
    have hTm := fun W => refTime_any t ht W
    rw [← hQ] at hTm
    have HQ := Kp.mk hQ
    have HT := Kp.mk ht
    unfold tci at hMay hTm
    have HMay := Kp.mk hMay
    have HTm := Kp.mk hTm
    clear hMay hTm hQ q1 q2 q3 q4 q5 q6 ht
    refine (HMay.out _).mono ?_
    rintro e w11 ⟨rfl, x11⟩
    have Xb := Kp.mk (X9.out.trans x11)
    have Rb := Kp.mk (R9.out.ext x11)
    have Hb := Kp.mk (H9.out.ext x11)
    clear x11
    obtain ⟨c0, k1, k2, k3, k4, k5⟩ := box6 Hb.out (Ext.refl _)
    go_wp2_with fail
    refine (HTm.out _).mono ?_
    rintro e w12 ⟨A12, c12, rfl, hs12, x12⟩
    have Xc := Kp.mk (Xb.out.trans x12)
    have Rc := Kp.mk (Rb.out.ext x12)
    have Hc := Kp.mk (Hb.out.ext x12)
    clear x12 c0 k1 k2 k3 k4 k5
    have S1 := hs12.str (Ext.refl _)
    have S2 := (HB.out.ext Xc.out).str (Ext.refl _)
    by_cases hm : tmM t = x
    · have u1 : ub (tmM t) = ub x := by rw [hm]
      rw [u1]
      by_cases he : tmB t = b
      · have hS : ((strOf (tmB t)).toList == (strOf b).toList) = true := by rw [he]; exact beq_self_eq_true _
        have HM := Kp.mk (And.intro hm he)
        clear hm he u1 hs12
        generalize (tmB t).length = M at *
        obtain ⟨c0, k1, k2, k3, k4, k5⟩ := box6 Hc.out (Ext.refl _)
        go_wp2_with (first | ((with_reducible refine at_store 4 84 ?_); refine wpList_store_row rfl tmt _ _ rfl w.heap.size #[.int .i64 Y, .int .i64 P0, .int .i64 P2, .int .i64 P4, .int .i64 P6, .int .i64 P8] rfl rfl tmt _ Rc.out.h szTm rfl (by simp [Value.oneCell']) ?_) | fail)
        have hx := Xc.out.setRow (Nat.le_refl _) #[.int .i64 Y, .int .i64 P0, .int .i64 P2, .int .i64 P4, .int .i64 P6, .int .i64 P8]
        refine bodyPost_ret (v := .tuple #[.agg #[.int .i64 Y, .int .i64 P0, .int .i64 P2, .int .i64 P4, .int .i64 P6, .int .i64 P8], .bool true]) ?_ rfl ?_
        · exact results_cell_row2 rfl _ _ w.heap.size tmt _ _ _ rfl rfl (Rc.out.row _) Try.underlying52 rfl szTm
        exact .inr ⟨t, HT.out, HM.out.1, HM.out.2, HQ.out, by rw [← HQ.out]; rfl, hx⟩
      · have hS := str_ne8 he
        have HM := Kp.mk he
        clear hm he u1 hs12
        generalize (tmB t).length = M at *
        go_wp2_with (first | ((with_reducible refine at_store 4 83 ?_); refine wpList_store_row rfl tmt _ _ rfl w.heap.size #[.int .i64 0, .int .i64 0, .int .i64 0, .int .i64 0, .int .i64 0, .int .i64 0] rfl rfl tmt _ Rc.out.h szTm rfl (by simp [Value.oneCell']) ?_) | fail)
        have hx := Xc.out.setRow (Nat.le_refl _) #[.int .i64 0, .int .i64 0, .int .i64 0, .int .i64 0, .int .i64 0, .int .i64 0]
        refine bodyPost_ret (v := .tuple #[.agg #[.int .i64 0, .int .i64 0, .int .i64 0, .int .i64 0, .int .i64 0, .int .i64 0], .bool false]) ?_ rfl ?_
        · exact results_cell_row2 rfl _ _ w.heap.size tmt _ _ _ rfl rfl (Rc.out.row _) Try.underlying52 rfl szTm
        exact (.inl ⟨fun ⟨t2, _, _, b2, q2⟩ => HM.out (tcs_inj (HQ.out.symm.trans q2) ▸ b2), rfl, hx⟩)
    · have e1 := (ub_neq (x := tmM t) hm (ub x) rfl).1
      have e2 : (ub (tmM t) != ub x) = true := bne_iff_ne.2 (ub_neq (x := tmM t) hm (ub x) rfl).2
      have HM := Kp.mk hm
      clear hm hs12 S1 S2
      generalize ub (tmM t) = um at *
      generalize (tmB t).length = M at *
      go_wp2_with (first | ((with_reducible refine at_store 4 83 ?_); refine wpList_store_row rfl tmt _ _ rfl w.heap.size #[.int .i64 0, .int .i64 0, .int .i64 0, .int .i64 0, .int .i64 0, .int .i64 0] rfl rfl tmt _ Rc.out.h szTm rfl (by simp [Value.oneCell']) ?_) | fail)
      have hx := Xc.out.setRow (Nat.le_refl _) #[.int .i64 0, .int .i64 0, .int .i64 0, .int .i64 0, .int .i64 0, .int .i64 0]
      refine bodyPost_ret (v := .tuple #[.agg #[.int .i64 0, .int .i64 0, .int .i64 0, .int .i64 0, .int .i64 0, .int .i64 0], .bool false]) ?_ rfl ?_
      · exact results_cell_row2 rfl _ _ w.heap.size tmt _ _ _ rfl rfl (Rc.out.row _) Try.underlying52 rfl szTm
      exact (.inl ⟨fun ⟨t2, _, m2, _, q2⟩ => HM.out (tcs_inj (HQ.out.symm.trans q2) ▸ m2), rfl, hx⟩)
  · have hMay := fun W => May_any Y P0 P2 P4 P6 P8 W false (by simp [hM])
    have HM := Kp.mk hM
    clear hM
    unfold tci at hMay
    refine (hMay _).mono ?_
    rintro e w11 ⟨rfl, x11⟩
    have Xb := Kp.mk (X9.out.trans x11)
    have Rb := Kp.mk (R9.out.ext x11)
    clear x11 hMay
    go_wp2_with (first | ((with_reducible refine at_store 4 67 ?_); refine wpList_store_row rfl tmt _ _ rfl w.heap.size #[.int .i64 0, .int .i64 0, .int .i64 0, .int .i64 0, .int .i64 0, .int .i64 0] rfl rfl tmt _ Rb.out.h szTm rfl (by simp [Value.oneCell']) ?_) | fail)
    have hx := Xb.out.setRow (Nat.le_refl _) #[.int .i64 0, .int .i64 0, .int .i64 0, .int .i64 0, .int .i64 0, .int .i64 0]
    refine bodyPost_ret (v := .tuple #[.agg #[.int .i64 0, .int .i64 0, .int .i64 0, .int .i64 0, .int .i64 0, .int .i64 0], .bool false]) ?_ rfl ?_
    · exact results_cell_row2 rfl _ _ w.heap.size tmt _ _ _ rfl rfl (Rb.out.row _) Try.underlying52 rfl szTm
    exact (.inl ⟨fun ⟨t2, h2, _, _, q2⟩ => HM.out (may_of' h2 q2), rfl, hx⟩)
end Go.Proofs.Ytfipgmjaabggjaa
