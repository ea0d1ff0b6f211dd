/-
  The reference's Number, Value; PrimInts.
-/
import Derived.Test.YtfipgmjaabggjaaVVg
namespace Go.Proofs.Ytfipgmjaabggjaa
open Go Go.RowKit
set_option maxRecDepth 4000

theorem dec_lt (y : BitVec 8) : decide (ub y < 128) = !decide (128 ≤ y.toNat) := by
  unfold ub
  by_cases h : 128 ≤ y.toNat
  · rw [decide_eq_true h, decide_eq_false (by omega)]; rfl
  · rw [decide_eq_false h, decide_eq_true (by omega)]; rfl
theorem dec_ge (y : BitVec 8) : decide (128 ≤ ub y) = decide (128 ≤ y.toNat) := by
  unfold ub
  by_cases h : 128 ≤ y.toNat
  · rw [decide_eq_true h, decide_eq_true (by omega)]
  · rw [decide_eq_false h, decide_eq_false (by omega)]
set_option maxHeartbeats 2000000 in
theorem refNumber_any {b : List (BitVec 8)} {A : Option Addr} {n c : Nat} {w : World} (h : Bs w A n c b) : Calls Try.prog 12 #[.slice A n c] w fun e w' => e = .returned (.bool (tcB b)) ∧ Ext w w' := by
  have hl := h.len
  by_cases h0 : n = 0
  · subst h0
    rw [List.eq_nil_of_length_eq_zero hl]
    rw [show tcB [] = false from rfl]
    clear h hl
    go_enter Try.func12, Try.ntmps12
    go_wp2
    go_ret
    exact ⟨rfl, (by (repeat (first | assumption | exact Ext.refl _ | apply Ext.drew | apply Ext.drewN | apply Ext.alloc | refine Ext.trans ?_ (by assumption))); first | done | fail)⟩
  have z0 : ((n : Int) == 0) = false := beq_eq_false_iff_ne.2 (by omega)
  by_cases h1 : n = 1
  · subst h1
    have e : tcB b = true := by
      match b, hl with
      | [x], _ => rfl
    rw [e]
    clear h hl e h0 z0
    go_enter Try.func12, Try.ntmps12
    go_wp2
    go_ret
    exact ⟨rfl, (by (repeat (first | assumption | exact Ext.refl _ | apply Ext.drew | apply Ext.drewN | apply Ext.alloc | refine Ext.trans ?_ (by assumption))); first | done | fail)⟩
  have z1 : ((n : Int) == 1) = false := beq_eq_false_iff_ne.2 (by omega)
  obtain ⟨g, o, rfl, hc⟩ := h.s.2.2.2 (by omega)
  have c0 := hc 0 (by omega)
  have c1 := hc 1 (by omega)
  rw [Nat.add_zero] at c0
  have b2 : (0 : Int) < (n : Int) := by omega
  have b3 : (1 : Int) < (n : Int) := by omega
  have b4 : 0 < n := by omega
  have b5 : 1 < n := by omega
  have hk := tcB_cases b (by omega)
  have d1 := dec_lt (gb b 1)
  have d2 := dec_ge (gb b 1)
  clear hc h hl
  generalize tcB b = R at *
  generalize gb b 1 = y at *
  generalize gb b 0 = x at *
  generalize hQ : decide (128 ≤ y.toNat) = Q at *
  clear hQ
  rcases hk with ⟨rfl, rfl⟩ | ⟨rfl, rfl⟩ | ⟨k0, k1, rfl⟩
  · have c0' : w.cell? ⟨g, o, none⟩ = some (.int .u8 0) := c0
    clear c0
    cases R <;>
    · go_enter Try.func12, Try.ntmps12
      go_wp2
      try (go_quiet (fail); go_wp2)
      go_ret
      exact ⟨rfl, (by (repeat (first | assumption | exact Ext.refl _ | apply Ext.drew | apply Ext.drewN | apply Ext.alloc | refine Ext.trans ?_ (by assumption))); first | done | fail)⟩
  · have c0' : w.cell? ⟨g, o, none⟩ = some (.int .u8 255) := c0
    clear c0
    cases Q <;>
    · go_enter Try.func12, Try.ntmps12
      go_wp2
      try (go_quiet (fail); go_wp2)
      go_ret
      exact ⟨rfl, (by (repeat (first | assumption | exact Ext.refl _ | apply Ext.drew | apply Ext.drewN | apply Ext.alloc | refine Ext.trans ?_ (by assumption))); first | done | fail)⟩
  · have e1 := (ub_neq k0 0 rfl).1
    have e2 := (ub_neq k1 255 rfl).1
    clear k0 k1
    go_enter Try.func12, Try.ntmps12
    go_wp2
    try (go_quiet (fail); go_wp2)
    go_ret
    exact ⟨rfl, (by (repeat (first | assumption | exact Ext.refl _ | apply Ext.drew | apply Ext.drewN | apply Ext.alloc | refine Ext.trans ?_ (by assumption))); first | done | fail)⟩
set_option maxHeartbeats 2000000 in
theorem refValue_any {b : List (BitVec 8)} {A : Option Addr} {n c : Nat} {w : World} (h : Bs w A n c b) (hn : 0 < n) (h8 : n ≤ 8) : Calls Try.prog 13 #[.slice A n c] w fun e w' => e = .returned (.int .i64 (tcV b)) ∧ Ext w w' := by
  have hl := h.len
  have hD := Kp.mk h
  obtain ⟨g, o, rfl, hc⟩ := h.s.2.2.2 (by omega)
  have c0 := hc 0 (by omega)
  rw [Nat.add_zero] at c0
  have b2 : (0 : Int) < (n : Int) := by omega
  have b4 : 0 < n := by omega
  have hstep : ∀ j, j < n → IntKind.i64.wrap (tcP b j * 256) = tcP b j * 256 ∧ IntKind.i64.wrap (tcP b j * 256 + ub (gb b j)) = tcP b (j + 1) ∧ IntKind.i64.wrap (ub (gb b j)) = ub (gb b j) := by
    intro j hj
    have hr := tcP_range b j (by omega) (by omega)
    have hx := (gb b j).isLt
    rw [tcP_succ b j (by omega)]
    unfold ub
    refine ⟨by rw [IntKind.wrap_i64]; omega, by rw [IntKind.wrap_i64]; omega, by rw [IntKind.wrap_i64]; omega⟩
  have HS := Kp.mk hstep
  have HA := Kp.mk (tcP_all b)
  have HL := Kp.mk hl
  have HZ := Kp.mk (tcP_zero b)
  have d2 := dec_ge (gb b 0)
  clear hstep hc h hl
  by_cases hx : 128 ≤ (gb b 0).toNat
  all_goals
    have HZ' := HZ.out
    first | rw [if_pos hx] at HZ' | rw [if_neg hx] at HZ'
    first | rw [decide_eq_true hx] at d2 | rw [decide_eq_false hx] at d2
    have HZ := Kp.mk HZ'
    clear HZ' hx
    go_enter Try.func13, Try.ntmps13
    go_wp2_with fail
    clear c0 d2
    go_loopw [3, 4] (fun v i wr => ∃ j : Nat, j ≤ n ∧ i = .int .i64 (j : Int) ∧ v = .int .i64 (tcP b j) ∧ Ext w wr) (fun _ i _ => n - (intOf i).toNat)
    case atStart => exact ⟨0, Nat.zero_le _, rfl, by rw [HZ.out], (by (repeat (first | assumption | exact Ext.refl _ | apply Ext.drew | apply Ext.drewN | apply Ext.alloc | refine Ext.trans ?_ (by assumption))); first | done | fail)⟩
    case round =>
      obtain ⟨j, hj, rfl, rfl, hx⟩ := hrel
      by_cases hlt : j < n
      · have b5 : (j : Int) < (n : Int) := by omega
        obtain ⟨s1, s2, s3⟩ := HS.out j hlt
        obtain ⟨g', o', hg, hc⟩ := (hD.out.ext hx).s.2.2.2 (by omega)
        cases hg
        have c1 := hc j (by omega)
        have s4 : IntKind.i64.wrap ((j : Int) + 1) = (j : Int) + 1 := by rw [IntKind.wrap_i64]; omega
        have HX := Kp.mk hx
        clear hc hx
        go_wp2_with fail
        go_roundw
        case rel => exact ⟨j + 1, hlt, by go_num, rfl, HX.out.trans (by (repeat (first | assumption | exact Ext.refl _ | apply Ext.drew | apply Ext.drewN | apply Ext.alloc | refine Ext.trans ?_ (by assumption))); first | done | fail)⟩
        case measure => simp [intOf]; omega
      · obtain rfl : j = n := by omega
        have b5 : ¬ (j : Int) < (j : Int) := by omega
        have e : tcP b j = tcV b := by rw [← HA.out, HL.out]
        rw [e]
        clear e
        go_wp2_with fail
        go_ret
        exact ⟨rfl, hx.trans (by (repeat (first | assumption | exact Ext.refl _ | apply Ext.drew | apply Ext.drewN | apply Ext.alloc | refine Ext.trans ?_ (by assumption))); first | done | fail)⟩
end Go.Proofs.Ytfipgmjaabggjaa
