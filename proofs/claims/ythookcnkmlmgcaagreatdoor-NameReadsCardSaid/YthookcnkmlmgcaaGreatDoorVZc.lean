/-
  The walk of the reference's Points: bytes are code points as unicode/utf8.Valid has it.
-/
import Derived.Test.YthookcnkmlmgcaaGreatDoorVZa
namespace Go.Proofs.YthookcnkmlmgcaaGreatDoor
open Go Go.RowKit
set_option maxRecDepth 4000

theorem later_any (x : Nat) (hx : x < 256) (w : World) : Calls Tryz.prog 73 #[.int .u8 (x : Int)] w fun e w' => e = .returned (.bool (decide (128 ≤ x ∧ x < 192))) ∧ w' = w := by
  by_cases h1 : 128 ≤ x
  · have g1 : (128 : Int) ≤ (x : Int) := by omega
    by_cases h2 : x < 192
    · have g2 : (x : Int) < 192 := by omega
      rw [decide_eq_true ⟨h1, h2⟩]
      go_enter Tryz.func73, Tryz.ntmps73
      go_wp2
      go_ret
      exact ⟨rfl, rfl⟩
    · have g2 : ¬ ((x : Int) < 192) := by omega
      rw [decide_eq_false (fun h => h2 h.2)]
      go_enter Tryz.func73, Tryz.ntmps73
      go_wp2
      go_ret
      exact ⟨rfl, rfl⟩
  · have g1 : ¬ ((128 : Int) ≤ (x : Int)) := by omega
    rw [decide_eq_false (fun h => h1 h.1)]
    go_enter Tryz.func73, Tryz.ntmps73
    go_wp2
    go_ret
    exact ⟨rfl, rfl⟩
set_option maxHeartbeats 16000000 in
set_option maxRecDepth 100000 in
theorem Points_any {l : List (BitVec 8)} {A : Option Addr} {n c : Nat} {w : World} (h : Bs w A n c l) (hn : n ≤ 1000000) :
    Calls Tryz.prog 58 #[.slice A n c] w fun e w' => e = .returned (.bool (Lib.validD (oct l))) ∧ w' = w := by
  obtain ⟨ANS, hANS⟩ : ∃ ANS, Lib.validD (oct l) = ANS := ⟨_, rfl⟩
  rw [hANS]
  have HB := Kp.mk h
  have HA := Kp.mk hANS
  clear h hANS
  go_enter Tryz.func58, Tryz.ntmps58
  go_wp2_with fail
  go_loopw [3] (fun iv wr => ∃ i : Nat, i ≤ n ∧ iv = .int .i64 (i : Int) ∧ Lib.validD (oct (l.drop i)) = ANS ∧ wr = w) (fun iv _ => n - (intOf iv).toNat)
  case atStart => exact ⟨0, Nat.zero_le _, rfl, HA.out, rfl⟩
  case round =>
    obtain ⟨i, hi, rfl, hv, rfl⟩ := hrel
    by_cases hlt : i < n
    · obtain ⟨g, o, rfl, hc⟩ := HB.out.s.2.2.2 (by omega)
      have hl := HB.out.len
      obtain ⟨x0, hx0⟩ : ∃ x, (gb l i).toNat = x := ⟨_, rfl⟩
      obtain ⟨x1, hx1⟩ : ∃ x, (gb l (i + 1)).toNat = x := ⟨_, rfl⟩
      obtain ⟨x2, hx2⟩ : ∃ x, (gb l (i + 2)).toNat = x := ⟨_, rfl⟩
      obtain ⟨x3, hx3⟩ : ∃ x, (gb l (i + 3)).toNat = x := ⟨_, rfl⟩
      have l0 : x0 < 256 := hx0 ▸ (gb l i).isLt
      have l1 : x1 < 256 := hx1 ▸ (gb l (i + 1)).isLt
      have l2 : x2 < 256 := hx2 ▸ (gb l (i + 2)).isLt
      have l3 : x3 < 256 := hx3 ▸ (gb l (i + 3)).isLt
      have k0 := hc i hlt
      unfold ub at k0
      rw [hx0] at k0
      have k1 : i + 1 < n → wr.cell? ⟨g, o + (i + 1), none⟩ = some (.int .u8 (x1 : Int)) := fun h => by have := hc _ h; unfold ub at this; rwa [hx1] at this
      have k2 : i + 2 < n → wr.cell? ⟨g, o + (i + 2), none⟩ = some (.int .u8 (x2 : Int)) := fun h => by have := hc _ h; unfold ub at this; rwa [hx2] at this
      have k3 : i + 3 < n → wr.cell? ⟨g, o + (i + 3), none⟩ = some (.int .u8 (x3 : Int)) := fun h => by have := hc _ h; unfold ub at this; rwa [hx3] at this
      have b1 : (i : Int) < (n : Int) := by omega
      have w1 : IntKind.i64.wrap ((i : Int) + 1) = ((i + 1 : Nat) : Int) := by rw [IntKind.wrap_i64]; omega
      have w2 : IntKind.i64.wrap ((i : Int) + 2) = ((i + 2 : Nat) : Int) := by rw [IntKind.wrap_i64]; omega
      have w3 : IntKind.i64.wrap ((i : Int) + 3) = ((i + 3 : Nat) : Int) := by rw [IntKind.wrap_i64]; omega
      by_cases hasc : x0 < 128
      · -- a byte below 128
        as_aux_lemma =>
        have hv1 : Lib.validD (oct (l.drop (i + 1))) = ANS := by
          rw [← List.drop_drop, valid_lo (l.drop i) 1 (lo_one _ (by rw [List.length_drop]; omega) (by rw [gb_drop]; rw [Nat.add_zero, hx0]; exact hasc))]
          exact hv
        have HV1 := Kp.mk hv1
        have d1 : (x0 : Int) < 128 := by omega
        have e1 : ((x0 : Int) == 224) = false := beq_eq_false_iff_ne.2 (by omega)
        have e2 : ((x0 : Int) == 237) = false := beq_eq_false_iff_ne.2 (by omega)
        have e3 : ((x0 : Int) == 240) = false := beq_eq_false_iff_ne.2 (by omega)
        have e4 : ((x0 : Int) == 244) = false := beq_eq_false_iff_ne.2 (by omega)
        have z1 : ¬ ((n : Int) ≤ (i : Int)) := by omega
        have z2 : IntKind.i64.wrap (i : Int) = (i : Int) := by rw [IntKind.wrap_i64]; omega
        have z3 : IntKind.i64.wrap (((i + 1 : Nat) : Int)) = ((i + 1 : Nat) : Int) := by rw [IntKind.wrap_i64]; omega
        clear hc hv hv1 k1 k2 k3 hx0 hx1 hx2 hx3
        go_wp2_with fail
        go_loopw [8] (fun kv w5 => kv = .int .i64 2 ∧ w5 = wr) (fun _ _ => 0)
        case atStart => exact ⟨rfl, rfl⟩
        case round =>
          obtain ⟨rfl, rfl⟩ := hrel
          go_wp2_with fail
          go_roundw
          case rel => exact ⟨i + 1, by omega, by go_num, HV1.out, by first | rfl | trivial⟩
          case measure => simp [intOf]; omega
      · have hlead := Lib.validD_lead (oct (l.drop i)) (fun h => by have := congrArg List.length h; rw [oct_len, List.length_drop] at this; simp at this; omega) (by rw [oct_getD, gb_drop, Nat.add_zero i, hx0]; omega)
        rw [oct_getD, oct_getD, oct_getD, oct_getD, gb_drop, gb_drop, gb_drop, gb_drop, Nat.add_zero i, hx0, hx1, hx2, hx3, oct_len, List.length_drop, hl, hv] at hlead
        clear hx0 hx1 hx2 hx3 hc hv
        have hna : ¬ ((x0 : Int) < 128) := by omega
        by_cases h0 : x0 ≤ 193
        · as_aux_lemma =>
          have hf : Lib.firstT x0 = 241 := by
            unfold Lib.firstT
            repeat' split
            all_goals omega
          rw [hf] at hlead
          have f194 : ¬ ((194 : Int) ≤ (x0 : Int)) := by omega
          have f223 : (x0 : Int) ≤ 223 := by omega
          have f224 : ¬ ((224 : Int) ≤ (x0 : Int)) := by omega
          have f239 : (x0 : Int) ≤ 239 := by omega
          have f240 : ¬ ((240 : Int) ≤ (x0 : Int)) := by omega
          have f244 : (x0 : Int) ≤ 244 := by omega
          have e224 : ((x0 : Int) == 224) = false := beq_eq_false_iff_ne.2 (by omega)
          have e237 : ((x0 : Int) == 237) = false := beq_eq_false_iff_ne.2 (by omega)
          have e240 : ((x0 : Int) == 240) = false := beq_eq_false_iff_ne.2 (by omega)
          have e244 : ((x0 : Int) == 244) = false := beq_eq_false_iff_ne.2 (by omega)
          have hlead' : ANS = false := hlead
          subst hlead'
          clear hlead k1 k2 k3
          go_wp2_with fail
          go_ret
          exact ⟨rfl, rfl⟩
        by_cases h1 : x0 ≤ 223
        · as_aux_lemma =>
          have hf : Lib.firstT x0 = 2 := by
            unfold Lib.firstT
            repeat' split
            all_goals omega
          rw [hf] at hlead
          have f194 : (194 : Int) ≤ (x0 : Int) := by omega
          have f223 : (x0 : Int) ≤ 223 := by omega
          have f224 : ¬ ((224 : Int) ≤ (x0 : Int)) := by omega
          have f239 : (x0 : Int) ≤ 239 := by omega
          have f240 : ¬ ((240 : Int) ≤ (x0 : Int)) := by omega
          have f244 : (x0 : Int) ≤ 244 := by omega
          have e224 : ((x0 : Int) == 224) = false := beq_eq_false_iff_ne.2 (by omega)
          have e237 : ((x0 : Int) == 237) = false := beq_eq_false_iff_ne.2 (by omega)
          have e240 : ((x0 : Int) == 240) = false := beq_eq_false_iff_ne.2 (by omega)
          have e244 : ((x0 : Int) == 244) = false := beq_eq_false_iff_ne.2 (by omega)
          have hlead' : ANS = match Lib.checkN (n - i) x1 x2 x3 2 128 191 with | none => false | some k => Lib.validD ((oct (l.drop i)).drop k) := hlead
          clear hlead
          simp only [Lib.checkN, Nat.reduceEqDiff, if_true, if_false] at hlead'
          have zz : IntKind.i64.wrap (((i + 1 : Nat) : Int) + 1) = ((i + 2 : Nat) : Int) := by rw [IntKind.wrap_i64]; omega
          by_cases q0 : n ≤ i + 1
          · have q0z : (n : Int) ≤ ((i + 1 : Nat) : Int) := by omega
            rw [if_pos (.inl (by omega))] at hlead'
            have hl2 : ANS = false := hlead'
            subst hl2
            clear hlead' k1 k2 k3
            go_wp2_with fail
            go_ret
            exact ⟨rfl, rfl⟩
          have q0z : ¬ ((n : Int) ≤ ((i + 1 : Nat) : Int)) := by omega
          have kk1 := k1 (by omega)
          have p1 : ((i + 1 : Nat) : Int) < (n : Int) := by omega
          clear k1 k2 k3
          by_cases q1 : x1 < 128
          · have q1z : (x1 : Int) < 128 := by omega
            rw [if_pos (by omega)] at hlead'
            have hl2 : ANS = false := hlead'
            subst hl2
            clear hlead'
            go_wp2_with fail
            go_ret
            exact ⟨rfl, rfl⟩
          have q1z : ¬ ((x1 : Int) < 128) := by omega
          by_cases q2 : 191 < x1
          · have q2z : (191 : Int) < (x1 : Int) := by omega
            rw [if_pos (by omega)] at hlead'
            have hl2 : ANS = false := hlead'
            subst hl2
            clear hlead'
            go_wp2_with fail
            go_ret
            exact ⟨rfl, rfl⟩
          have q2z : ¬ ((191 : Int) < (x1 : Int)) := by omega
          have HL := Kp.mk hlead'
          clear hlead'
          go_wp2_with fail
          go_loopw [8] (fun kv w5 => ∃ k : Nat, 2 ≤ k ∧ k ≤ 2 ∧ kv = .int .i64 (k : Int) ∧ (True) ∧ w5 = wr) (fun kv _ => 2 - (intOf kv).toNat)
          case atStart => exact ⟨2, Nat.le_refl _, by omega, rfl, trivial, rfl⟩
          case round =>
            obtain ⟨k, hk1, hk2, rfl, hlat, rfl⟩ := hrel
            obtain rfl : k = 2 := by omega
            have HT := Kp.mk hlat
            clear hlat
            go_wp2_with fail
            go_roundw
            case rel =>
              refine ⟨i + 2, by omega, by go_num, ?_, by first | rfl | trivial⟩
              have hl2 := HL.out
              have hq2 := HT.out
              rw [if_neg (by omega)] at hl2
              have hl3 : ANS = Lib.validD ((oct (l.drop i)).drop 2) := hl2
              rw [hl3, ← oct_drop, List.drop_drop]
            case measure => simp [intOf]; omega
        by_cases h2 : x0 ≤ 224
        · as_aux_lemma =>
          have hf : Lib.firstT x0 = 19 := by
            unfold Lib.firstT
            repeat' split
            all_goals omega
          rw [hf] at hlead
          have f194 : (194 : Int) ≤ (x0 : Int) := by omega
          have f223 : ¬ ((x0 : Int) ≤ 223) := by omega
          have f224 : (224 : Int) ≤ (x0 : Int) := by omega
          have f239 : (x0 : Int) ≤ 239 := by omega
          have f240 : ¬ ((240 : Int) ≤ (x0 : Int)) := by omega
          have f244 : (x0 : Int) ≤ 244 := by omega
          have e224 : ((x0 : Int) == 224) = true := beq_iff_eq.2 (by omega)
          have e237 : ((x0 : Int) == 237) = false := beq_eq_false_iff_ne.2 (by omega)
          have e240 : ((x0 : Int) == 240) = false := beq_eq_false_iff_ne.2 (by omega)
          have e244 : ((x0 : Int) == 244) = false := beq_eq_false_iff_ne.2 (by omega)
          have hlead' : ANS = match Lib.checkN (n - i) x1 x2 x3 3 160 191 with | none => false | some k => Lib.validD ((oct (l.drop i)).drop k) := hlead
          clear hlead
          simp only [Lib.checkN, Nat.reduceEqDiff, if_true, if_false] at hlead'
          have zz : IntKind.i64.wrap (((i + 1 : Nat) : Int) + 2) = ((i + 3 : Nat) : Int) := by rw [IntKind.wrap_i64]; omega
          by_cases q0 : n ≤ i + 2
          · have q0z : (n : Int) ≤ ((i + 2 : Nat) : Int) := by omega
            rw [if_pos (.inl (by omega))] at hlead'
            have hl2 : ANS = false := hlead'
            subst hl2
            clear hlead' k1 k2 k3
            go_wp2_with fail
            go_ret
            exact ⟨rfl, rfl⟩
          have q0z : ¬ ((n : Int) ≤ ((i + 2 : Nat) : Int)) := by omega
          have kk1 := k1 (by omega)
          have p1 : ((i + 1 : Nat) : Int) < (n : Int) := by omega
          have kk2 := k2 (by omega)
          have p2 : ((i + 2 : Nat) : Int) < (n : Int) := by omega
          clear k1 k2 k3
          by_cases q1 : x1 < 160
          · have q1z : (x1 : Int) < 160 := by omega
            rw [if_pos (by omega)] at hlead'
            have hl2 : ANS = false := hlead'
            subst hl2
            clear hlead'
            go_wp2_with fail
            go_ret
            exact ⟨rfl, rfl⟩
          have q1z : ¬ ((x1 : Int) < 160) := by omega
          by_cases q2 : 191 < x1
          · have q2z : (191 : Int) < (x1 : Int) := by omega
            rw [if_pos (by omega)] at hlead'
            have hl2 : ANS = false := hlead'
            subst hl2
            clear hlead'
            go_wp2_with fail
            go_ret
            exact ⟨rfl, rfl⟩
          have q2z : ¬ ((191 : Int) < (x1 : Int)) := by omega
          have HL := Kp.mk hlead'
          clear hlead'
          go_wp2_with fail
          go_loopw [8] (fun kv w5 => ∃ k : Nat, 2 ≤ k ∧ k ≤ 3 ∧ kv = .int .i64 (k : Int) ∧ ((2 < k → 128 ≤ x2 ∧ x2 < 192)) ∧ w5 = wr) (fun kv _ => 3 - (intOf kv).toNat)
          case atStart => exact ⟨2, Nat.le_refl _, by omega, rfl, fun h => by omega, rfl⟩
          case round =>
            obtain ⟨k, hk1, hk2, rfl, hlat, rfl⟩ := hrel
            by_cases hj2 : k = 2
            · subst hj2
              have hc2 := later_any x2 l2
              by_cases hq : 128 ≤ x2 ∧ x2 < 192
              · rw [decide_eq_true hq] at hc2
                have HQ := Kp.mk hq
                have HT := Kp.mk hlat
                have HC := Kp.mk hc2
                clear hq hlat hc2
                go_wp2_with (first | (go_at_call 73; refine (HC.out _).mono ?_; rintro e w6 ⟨rfl, rfl⟩) | fail)
                go_roundw
                case rel => exact ⟨3, by omega, by omega, by go_num, fun _ => HQ.out, by first | rfl | trivial⟩
                case measure => simp [intOf]
              · rw [decide_eq_false hq] at hc2
                have HQ := Kp.mk hq
                have HC := Kp.mk hc2
                clear hq hlat hc2
                go_wp2_with (first | (go_at_call 73; refine (HC.out _).mono ?_; rintro e w6 ⟨rfl, rfl⟩) | fail)
                go_ret
                have hl2 := HL.out
                have hq2 := HQ.out
                rw [if_pos (by omega)] at hl2
                have hl3 : ANS = false := hl2
                rw [hl3]
                exact ⟨rfl, rfl⟩
            obtain rfl : k = 3 := by omega
            have HT := Kp.mk hlat
            clear hlat
            go_wp2_with fail
            go_roundw
            case rel =>
              refine ⟨i + 3, by omega, by go_num, ?_, by first | rfl | trivial⟩
              have hl2 := HL.out
              have hq2 := HT.out
              rw [if_neg (by omega)] at hl2
              have hl3 : ANS = Lib.validD ((oct (l.drop i)).drop 3) := hl2
              rw [hl3, ← oct_drop, List.drop_drop]
            case measure => simp [intOf]; omega
        by_cases h3 : x0 ≤ 236
        · as_aux_lemma =>
          have hf : Lib.firstT x0 = 3 := by
            unfold Lib.firstT
            repeat' split
            all_goals omega
          rw [hf] at hlead
          have f194 : (194 : Int) ≤ (x0 : Int) := by omega
          have f223 : ¬ ((x0 : Int) ≤ 223) := by omega
          have f224 : (224 : Int) ≤ (x0 : Int) := by omega
          have f239 : (x0 : Int) ≤ 239 := by omega
          have f240 : ¬ ((240 : Int) ≤ (x0 : Int)) := by omega
          have f244 : (x0 : Int) ≤ 244 := by omega
          have e224 : ((x0 : Int) == 224) = false := beq_eq_false_iff_ne.2 (by omega)
          have e237 : ((x0 : Int) == 237) = false := beq_eq_false_iff_ne.2 (by omega)
          have e240 : ((x0 : Int) == 240) = false := beq_eq_false_iff_ne.2 (by omega)
          have e244 : ((x0 : Int) == 244) = false := beq_eq_false_iff_ne.2 (by omega)
          have hlead' : ANS = match Lib.checkN (n - i) x1 x2 x3 3 128 191 with | none => false | some k => Lib.validD ((oct (l.drop i)).drop k) := hlead
          clear hlead
          simp only [Lib.checkN, Nat.reduceEqDiff, if_true, if_false] at hlead'
          have zz : IntKind.i64.wrap (((i + 1 : Nat) : Int) + 2) = ((i + 3 : Nat) : Int) := by rw [IntKind.wrap_i64]; omega
          by_cases q0 : n ≤ i + 2
          · have q0z : (n : Int) ≤ ((i + 2 : Nat) : Int) := by omega
            rw [if_pos (.inl (by omega))] at hlead'
            have hl2 : ANS = false := hlead'
            subst hl2
            clear hlead' k1 k2 k3
            go_wp2_with fail
            go_ret
            exact ⟨rfl, rfl⟩
          have q0z : ¬ ((n : Int) ≤ ((i + 2 : Nat) : Int)) := by omega
          have kk1 := k1 (by omega)
          have p1 : ((i + 1 : Nat) : Int) < (n : Int) := by omega
          have kk2 := k2 (by omega)
          have p2 : ((i + 2 : Nat) : Int) < (n : Int) := by omega
          clear k1 k2 k3
          by_cases q1 : x1 < 128
          · have q1z : (x1 : Int) < 128 := by omega
            rw [if_pos (by omega)] at hlead'
            have hl2 : ANS = false := hlead'
            subst hl2
            clear hlead'
            go_wp2_with fail
            go_ret
            exact ⟨rfl, rfl⟩
          have q1z : ¬ ((x1 : Int) < 128) := by omega
          by_cases q2 : 191 < x1
          · have q2z : (191 : Int) < (x1 : Int) := by omega
            rw [if_pos (by omega)] at hlead'
            have hl2 : ANS = false := hlead'
            subst hl2
            clear hlead'
            go_wp2_with fail
            go_ret
            exact ⟨rfl, rfl⟩
          have q2z : ¬ ((191 : Int) < (x1 : Int)) := by omega
          have HL := Kp.mk hlead'
          clear hlead'
          go_wp2_with fail
          go_loopw [8] (fun kv w5 => ∃ k : Nat, 2 ≤ k ∧ k ≤ 3 ∧ kv = .int .i64 (k : Int) ∧ ((2 < k → 128 ≤ x2 ∧ x2 < 192)) ∧ w5 = wr) (fun kv _ => 3 - (intOf kv).toNat)
          case atStart => exact ⟨2, Nat.le_refl _, by omega, rfl, fun h => by omega, rfl⟩
          case round =>
            obtain ⟨k, hk1, hk2, rfl, hlat, rfl⟩ := hrel
            by_cases hj2 : k = 2
            · subst hj2
              have hc2 := later_any x2 l2
              by_cases hq : 128 ≤ x2 ∧ x2 < 192
              · rw [decide_eq_true hq] at hc2
                have HQ := Kp.mk hq
                have HT := Kp.mk hlat
                have HC := Kp.mk hc2
                clear hq hlat hc2
                go_wp2_with (first | (go_at_call 73; refine (HC.out _).mono ?_; rintro e w6 ⟨rfl, rfl⟩) | fail)
                go_roundw
                case rel => exact ⟨3, by omega, by omega, by go_num, fun _ => HQ.out, by first | rfl | trivial⟩
                case measure => simp [intOf]
              · rw [decide_eq_false hq] at hc2
                have HQ := Kp.mk hq
                have HC := Kp.mk hc2
                clear hq hlat hc2
                go_wp2_with (first | (go_at_call 73; refine (HC.out _).mono ?_; rintro e w6 ⟨rfl, rfl⟩) | fail)
                go_ret
                have hl2 := HL.out
                have hq2 := HQ.out
                rw [if_pos (by omega)] at hl2
                have hl3 : ANS = false := hl2
                rw [hl3]
                exact ⟨rfl, rfl⟩
            obtain rfl : k = 3 := by omega
            have HT := Kp.mk hlat
            clear hlat
            go_wp2_with fail
            go_roundw
            case rel =>
              refine ⟨i + 3, by omega, by go_num, ?_, by first | rfl | trivial⟩
              have hl2 := HL.out
              have hq2 := HT.out
              rw [if_neg (by omega)] at hl2
              have hl3 : ANS = Lib.validD ((oct (l.drop i)).drop 3) := hl2
              rw [hl3, ← oct_drop, List.drop_drop]
            case measure => simp [intOf]; omega
        by_cases h4 : x0 ≤ 237
        · as_aux_lemma =>
          have hf : Lib.firstT x0 = 35 := by
            unfold Lib.firstT
            repeat' split
            all_goals omega
          rw [hf] at hlead
          have f194 : (194 : Int) ≤ (x0 : Int) := by omega
          have f223 : ¬ ((x0 : Int) ≤ 223) := by omega
          have f224 : (224 : Int) ≤ (x0 : Int) := by omega
          have f239 : (x0 : Int) ≤ 239 := by omega
          have f240 : ¬ ((240 : Int) ≤ (x0 : Int)) := by omega
          have f244 : (x0 : Int) ≤ 244 := by omega
          have e224 : ((x0 : Int) == 224) = false := beq_eq_false_iff_ne.2 (by omega)
          have e237 : ((x0 : Int) == 237) = true := beq_iff_eq.2 (by omega)
          have e240 : ((x0 : Int) == 240) = false := beq_eq_false_iff_ne.2 (by omega)
          have e244 : ((x0 : Int) == 244) = false := beq_eq_false_iff_ne.2 (by omega)
          have hlead' : ANS = match Lib.checkN (n - i) x1 x2 x3 3 128 159 with | none => false | some k => Lib.validD ((oct (l.drop i)).drop k) := hlead
          clear hlead
          simp only [Lib.checkN, Nat.reduceEqDiff, if_true, if_false] at hlead'
          have zz : IntKind.i64.wrap (((i + 1 : Nat) : Int) + 2) = ((i + 3 : Nat) : Int) := by rw [IntKind.wrap_i64]; omega
          by_cases q0 : n ≤ i + 2
          · have q0z : (n : Int) ≤ ((i + 2 : Nat) : Int) := by omega
            rw [if_pos (.inl (by omega))] at hlead'
            have hl2 : ANS = false := hlead'
            subst hl2
            clear hlead' k1 k2 k3
            go_wp2_with fail
            go_ret
            exact ⟨rfl, rfl⟩
          have q0z : ¬ ((n : Int) ≤ ((i + 2 : Nat) : Int)) := by omega
          have kk1 := k1 (by omega)
          have p1 : ((i + 1 : Nat) : Int) < (n : Int) := by omega
          have kk2 := k2 (by omega)
          have p2 : ((i + 2 : Nat) : Int) < (n : Int) := by omega
          clear k1 k2 k3
          by_cases q1 : x1 < 128
          · have q1z : (x1 : Int) < 128 := by omega
            rw [if_pos (by omega)] at hlead'
            have hl2 : ANS = false := hlead'
            subst hl2
            clear hlead'
            go_wp2_with fail
            go_ret
            exact ⟨rfl, rfl⟩
          have q1z : ¬ ((x1 : Int) < 128) := by omega
          by_cases q2 : 159 < x1
          · have q2z : (159 : Int) < (x1 : Int) := by omega
            rw [if_pos (by omega)] at hlead'
            have hl2 : ANS = false := hlead'
            subst hl2
            clear hlead'
            go_wp2_with fail
            go_ret
            exact ⟨rfl, rfl⟩
          have q2z : ¬ ((159 : Int) < (x1 : Int)) := by omega
          have HL := Kp.mk hlead'
          clear hlead'
          go_wp2_with fail
          go_loopw [8] (fun kv w5 => ∃ k : Nat, 2 ≤ k ∧ k ≤ 3 ∧ kv = .int .i64 (k : Int) ∧ ((2 < k → 128 ≤ x2 ∧ x2 < 192)) ∧ w5 = wr) (fun kv _ => 3 - (intOf kv).toNat)
          case atStart => exact ⟨2, Nat.le_refl _, by omega, rfl, fun h => by omega, rfl⟩
          case round =>
            obtain ⟨k, hk1, hk2, rfl, hlat, rfl⟩ := hrel
            by_cases hj2 : k = 2
            · subst hj2
              have hc2 := later_any x2 l2
              by_cases hq : 128 ≤ x2 ∧ x2 < 192
              · rw [decide_eq_true hq] at hc2
                have HQ := Kp.mk hq
                have HT := Kp.mk hlat
                have HC := Kp.mk hc2
                clear hq hlat hc2
                go_wp2_with (first | (go_at_call 73; refine (HC.out _).mono ?_; rintro e w6 ⟨rfl, rfl⟩) | fail)
                go_roundw
                case rel => exact ⟨3, by omega, by omega, by go_num, fun _ => HQ.out, by first | rfl | trivial⟩
                case measure => simp [intOf]
              · rw [decide_eq_false hq] at hc2
                have HQ := Kp.mk hq
                have HC := Kp.mk hc2
                clear hq hlat hc2
                go_wp2_with (first | (go_at_call 73; refine (HC.out _).mono ?_; rintro e w6 ⟨rfl, rfl⟩) | fail)
                go_ret
                have hl2 := HL.out
                have hq2 := HQ.out
                rw [if_pos (by omega)] at hl2
                have hl3 : ANS = false := hl2
                rw [hl3]
                exact ⟨rfl, rfl⟩
            obtain rfl : k = 3 := by omega
            have HT := Kp.mk hlat
            clear hlat
            go_wp2_with fail
            go_roundw
            case rel =>
              refine ⟨i + 3, by omega, by go_num, ?_, by first | rfl | trivial⟩
              have hl2 := HL.out
              have hq2 := HT.out
              rw [if_neg (by omega)] at hl2
              have hl3 : ANS = Lib.validD ((oct (l.drop i)).drop 3) := hl2
              rw [hl3, ← oct_drop, List.drop_drop]
            case measure => simp [intOf]; omega
        by_cases h5 : x0 ≤ 239
        · as_aux_lemma =>
          have hf : Lib.firstT x0 = 3 := by
            unfold Lib.firstT
            repeat' split
            all_goals omega
          rw [hf] at hlead
          have f194 : (194 : Int) ≤ (x0 : Int) := by omega
          have f223 : ¬ ((x0 : Int) ≤ 223) := by omega
          have f224 : (224 : Int) ≤ (x0 : Int) := by omega
          have f239 : (x0 : Int) ≤ 239 := by omega
          have f240 : ¬ ((240 : Int) ≤ (x0 : Int)) := by omega
          have f244 : (x0 : Int) ≤ 244 := by omega
          have e224 : ((x0 : Int) == 224) = false := beq_eq_false_iff_ne.2 (by omega)
          have e237 : ((x0 : Int) == 237) = false := beq_eq_false_iff_ne.2 (by omega)
          have e240 : ((x0 : Int) == 240) = false := beq_eq_false_iff_ne.2 (by omega)
          have e244 : ((x0 : Int) == 244) = false := beq_eq_false_iff_ne.2 (by omega)
          have hlead' : ANS = match Lib.checkN (n - i) x1 x2 x3 3 128 191 with | none => false | some k => Lib.validD ((oct (l.drop i)).drop k) := hlead
          clear hlead
          simp only [Lib.checkN, Nat.reduceEqDiff, if_true, if_false] at hlead'
          have zz : IntKind.i64.wrap (((i + 1 : Nat) : Int) + 2) = ((i + 3 : Nat) : Int) := by rw [IntKind.wrap_i64]; omega
          by_cases q0 : n ≤ i + 2
          · have q0z : (n : Int) ≤ ((i + 2 : Nat) : Int) := by omega
            rw [if_pos (.inl (by omega))] at hlead'
            have hl2 : ANS = false := hlead'
            subst hl2
            clear hlead' k1 k2 k3
            go_wp2_with fail
            go_ret
            exact ⟨rfl, rfl⟩
          have q0z : ¬ ((n : Int) ≤ ((i + 2 : Nat) : Int)) := by omega
          have kk1 := k1 (by omega)
          have p1 : ((i + 1 : Nat) : Int) < (n : Int) := by omega
          have kk2 := k2 (by omega)
          have p2 : ((i + 2 : Nat) : Int) < (n : Int) := by omega
          clear k1 k2 k3
          by_cases q1 : x1 < 128
          · have q1z : (x1 : Int) < 128 := by omega
            rw [if_pos (by omega)] at hlead'
            have hl2 : ANS = false := hlead'
            subst hl2
            clear hlead'
            go_wp2_with fail
            go_ret
            exact ⟨rfl, rfl⟩
          have q1z : ¬ ((x1 : Int) < 128) := by omega
          by_cases q2 : 191 < x1
          · have q2z : (191 : Int) < (x1 : Int) := by omega
            rw [if_pos (by omega)] at hlead'
            have hl2 : ANS = false := hlead'
            subst hl2
            clear hlead'
            go_wp2_with fail
            go_ret
            exact ⟨rfl, rfl⟩
          have q2z : ¬ ((191 : Int) < (x1 : Int)) := by omega
          have HL := Kp.mk hlead'
          clear hlead'
          go_wp2_with fail
          go_loopw [8] (fun kv w5 => ∃ k : Nat, 2 ≤ k ∧ k ≤ 3 ∧ kv = .int .i64 (k : Int) ∧ ((2 < k → 128 ≤ x2 ∧ x2 < 192)) ∧ w5 = wr) (fun kv _ => 3 - (intOf kv).toNat)
          case atStart => exact ⟨2, Nat.le_refl _, by omega, rfl, fun h => by omega, rfl⟩
          case round =>
            obtain ⟨k, hk1, hk2, rfl, hlat, rfl⟩ := hrel
            by_cases hj2 : k = 2
            · subst hj2
              have hc2 := later_any x2 l2
              by_cases hq : 128 ≤ x2 ∧ x2 < 192
              · rw [decide_eq_true hq] at hc2
                have HQ := Kp.mk hq
                have HT := Kp.mk hlat
                have HC := Kp.mk hc2
                clear hq hlat hc2
                go_wp2_with (first | (go_at_call 73; refine (HC.out _).mono ?_; rintro e w6 ⟨rfl, rfl⟩) | fail)
                go_roundw
                case rel => exact ⟨3, by omega, by omega, by go_num, fun _ => HQ.out, by first | rfl | trivial⟩
                case measure => simp [intOf]
              · rw [decide_eq_false hq] at hc2
                have HQ := Kp.mk hq
                have HC := Kp.mk hc2
                clear hq hlat hc2
                go_wp2_with (first | (go_at_call 73; refine (HC.out _).mono ?_; rintro e w6 ⟨rfl, rfl⟩) | fail)
                go_ret
                have hl2 := HL.out
                have hq2 := HQ.out
                rw [if_pos (by omega)] at hl2
                have hl3 : ANS = false := hl2
                rw [hl3]
                exact ⟨rfl, rfl⟩
            obtain rfl : k = 3 := by omega
            have HT := Kp.mk hlat
            clear hlat
            go_wp2_with fail
            go_roundw
            case rel =>
              refine ⟨i + 3, by omega, by go_num, ?_, by first | rfl | trivial⟩
              have hl2 := HL.out
              have hq2 := HT.out
              rw [if_neg (by omega)] at hl2
              have hl3 : ANS = Lib.validD ((oct (l.drop i)).drop 3) := hl2
              rw [hl3, ← oct_drop, List.drop_drop]
            case measure => simp [intOf]; omega
        by_cases h6 : x0 ≤ 240
        · as_aux_lemma =>
          have hf : Lib.firstT x0 = 52 := by
            unfold Lib.firstT
            repeat' split
            all_goals omega
          rw [hf] at hlead
          have f194 : (194 : Int) ≤ (x0 : Int) := by omega
          have f223 : ¬ ((x0 : Int) ≤ 223) := by omega
          have f224 : (224 : Int) ≤ (x0 : Int) := by omega
          have f239 : ¬ ((x0 : Int) ≤ 239) := by omega
          have f240 : (240 : Int) ≤ (x0 : Int) := by omega
          have f244 : (x0 : Int) ≤ 244 := by omega
          have e224 : ((x0 : Int) == 224) = false := beq_eq_false_iff_ne.2 (by omega)
          have e237 : ((x0 : Int) == 237) = false := beq_eq_false_iff_ne.2 (by omega)
          have e240 : ((x0 : Int) == 240) = true := beq_iff_eq.2 (by omega)
          have e244 : ((x0 : Int) == 244) = false := beq_eq_false_iff_ne.2 (by omega)
          have hlead' : ANS = match Lib.checkN (n - i) x1 x2 x3 4 144 191 with | none => false | some k => Lib.validD ((oct (l.drop i)).drop k) := hlead
          clear hlead
          simp only [Lib.checkN, Nat.reduceEqDiff, if_true, if_false] at hlead'
          have zz : IntKind.i64.wrap (((i + 1 : Nat) : Int) + 3) = ((i + 4 : Nat) : Int) := by rw [IntKind.wrap_i64]; omega
          by_cases q0 : n ≤ i + 3
          · have q0z : (n : Int) ≤ ((i + 3 : Nat) : Int) := by omega
            rw [if_pos (.inl (by omega))] at hlead'
            have hl2 : ANS = false := hlead'
            subst hl2
            clear hlead' k1 k2 k3
            go_wp2_with fail
            go_ret
            exact ⟨rfl, rfl⟩
          have q0z : ¬ ((n : Int) ≤ ((i + 3 : Nat) : Int)) := by omega
          have kk1 := k1 (by omega)
          have p1 : ((i + 1 : Nat) : Int) < (n : Int) := by omega
          have kk2 := k2 (by omega)
          have p2 : ((i + 2 : Nat) : Int) < (n : Int) := by omega
          have kk3 := k3 (by omega)
          have p3 : ((i + 3 : Nat) : Int) < (n : Int) := by omega
          clear k1 k2 k3
          by_cases q1 : x1 < 144
          · have q1z : (x1 : Int) < 144 := by omega
            rw [if_pos (by omega)] at hlead'
            have hl2 : ANS = false := hlead'
            subst hl2
            clear hlead'
            go_wp2_with fail
            go_ret
            exact ⟨rfl, rfl⟩
          have q1z : ¬ ((x1 : Int) < 144) := by omega
          by_cases q2 : 191 < x1
          · have q2z : (191 : Int) < (x1 : Int) := by omega
            rw [if_pos (by omega)] at hlead'
            have hl2 : ANS = false := hlead'
            subst hl2
            clear hlead'
            go_wp2_with fail
            go_ret
            exact ⟨rfl, rfl⟩
          have q2z : ¬ ((191 : Int) < (x1 : Int)) := by omega
          have HL := Kp.mk hlead'
          clear hlead'
          go_wp2_with fail
          go_loopw [8] (fun kv w5 => ∃ k : Nat, 2 ≤ k ∧ k ≤ 4 ∧ kv = .int .i64 (k : Int) ∧ ((2 < k → 128 ≤ x2 ∧ x2 < 192) ∧ (3 < k → 128 ≤ x3 ∧ x3 < 192)) ∧ w5 = wr) (fun kv _ => 4 - (intOf kv).toNat)
          case atStart => exact ⟨2, Nat.le_refl _, by omega, rfl, ⟨fun h => by omega, fun h => by omega⟩, rfl⟩
          case round =>
            obtain ⟨k, hk1, hk2, rfl, hlat, rfl⟩ := hrel
            by_cases hj2 : k = 2
            · subst hj2
              have hc2 := later_any x2 l2
              by_cases hq : 128 ≤ x2 ∧ x2 < 192
              · rw [decide_eq_true hq] at hc2
                have HQ := Kp.mk hq
                have HT := Kp.mk hlat
                have HC := Kp.mk hc2
                clear hq hlat hc2
                go_wp2_with (first | (go_at_call 73; refine (HC.out _).mono ?_; rintro e w6 ⟨rfl, rfl⟩) | fail)
                go_roundw
                case rel => exact ⟨3, by omega, by omega, by go_num, ⟨fun _ => HQ.out, fun h => by omega⟩, by first | rfl | trivial⟩
                case measure => simp [intOf]
              · rw [decide_eq_false hq] at hc2
                have HQ := Kp.mk hq
                have HC := Kp.mk hc2
                clear hq hlat hc2
                go_wp2_with (first | (go_at_call 73; refine (HC.out _).mono ?_; rintro e w6 ⟨rfl, rfl⟩) | fail)
                go_ret
                have hl2 := HL.out
                have hq2 := HQ.out
                rw [if_pos (by omega)] at hl2
                have hl3 : ANS = false := hl2
                rw [hl3]
                exact ⟨rfl, rfl⟩
            by_cases hj3 : k = 3
            · subst hj3
              have hc3 := later_any x3 l3
              by_cases hq : 128 ≤ x3 ∧ x3 < 192
              · rw [decide_eq_true hq] at hc3
                have HQ := Kp.mk hq
                have HT := Kp.mk hlat
                have HC := Kp.mk hc3
                clear hq hlat hc3
                go_wp2_with (first | (go_at_call 73; refine (HC.out _).mono ?_; rintro e w6 ⟨rfl, rfl⟩) | fail)
                go_roundw
                case rel => exact ⟨4, by omega, by omega, by go_num, ⟨fun _ => HT.out.1 (by omega), fun _ => HQ.out⟩, by first | rfl | trivial⟩
                case measure => simp [intOf]
              · rw [decide_eq_false hq] at hc3
                have HQ := Kp.mk hq
                have HC := Kp.mk hc3
                clear hq hlat hc3
                go_wp2_with (first | (go_at_call 73; refine (HC.out _).mono ?_; rintro e w6 ⟨rfl, rfl⟩) | fail)
                go_ret
                have hl2 := HL.out
                have hq2 := HQ.out
                rw [if_pos (by omega)] at hl2
                have hl3 : ANS = false := hl2
                rw [hl3]
                exact ⟨rfl, rfl⟩
            obtain rfl : k = 4 := by omega
            have HT := Kp.mk hlat
            clear hlat
            go_wp2_with fail
            go_roundw
            case rel =>
              refine ⟨i + 4, by omega, by go_num, ?_, by first | rfl | trivial⟩
              have hl2 := HL.out
              have hq2 := HT.out
              rw [if_neg (by omega)] at hl2
              have hl3 : ANS = Lib.validD ((oct (l.drop i)).drop 4) := hl2
              rw [hl3, ← oct_drop, List.drop_drop]
            case measure => simp [intOf]; omega
        by_cases h7 : x0 ≤ 243
        · as_aux_lemma =>
          have hf : Lib.firstT x0 = 4 := by
            unfold Lib.firstT
            repeat' split
            all_goals omega
          rw [hf] at hlead
          have f194 : (194 : Int) ≤ (x0 : Int) := by omega
          have f223 : ¬ ((x0 : Int) ≤ 223) := by omega
          have f224 : (224 : Int) ≤ (x0 : Int) := by omega
          have f239 : ¬ ((x0 : Int) ≤ 239) := by omega
          have f240 : (240 : Int) ≤ (x0 : Int) := by omega
          have f244 : (x0 : Int) ≤ 244 := by omega
          have e224 : ((x0 : Int) == 224) = false := beq_eq_false_iff_ne.2 (by omega)
          have e237 : ((x0 : Int) == 237) = false := beq_eq_false_iff_ne.2 (by omega)
          have e240 : ((x0 : Int) == 240) = false := beq_eq_false_iff_ne.2 (by omega)
          have e244 : ((x0 : Int) == 244) = false := beq_eq_false_iff_ne.2 (by omega)
          have hlead' : ANS = match Lib.checkN (n - i) x1 x2 x3 4 128 191 with | none => false | some k => Lib.validD ((oct (l.drop i)).drop k) := hlead
          clear hlead
          simp only [Lib.checkN, Nat.reduceEqDiff, if_true, if_false] at hlead'
          have zz : IntKind.i64.wrap (((i + 1 : Nat) : Int) + 3) = ((i + 4 : Nat) : Int) := by rw [IntKind.wrap_i64]; omega
          by_cases q0 : n ≤ i + 3
          · have q0z : (n : Int) ≤ ((i + 3 : Nat) : Int) := by omega
            rw [if_pos (.inl (by omega))] at hlead'
            have hl2 : ANS = false := hlead'
            subst hl2
            clear hlead' k1 k2 k3
            go_wp2_with fail
            go_ret
            exact ⟨rfl, rfl⟩
          have q0z : ¬ ((n : Int) ≤ ((i + 3 : Nat) : Int)) := by omega
          have kk1 := k1 (by omega)
          have p1 : ((i + 1 : Nat) : Int) < (n : Int) := by omega
          have kk2 := k2 (by omega)
          have p2 : ((i + 2 : Nat) : Int) < (n : Int) := by omega
          have kk3 := k3 (by omega)
          have p3 : ((i + 3 : Nat) : Int) < (n : Int) := by omega
          clear k1 k2 k3
          by_cases q1 : x1 < 128
          · have q1z : (x1 : Int) < 128 := by omega
            rw [if_pos (by omega)] at hlead'
            have hl2 : ANS = false := hlead'
            subst hl2
            clear hlead'
            go_wp2_with fail
            go_ret
            exact ⟨rfl, rfl⟩
          have q1z : ¬ ((x1 : Int) < 128) := by omega
          by_cases q2 : 191 < x1
          · have q2z : (191 : Int) < (x1 : Int) := by omega
            rw [if_pos (by omega)] at hlead'
            have hl2 : ANS = false := hlead'
            subst hl2
            clear hlead'
            go_wp2_with fail
            go_ret
            exact ⟨rfl, rfl⟩
          have q2z : ¬ ((191 : Int) < (x1 : Int)) := by omega
          have HL := Kp.mk hlead'
          clear hlead'
          go_wp2_with fail
          go_loopw [8] (fun kv w5 => ∃ k : Nat, 2 ≤ k ∧ k ≤ 4 ∧ kv = .int .i64 (k : Int) ∧ ((2 < k → 128 ≤ x2 ∧ x2 < 192) ∧ (3 < k → 128 ≤ x3 ∧ x3 < 192)) ∧ w5 = wr) (fun kv _ => 4 - (intOf kv).toNat)
          case atStart => exact ⟨2, Nat.le_refl _, by omega, rfl, ⟨fun h => by omega, fun h => by omega⟩, rfl⟩
          case round =>
            obtain ⟨k, hk1, hk2, rfl, hlat, rfl⟩ := hrel
            by_cases hj2 : k = 2
            · subst hj2
              have hc2 := later_any x2 l2
              by_cases hq : 128 ≤ x2 ∧ x2 < 192
              · rw [decide_eq_true hq] at hc2
                have HQ := Kp.mk hq
                have HT := Kp.mk hlat
                have HC := Kp.mk hc2
                clear hq hlat hc2
                go_wp2_with (first | (go_at_call 73; refine (HC.out _).mono ?_; rintro e w6 ⟨rfl, rfl⟩) | fail)
                go_roundw
                case rel => exact ⟨3, by omega, by omega, by go_num, ⟨fun _ => HQ.out, fun h => by omega⟩, by first | rfl | trivial⟩
                case measure => simp [intOf]
              · rw [decide_eq_false hq] at hc2
                have HQ := Kp.mk hq
                have HC := Kp.mk hc2
                clear hq hlat hc2
                go_wp2_with (first | (go_at_call 73; refine (HC.out _).mono ?_; rintro e w6 ⟨rfl, rfl⟩) | fail)
                go_ret
                have hl2 := HL.out
                have hq2 := HQ.out
                rw [if_pos (by omega)] at hl2
                have hl3 : ANS = false := hl2
                rw [hl3]
                exact ⟨rfl, rfl⟩
            by_cases hj3 : k = 3
            · subst hj3
              have hc3 := later_any x3 l3
              by_cases hq : 128 ≤ x3 ∧ x3 < 192
              · rw [decide_eq_true hq] at hc3
                have HQ := Kp.mk hq
                have HT := Kp.mk hlat
                have HC := Kp.mk hc3
                clear hq hlat hc3
                go_wp2_with (first | (go_at_call 73; refine (HC.out _).mono ?_; rintro e w6 ⟨rfl, rfl⟩) | fail)
                go_roundw
                case rel => exact ⟨4, by omega, by omega, by go_num, ⟨fun _ => HT.out.1 (by omega), fun _ => HQ.out⟩, by first | rfl | trivial⟩
                case measure => simp [intOf]
              · rw [decide_eq_false hq] at hc3
                have HQ := Kp.mk hq
                have HC := Kp.mk hc3
                clear hq hlat hc3
                go_wp2_with (first | (go_at_call 73; refine (HC.out _).mono ?_; rintro e w6 ⟨rfl, rfl⟩) | fail)
                go_ret
                have hl2 := HL.out
                have hq2 := HQ.out
                rw [if_pos (by omega)] at hl2
                have hl3 : ANS = false := hl2
                rw [hl3]
                exact ⟨rfl, rfl⟩
            obtain rfl : k = 4 := by omega
            have HT := Kp.mk hlat
            clear hlat
            go_wp2_with fail
            go_roundw
            case rel =>
              refine ⟨i + 4, by omega, by go_num, ?_, by first | rfl | trivial⟩
              have hl2 := HL.out
              have hq2 := HT.out
              rw [if_neg (by omega)] at hl2
              have hl3 : ANS = Lib.validD ((oct (l.drop i)).drop 4) := hl2
              rw [hl3, ← oct_drop, List.drop_drop]
            case measure => simp [intOf]; omega
        by_cases h8 : x0 ≤ 244
        · as_aux_lemma =>
          have hf : Lib.firstT x0 = 68 := by
            unfold Lib.firstT
            repeat' split
            all_goals omega
          rw [hf] at hlead
          have f194 : (194 : Int) ≤ (x0 : Int) := by omega
          have f223 : ¬ ((x0 : Int) ≤ 223) := by omega
          have f224 : (224 : Int) ≤ (x0 : Int) := by omega
          have f239 : ¬ ((x0 : Int) ≤ 239) := by omega
          have f240 : (240 : Int) ≤ (x0 : Int) := by omega
          have f244 : (x0 : Int) ≤ 244 := by omega
          have e224 : ((x0 : Int) == 224) = false := beq_eq_false_iff_ne.2 (by omega)
          have e237 : ((x0 : Int) == 237) = false := beq_eq_false_iff_ne.2 (by omega)
          have e240 : ((x0 : Int) == 240) = false := beq_eq_false_iff_ne.2 (by omega)
          have e244 : ((x0 : Int) == 244) = true := beq_iff_eq.2 (by omega)
          have hlead' : ANS = match Lib.checkN (n - i) x1 x2 x3 4 128 143 with | none => false | some k => Lib.validD ((oct (l.drop i)).drop k) := hlead
          clear hlead
          simp only [Lib.checkN, Nat.reduceEqDiff, if_true, if_false] at hlead'
          have zz : IntKind.i64.wrap (((i + 1 : Nat) : Int) + 3) = ((i + 4 : Nat) : Int) := by rw [IntKind.wrap_i64]; omega
          by_cases q0 : n ≤ i + 3
          · have q0z : (n : Int) ≤ ((i + 3 : Nat) : Int) := by omega
            rw [if_pos (.inl (by omega))] at hlead'
            have hl2 : ANS = false := hlead'
            subst hl2
            clear hlead' k1 k2 k3
            go_wp2_with fail
            go_ret
            exact ⟨rfl, rfl⟩
          have q0z : ¬ ((n : Int) ≤ ((i + 3 : Nat) : Int)) := by omega
          have kk1 := k1 (by omega)
          have p1 : ((i + 1 : Nat) : Int) < (n : Int) := by omega
          have kk2 := k2 (by omega)
          have p2 : ((i + 2 : Nat) : Int) < (n : Int) := by omega
          have kk3 := k3 (by omega)
          have p3 : ((i + 3 : Nat) : Int) < (n : Int) := by omega
          clear k1 k2 k3
          by_cases q1 : x1 < 128
          · have q1z : (x1 : Int) < 128 := by omega
            rw [if_pos (by omega)] at hlead'
            have hl2 : ANS = false := hlead'
            subst hl2
            clear hlead'
            go_wp2_with fail
            go_ret
            exact ⟨rfl, rfl⟩
          have q1z : ¬ ((x1 : Int) < 128) := by omega
          by_cases q2 : 143 < x1
          · have q2z : (143 : Int) < (x1 : Int) := by omega
            rw [if_pos (by omega)] at hlead'
            have hl2 : ANS = false := hlead'
            subst hl2
            clear hlead'
            go_wp2_with fail
            go_ret
            exact ⟨rfl, rfl⟩
          have q2z : ¬ ((143 : Int) < (x1 : Int)) := by omega
          have HL := Kp.mk hlead'
          clear hlead'
          go_wp2_with fail
          go_loopw [8] (fun kv w5 => ∃ k : Nat, 2 ≤ k ∧ k ≤ 4 ∧ kv = .int .i64 (k : Int) ∧ ((2 < k → 128 ≤ x2 ∧ x2 < 192) ∧ (3 < k → 128 ≤ x3 ∧ x3 < 192)) ∧ w5 = wr) (fun kv _ => 4 - (intOf kv).toNat)
          case atStart => exact ⟨2, Nat.le_refl _, by omega, rfl, ⟨fun h => by omega, fun h => by omega⟩, rfl⟩
          case round =>
            obtain ⟨k, hk1, hk2, rfl, hlat, rfl⟩ := hrel
            by_cases hj2 : k = 2
            · subst hj2
              have hc2 := later_any x2 l2
              by_cases hq : 128 ≤ x2 ∧ x2 < 192
              · rw [decide_eq_true hq] at hc2
                have HQ := Kp.mk hq
                have HT := Kp.mk hlat
                have HC := Kp.mk hc2
                clear hq hlat hc2
                go_wp2_with (first | (go_at_call 73; refine (HC.out _).mono ?_; rintro e w6 ⟨rfl, rfl⟩) | fail)
                go_roundw
                case rel => exact ⟨3, by omega, by omega, by go_num, ⟨fun _ => HQ.out, fun h => by omega⟩, by first | rfl | trivial⟩
                case measure => simp [intOf]
              · rw [decide_eq_false hq] at hc2
                have HQ := Kp.mk hq
                have HC := Kp.mk hc2
                clear hq hlat hc2
                go_wp2_with (first | (go_at_call 73; refine (HC.out _).mono ?_; rintro e w6 ⟨rfl, rfl⟩) | fail)
                go_ret
                have hl2 := HL.out
                have hq2 := HQ.out
                rw [if_pos (by omega)] at hl2
                have hl3 : ANS = false := hl2
                rw [hl3]
                exact ⟨rfl, rfl⟩
            by_cases hj3 : k = 3
            · subst hj3
              have hc3 := later_any x3 l3
              by_cases hq : 128 ≤ x3 ∧ x3 < 192
              · rw [decide_eq_true hq] at hc3
                have HQ := Kp.mk hq
                have HT := Kp.mk hlat
                have HC := Kp.mk hc3
                clear hq hlat hc3
                go_wp2_with (first | (go_at_call 73; refine (HC.out _).mono ?_; rintro e w6 ⟨rfl, rfl⟩) | fail)
                go_roundw
                case rel => exact ⟨4, by omega, by omega, by go_num, ⟨fun _ => HT.out.1 (by omega), fun _ => HQ.out⟩, by first | rfl | trivial⟩
                case measure => simp [intOf]
              · rw [decide_eq_false hq] at hc3
                have HQ := Kp.mk hq
                have HC := Kp.mk hc3
                clear hq hlat hc3
                go_wp2_with (first | (go_at_call 73; refine (HC.out _).mono ?_; rintro e w6 ⟨rfl, rfl⟩) | fail)
                go_ret
                have hl2 := HL.out
                have hq2 := HQ.out
                rw [if_pos (by omega)] at hl2
                have hl3 : ANS = false := hl2
                rw [hl3]
                exact ⟨rfl, rfl⟩
            obtain rfl : k = 4 := by omega
            have HT := Kp.mk hlat
            clear hlat
            go_wp2_with fail
            go_roundw
            case rel =>
              refine ⟨i + 4, by omega, by go_num, ?_, by first | rfl | trivial⟩
              have hl2 := HL.out
              have hq2 := HT.out
              rw [if_neg (by omega)] at hl2
              have hl3 : ANS = Lib.validD ((oct (l.drop i)).drop 4) := hl2
              rw [hl3, ← oct_drop, List.drop_drop]
            case measure => simp [intOf]; omega
        · as_aux_lemma =>
          have hf : Lib.firstT x0 = 241 := by
            unfold Lib.firstT
            repeat' split
            all_goals omega
          rw [hf] at hlead
          have f194 : (194 : Int) ≤ (x0 : Int) := by omega
          have f223 : ¬ ((x0 : Int) ≤ 223) := by omega
          have f224 : (224 : Int) ≤ (x0 : Int) := by omega
          have f239 : ¬ ((x0 : Int) ≤ 239) := by omega
          have f240 : (240 : Int) ≤ (x0 : Int) := by omega
          have f244 : ¬ ((x0 : Int) ≤ 244) := by omega
          have e224 : ((x0 : Int) == 224) = false := beq_eq_false_iff_ne.2 (by omega)
          have e237 : ((x0 : Int) == 237) = false := beq_eq_false_iff_ne.2 (by omega)
          have e240 : ((x0 : Int) == 240) = false := beq_eq_false_iff_ne.2 (by omega)
          have e244 : ((x0 : Int) == 244) = false := beq_eq_false_iff_ne.2 (by omega)
          have hlead' : ANS = false := hlead
          subst hlead'
          clear hlead k1 k2 k3
          go_wp2_with fail
          go_ret
          exact ⟨rfl, rfl⟩
    · obtain rfl : i = n := by omega
      as_aux_lemma =>
      rw [List.drop_of_length_le (by rw [HB.out.len]; exact Nat.le_refl _)] at hv
      have hv' : ANS = true := hv.symm
      subst hv'
      clear hv
      go_wp2_with fail
      go_ret
      exact ⟨rfl, rfl⟩
end Go.Proofs.YthookcnkmlmgcaaGreatDoor
