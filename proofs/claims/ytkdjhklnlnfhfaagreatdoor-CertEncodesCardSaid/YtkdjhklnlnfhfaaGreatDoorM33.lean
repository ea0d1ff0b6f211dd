/-
  prim: Time.
  prim: Count.
  The laws' head.
  Moments compared; later moments have greater bodies.
-/
import Derived.Test.YtkdjhklnlnfhfaaGreatDoorM32
import Derived.Test.YtkdjhklnlnfhfaaGreatDoorM28
import Derived.Laws.StructEq
namespace Go.Proofs.YtkdjhklnlnfhfaaGreatDoor
open Go Go.RowKit
set_option maxRecDepth 4000

theorem idx6 (a b c d e f : Int) (w : World) (j : Int) (v : Int) (hj : (j = 0 ∧ v = a) ∨ (j = 1 ∧ v = b) ∨ (j = 2 ∧ v = c) ∨ (j = 3 ∧ v = d) ∨ (j = 4 ∧ v = e) ∨ (j = 5 ∧ v = f)) :
    (Instr.index 218 (.agg #[.int .i64 a, .int .i64 b, .int .i64 c, .int .i64 d, .int .i64 e, .int .i64 f]) (.int .i64 j)).run Tryz.prog w = .ok (.int .i64 v) w := by
  have hi : (Tryz.prog.info? 3).map (·.size) = some 1 := by kernel_rfl
  cases hq : Tryz.prog.info? 3 with
  | none => simp [hq] at hi
  | some i =>
    have hs1 : i.size = 1 := by simpa [hq] using hi
    rcases hj with ⟨rfl, rfl⟩ | ⟨rfl, rfl⟩ | ⟨rfl, rfl⟩ | ⟨rfl, rfl⟩ | ⟨rfl, rfl⟩ | ⟨rfl, rfl⟩ <;> simp [Instr.index, part, run_underlying Tryz.underlying218, Sem.run_bind, asIntOf, sizeOf, typeInfo, hq, hs1]
theorem box6 {w w' : World} {g t : Nat} {a b c d e f : Value} (h : Blk w g t #[a, b, c, d, e, f]) (hx : Ext w w') : w'.cell? ⟨g, 0, none⟩ = some a ∧ w'.cell? ⟨g, 1, none⟩ = some b ∧ w'.cell? ⟨g, 2, none⟩ = some c ∧ w'.cell? ⟨g, 3, none⟩ = some d ∧ w'.cell? ⟨g, 4, none⟩ = some e ∧ w'.cell? ⟨g, 5, none⟩ = some f := ⟨(h.ext hx).h.cell 0, (h.ext hx).h.cell 1, (h.ext hx).h.cell 2, (h.ext hx).h.cell 3, (h.ext hx).h.cell 4, (h.ext hx).h.cell 5⟩
set_option maxHeartbeats 2000000 in
theorem Time_no (y mo d h mi s : Int) (w : World) (hM : ¬ MayI y mo d h mi s) : Calls Tryz.prog 141 #[.agg (tci y mo d h mi s)] w fun e w' => e = .returned (.tuple #[.int .u8 0, .slice none 0 0, err 1]) ∧ Ext w w' := by
  have hC := fun W => isTime_any y mo d h mi s W false (by simp [hM])
  unfold tci at *
  clear hM
  go_enter Tryz.func141, Tryz.ntmps141
  go_wp2_with fail
  refine (hC _).mono ?_
  rintro e w1 ⟨rfl, hx1⟩
  have HX := Kp.mk (show Ext w w1 from (by (repeat (first | assumption | exact Ext.refl _ | apply Ext.drew | apply Ext.drewN | apply Ext.alloc | refine Ext.trans ?_ (by assumption))); first | done | fail))
  clear hx1
  go_wp2_with fail
  go_ret3
  exact ⟨rfl, HX.out⟩
set_option maxHeartbeats 4000000 in
theorem Time_ok0 (t : Tmt) (ht : MayT t) (y mo d h mi s y1 y2 : Int) (a1 : y = (t.y : Int)) (a2 : mo = (t.mo : Int)) (a3 : d = (t.d : Int)) (a4 : h = (t.h : Int)) (a5 : mi = (t.mi : Int)) (a6 : s = (t.s : Int)) (a7 : y1 = ((t.y % 100 : Nat) : Int)) (a8 : y2 = ((t.y / 100 : Nat) : Int)) (w : World) : Calls Tryz.prog 141 #[.agg (tci y mo d h mi s)] w fun e w' => ∃ A c, e = .returned (.tuple #[.int .u8 (ub (tmM t)), .slice A (tmB t).length c, .nilIface]) ∧ Own w' w.heap.size (.slice A (tmB t).length c) (tmB t).length (tmB t) ∧ Ext w w' := by
  have hC := fun W => isTime_any y mo d h mi s W true (by simp; exact ⟨t, ht, a1, a2, a3, a4, a5, a6⟩)
  have A1 := Kp.mk (And.intro a1 (And.intro a2 (And.intro a3 (And.intro a4 (And.intro a5 (And.intro a6 (And.intro a7 a8)))))))
  have p1 := Kp.mk a7
  have p2 := Kp.mk a2
  have p3 := Kp.mk a3
  have p4 := Kp.mk a4
  have p5 := Kp.mk a5
  have p6 := Kp.mk a6
  have p7 := Kp.mk a8
  have p0 := Kp.mk a1
  have r1 : y.tmod 100 = y1 := by rw [a1, a7]; exact tm_nat t.y 100 (by decide)
  have r2 : y.tdiv 100 = y2 := by rw [a1, a8]; exact td_nat t.y 100
  have r3 : IntKind.i64.wrap y2 = y2 := by have := ht.y2; rw [IntKind.wrap_i64]; omega
  clear a1 a2 a3 a4 a5 a6 a7 a8
  unfold tci at *
  have hmk := run_make0 15 15 rfl (by decide)
  have HB := Kp.mk (Blk.new w tmt #[.int .i64 y, .int .i64 mo, .int .i64 d, .int .i64 h, .int .i64 mi, .int .i64 s])
  have HT := Kp.mk ht
  clear ht
  go_enter Tryz.func141, Tryz.ntmps141
  go_wp2_with fail
  refine (hC _).mono ?_
  rintro e w1 ⟨rfl, hx1⟩
  obtain ⟨W0, hW0⟩ : ∃ W0, W0 = w.alloc (.cells #[.int .i64 y, .int .i64 mo, .int .i64 d, .int .i64 h, .int .i64 mi, .int .i64 s] tmt) := ⟨_, rfl⟩
  have hxw : Ext w W0 := by rw [hW0]; exact (by (repeat (first | assumption | exact Ext.refl _ | apply Ext.drew | apply Ext.drewN | apply Ext.alloc | refine Ext.trans ?_ (by assumption))); first | done | fail)
  rw [← hW0] at hx1 HB
  clear hC
  go_wp2_with fail
  refine wp_region_held_drew (S := fun w' => Ext w1 w') (by kernel_rfl) (Ext.refl w1).drew (fun hHeld => ?_)
  refine wpAnyH_take (i := 1) (oi := ⟨some 5, _, _, _, _, _⟩) (v := ?_) rfl (by kernel_rfl) (by kernel_rfl) (by kernel_rfl) (fun _ _ _ h => h) (Or.inl ⟨by rfl, ?_⟩) (by assumption) ?_
  rotate_left
  · (intro w hSw; (try dsimp only at hSw); go_simp; try with_reducible rfl)
  try simp only [Act.put, List.setIfInBounds_toArray, List.set_cons_zero, List.set_cons_succ]
  refine next_one 0 (by kernel_rfl) rfl (by rfl) fun K' HK' => ?_
  go_simp
  obtain ⟨B, hB⟩ : ∃ B, B = w1.heap.size := ⟨_, rfl⟩
  have ho2 : Own (w1.alloc (.cells (bv (zb 15)) 5)).drew w1.heap.size (.slice (some ⟨w1.heap.size, 0, none⟩) 0 15) 0 [] := (Own.made w1 _ 15 (Nat.le_refl _) (by decide)).ext (by (repeat (first | assumption | exact Ext.refl _ | apply Ext.drew | apply Ext.drewN | apply Ext.alloc | refine Ext.trans ?_ (by assumption))); first | done | fail)
  have hx2 : Ext w1 (w1.alloc (.cells (bv (zb 15)) 5)).drew := (by (repeat (first | assumption | exact Ext.refl _ | apply Ext.drew | apply Ext.drewN | apply Ext.alloc | refine Ext.trans ?_ (by assumption))); first | done | fail)
  have hx2d : Ext w1.drew (w1.alloc (.cells (bv (zb 15)) 5)).drew := (show Ext w1.drew (w1.drew.alloc (.cells (bv (zb 15)) 5)) from (by (repeat (first | assumption | exact Ext.refl _ | apply Ext.drew | apply Ext.drewN | apply Ext.alloc | refine Ext.trans ?_ (by assumption))); first | done | fail))
  generalize hw2 : (w1.alloc (.cells (bv (zb 15)) 5)).drew = w2 at *
  have hS2 := Ext.trans hHeld hx2d
  refine held_go HK' hS2 (fun _ => ?_)
  clear HK'
  refine held_more (S' := fun w' => Ext w2 w') (fun _ h => Ext.trans hS2 h) _ _ _ _ ?_
  clear hHeld hS2
  have hHeld : Ext w2 w2 := Ext.refl _
  try simp only [Act.put, List.setIfInBounds_toArray, List.set_cons_zero, List.set_cons_succ]
  refine wpAnyH_take (i := 2) (oi := ⟨some 6, _, _, _, _, _⟩) (v := ?_) rfl (by kernel_rfl) (by kernel_rfl) (by kernel_rfl) (fun _ _ _ h => h) (Or.inl ⟨by rfl, ?_⟩) (by assumption) ?_
  rotate_left
  · (intro w hSw; (try dsimp only at hSw); go_simp; try with_reducible rfl)
  try simp only [Act.put, List.setIfInBounds_toArray, List.set_cons_zero, List.set_cons_succ]
  refine wpAnyH_done (by kernel_rfl) ?_ _
  rw [← hB] at ho2 ⊢
  have HO := Kp.mk ho2
  have hB0 : W0.heap.size ≤ B := by rw [hB]; exact hx1.size
  have hB2 : B ≤ w2.heap.size := by rw [hB]; exact hx2.size
  have HX := Kp.mk (hx1.trans hx2)
  have HW := Kp.mk hxw
  have HG := Kp.mk hW0
  have hBw : w.heap.size ≤ B := Nat.le_trans hxw.size hB0
  have q1 : t.y % 100 < 100 := Nat.mod_lt _ (by decide)
  have q2 : t.mo < 100 := by have := HT.out.m2; omega
  have q3 : t.d < 100 := by have := HT.out.d2; have := dim_hi t.y t.mo; omega
  have q4 : t.h < 100 := by have := HT.out.h2; omega
  have q5 : t.mi < 100 := by have := HT.out.i2; omega
  have q6 : t.s < 100 := by have := HT.out.s2; omega
  have q7 : t.y / 100 < 100 := by have := HT.out.y2; omega
  have hidx := Kp.mk (fun W => idx6 y1 mo d h mi s W)
  clear hx2d hmk hx1 hx2 ho2 hxw hW0 hB hw2
  by_cases hy : 1950 ≤ t.y ∧ t.y ≤ 2049
  · obtain ⟨c0, k1, k2, k3, k4, k5⟩ := box6 HB.out HX.out
    have b1 : decide (y < 1950) = false := decide_eq_false (by have := p0.out; omega)
    have b2 : decide (2049 < y) = false := decide_eq_false (by have := p0.out; omega)
    go_wp2_with fail
    go_loopw [6, 41] (fun v i wr => ∃ j N : Nat, ∃ A3 c3, j ≤ 6 ∧ N = 0 + 2 * j ∧ i = .int .i64 (j : Int) ∧ v = .slice A3 N c3 ∧ Own wr B (.slice A3 N c3) N (([] : List (BitVec 8)) ++ ([t.y % 100, t.mo, t.d, t.h, t.mi, t.s].take j).flatMap d2) ∧ Ext W0 wr ∧ B ≤ wr.heap.size) (fun _ i _ => 6 - (intOf i).toNat)
    case atStart => exact ⟨0, 0, _, _, by omega, rfl, rfl, rfl, HO.out, HX.out, hB2⟩
    case round =>
      obtain ⟨j, N, A3, c3, hj, hN, rfl, rfl, ho, hx, hsz⟩ := hrel
      have HN := Kp.mk hN
      have hN3 : N ≤ 1000 := by omega
      have HO3 := Kp.mk ho
      have HX3 := Kp.mk hx
      clear ho hx hN
      rcases (by omega : j = 0 ∨ j = 1 ∨ j = 2 ∨ j = 3 ∨ j = 4 ∨ j = 5 ∨ j = 6) with rfl | rfl | rfl | rfl | rfl | rfl | rfl
      · have hi := fun W => hidx.out W 0 y1 (by omega)
        go_wp2_with fail
        have hwp := withPair_any (w0 := W0) HO3.out HX3.out hB0 hsz (by omega) _ q1
        rw [← p1.out] at hwp
        refine hwp.mono ?_
        rintro e w4 ⟨A4, c4, rfl, ho4, hx4, hz4⟩
        have HO4 := Kp.mk ho4
        have HX4 := Kp.mk hx4
        clear ho4 hx4
        go_wp2_with fail
        go_roundw
        case rel => exact ⟨1, N + 2, A4, c4, by omega, by have := HN.out; omega, by go_num, rfl, by simpa using HO4.out, HX4.out, Nat.le_trans hsz hz4⟩
        case measure => simp [intOf]
      · have hi := fun W => hidx.out W 1 mo (by omega)
        go_wp2_with fail
        have hwp := withPair_any (w0 := W0) HO3.out HX3.out hB0 hsz (by omega) _ q2
        rw [← p2.out] at hwp
        refine hwp.mono ?_
        rintro e w4 ⟨A4, c4, rfl, ho4, hx4, hz4⟩
        have HO4 := Kp.mk ho4
        have HX4 := Kp.mk hx4
        clear ho4 hx4
        go_wp2_with fail
        go_roundw
        case rel => exact ⟨2, N + 2, A4, c4, by omega, by have := HN.out; omega, by go_num, rfl, by simpa using HO4.out, HX4.out, Nat.le_trans hsz hz4⟩
        case measure => simp [intOf]
      · have hi := fun W => hidx.out W 2 d (by omega)
        go_wp2_with fail
        have hwp := withPair_any (w0 := W0) HO3.out HX3.out hB0 hsz (by omega) _ q3
        rw [← p3.out] at hwp
        refine hwp.mono ?_
        rintro e w4 ⟨A4, c4, rfl, ho4, hx4, hz4⟩
        have HO4 := Kp.mk ho4
        have HX4 := Kp.mk hx4
        clear ho4 hx4
        go_wp2_with fail
        go_roundw
        case rel => exact ⟨3, N + 2, A4, c4, by omega, by have := HN.out; omega, by go_num, rfl, by simpa using HO4.out, HX4.out, Nat.le_trans hsz hz4⟩
        case measure => simp [intOf]
      · have hi := fun W => hidx.out W 3 h (by omega)
        go_wp2_with fail
        have hwp := withPair_any (w0 := W0) HO3.out HX3.out hB0 hsz (by omega) _ q4
        rw [← p4.out] at hwp
        refine hwp.mono ?_
        rintro e w4 ⟨A4, c4, rfl, ho4, hx4, hz4⟩
        have HO4 := Kp.mk ho4
        have HX4 := Kp.mk hx4
        clear ho4 hx4
        go_wp2_with fail
        go_roundw
        case rel => exact ⟨4, N + 2, A4, c4, by omega, by have := HN.out; omega, by go_num, rfl, by simpa using HO4.out, HX4.out, Nat.le_trans hsz hz4⟩
        case measure => simp [intOf]
      · have hi := fun W => hidx.out W 4 mi (by omega)
        go_wp2_with fail
        have hwp := withPair_any (w0 := W0) HO3.out HX3.out hB0 hsz (by omega) _ q5
        rw [← p5.out] at hwp
        refine hwp.mono ?_
        rintro e w4 ⟨A4, c4, rfl, ho4, hx4, hz4⟩
        have HO4 := Kp.mk ho4
        have HX4 := Kp.mk hx4
        clear ho4 hx4
        go_wp2_with fail
        go_roundw
        case rel => exact ⟨5, N + 2, A4, c4, by omega, by have := HN.out; omega, by go_num, rfl, by simpa using HO4.out, HX4.out, Nat.le_trans hsz hz4⟩
        case measure => simp [intOf]
      · have hi := fun W => hidx.out W 5 s (by omega)
        go_wp2_with fail
        have hwp := withPair_any (w0 := W0) HO3.out HX3.out hB0 hsz (by omega) _ q6
        rw [← p6.out] at hwp
        refine hwp.mono ?_
        rintro e w4 ⟨A4, c4, rfl, ho4, hx4, hz4⟩
        have HO4 := Kp.mk ho4
        have HX4 := Kp.mk hx4
        clear ho4 hx4
        go_wp2_with fail
        go_roundw
        case rel => exact ⟨6, N + 2, A4, c4, by omega, by have := HN.out; omega, by go_num, rfl, by simpa using HO4.out, HX4.out, Nat.le_trans hsz hz4⟩
        case measure => simp [intOf]
      · go_wp2_with (first | (at_builtin; refine wpList_append_bs rfl (.tmp 49) (.tmp 50) rfl B _ N _ rfl (HO3.out.ext (by (repeat (first | assumption | exact Ext.refl _ | apply Ext.drew | apply Ext.drewN | apply Ext.alloc | refine Ext.trans ?_ (by assumption))); first | done | fail)) _ 1 1 [90] rfl (const_bs wr _ [90] 1 1 (0, 0) rfl rfl (by decide)) (by omega) (N + 1) rfl _ rfl W0 (HX3.out.trans (by (repeat (first | assumption | exact Ext.refl _ | apply Ext.drew | apply Ext.drewN | apply Ext.alloc | refine Ext.trans ?_ (by assumption))); first | done | fail)) hB0 (Nat.le_trans hsz (by simp)) ?_; intro A5 c5 w5 ho5 hx5 hap5) | fail)
        go_ret3
        have eB : tmB t = ([] : List (BitVec 8)) ++ ([t.y % 100, t.mo, t.d, t.h, t.mi, t.s].take 6).flatMap d2 ++ [90] := by unfold tmB; rw [if_pos hy]; rfl
        have eM : ub (tmM t) = 23 := by unfold tmM; rw [if_pos hy]; rfl
        obtain rfl : N = 12 := HN.out
        rw [eM, eB]
        exact ⟨A5, c5, rfl, ho5.lower hBw, HW.out.trans hx5⟩
  · by_cases hy2 : t.y < 1950
    · have b1 : decide (y < 1950) = true := decide_eq_true (by have := p0.out; omega)
      obtain ⟨c0, k1, k2, k3, k4, k5⟩ := box6 HB.out HX.out
      go_wp2_with fail
      have hwp := withPair_any (w0 := W0) HO.out HX.out hB0 hB2 (by decide) _ q7
      rw [← p7.out] at hwp
      refine hwp.mono ?_
      rintro e w3 ⟨A3, c3, rfl, ho3, hx3, hz3⟩
      have HO2 := Kp.mk ho3
      have HX2 := Kp.mk hx3
      have hB3 : B ≤ w3.heap.size := Nat.le_trans hB2 hz3
      clear ho3 c0 k1 k2 k3 k4 k5
      obtain ⟨c0, k1, k2, k3, k4, k5⟩ := box6 HB.out HX2.out
      clear hx3
      go_wp2_with fail
      go_loopw [6, 41] (fun v i wr => ∃ j N : Nat, ∃ A3 c3, j ≤ 6 ∧ N = 2 + 2 * j ∧ i = .int .i64 (j : Int) ∧ v = .slice A3 N c3 ∧ Own wr B (.slice A3 N c3) N (d2 (t.y / 100) ++ ([t.y % 100, t.mo, t.d, t.h, t.mi, t.s].take j).flatMap d2) ∧ Ext W0 wr ∧ B ≤ wr.heap.size) (fun _ i _ => 6 - (intOf i).toNat)
      case atStart => exact ⟨0, 2, _, _, by omega, rfl, rfl, rfl, by simpa using HO2.out, HX2.out, hB3⟩
      case round =>
        obtain ⟨j, N, A3, c3, hj, hN, rfl, rfl, ho, hx, hsz⟩ := hrel
        have HN := Kp.mk hN
        have hN3 : N ≤ 1000 := by omega
        have HO3 := Kp.mk ho
        have HX3 := Kp.mk hx
        clear ho hx hN
        rcases (by omega : j = 0 ∨ j = 1 ∨ j = 2 ∨ j = 3 ∨ j = 4 ∨ j = 5 ∨ j = 6) with rfl | rfl | rfl | rfl | rfl | rfl | rfl
        · have hi := fun W => hidx.out W 0 y1 (by omega)
          go_wp2_with fail
          have hwp := withPair_any (w0 := W0) HO3.out HX3.out hB0 hsz (by omega) _ q1
          rw [← p1.out] at hwp
          refine hwp.mono ?_
          rintro e w4 ⟨A4, c4, rfl, ho4, hx4, hz4⟩
          have HO4 := Kp.mk ho4
          have HX4 := Kp.mk hx4
          clear ho4 hx4
          go_wp2_with fail
          go_roundw
          case rel => exact ⟨1, N + 2, A4, c4, by omega, by have := HN.out; omega, by go_num, rfl, by simpa using HO4.out, HX4.out, Nat.le_trans hsz hz4⟩
          case measure => simp [intOf]
        · have hi := fun W => hidx.out W 1 mo (by omega)
          go_wp2_with fail
          have hwp := withPair_any (w0 := W0) HO3.out HX3.out hB0 hsz (by omega) _ q2
          rw [← p2.out] at hwp
          refine hwp.mono ?_
          rintro e w4 ⟨A4, c4, rfl, ho4, hx4, hz4⟩
          have HO4 := Kp.mk ho4
          have HX4 := Kp.mk hx4
          clear ho4 hx4
          go_wp2_with fail
          go_roundw
          case rel => exact ⟨2, N + 2, A4, c4, by omega, by have := HN.out; omega, by go_num, rfl, by simpa using HO4.out, HX4.out, Nat.le_trans hsz hz4⟩
          case measure => simp [intOf]
        · have hi := fun W => hidx.out W 2 d (by omega)
          go_wp2_with fail
          have hwp := withPair_any (w0 := W0) HO3.out HX3.out hB0 hsz (by omega) _ q3
          rw [← p3.out] at hwp
          refine hwp.mono ?_
          rintro e w4 ⟨A4, c4, rfl, ho4, hx4, hz4⟩
          have HO4 := Kp.mk ho4
          have HX4 := Kp.mk hx4
          clear ho4 hx4
          go_wp2_with fail
          go_roundw
          case rel => exact ⟨3, N + 2, A4, c4, by omega, by have := HN.out; omega, by go_num, rfl, by simpa using HO4.out, HX4.out, Nat.le_trans hsz hz4⟩
          case measure => simp [intOf]
        · have hi := fun W => hidx.out W 3 h (by omega)
          go_wp2_with fail
          have hwp := withPair_any (w0 := W0) HO3.out HX3.out hB0 hsz (by omega) _ q4
          rw [← p4.out] at hwp
          refine hwp.mono ?_
          rintro e w4 ⟨A4, c4, rfl, ho4, hx4, hz4⟩
          have HO4 := Kp.mk ho4
          have HX4 := Kp.mk hx4
          clear ho4 hx4
          go_wp2_with fail
          go_roundw
          case rel => exact ⟨4, N + 2, A4, c4, by omega, by have := HN.out; omega, by go_num, rfl, by simpa using HO4.out, HX4.out, Nat.le_trans hsz hz4⟩
          case measure => simp [intOf]
        · have hi := fun W => hidx.out W 4 mi (by omega)
          go_wp2_with fail
          have hwp := withPair_any (w0 := W0) HO3.out HX3.out hB0 hsz (by omega) _ q5
          rw [← p5.out] at hwp
          refine hwp.mono ?_
          rintro e w4 ⟨A4, c4, rfl, ho4, hx4, hz4⟩
          have HO4 := Kp.mk ho4
          have HX4 := Kp.mk hx4
          clear ho4 hx4
          go_wp2_with fail
          go_roundw
          case rel => exact ⟨5, N + 2, A4, c4, by omega, by have := HN.out; omega, by go_num, rfl, by simpa using HO4.out, HX4.out, Nat.le_trans hsz hz4⟩
          case measure => simp [intOf]
        · have hi := fun W => hidx.out W 5 s (by omega)
          go_wp2_with fail
          have hwp := withPair_any (w0 := W0) HO3.out HX3.out hB0 hsz (by omega) _ q6
          rw [← p6.out] at hwp
          refine hwp.mono ?_
          rintro e w4 ⟨A4, c4, rfl, ho4, hx4, hz4⟩
          have HO4 := Kp.mk ho4
          have HX4 := Kp.mk hx4
          clear ho4 hx4
          go_wp2_with fail
          go_roundw
          case rel => exact ⟨6, N + 2, A4, c4, by omega, by have := HN.out; omega, by go_num, rfl, by simpa using HO4.out, HX4.out, Nat.le_trans hsz hz4⟩
          case measure => simp [intOf]
        · go_wp2_with (first | (at_builtin; refine wpList_append_bs rfl (.tmp 49) (.tmp 50) rfl B _ N _ rfl (HO3.out.ext (by (repeat (first | assumption | exact Ext.refl _ | apply Ext.drew | apply Ext.drewN | apply Ext.alloc | refine Ext.trans ?_ (by assumption))); first | done | fail)) _ 1 1 [90] rfl (const_bs wr _ [90] 1 1 (0, 0) rfl rfl (by decide)) (by omega) (N + 1) rfl _ rfl W0 (HX3.out.trans (by (repeat (first | assumption | exact Ext.refl _ | apply Ext.drew | apply Ext.drewN | apply Ext.alloc | refine Ext.trans ?_ (by assumption))); first | done | fail)) hB0 (Nat.le_trans hsz (by simp)) ?_; intro A5 c5 w5 ho5 hx5 hap5) | fail)
          go_ret3
          have eB : tmB t = d2 (t.y / 100) ++ ([t.y % 100, t.mo, t.d, t.h, t.mi, t.s].take 6).flatMap d2 ++ [90] := by unfold tmB; rw [if_neg hy]; rfl
          have eM : ub (tmM t) = 24 := by unfold tmM; rw [if_neg hy]; rfl
          obtain rfl : N = 14 := HN.out
          rw [eM, eB]
          exact ⟨A5, c5, rfl, ho5.lower hBw, HW.out.trans hx5⟩
    · have b1 : decide (y < 1950) = false := decide_eq_false (by have := p0.out; omega)
      have b2 : decide (2049 < y) = true := decide_eq_true (by have := p0.out; omega)
      obtain ⟨c0, k1, k2, k3, k4, k5⟩ := box6 HB.out HX.out
      go_wp2_with fail
      have hwp := withPair_any (w0 := W0) HO.out HX.out hB0 hB2 (by decide) _ q7
      rw [← p7.out] at hwp
      refine hwp.mono ?_
      rintro e w3 ⟨A3, c3, rfl, ho3, hx3, hz3⟩
      have HO2 := Kp.mk ho3
      have HX2 := Kp.mk hx3
      have hB3 : B ≤ w3.heap.size := Nat.le_trans hB2 hz3
      clear ho3 c0 k1 k2 k3 k4 k5
      obtain ⟨c0, k1, k2, k3, k4, k5⟩ := box6 HB.out HX2.out
      clear hx3
      go_wp2_with fail
      go_loopw [6, 41] (fun v i wr => ∃ j N : Nat, ∃ A3 c3, j ≤ 6 ∧ N = 2 + 2 * j ∧ i = .int .i64 (j : Int) ∧ v = .slice A3 N c3 ∧ Own wr B (.slice A3 N c3) N (d2 (t.y / 100) ++ ([t.y % 100, t.mo, t.d, t.h, t.mi, t.s].take j).flatMap d2) ∧ Ext W0 wr ∧ B ≤ wr.heap.size) (fun _ i _ => 6 - (intOf i).toNat)
      case atStart => exact ⟨0, 2, _, _, by omega, rfl, rfl, rfl, by simpa using HO2.out, HX2.out, hB3⟩
      case round =>
        obtain ⟨j, N, A3, c3, hj, hN, rfl, rfl, ho, hx, hsz⟩ := hrel
        have HN := Kp.mk hN
        have hN3 : N ≤ 1000 := by omega
        have HO3 := Kp.mk ho
        have HX3 := Kp.mk hx
        clear ho hx hN
        rcases (by omega : j = 0 ∨ j = 1 ∨ j = 2 ∨ j = 3 ∨ j = 4 ∨ j = 5 ∨ j = 6) with rfl | rfl | rfl | rfl | rfl | rfl | rfl
        · have hi := fun W => hidx.out W 0 y1 (by omega)
          go_wp2_with fail
          have hwp := withPair_any (w0 := W0) HO3.out HX3.out hB0 hsz (by omega) _ q1
          rw [← p1.out] at hwp
          refine hwp.mono ?_
          rintro e w4 ⟨A4, c4, rfl, ho4, hx4, hz4⟩
          have HO4 := Kp.mk ho4
          have HX4 := Kp.mk hx4
          clear ho4 hx4
          go_wp2_with fail
          go_roundw
          case rel => exact ⟨1, N + 2, A4, c4, by omega, by have := HN.out; omega, by go_num, rfl, by simpa using HO4.out, HX4.out, Nat.le_trans hsz hz4⟩
          case measure => simp [intOf]
        · have hi := fun W => hidx.out W 1 mo (by omega)
          go_wp2_with fail
          have hwp := withPair_any (w0 := W0) HO3.out HX3.out hB0 hsz (by omega) _ q2
          rw [← p2.out] at hwp
          refine hwp.mono ?_
          rintro e w4 ⟨A4, c4, rfl, ho4, hx4, hz4⟩
          have HO4 := Kp.mk ho4
          have HX4 := Kp.mk hx4
          clear ho4 hx4
          go_wp2_with fail
          go_roundw
          case rel => exact ⟨2, N + 2, A4, c4, by omega, by have := HN.out; omega, by go_num, rfl, by simpa using HO4.out, HX4.out, Nat.le_trans hsz hz4⟩
          case measure => simp [intOf]
        · have hi := fun W => hidx.out W 2 d (by omega)
          go_wp2_with fail
          have hwp := withPair_any (w0 := W0) HO3.out HX3.out hB0 hsz (by omega) _ q3
          rw [← p3.out] at hwp
          refine hwp.mono ?_
          rintro e w4 ⟨A4, c4, rfl, ho4, hx4, hz4⟩
          have HO4 := Kp.mk ho4
          have HX4 := Kp.mk hx4
          clear ho4 hx4
          go_wp2_with fail
          go_roundw
          case rel => exact ⟨3, N + 2, A4, c4, by omega, by have := HN.out; omega, by go_num, rfl, by simpa using HO4.out, HX4.out, Nat.le_trans hsz hz4⟩
          case measure => simp [intOf]
        · have hi := fun W => hidx.out W 3 h (by omega)
          go_wp2_with fail
          have hwp := withPair_any (w0 := W0) HO3.out HX3.out hB0 hsz (by omega) _ q4
          rw [← p4.out] at hwp
          refine hwp.mono ?_
          rintro e w4 ⟨A4, c4, rfl, ho4, hx4, hz4⟩
          have HO4 := Kp.mk ho4
          have HX4 := Kp.mk hx4
          clear ho4 hx4
          go_wp2_with fail
          go_roundw
          case rel => exact ⟨4, N + 2, A4, c4, by omega, by have := HN.out; omega, by go_num, rfl, by simpa using HO4.out, HX4.out, Nat.le_trans hsz hz4⟩
          case measure => simp [intOf]
        · have hi := fun W => hidx.out W 4 mi (by omega)
          go_wp2_with fail
          have hwp := withPair_any (w0 := W0) HO3.out HX3.out hB0 hsz (by omega) _ q5
          rw [← p5.out] at hwp
          refine hwp.mono ?_
          rintro e w4 ⟨A4, c4, rfl, ho4, hx4, hz4⟩
          have HO4 := Kp.mk ho4
          have HX4 := Kp.mk hx4
          clear ho4 hx4
          go_wp2_with fail
          go_roundw
          case rel => exact ⟨5, N + 2, A4, c4, by omega, by have := HN.out; omega, by go_num, rfl, by simpa using HO4.out, HX4.out, Nat.le_trans hsz hz4⟩
          case measure => simp [intOf]
        · have hi := fun W => hidx.out W 5 s (by omega)
          go_wp2_with fail
          have hwp := withPair_any (w0 := W0) HO3.out HX3.out hB0 hsz (by omega) _ q6
          rw [← p6.out] at hwp
          refine hwp.mono ?_
          rintro e w4 ⟨A4, c4, rfl, ho4, hx4, hz4⟩
          have HO4 := Kp.mk ho4
          have HX4 := Kp.mk hx4
          clear ho4 hx4
          go_wp2_with fail
          go_roundw
          case rel => exact ⟨6, N + 2, A4, c4, by omega, by have := HN.out; omega, by go_num, rfl, by simpa using HO4.out, HX4.out, Nat.le_trans hsz hz4⟩
          case measure => simp [intOf]
        · go_wp2_with (first | (at_builtin; refine wpList_append_bs rfl (.tmp 49) (.tmp 50) rfl B _ N _ rfl (HO3.out.ext (by (repeat (first | assumption | exact Ext.refl _ | apply Ext.drew | apply Ext.drewN | apply Ext.alloc | refine Ext.trans ?_ (by assumption))); first | done | fail)) _ 1 1 [90] rfl (const_bs wr _ [90] 1 1 (0, 0) rfl rfl (by decide)) (by omega) (N + 1) rfl _ rfl W0 (HX3.out.trans (by (repeat (first | assumption | exact Ext.refl _ | apply Ext.drew | apply Ext.drewN | apply Ext.alloc | refine Ext.trans ?_ (by assumption))); first | done | fail)) hB0 (Nat.le_trans hsz (by simp)) ?_; intro A5 c5 w5 ho5 hx5 hap5) | fail)
          go_ret3
          have eB : tmB t = d2 (t.y / 100) ++ ([t.y % 100, t.mo, t.d, t.h, t.mi, t.s].take 6).flatMap d2 ++ [90] := by unfold tmB; rw [if_neg hy]; rfl
          have eM : ub (tmM t) = 24 := by unfold tmM; rw [if_neg hy]; rfl
          obtain rfl : N = 14 := HN.out
          rw [eM, eB]
          exact ⟨A5, c5, rfl, ho5.lower hBw, HW.out.trans hx5⟩
theorem Time_ok (t : Tmt) (ht : MayT t) (w : World) : Calls Tryz.prog 141 #[.agg (tcs t)] w fun e w' => ∃ A c, e = .returned (.tuple #[.int .u8 (ub (tmM t)), .slice A (tmB t).length c, .nilIface]) ∧ Own w' w.heap.size (.slice A (tmB t).length c) (tmB t).length (tmB t) ∧ Ext w w' :=
  Time_ok0 t ht _ _ _ _ _ _ _ _ rfl rfl rfl rfl rfl rfl rfl rfl w
end Go.Proofs.YtkdjhklnlnfhfaaGreatDoor
namespace Go.Proofs.YtkdjhklnlnfhfaaGreatDoor
open Go Go.RowKit
set_option maxRecDepth 4000

theorem mdN_hi (y m : Nat) : mdN y m ≤ 31 * m := by
  induction m with
  | zero => exact Nat.le_refl _
  | succ m ih => rw [mdN]; have := dim_hi y (m + 1); omega
theorem box6' {w w' : World} {g t : Nat} {a b c d e f : Value} (h : Blk w g t #[a, b, c, d, e, f]) (hx : Ext w w') : w'.cell? ⟨g, 0, none⟩ = some a ∧ w'.cell? ⟨g, 1, none⟩ = some b ∧ w'.cell? ⟨g, 2, none⟩ = some c ∧ w'.cell? ⟨g, 3, none⟩ = some d ∧ w'.cell? ⟨g, 4, none⟩ = some e ∧ w'.cell? ⟨g, 5, none⟩ = some f := ⟨(h.ext hx).h.cell 0, (h.ext hx).h.cell 1, (h.ext hx).h.cell 2, (h.ext hx).h.cell 3, (h.ext hx).h.cell 4, (h.ext hx).h.cell 5⟩
set_option maxHeartbeats 2000000 in
theorem Count_no (y mo d h mi s : Int) (w : World) (hM : ¬ MayI y mo d h mi s) : Calls Tryz.prog 133 #[.agg (tci y mo d h mi s)] w fun e w' => e = .returned (.tuple #[.int .i64 0, err 1]) ∧ Ext w w' := by
  have hC := fun W => isTime_any y mo d h mi s W false (by simp [hM])
  unfold tci at *
  clear hM
  go_enter Tryz.func133, Tryz.ntmps133
  go_wp2_with fail
  refine (hC _).mono ?_
  rintro e w1 ⟨rfl, hx1⟩
  have HX := Kp.mk (show Ext w w1 from (by (repeat (first | assumption | exact Ext.refl _ | apply Ext.drew | apply Ext.drewN | apply Ext.alloc | refine Ext.trans ?_ (by assumption))); first | done | fail))
  clear hx1
  go_wp2_with fail
  go_ret2
  exact ⟨rfl, HX.out⟩
set_option maxHeartbeats 4000000 in
theorem Count_ok (t : Tmt) (ht : MayT t) (w : World) : Calls Tryz.prog 133 #[.agg (tcs t)] w fun e w' => e = .returned (.tuple #[.int .i64 (cntT t : Int), .nilIface]) ∧ Ext w w' := by
  have hC := fun W => isTime_any t.y t.mo t.d t.h t.mi t.s W true (by simp; exact ⟨t, ht, rfl, rfl, rfl, rfl, rfl, rfl⟩)
  have hA := fun W => daysAhead_any (t.y - 1) (by have := ht.y2; omega) W
  rw [show t.y - 1 + 1 = t.y by have := ht.y1; omega] at hA
  have hD := Kp.mk (fun m hm W => daysOf_any t.y m hm W)
  have q1 := ht.y1
  have q2 := ht.y2
  have q3 := ht.m1
  have q4 := ht.m2
  have q5 := ht.d1
  have q6 := ht.d2
  have q7 := ht.h2
  have q8 := ht.i2
  have q9 := ht.s2
  have q0 := dim_hi t.y t.mo
  have hyd : ydN (t.y - 1) ≤ 3652059 := by
    have h1 := ydN_mono (show t.y - 1 ≤ 9999 by omega)
    have := ydN_eq 9999
    omega
  have hm12 := mdN_hi t.y (t.mo - 1)
  have hcnt : (ydN (t.y - 1) + t.d - 1 + mdN t.y (t.mo - 1)) * 86400 + ((t.h * 60 + t.mi) * 60 + t.s) = cntT t := by
    unfold cntT dayT
    have : ydN (t.y - 1) + t.d - 1 + mdN t.y (t.mo - 1) = ydN (t.y - 1) + mdN t.y (t.mo - 1) + (t.d - 1) := by omega
    rw [this]
    omega
  have hmd := fun m => dim_hi t.y m
  have hms : ∀ m, mdN t.y (m + 1) = mdN t.y m + dimM t.y (m + 1) := fun m => rfl
  have hm0 : mdN t.y 0 = 0 := rfl
  have hmh := fun m => mdN_hi t.y m
  have hDd := fun m => daysOf_any t.y m
  clear ht
  unfold tcs
  obtain ⟨y, mo, d, h, mi, s⟩ := t
  simp only at *
  generalize cntT _ = C at *
  generalize ydN (y - 1) = Y0 at *
  generalize mdN y = F at *
  generalize dimM y = G at *
  unfold tci at *
  have e1 : IntKind.i64.wrap ((Y0 : Int) + (d : Int)) = ((Y0 + d : Nat) : Int) := by rw [IntKind.wrap_i64]; omega
  have e2 : IntKind.i64.wrap (((Y0 + d : Nat) : Int) - 1) = ((Y0 + d - 1 : Nat) : Int) := by rw [IntKind.wrap_i64]; omega
  have e3 : IntKind.i64.wrap ((h : Int) * 60) = ((h * 60 : Nat) : Int) := by rw [IntKind.wrap_i64]; omega
  have e4 : IntKind.i64.wrap (((h * 60 : Nat) : Int) + (mi : Int)) = ((h * 60 + mi : Nat) : Int) := by rw [IntKind.wrap_i64]; omega
  have e5 : IntKind.i64.wrap (((h * 60 + mi : Nat) : Int) * 60) = (((h * 60 + mi) * 60 : Nat) : Int) := by rw [IntKind.wrap_i64]; omega
  have e6 : IntKind.i64.wrap ((((h * 60 + mi) * 60 : Nat) : Int) + (s : Int)) = (((h * 60 + mi) * 60 + s : Nat) : Int) := by rw [IntKind.wrap_i64]; omega
  have e7 : IntKind.i64.wrap (((Y0 + d - 1 + F (mo - 1) : Nat) : Int) * 86400) = (((Y0 + d - 1 + F (mo - 1)) * 86400 : Nat) : Int) := by rw [IntKind.wrap_i64]; omega
  have e8 : IntKind.i64.wrap ((((Y0 + d - 1 + F (mo - 1)) * 86400 : Nat) : Int) + (((h * 60 + mi) * 60 + s : Nat) : Int)) = (C : Int) := by rw [IntKind.wrap_i64]; omega
  generalize (Y0 + d - 1 + F (mo - 1)) * 86400 = z7 at *
  generalize (h * 60 + mi) * 60 + s = z6 at *
  generalize (h * 60 + mi) * 60 = z5 at *
  generalize h * 60 + mi = z4 at *
  generalize h * 60 = z3 at *
  have hz0 : Y0 + d - 1 ≤ 3652100 := by omega
  generalize hz1 : Y0 + d - 1 = z1 at *
  generalize hz2 : Y0 + d = z2 at *
  have HB := Kp.mk (Blk.new w tmt #[.int .i64 (y : Int), .int .i64 (mo : Int), .int .i64 (d : Int), .int .i64 (h : Int), .int .i64 (mi : Int), .int .i64 (s : Int)])
  have HF := Kp.mk (And.intro hm0 (And.intro hms (And.intro hmd hmh)))
  have HQ := Kp.mk (And.intro q3 q4)
  have HE := Kp.mk hDd
  clear hms hmd hmh hDd hm0 q1 q2 q3 q4 q5 q6 q7 q8 q9 q0 hyd hm12 hcnt hz1 hz2
  go_enter Tryz.func133, Tryz.ntmps133
  go_wp2_with fail
  refine (hC _).mono ?_
  rintro e w1 ⟨rfl, hx1⟩
  obtain ⟨W0, hW0⟩ : ∃ W0, W0 = w.alloc (.cells #[.int .i64 (y : Int), .int .i64 (mo : Int), .int .i64 (d : Int), .int .i64 (h : Int), .int .i64 (mi : Int), .int .i64 (s : Int)] tmt) := ⟨_, rfl⟩
  have hxw : Ext w W0 := by rw [hW0]; exact (by (repeat (first | assumption | exact Ext.refl _ | apply Ext.drew | apply Ext.drewN | apply Ext.alloc | refine Ext.trans ?_ (by assumption))); first | done | fail)
  rw [← hW0] at hx1 HB
  clear hC hW0
  obtain ⟨c0, k1, k2, k3, k4, k5⟩ := box6' HB.out hx1
  have HX := Kp.mk hx1
  have HW := Kp.mk hxw
  clear hx1 hxw
  go_wp2_with fail
  go_quiet (first | (go_at_call 181; exact Calls.quiet_of_same (hA _)) | fail)
  go_wp2_with fail
  have HX2 := Kp.mk (show Ext W0 (w1.drewN nq) from HX.out.trans (by (repeat (first | assumption | exact Ext.refl _ | apply Ext.drew | apply Ext.drewN | apply Ext.alloc | refine Ext.trans ?_ (by assumption))); first | done | fail))
  clear c0 k1 k2 k3 k4 k5 e1 e2 hA
  go_loopw [4, 5] (fun v i wr => ∃ m D : Nat, 1 ≤ m ∧ m ≤ mo ∧ D = z1 + F (m - 1) ∧ i = .int .i64 (m : Int) ∧ v = .int .i64 (D : Int) ∧ Ext W0 wr) (fun _ i _ => mo - (intOf i).toNat)
  case atStart => exact ⟨1, z1, by omega, HQ.out.1, by rw [show 1 - 1 = 0 from rfl, HF.out.1]; rfl, rfl, rfl, HX2.out⟩
  case round =>
    obtain ⟨m, D, hm1, hm, hDm, rfl, rfl, hx⟩ := hrel
    obtain ⟨c0, k1, k2, k3, k4, k5⟩ := box6' HB.out hx
    have HX3 := Kp.mk hx
    by_cases hlt : m < mo
    · have b1 : (m : Int) < (mo : Int) := by omega
      have hC := HE.out m ⟨hm1, by have := HQ.out.2; omega⟩
      have f1 := HF.out.2.1 (m - 1)
      rw [show m - 1 + 1 = m by omega] at f1
      have f2 := HF.out.2.2.1 m
      have f3 := HF.out.2.2.2 (m - 1)
      have s1 : IntKind.i64.wrap ((D : Int) + (G m : Int)) = ((D + G m : Nat) : Int) := by have := HQ.out.2; rw [IntKind.wrap_i64]; omega
      have s2 : IntKind.i64.wrap ((m : Int) + 1) = (m : Int) + 1 := by have := HQ.out.2; rw [IntKind.wrap_i64]; omega
      have HR := Kp.mk (show D + G m = z1 + F (m + 1 - 1) by rw [Nat.add_sub_cancel, f1, hDm]; omega)
      generalize D + G m = D2 at *
      generalize G m = gm at *
      clear f1 f2 f3 hx hDm
      go_wp2_with (go_at_call 182; refine (hC _).mono ?_; rintro e w3 ⟨rfl, hw⟩; obtain rfl : wr = w3 := hw.symm)
      go_roundw
      case rel => exact ⟨m + 1, D2, by omega, by omega, HR.out, by go_num, rfl, HX3.out.trans (by (repeat (first | assumption | exact Ext.refl _ | apply Ext.drew | apply Ext.drewN | apply Ext.alloc | refine Ext.trans ?_ (by assumption))); first | done | fail)⟩
      case measure => simp [intOf]; omega
    · obtain rfl : m = mo := by omega
      have b1 : ¬ (m : Int) < (m : Int) := by omega
      rw [← hDm] at e7
      clear hx hDm
      go_wp2_with fail
      go_ret2
      exact ⟨rfl, HW.out.trans (HX3.out.trans (by (repeat (first | assumption | exact Ext.refl _ | apply Ext.drew | apply Ext.drewN | apply Ext.alloc | refine Ext.trans ?_ (by assumption))); first | done | fail))⟩
end Go.Proofs.YtkdjhklnlnfhfaaGreatDoor
namespace Go.Proofs.YtkdjhklnlnfhfaaGreatDoor
open Go Go.RowKit
set_option maxRecDepth 4000

theorem lit_us (w : World) (l : List Nat) (cs : Array Value) (hcs : cs = (l.map vL).toArray) (n : Nat) (hn : l.length = n) (hm : n ≤ maxLen) : Rd vL (w.alloc (.cells cs u32t)) (some ⟨w.heap.size, 0, none⟩) n n l := by
  subst hcs
  exact (Rw.has (T := u32t) (e := vL) (B := 0) (Has.new w u32t _ _ rfl) hn (Nat.zero_le _) hm).rd
theorem up_oid : oidB [1, 2, 840, 113549] = [42, 134, 72, 134, 247, 13] := by
  have h0 : g7hi 0 = [] := g7hi_zero
  have h6 : g7hi 6 = [134] := by rw [g7hi_pos 6 (by decide)]; rw [show 6 / 128 = 0 from rfl, h0]; rfl
  have h887 : g7hi 887 = [134, 247] := by rw [g7hi_pos 887 (by decide)]; rw [show 887 / 128 = 6 from rfl, h6]; rfl
  show g7 42 ++ (g7 840 ++ (g7 113549 ++ [])) = _
  unfold g7
  rw [show 42 / 128 = 0 from rfl, show 840 / 128 = 6 from rfl, show 113549 / 128 = 887 from rfl, h0, h6, h887]
  rfl
theorem up_oidP : OidP [1, 2, 840, 113549] := ⟨1, 2, [840, 113549], rfl, by decide, by decide, by decide, by decide, by decide⟩
theorem up_dg : Dg 4294967296 [1, 2, 840, 113549] := by unfold Dg; decide
def upT : Tmt := ⟨2049, 12, 31, 23, 59, 59⟩
def upU : Tmt := ⟨1, 1, 1, 0, 0, 1⟩
theorem upT_may : MayT upT := ⟨by decide, by decide, by decide, by decide, by decide, by decide, by decide, by decide, by decide⟩
theorem upU_may : MayT upU := ⟨by decide, by decide, by decide, by decide, by decide, by decide, by decide, by decide, by decide⟩
theorem upT_B : tmB upT = [52, 57, 49, 50, 51, 49, 50, 51, 53, 57, 53, 57, 90] := by decide
theorem upT_M : tmM upT = 23 := by decide
theorem upU_C : cntT upU = 1 := by decide
theorem up_int {l : List (BitVec 8)} (h1 : tcB l = true) (h2 : tcV l = -129) : l = [255, 127] := tcV_inj h1 (by decide) (h2.trans (by decide))
end Go.Proofs.YtkdjhklnlnfhfaaGreatDoor
namespace Go.Proofs.YtkdjhklnlnfhfaaGreatDoor
open Go Go.RowKit
set_option maxRecDepth 4000

theorem eqFields_same {P : Program} (w : World) (d : Nat) (xs : Array Value) : ∀ (fs : List Field), (∀ f ∈ fs, ∃ v, (part f.type xs f.offset).run P w = .ok v w ∧ (Op.equalIn d f.type v v).run P w = .ok true w) → (Op.eqFields d xs xs fs).run P w = .ok true w
  | [], _ => by simp [Op.eqFields]
  | f :: fs, h => by
    obtain ⟨v, h1, h2⟩ := h f (by simp)
    have ih := eqFields_same w d xs fs fun g hg => h g (by simp [hg])
    simp only [Op.eqFields, Sem.run_bind, Sem.run_ite]
    split
    · rw [h1]
      simp only [Result.andThen_ok]
      rw [h1]
      simp only [Result.andThen_ok]
      rw [h2]
      simp [ih]
    · simp [ih]
theorem part6 (a b c d e f : Int) (w : World) (k : Nat) (hk : k < 6) : ∃ z : Int, (part 3 (tci a b c d e f) k).run Tryz.prog w = .ok (.int .i64 z) w := by
  have hi : (Tryz.prog.info? 3).map (·.size) = some 1 := by kernel_rfl
  cases hq : Tryz.prog.info? 3 with
  | none => simp [hq] at hi
  | some i =>
    have hs1 : i.size = 1 := by simpa [hq] using hi
    rcases (by omega : k = 0 ∨ k = 1 ∨ k = 2 ∨ k = 3 ∨ k = 4 ∨ k = 5) with rfl | rfl | rfl | rfl | rfl | rfl
    · exact ⟨a, by simp [tci, part, Sem.run_bind, sizeOf, typeInfo, hq, hs1]⟩
    · exact ⟨b, by simp [tci, part, Sem.run_bind, sizeOf, typeInfo, hq, hs1]⟩
    · exact ⟨c, by simp [tci, part, Sem.run_bind, sizeOf, typeInfo, hq, hs1]⟩
    · exact ⟨d, by simp [tci, part, Sem.run_bind, sizeOf, typeInfo, hq, hs1]⟩
    · exact ⟨e, by simp [tci, part, Sem.run_bind, sizeOf, typeInfo, hq, hs1]⟩
    · exact ⟨f, by simp [tci, part, Sem.run_bind, sizeOf, typeInfo, hq, hs1]⟩
theorem eq_time (a b c d e f : Int) (w : World) : (binOp .eql tmt (.agg (tci a b c d e f)) (.agg (tci a b c d e f))).run Tryz.prog w = .ok (.bool true) w := by
  have hall : ((Tryz.prog.fieldsOf tmt).toList.all fun f => f.type == 3 && decide (f.offset < 6)) = true := by kernel_rfl
  rw [run_eql_struct, run_equalIn_agg w 9999 tmt _ _ (by kernel_rfl) (by kernel_rfl), eqFields_same w 9999 _ _ fun g hg => ?_]
  · rfl
  · have := List.all_eq_true.1 hall g hg
    simp only [Bool.and_eq_true, beq_iff_eq, decide_eq_true_eq] at this
    obtain ⟨z, hz⟩ := part6 a b c d e f w g.offset this.2
    refine ⟨_, this.1 ▸ hz, ?_⟩
    rw [this.1, run_equalIn_int w 9998 3 .i64 .i64 z z Tryz.underlying3]
    simp
/-- byte by byte, the first that differs -/
def lexB (a b : List (BitVec 8)) : Bool := Op.bytesLess (a.map UInt8.ofBitVec) (b.map UInt8.ofBitVec)
theorem lexB_str (a b : List (BitVec 8)) : Op.bytesLess (strOf a).toList (strOf b).toList = lexB a b := by
  rw [strOf_toList, strOf_toList]
  rfl
theorem lexB_cons (x y : BitVec 8) (a b : List (BitVec 8)) : lexB (x :: a) (y :: b) = (decide (x.toNat < y.toNat) || (decide (x.toNat = y.toNat) && lexB a b)) := by
  unfold lexB
  simp only [List.map_cons, Op.bytesLess]
  congr 1
  congr 1
  rw [Bool.eq_iff_iff, beq_iff_eq, decide_eq_true_eq]
  constructor
  · intro h
    exact congrArg (fun z => z.toNat) (UInt8.ofBitVec.inj h)
  · intro h
    rw [BitVec.eq_of_toNat_eq h]
theorem d2_lex {a b : Nat} (ha : a < 100) (hb : b < 100) (x y : List (BitVec 8)) : lexB (d2 a ++ x) (d2 b ++ y) = (decide (a < b) || (decide (a = b) && lexB x y)) := by
  show lexB (BitVec.ofNat 8 (48 + a / 10 % 10) :: BitVec.ofNat 8 (48 + a % 10) :: x) (BitVec.ofNat 8 (48 + b / 10 % 10) :: BitVec.ofNat 8 (48 + b % 10) :: y) = _
  rw [lexB_cons, lexB_cons, BitVec.toNat_ofNat, BitVec.toNat_ofNat, BitVec.toNat_ofNat, BitVec.toNat_ofNat]
  generalize lexB x y = L
  rw [Bool.eq_iff_iff]
  cases L <;> simp <;> omega
theorem later_body {t u : Tmt} (ht : MayT t) (hu : MayT u) (h : LtT t u) (hm : tmM t = tmM u) (hc : ¬ (tmM t = 23 ∧ t.y < 2000 ∧ 2000 ≤ u.y)) : lexB (tmB t) (tmB u) = true := by
  have h1 := ht.y2
  have h2 := hu.y2
  have a1 := ht.m2
  have a2 := hu.m2
  have a3 := ht.d2
  have a4 := hu.d2
  have a5 := dim_hi t.y t.mo
  have a6 := dim_hi u.y u.mo
  have a7 := ht.h2
  have a8 := hu.h2
  have a9 := ht.i2
  have b1 := hu.i2
  have b2 := ht.s2
  have b3 := hu.s2
  unfold LtT at h
  unfold tmM at hm hc
  unfold tmB tmR
  have hp : ∀ p q : Prop, ∀ [Decidable p] [Decidable q], (decide p || decide q) = decide (p ∨ q) := fun p q _ _ => by rw [Bool.eq_iff_iff]; simp
  by_cases k1 : 1950 ≤ t.y ∧ t.y ≤ 2049
  · by_cases k2 : 1950 ≤ u.y ∧ u.y ≤ 2049
    · rw [if_pos k1, if_pos k2]
      rw [if_pos k1] at hc
      have hc' : ¬ (t.y < 2000 ∧ 2000 ≤ u.y) := fun e => hc ⟨rfl, e⟩
      rw [d2_lex (by omega) (by omega), d2_lex (by omega) (by omega), d2_lex (by omega) (by omega), d2_lex (by omega) (by omega), d2_lex (by omega) (by omega), d2_lex (by omega) (by omega)]
      simp only [Bool.or_eq_true, Bool.and_eq_true, decide_eq_true_eq]
      omega
    · rw [if_pos k1, if_neg k2] at hm
      exact absurd hm (by decide)
  · by_cases k2 : 1950 ≤ u.y ∧ u.y ≤ 2049
    · rw [if_neg k1, if_pos k2] at hm
      exact absurd hm (by decide)
    · rw [if_neg k1, if_neg k2]
      rw [d2_lex (by omega) (by omega), d2_lex (by omega) (by omega), d2_lex (by omega) (by omega), d2_lex (by omega) (by omega), d2_lex (by omega) (by omega), d2_lex (by omega) (by omega), d2_lex (by omega) (by omega)]
      simp only [Bool.or_eq_true, Bool.and_eq_true, decide_eq_true_eq]
      omega
end Go.Proofs.YtkdjhklnlnfhfaaGreatDoor
