/-
  prim: Time.
-/
import Derived.Test.YtfipgmjaabggjaaDoorVVd
namespace Go.Proofs.YtfipgmjaabggjaaDoor
open Go Go.RowKit
set_option maxRecDepth 4000

theorem idx6 (a b c d e f : Int) (w : World) (j : Int) (v : Int) (hj : (j = 0 ∧ v = a) ∨ (j = 1 ∧ v = b) ∨ (j = 2 ∧ v = c) ∨ (j = 3 ∧ v = d) ∨ (j = 4 ∧ v = e) ∨ (j = 5 ∧ v = f)) :
    (Instr.index 90 (.agg #[.int .i64 a, .int .i64 b, .int .i64 c, .int .i64 d, .int .i64 e, .int .i64 f]) (.int .i64 j)).run Tryd.prog w = .ok (.int .i64 v) w := by
  have hi : (Tryd.prog.info? 3).map (·.size) = some 1 := by kernel_rfl
  cases hq : Tryd.prog.info? 3 with
  | none => simp [hq] at hi
  | some i =>
    have hs1 : i.size = 1 := by simpa [hq] using hi
    rcases hj with ⟨rfl, rfl⟩ | ⟨rfl, rfl⟩ | ⟨rfl, rfl⟩ | ⟨rfl, rfl⟩ | ⟨rfl, rfl⟩ | ⟨rfl, rfl⟩ <;> simp [Instr.index, part, run_underlying Tryd.underlying90, Sem.run_bind, asIntOf, sizeOf, typeInfo, hq, hs1]
theorem box6 {w w' : World} {g t : Nat} {a b c d e f : Value} (h : Blk w g t #[a, b, c, d, e, f]) (hx : Ext w w') : w'.cell? ⟨g, 0, none⟩ = some a ∧ w'.cell? ⟨g, 1, none⟩ = some b ∧ w'.cell? ⟨g, 2, none⟩ = some c ∧ w'.cell? ⟨g, 3, none⟩ = some d ∧ w'.cell? ⟨g, 4, none⟩ = some e ∧ w'.cell? ⟨g, 5, none⟩ = some f := ⟨(h.ext hx).h.cell 0, (h.ext hx).h.cell 1, (h.ext hx).h.cell 2, (h.ext hx).h.cell 3, (h.ext hx).h.cell 4, (h.ext hx).h.cell 5⟩
set_option maxHeartbeats 2000000 in
theorem Time_no (y mo d h mi s : Int) (w : World) (hM : ¬ MayI y mo d h mi s) : Calls Tryd.prog 25 #[.agg (tci y mo d h mi s)] w fun e w' => e = .returned (.tuple #[.int .u8 0, .slice none 0 0, err 1]) ∧ Ext w w' := by
  have hC := fun W => isTime_any y mo d h mi s W false (by simp [hM])
  unfold tci at *
  clear hM
  go_enter Tryd.func25, Tryd.ntmps25
  go_wp2_with fail
  refine (hC _).mono ?_
  rintro e w1 ⟨rfl, hx1⟩
  have HX := Kp.mk (show Ext w w1 from (by (repeat (first | assumption | exact Ext.refl _ | apply Ext.drew | apply Ext.drewN | apply Ext.alloc | refine Ext.trans ?_ (by assumption))); first | done | fail))
  clear hx1
  go_wp2_with fail
  go_ret3
  exact ⟨rfl, HX.out⟩
set_option maxHeartbeats 4000000 in
theorem Time_ok0 (t : Tmt) (ht : MayT t) (y mo d h mi s y1 y2 : Int) (a1 : y = (t.y : Int)) (a2 : mo = (t.mo : Int)) (a3 : d = (t.d : Int)) (a4 : h = (t.h : Int)) (a5 : mi = (t.mi : Int)) (a6 : s = (t.s : Int)) (a7 : y1 = ((t.y % 100 : Nat) : Int)) (a8 : y2 = ((t.y / 100 : Nat) : Int)) (w : World) : Calls Tryd.prog 25 #[.agg (tci y mo d h mi s)] w fun e w' => ∃ A c, e = .returned (.tuple #[.int .u8 (ub (tmM t)), .slice A (tmB t).length c, .nilIface]) ∧ Own w' w.heap.size (.slice A (tmB t).length c) (tmB t).length (tmB t) ∧ Ext w w' := by
  have hC := fun W => isTime_any y mo d h mi s W true (by simp; exact ⟨t, ht, a1, a2, a3, a4, a5, a6⟩)
  have A1 := Kp.mk (And.intro a1 (And.intro a2 (And.intro a3 (And.intro a4 (And.intro a5 (And.intro a6 (And.intro a7 a8)))))))
  have p1 := Kp.mk a7
  have p2 := Kp.mk a2
  have p3 := Kp.mk a3
  have p4 := Kp.mk a4
  have p5 := Kp.mk a5
  have p6 := Kp.mk a6
  have p7 := Kp.mk a8
  have p0 := Kp.mk a1
  have r1 : y.tmod 100 = y1 := by rw [a1, a7]; exact tm_nat t.y 100 (by decide)
  have r2 : y.tdiv 100 = y2 := by rw [a1, a8]; exact td_nat t.y 100
  have r3 : IntKind.i64.wrap y2 = y2 := by have := ht.y2; rw [IntKind.wrap_i64]; omega
  clear a1 a2 a3 a4 a5 a6 a7 a8
  unfold tci at *
  have hmk := run_make0 15 15 rfl (by decide)
  have HB := Kp.mk (Blk.new w tmt #[.int .i64 y, .int .i64 mo, .int .i64 d, .int .i64 h, .int .i64 mi, .int .i64 s])
  have HT := Kp.mk ht
  clear ht
  go_enter Tryd.func25, Tryd.ntmps25
  go_wp2_with fail
  refine (hC _).mono ?_
  rintro e w1 ⟨rfl, hx1⟩
  obtain ⟨W0, hW0⟩ : ∃ W0, W0 = w.alloc (.cells #[.int .i64 y, .int .i64 mo, .int .i64 d, .int .i64 h, .int .i64 mi, .int .i64 s] tmt) := ⟨_, rfl⟩
  have hxw : Ext w W0 := by rw [hW0]; exact (by (repeat (first | assumption | exact Ext.refl _ | apply Ext.drew | apply Ext.drewN | apply Ext.alloc | refine Ext.trans ?_ (by assumption))); first | done | fail)
  rw [← hW0] at hx1 HB
  clear hC
  go_wp2_with fail
  refine wp_region_held_drew (S := fun w' => Ext w1 w') (by kernel_rfl) (Ext.refl w1).drew (fun hHeld => ?_)
  refine wpAnyH_take (i := 1) (oi := ⟨some 5, _, _, _, _, _⟩) (v := ?_) rfl (by kernel_rfl) (by kernel_rfl) (by kernel_rfl) (fun _ _ _ h => h) (Or.inl ⟨by rfl, ?_⟩) (by assumption) ?_
  rotate_left
  · (intro w hSw; (try dsimp only at hSw); go_simp; try with_reducible rfl)
  try simp only [Act.put, List.setIfInBounds_toArray, List.set_cons_zero, List.set_cons_succ]
  refine next_one 0 (by kernel_rfl) rfl (by rfl) fun K' HK' => ?_
  go_simp
  obtain ⟨B, hB⟩ : ∃ B, B = w1.heap.size := ⟨_, rfl⟩
  have ho2 : Own (w1.alloc (.cells (bv (zb 15)) 5)).drew w1.heap.size (.slice (some ⟨w1.heap.size, 0, none⟩) 0 15) 0 [] := (Own.made w1 _ 15 (Nat.le_refl _) (by decide)).ext (by (repeat (first | assumption | exact Ext.refl _ | apply Ext.drew | apply Ext.drewN | apply Ext.alloc | refine Ext.trans ?_ (by assumption))); first | done | fail)
  have hx2 : Ext w1 (w1.alloc (.cells (bv (zb 15)) 5)).drew := (by (repeat (first | assumption | exact Ext.refl _ | apply Ext.drew | apply Ext.drewN | apply Ext.alloc | refine Ext.trans ?_ (by assumption))); first | done | fail)
  have hx2d : Ext w1.drew (w1.alloc (.cells (bv (zb 15)) 5)).drew := (show Ext w1.drew (w1.drew.alloc (.cells (bv (zb 15)) 5)) from (by (repeat (first | assumption | exact Ext.refl _ | apply Ext.drew | apply Ext.drewN | apply Ext.alloc | refine Ext.trans ?_ (by assumption))); first | done | fail))
  generalize hw2 : (w1.alloc (.cells (bv (zb 15)) 5)).drew = w2 at *
  have hS2 := Ext.trans hHeld hx2d
  refine held_go HK' hS2 (fun _ => ?_)
  clear HK'
  refine held_more (S' := fun w' => Ext w2 w') (fun _ h => Ext.trans hS2 h) _ _ _ _ ?_
  clear hHeld hS2
  have hHeld : Ext w2 w2 := Ext.refl _
  try simp only [Act.put, List.setIfInBounds_toArray, List.set_cons_zero, List.set_cons_succ]
  refine wpAnyH_take (i := 2) (oi := ⟨some 6, _, _, _, _, _⟩) (v := ?_) rfl (by kernel_rfl) (by kernel_rfl) (by kernel_rfl) (fun _ _ _ h => h) (Or.inl ⟨by rfl, ?_⟩) (by assumption) ?_
  rotate_left
  · (intro w hSw; (try dsimp only at hSw); go_simp; try with_reducible rfl)
  try simp only [Act.put, List.setIfInBounds_toArray, List.set_cons_zero, List.set_cons_succ]
  refine wpAnyH_done (by kernel_rfl) ?_ _
  rw [← hB] at ho2 ⊢
  have HO := Kp.mk ho2
  have hB0 : W0.heap.size ≤ B := by rw [hB]; exact hx1.size
  have hB2 : B ≤ w2.heap.size := by rw [hB]; exact hx2.size
  have HX := Kp.mk (hx1.trans hx2)
  have HW := Kp.mk hxw
  have HG := Kp.mk hW0
  have hBw : w.heap.size ≤ B := Nat.le_trans hxw.size hB0
  have q1 : t.y % 100 < 100 := Nat.mod_lt _ (by decide)
  have q2 : t.mo < 100 := by have := HT.out.m2; omega
  have q3 : t.d < 100 := by have := HT.out.d2; have := dim_hi t.y t.mo; omega
  have q4 : t.h < 100 := by have := HT.out.h2; omega
  have q5 : t.mi < 100 := by have := HT.out.i2; omega
  have q6 : t.s < 100 := by have := HT.out.s2; omega
  have q7 : t.y / 100 < 100 := by have := HT.out.y2; omega
  have hidx := Kp.mk (fun W => idx6 y1 mo d h mi s W)
  clear hx2d hmk hx1 hx2 ho2 hxw hW0 hB hw2
  by_cases hy : 1950 ≤ t.y ∧ t.y ≤ 2049
  · obtain ⟨c0, k1, k2, k3, k4, k5⟩ := box6 HB.out HX.out
    have b1 : decide (y < 1950) = false := decide_eq_false (by have := p0.out; omega)
    have b2 : decide (2049 < y) = false := decide_eq_false (by have := p0.out; omega)
    go_wp2_with fail
    go_loopw [6, 41] (fun v i wr => ∃ j N : Nat, ∃ A3 c3, j ≤ 6 ∧ N = 0 + 2 * j ∧ i = .int .i64 (j : Int) ∧ v = .slice A3 N c3 ∧ Own wr B (.slice A3 N c3) N (([] : List (BitVec 8)) ++ ([t.y % 100, t.mo, t.d, t.h, t.mi, t.s].take j).flatMap d2) ∧ Ext W0 wr ∧ B ≤ wr.heap.size) (fun _ i _ => 6 - (intOf i).toNat)
    case atStart => exact ⟨0, 0, _, _, by omega, rfl, rfl, rfl, HO.out, HX.out, hB2⟩
    case round =>
      obtain ⟨j, N, A3, c3, hj, hN, rfl, rfl, ho, hx, hsz⟩ := hrel
      have HN := Kp.mk hN
      have hN3 : N ≤ 1000 := by omega
      have HO3 := Kp.mk ho
      have HX3 := Kp.mk hx
      clear ho hx hN
      rcases (by omega : j = 0 ∨ j = 1 ∨ j = 2 ∨ j = 3 ∨ j = 4 ∨ j = 5 ∨ j = 6) with rfl | rfl | rfl | rfl | rfl | rfl | rfl
      · have hi := fun W => hidx.out W 0 y1 (by omega)
        go_wp2_with fail
        have hwp := withPair_any (w0 := W0) HO3.out HX3.out hB0 hsz (by omega) _ q1
        rw [← p1.out] at hwp
        refine hwp.mono ?_
        rintro e w4 ⟨A4, c4, rfl, ho4, hx4, hz4⟩
        have HO4 := Kp.mk ho4
        have HX4 := Kp.mk hx4
        clear ho4 hx4
        go_wp2_with fail
        go_roundw
        case rel => exact ⟨1, N + 2, A4, c4, by omega, by have := HN.out; omega, by go_num, rfl, by simpa using HO4.out, HX4.out, Nat.le_trans hsz hz4⟩
        case measure => simp [intOf]
      · have hi := fun W => hidx.out W 1 mo (by omega)
        go_wp2_with fail
        have hwp := withPair_any (w0 := W0) HO3.out HX3.out hB0 hsz (by omega) _ q2
        rw [← p2.out] at hwp
        refine hwp.mono ?_
        rintro e w4 ⟨A4, c4, rfl, ho4, hx4, hz4⟩
        have HO4 := Kp.mk ho4
        have HX4 := Kp.mk hx4
        clear ho4 hx4
        go_wp2_with fail
        go_roundw
        case rel => exact ⟨2, N + 2, A4, c4, by omega, by have := HN.out; omega, by go_num, rfl, by simpa using HO4.out, HX4.out, Nat.le_trans hsz hz4⟩
        case measure => simp [intOf]
      · have hi := fun W => hidx.out W 2 d (by omega)
        go_wp2_with fail
        have hwp := withPair_any (w0 := W0) HO3.out HX3.out hB0 hsz (by omega) _ q3
        rw [← p3.out] at hwp
        refine hwp.mono ?_
        rintro e w4 ⟨A4, c4, rfl, ho4, hx4, hz4⟩
        have HO4 := Kp.mk ho4
        have HX4 := Kp.mk hx4
        clear ho4 hx4
        go_wp2_with fail
        go_roundw
        case rel => exact ⟨3, N + 2, A4, c4, by omega, by have := HN.out; omega, by go_num, rfl, by simpa using HO4.out, HX4.out, Nat.le_trans hsz hz4⟩
        case measure => simp [intOf]
      · have hi := fun W => hidx.out W 3 h (by omega)
        go_wp2_with fail
        have hwp := withPair_any (w0 := W0) HO3.out HX3.out hB0 hsz (by omega) _ q4
        rw [← p4.out] at hwp
        refine hwp.mono ?_
        rintro e w4 ⟨A4, c4, rfl, ho4, hx4, hz4⟩
        have HO4 := Kp.mk ho4
        have HX4 := Kp.mk hx4
        clear ho4 hx4
        go_wp2_with fail
        go_roundw
        case rel => exact ⟨4, N + 2, A4, c4, by omega, by have := HN.out; omega, by go_num, rfl, by simpa using HO4.out, HX4.out, Nat.le_trans hsz hz4⟩
        case measure => simp [intOf]
      · have hi := fun W => hidx.out W 4 mi (by omega)
        go_wp2_with fail
        have hwp := withPair_any (w0 := W0) HO3.out HX3.out hB0 hsz (by omega) _ q5
        rw [← p5.out] at hwp
        refine hwp.mono ?_
        rintro e w4 ⟨A4, c4, rfl, ho4, hx4, hz4⟩
        have HO4 := Kp.mk ho4
        have HX4 := Kp.mk hx4
        clear ho4 hx4
        go_wp2_with fail
        go_roundw
        case rel => exact ⟨5, N + 2, A4, c4, by omega, by have := HN.out; omega, by go_num, rfl, by simpa using HO4.out, HX4.out, Nat.le_trans hsz hz4⟩
        case measure => simp [intOf]
      · have hi := fun W => hidx.out W 5 s (by omega)
        go_wp2_with fail
        have hwp := withPair_any (w0 := W0) HO3.out HX3.out hB0 hsz (by omega) _ q6
        rw [← p6.out] at hwp
        refine hwp.mono ?_
        rintro e w4 ⟨A4, c4, rfl, ho4, hx4, hz4⟩
        have HO4 := Kp.mk ho4
        have HX4 := Kp.mk hx4
        clear ho4 hx4
        go_wp2_with fail
        go_roundw
        case rel => exact ⟨6, N + 2, A4, c4, by omega, by have := HN.out; omega, by go_num, rfl, by simpa using HO4.out, HX4.out, Nat.le_trans hsz hz4⟩
        case measure => simp [intOf]
      · go_wp2_with (first | (at_builtin; refine wpList_append_bs rfl (.tmp 49) (.tmp 50) rfl B _ N _ rfl (HO3.out.ext (by (repeat (first | assumption | exact Ext.refl _ | apply Ext.drew | apply Ext.drewN | apply Ext.alloc | refine Ext.trans ?_ (by assumption))); first | done | fail)) _ 1 1 [90] rfl (const_bs wr _ [90] 1 1 (0, 0) rfl rfl (by decide)) (by omega) (N + 1) rfl _ rfl W0 (HX3.out.trans (by (repeat (first | assumption | exact Ext.refl _ | apply Ext.drew | apply Ext.drewN | apply Ext.alloc | refine Ext.trans ?_ (by assumption))); first | done | fail)) hB0 (Nat.le_trans hsz (by simp)) ?_; intro A5 c5 w5 ho5 hx5 hap5) | fail)
        go_ret3
        have eB : tmB t = ([] : List (BitVec 8)) ++ ([t.y % 100, t.mo, t.d, t.h, t.mi, t.s].take 6).flatMap d2 ++ [90] := by unfold tmB; rw [if_pos hy]; rfl
        have eM : ub (tmM t) = 23 := by unfold tmM; rw [if_pos hy]; rfl
        obtain rfl : N = 12 := HN.out
        rw [eM, eB]
        exact ⟨A5, c5, rfl, ho5.lower hBw, HW.out.trans hx5⟩
  · by_cases hy2 : t.y < 1950
    · have b1 : decide (y < 1950) = true := decide_eq_true (by have := p0.out; omega)
      obtain ⟨c0, k1, k2, k3, k4, k5⟩ := box6 HB.out HX.out
      go_wp2_with fail
      have hwp := withPair_any (w0 := W0) HO.out HX.out hB0 hB2 (by decide) _ q7
      rw [← p7.out] at hwp
      refine hwp.mono ?_
      rintro e w3 ⟨A3, c3, rfl, ho3, hx3, hz3⟩
      have HO2 := Kp.mk ho3
      have HX2 := Kp.mk hx3
      have hB3 : B ≤ w3.heap.size := Nat.le_trans hB2 hz3
      clear ho3 c0 k1 k2 k3 k4 k5
      obtain ⟨c0, k1, k2, k3, k4, k5⟩ := box6 HB.out HX2.out
      clear hx3
      go_wp2_with fail
      go_loopw [6, 41] (fun v i wr => ∃ j N : Nat, ∃ A3 c3, j ≤ 6 ∧ N = 2 + 2 * j ∧ i = .int .i64 (j : Int) ∧ v = .slice A3 N c3 ∧ Own wr B (.slice A3 N c3) N (d2 (t.y / 100) ++ ([t.y % 100, t.mo, t.d, t.h, t.mi, t.s].take j).flatMap d2) ∧ Ext W0 wr ∧ B ≤ wr.heap.size) (fun _ i _ => 6 - (intOf i).toNat)
      case atStart => exact ⟨0, 2, _, _, by omega, rfl, rfl, rfl, by simpa using HO2.out, HX2.out, hB3⟩
      case round =>
        obtain ⟨j, N, A3, c3, hj, hN, rfl, rfl, ho, hx, hsz⟩ := hrel
        have HN := Kp.mk hN
        have hN3 : N ≤ 1000 := by omega
        have HO3 := Kp.mk ho
        have HX3 := Kp.mk hx
        clear ho hx hN
        rcases (by omega : j = 0 ∨ j = 1 ∨ j = 2 ∨ j = 3 ∨ j = 4 ∨ j = 5 ∨ j = 6) with rfl | rfl | rfl | rfl | rfl | rfl | rfl
        · have hi := fun W => hidx.out W 0 y1 (by omega)
          go_wp2_with fail
          have hwp := withPair_any (w0 := W0) HO3.out HX3.out hB0 hsz (by omega) _ q1
          rw [← p1.out] at hwp
          refine hwp.mono ?_
          rintro e w4 ⟨A4, c4, rfl, ho4, hx4, hz4⟩
          have HO4 := Kp.mk ho4
          have HX4 := Kp.mk hx4
          clear ho4 hx4
          go_wp2_with fail
          go_roundw
          case rel => exact ⟨1, N + 2, A4, c4, by omega, by have := HN.out; omega, by go_num, rfl, by simpa using HO4.out, HX4.out, Nat.le_trans hsz hz4⟩
          case measure => simp [intOf]
        · have hi := fun W => hidx.out W 1 mo (by omega)
          go_wp2_with fail
          have hwp := withPair_any (w0 := W0) HO3.out HX3.out hB0 hsz (by omega) _ q2
          rw [← p2.out] at hwp
          refine hwp.mono ?_
          rintro e w4 ⟨A4, c4, rfl, ho4, hx4, hz4⟩
          have HO4 := Kp.mk ho4
          have HX4 := Kp.mk hx4
          clear ho4 hx4
          go_wp2_with fail
          go_roundw
          case rel => exact ⟨2, N + 2, A4, c4, by omega, by have := HN.out; omega, by go_num, rfl, by simpa using HO4.out, HX4.out, Nat.le_trans hsz hz4⟩
          case measure => simp [intOf]
        · have hi := fun W => hidx.out W 2 d (by omega)
          go_wp2_with fail
          have hwp := withPair_any (w0 := W0) HO3.out HX3.out hB0 hsz (by omega) _ q3
          rw [← p3.out] at hwp
          refine hwp.mono ?_
          rintro e w4 ⟨A4, c4, rfl, ho4, hx4, hz4⟩
          have HO4 := Kp.mk ho4
          have HX4 := Kp.mk hx4
          clear ho4 hx4
          go_wp2_with fail
          go_roundw
          case rel => exact ⟨3, N + 2, A4, c4, by omega, by have := HN.out; omega, by go_num, rfl, by simpa using HO4.out, HX4.out, Nat.le_trans hsz hz4⟩
          case measure => simp [intOf]
        · have hi := fun W => hidx.out W 3 h (by omega)
          go_wp2_with fail
          have hwp := withPair_any (w0 := W0) HO3.out HX3.out hB0 hsz (by omega) _ q4
          rw [← p4.out] at hwp
          refine hwp.mono ?_
          rintro e w4 ⟨A4, c4, rfl, ho4, hx4, hz4⟩
          have HO4 := Kp.mk ho4
          have HX4 := Kp.mk hx4
          clear ho4 hx4
          go_wp2_with fail
          go_roundw
          case rel => exact ⟨4, N + 2, A4, c4, by omega, by have := HN.out; omega, by go_num, rfl, by simpa using HO4.out, HX4.out, Nat.le_trans hsz hz4⟩
          case measure => simp [intOf]
        · have hi := fun W => hidx.out W 4 mi (by omega)
          go_wp2_with fail
          have hwp := withPair_any (w0 := W0) HO3.out HX3.out hB0 hsz (by omega) _ q5
          rw [← p5.out] at hwp
          refine hwp.mono ?_
          rintro e w4 ⟨A4, c4, rfl, ho4, hx4, hz4⟩
          have HO4 := Kp.mk ho4
          have HX4 := Kp.mk hx4
          clear ho4 hx4
          go_wp2_with fail
          go_roundw
          case rel => exact ⟨5, N + 2, A4, c4, by omega, by have := HN.out; omega, by go_num, rfl, by simpa using HO4.out, HX4.out, Nat.le_trans hsz hz4⟩
          case measure => simp [intOf]
        · have hi := fun W => hidx.out W 5 s (by omega)
          go_wp2_with fail
          have hwp := withPair_any (w0 := W0) HO3.out HX3.out hB0 hsz (by omega) _ q6
          rw [← p6.out] at hwp
          refine hwp.mono ?_
          rintro e w4 ⟨A4, c4, rfl, ho4, hx4, hz4⟩
          have HO4 := Kp.mk ho4
          have HX4 := Kp.mk hx4
          clear ho4 hx4
          go_wp2_with fail
          go_roundw
          case rel => exact ⟨6, N + 2, A4, c4, by omega, by have := HN.out; omega, by go_num, rfl, by simpa using HO4.out, HX4.out, Nat.le_trans hsz hz4⟩
          case measure => simp [intOf]
        · go_wp2_with (first | (at_builtin; refine wpList_append_bs rfl (.tmp 49) (.tmp 50) rfl B _ N _ rfl (HO3.out.ext (by (repeat (first | assumption | exact Ext.refl _ | apply Ext.drew | apply Ext.drewN | apply Ext.alloc | refine Ext.trans ?_ (by assumption))); first | done | fail)) _ 1 1 [90] rfl (const_bs wr _ [90] 1 1 (0, 0) rfl rfl (by decide)) (by omega) (N + 1) rfl _ rfl W0 (HX3.out.trans (by (repeat (first | assumption | exact Ext.refl _ | apply Ext.drew | apply Ext.drewN | apply Ext.alloc | refine Ext.trans ?_ (by assumption))); first | done | fail)) hB0 (Nat.le_trans hsz (by simp)) ?_; intro A5 c5 w5 ho5 hx5 hap5) | fail)
          go_ret3
          have eB : tmB t = d2 (t.y / 100) ++ ([t.y % 100, t.mo, t.d, t.h, t.mi, t.s].take 6).flatMap d2 ++ [90] := by unfold tmB; rw [if_neg hy]; rfl
          have eM : ub (tmM t) = 24 := by unfold tmM; rw [if_neg hy]; rfl
          obtain rfl : N = 14 := HN.out
          rw [eM, eB]
          exact ⟨A5, c5, rfl, ho5.lower hBw, HW.out.trans hx5⟩
    · have b1 : decide (y < 1950) = false := decide_eq_false (by have := p0.out; omega)
      have b2 : decide (2049 < y) = true := decide_eq_true (by have := p0.out; omega)
      obtain ⟨c0, k1, k2, k3, k4, k5⟩ := box6 HB.out HX.out
      go_wp2_with fail
      have hwp := withPair_any (w0 := W0) HO.out HX.out hB0 hB2 (by decide) _ q7
      rw [← p7.out] at hwp
      refine hwp.mono ?_
      rintro e w3 ⟨A3, c3, rfl, ho3, hx3, hz3⟩
      have HO2 := Kp.mk ho3
      have HX2 := Kp.mk hx3
      have hB3 : B ≤ w3.heap.size := Nat.le_trans hB2 hz3
      clear ho3 c0 k1 k2 k3 k4 k5
      obtain ⟨c0, k1, k2, k3, k4, k5⟩ := box6 HB.out HX2.out
      clear hx3
      go_wp2_with fail
      go_loopw [6, 41] (fun v i wr => ∃ j N : Nat, ∃ A3 c3, j ≤ 6 ∧ N = 2 + 2 * j ∧ i = .int .i64 (j : Int) ∧ v = .slice A3 N c3 ∧ Own wr B (.slice A3 N c3) N (d2 (t.y / 100) ++ ([t.y % 100, t.mo, t.d, t.h, t.mi, t.s].take j).flatMap d2) ∧ Ext W0 wr ∧ B ≤ wr.heap.size) (fun _ i _ => 6 - (intOf i).toNat)
      case atStart => exact ⟨0, 2, _, _, by omega, rfl, rfl, rfl, by simpa using HO2.out, HX2.out, hB3⟩
      case round =>
        obtain ⟨j, N, A3, c3, hj, hN, rfl, rfl, ho, hx, hsz⟩ := hrel
        have HN := Kp.mk hN
        have hN3 : N ≤ 1000 := by omega
        have HO3 := Kp.mk ho
        have HX3 := Kp.mk hx
        clear ho hx hN
        rcases (by omega : j = 0 ∨ j = 1 ∨ j = 2 ∨ j = 3 ∨ j = 4 ∨ j = 5 ∨ j = 6) with rfl | rfl | rfl | rfl | rfl | rfl | rfl
        · have hi := fun W => hidx.out W 0 y1 (by omega)
          go_wp2_with fail
          have hwp := withPair_any (w0 := W0) HO3.out HX3.out hB0 hsz (by omega) _ q1
          rw [← p1.out] at hwp
          refine hwp.mono ?_
          rintro e w4 ⟨A4, c4, rfl, ho4, hx4, hz4⟩
          have HO4 := Kp.mk ho4
          have HX4 := Kp.mk hx4
          clear ho4 hx4
          go_wp2_with fail
          go_roundw
          case rel => exact ⟨1, N + 2, A4, c4, by omega, by have := HN.out; omega, by go_num, rfl, by simpa using HO4.out, HX4.out, Nat.le_trans hsz hz4⟩
          case measure => simp [intOf]
        · have hi := fun W => hidx.out W 1 mo (by omega)
          go_wp2_with fail
          have hwp := withPair_any (w0 := W0) HO3.out HX3.out hB0 hsz (by omega) _ q2
          rw [← p2.out] at hwp
          refine hwp.mono ?_
          rintro e w4 ⟨A4, c4, rfl, ho4, hx4, hz4⟩
          have HO4 := Kp.mk ho4
          have HX4 := Kp.mk hx4
          clear ho4 hx4
          go_wp2_with fail
          go_roundw
          case rel => exact ⟨2, N + 2, A4, c4, by omega, by have := HN.out; omega, by go_num, rfl, by simpa using HO4.out, HX4.out, Nat.le_trans hsz hz4⟩
          case measure => simp [intOf]
        · have hi := fun W => hidx.out W 2 d (by omega)
          go_wp2_with fail
          have hwp := withPair_any (w0 := W0) HO3.out HX3.out hB0 hsz (by omega) _ q3
          rw [← p3.out] at hwp
          refine hwp.mono ?_
          rintro e w4 ⟨A4, c4, rfl, ho4, hx4, hz4⟩
          have HO4 := Kp.mk ho4
          have HX4 := Kp.mk hx4
          clear ho4 hx4
          go_wp2_with fail
          go_roundw
          case rel => exact ⟨3, N + 2, A4, c4, by omega, by have := HN.out; omega, by go_num, rfl, by simpa using HO4.out, HX4.out, Nat.le_trans hsz hz4⟩
          case measure => simp [intOf]
        · have hi := fun W => hidx.out W 3 h (by omega)
          go_wp2_with fail
          have hwp := withPair_any (w0 := W0) HO3.out HX3.out hB0 hsz (by omega) _ q4
          rw [← p4.out] at hwp
          refine hwp.mono ?_
          rintro e w4 ⟨A4, c4, rfl, ho4, hx4, hz4⟩
          have HO4 := Kp.mk ho4
          have HX4 := Kp.mk hx4
          clear ho4 hx4
          go_wp2_with fail
          go_roundw
          case rel => exact ⟨4, N + 2, A4, c4, by omega, by have := HN.out; omega, by go_num, rfl, by simpa using HO4.out, HX4.out, Nat.le_trans hsz hz4⟩
          case measure => simp [intOf]
        · have hi := fun W => hidx.out W 4 mi (by omega)
          go_wp2_with fail
          have hwp := withPair_any (w0 := W0) HO3.out HX3.out hB0 hsz (by omega) _ q5
          rw [← p5.out] at hwp
          refine hwp.mono ?_
          rintro e w4 ⟨A4, c4, rfl, ho4, hx4, hz4⟩
          have HO4 := Kp.mk ho4
          have HX4 := Kp.mk hx4
          clear ho4 hx4
          go_wp2_with fail
          go_roundw
          case rel => exact ⟨5, N + 2, A4, c4, by omega, by have := HN.out; omega, by go_num, rfl, by simpa using HO4.out, HX4.out, Nat.le_trans hsz hz4⟩
          case measure => simp [intOf]
        · have hi := fun W => hidx.out W 5 s (by omega)
          go_wp2_with fail
          have hwp := withPair_any (w0 := W0) HO3.out HX3.out hB0 hsz (by omega) _ q6
          rw [← p6.out] at hwp
          refine hwp.mono ?_
          rintro e w4 ⟨A4, c4, rfl, ho4, hx4, hz4⟩
          have HO4 := Kp.mk ho4
          have HX4 := Kp.mk hx4
          clear ho4 hx4
          go_wp2_with fail
          go_roundw
          case rel => exact ⟨6, N + 2, A4, c4, by omega, by have := HN.out; omega, by go_num, rfl, by simpa using HO4.out, HX4.out, Nat.le_trans hsz hz4⟩
          case measure => simp [intOf]
        · go_wp2_with (first | (at_builtin; refine wpList_append_bs rfl (.tmp 49) (.tmp 50) rfl B _ N _ rfl (HO3.out.ext (by (repeat (first | assumption | exact Ext.refl _ | apply Ext.drew | apply Ext.drewN | apply Ext.alloc | refine Ext.trans ?_ (by assumption))); first | done | fail)) _ 1 1 [90] rfl (const_bs wr _ [90] 1 1 (0, 0) rfl rfl (by decide)) (by omega) (N + 1) rfl _ rfl W0 (HX3.out.trans (by (repeat (first | assumption | exact Ext.refl _ | apply Ext.drew | apply Ext.drewN | apply Ext.alloc | refine Ext.trans ?_ (by assumption))); first | done | fail)) hB0 (Nat.le_trans hsz (by simp)) ?_; intro A5 c5 w5 ho5 hx5 hap5) | fail)
          go_ret3
          have eB : tmB t = d2 (t.y / 100) ++ ([t.y % 100, t.mo, t.d, t.h, t.mi, t.s].take 6).flatMap d2 ++ [90] := by unfold tmB; rw [if_neg hy]; rfl
          have eM : ub (tmM t) = 24 := by unfold tmM; rw [if_neg hy]; rfl
          obtain rfl : N = 14 := HN.out
          rw [eM, eB]
          exact ⟨A5, c5, rfl, ho5.lower hBw, HW.out.trans hx5⟩
theorem Time_ok (t : Tmt) (ht : MayT t) (w : World) : Calls Tryd.prog 25 #[.agg (tcs t)] w fun e w' => ∃ A c, e = .returned (.tuple #[.int .u8 (ub (tmM t)), .slice A (tmB t).length c, .nilIface]) ∧ Own w' w.heap.size (.slice A (tmB t).length c) (tmB t).length (tmB t) ∧ Ext w w' :=
  Time_ok0 t ht _ _ _ _ _ _ _ _ rfl rfl rfl rfl rfl rfl rfl rfl w
end Go.Proofs.YtfipgmjaabggjaaDoor
