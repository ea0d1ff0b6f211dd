/-
  The reference's Time.
-/
import Derived.Test.YtfipgmjaabggjaaVYa
namespace Go.Proofs.Ytfipgmjaabggjaa
open Go Go.RowKit
set_option maxRecDepth 4000

set_option maxHeartbeats 8000000 in
theorem refTime0 (t : Tmt) (ht : MayT t) (y mo d h mi s y1 y2 : Int) (a1 : y = (t.y : Int)) (a2 : mo = (t.mo : Int)) (a3 : d = (t.d : Int)) (a4 : h = (t.h : Int)) (a5 : mi = (t.mi : Int)) (a6 : s = (t.s : Int)) (a7 : y1 = ((t.y % 100 : Nat) : Int)) (a8 : y2 = ((t.y / 100 : Nat) : Int)) (w : World) :
    Calls Try.prog 26 #[.agg (tci y mo d h mi s)] w fun e w' => ∃ A c, e = .returned (.tuple #[.int .u8 (ub (tmM t)), .slice A (tmB t).length c]) ∧ Bs w' A (tmB t).length c (tmB t) ∧ Ext w w' := by
  have q2 := ht.m2
  have q3 := ht.d2
  have q3' := dim_hi t.y t.mo
  have q4 := ht.h2
  have q5 := ht.i2
  have q6 := ht.s2
  have qy := ht.y2
  have T1 := Kp.mk (fun W => refTwo_any (t.y % 100) (by omega) W)
  have T2 := Kp.mk (fun W => refTwo_any t.mo (by omega) W)
  have T3 := Kp.mk (fun W => refTwo_any t.d (by omega) W)
  have T4 := Kp.mk (fun W => refTwo_any t.h (by omega) W)
  have T5 := Kp.mk (fun W => refTwo_any t.mi (by omega) W)
  have T6 := Kp.mk (fun W => refTwo_any t.s (by omega) W)
  have T7 := Kp.mk (fun W => refTwo_any (t.y / 100) (by omega) W)
  have P0 := Kp.mk a1
  rw [← a7] at T1
  rw [← a2] at T2
  rw [← a3] at T3
  rw [← a4] at T4
  rw [← a5] at T5
  rw [← a6] at T6
  rw [← a8] at T7
  have r1 : y.tmod 100 = y1 := by rw [a1, a7]; exact tm_nat t.y 100 (by decide)
  have r2 : y.tdiv 100 = y2 := by rw [a1, a8]; exact td_nat t.y 100
  have r3 : IntKind.i64.wrap y2 = y2 := by rw [IntKind.wrap_i64]; omega
  have r4 : IntKind.i64.wrap y1 = y1 := by rw [IntKind.wrap_i64]; omega
  clear a1 a2 a3 a4 a5 a6 a7 a8 q2 q3 q3' q4 q5 q6 qy
  have HB := Kp.mk (Blk.new w tmt (tci y mo d h mi s))
  unfold tci at *
  go_enter Try.func26, Try.ntmps26
  go_wp2_with fail
  obtain ⟨W0, hW0⟩ : ∃ W0, W0 = w.alloc (.cells #[.int .i64 y, .int .i64 mo, .int .i64 d, .int .i64 h, .int .i64 mi, .int .i64 s] tmt) := ⟨_, rfl⟩
  have hxw : Ext w W0 := by rw [hW0]; exact (by (repeat (first | assumption | exact Ext.refl _ | apply Ext.drew | apply Ext.drewN | apply Ext.alloc | refine Ext.trans ?_ (by assumption))); first | done | fail)
  rw [← hW0] at HB ⊢
  have XW := Kp.mk hxw
  clear hW0 hxw
  have c0 := fun (W : World) (hx : Ext W0 W) => (box6 HB.out hx).1
  have c1 := fun (W : World) (hx : Ext W0 W) => (box6 HB.out hx).2.1
  have c2 := fun (W : World) (hx : Ext W0 W) => (box6 HB.out hx).2.2.1
  have c3 := fun (W : World) (hx : Ext W0 W) => (box6 HB.out hx).2.2.2.1
  have c4 := fun (W : World) (hx : Ext W0 W) => (box6 HB.out hx).2.2.2.2.1
  have c5 := fun (W : World) (hx : Ext W0 W) => (box6 HB.out hx).2.2.2.2.2
  refine wp_region_held_drew (S := fun w' => Ext W0 w') (by kernel_rfl) (Ext.refl W0).drew (fun hHeld => ?_)
  refine wpAnyH_take (i := 0) (oi := ⟨some 5, _, _, _, _, _⟩) (v := ?_) rfl (by kernel_rfl) (by kernel_rfl) (by kernel_rfl) (fun _ _ _ h => h) (Or.inl ⟨by rfl, ?_⟩) (by assumption) ?_
  rotate_left
  · (intro w hSw; (try dsimp only at hSw); go_simp; try with_reducible rfl)
  try simp only [Act.put, List.setIfInBounds_toArray, List.set_cons_zero, List.set_cons_succ]
  refine wpAnyH_take (i := 1) (oi := ⟨some 6, _, _, _, _, _⟩) (v := ?_) rfl (by kernel_rfl) (by kernel_rfl) (by kernel_rfl) (fun _ _ _ h => h) (Or.inl ⟨by rfl, ?_⟩) (by assumption) ?_
  rotate_left
  · (intro w hSw; (try dsimp only at hSw); go_simp; try with_reducible rfl)
  try simp only [Act.put, List.setIfInBounds_toArray, List.set_cons_zero, List.set_cons_succ]
  refine wpAnyH_take (i := 2) (oi := ⟨some 7, _, _, _, _, _⟩) (v := ?_) rfl (by kernel_rfl) (by kernel_rfl) (by kernel_rfl) (fun _ _ _ h => h) (Or.inl ⟨by rfl, ?_⟩) (by assumption) ?_
  rotate_left
  · (intro w hSw; (try dsimp only at hSw); go_simp; try with_reducible rfl)
  try simp only [Act.put, List.setIfInBounds_toArray, List.set_cons_zero, List.set_cons_succ]
  refine wpAnyH_take (i := 4) (oi := ⟨some 9, _, _, _, _, _⟩) (v := ?_) rfl (by kernel_rfl) (by kernel_rfl) (by kernel_rfl) (fun _ _ _ h => h) (Or.inl ⟨by rfl, ?_⟩) (by assumption) ?_
  rotate_left
  · (intro w hSw; (try dsimp only at hSw); go_simp; try with_reducible rfl)
  try simp only [Act.put, List.setIfInBounds_toArray, List.set_cons_zero, List.set_cons_succ]
  refine wpAnyH_take (i := 5) (oi := ⟨some 10, _, _, _, _, _⟩) (v := ?_) rfl (by kernel_rfl) (by kernel_rfl) (by kernel_rfl) (fun _ _ _ h => h) (Or.inl ⟨by rfl, ?_⟩) (by assumption) ?_
  rotate_left
  · (intro w hSw; (try dsimp only at hSw); go_simp; try with_reducible rfl)
  try simp only [Act.put, List.setIfInBounds_toArray, List.set_cons_zero, List.set_cons_succ]
  refine wpAnyH_take (i := 8) (oi := ⟨some 13, _, _, _, _, _⟩) (v := ?_) rfl (by kernel_rfl) (by kernel_rfl) (by kernel_rfl) (fun _ _ _ h => h) (Or.inl ⟨by rfl, ?_⟩) (by assumption) ?_
  rotate_left
  · (intro w hSw; (try dsimp only at hSw); go_simp; try with_reducible rfl)
  try simp only [Act.put, List.setIfInBounds_toArray, List.set_cons_zero, List.set_cons_succ]
  refine wpAnyH_take (i := 9) (oi := ⟨some 14, _, _, _, _, _⟩) (v := ?_) rfl (by kernel_rfl) (by kernel_rfl) (by kernel_rfl) (fun _ _ _ h => h) (Or.inl ⟨by rfl, ?_⟩) (by assumption) ?_
  rotate_left
  · (intro w hSw; (try dsimp only at hSw); go_simp; try with_reducible rfl)
  try simp only [Act.put, List.setIfInBounds_toArray, List.set_cons_zero, List.set_cons_succ]
  refine wpAnyH_take (i := 12) (oi := ⟨some 17, _, _, _, _, _⟩) (v := ?_) rfl (by kernel_rfl) (by kernel_rfl) (by kernel_rfl) (fun _ _ _ h => h) (Or.inl ⟨by rfl, ?_⟩) (by assumption) ?_
  rotate_left
  · (intro w hSw; (try dsimp only at hSw); go_simp; try with_reducible rfl)
  try simp only [Act.put, List.setIfInBounds_toArray, List.set_cons_zero, List.set_cons_succ]
  refine wpAnyH_take (i := 13) (oi := ⟨some 18, _, _, _, _, _⟩) (v := ?_) rfl (by kernel_rfl) (by kernel_rfl) (by kernel_rfl) (fun _ _ _ h => h) (Or.inl ⟨by rfl, ?_⟩) (by assumption) ?_
  rotate_left
  · (intro w hSw; (try dsimp only at hSw); go_simp; try with_reducible rfl)
  try simp only [Act.put, List.setIfInBounds_toArray, List.set_cons_zero, List.set_cons_succ]
  refine wpAnyH_take (i := 16) (oi := ⟨some 21, _, _, _, _, _⟩) (v := ?_) rfl (by kernel_rfl) (by kernel_rfl) (by kernel_rfl) (fun _ _ _ h => h) (Or.inl ⟨by rfl, ?_⟩) (by assumption) ?_
  rotate_left
  · (intro w hSw; (try dsimp only at hSw); go_simp; try with_reducible rfl)
  try simp only [Act.put, List.setIfInBounds_toArray, List.set_cons_zero, List.set_cons_succ]
  refine wpAnyH_take (i := 17) (oi := ⟨some 22, _, _, _, _, _⟩) (v := ?_) rfl (by kernel_rfl) (by kernel_rfl) (by kernel_rfl) (fun _ _ _ h => h) (Or.inl ⟨by rfl, ?_⟩) (by assumption) ?_
  rotate_left
  · (intro w hSw; (try dsimp only at hSw); go_simp; try with_reducible rfl)
  try simp only [Act.put, List.setIfInBounds_toArray, List.set_cons_zero, List.set_cons_succ]
  refine wpAnyH_take (i := 20) (oi := ⟨some 25, _, _, _, _, _⟩) (v := ?_) rfl (by kernel_rfl) (by kernel_rfl) (by kernel_rfl) (fun _ _ _ h => h) (Or.inl ⟨by rfl, ?_⟩) (by assumption) ?_
  rotate_left
  · (intro w hSw; (try dsimp only at hSw); go_simp; try with_reducible rfl)
  try simp only [Act.put, List.setIfInBounds_toArray, List.set_cons_zero, List.set_cons_succ]
  refine wpAnyH_take (i := 21) (oi := ⟨some 26, _, _, _, _, _⟩) (v := ?_) rfl (by kernel_rfl) (by kernel_rfl) (by kernel_rfl) (fun _ _ _ h => h) (Or.inl ⟨by rfl, ?_⟩) (by assumption) ?_
  rotate_left
  · (intro w hSw; (try dsimp only at hSw); go_simp; try with_reducible rfl)
  try simp only [Act.put, List.setIfInBounds_toArray, List.set_cons_zero, List.set_cons_succ]
  refine next_one 3 (by kernel_rfl) rfl (by rfl) fun K' HK' => ?_
  go_simp
  refine (T1.out _).mono ?_
  rintro e w1 ⟨A1, k1, rfl, hs1, ho1, hx1⟩
  have X1 : Ext W0 w1 := Ext.trans (by (repeat (first | assumption | exact Ext.refl _ | apply Ext.drew | apply Ext.drewN | apply Ext.alloc | refine Ext.trans ?_ (by assumption))); first | done | fail) hx1
  have O1 := Kp.mk (ho1.lower (B' := W0.heap.size) (by simp))
  clear hs1 ho1 hx1
  refine held_go HK' X1 (fun hHeld => ?_)
  clear HK'
  try simp only [Act.put, List.setIfInBounds_toArray, List.set_cons_zero, List.set_cons_succ]
  refine next_one 6 (by kernel_rfl) rfl (by rfl) fun K' HK' => ?_
  go_simp
  refine (T2.out _).mono ?_
  rintro e w2 ⟨A2, k2, rfl, hs2, ho2, hx2⟩
  have X2 : Ext W0 w2 := X1.trans hx2
  have O2 := Kp.mk (O1.out.ext hx2)
  have S2 := Kp.mk hs2
  clear hs2 ho2 hx2 X1
  refine held_go HK' X2 (fun hHeld => ?_)
  clear HK'
  try simp only [Act.put, List.setIfInBounds_toArray, List.set_cons_zero, List.set_cons_succ]
  refine next_one 7 (by kernel_rfl) rfl (by rfl) fun K' HK' => ?_
  refine wp_append_bs (.tmp 8) (.tmp 11) rfl W0.heap.size _ 2 (d2 (t.y % 100)) rfl O2.out A2 2 k2 (d2 t.mo) rfl S2.out (by decide) 4 rfl (d2 (t.y % 100) ++ d2 t.mo) rfl W0 X2 (Nat.le_refl _) X2.size ?_
  intro A3 k3 w3 ho3 X3 hap3
  have O3 := Kp.mk ho3
  clear ho3 hap3 X2
  refine held_go HK' X3 (fun hHeld => ?_)
  clear HK'
  try simp only [Act.put, List.setIfInBounds_toArray, List.set_cons_zero, List.set_cons_succ]
  refine next_one 10 (by kernel_rfl) rfl (by rfl) fun K' HK' => ?_
  go_simp
  refine (T3.out _).mono ?_
  rintro e w4 ⟨A4, k4, rfl, hs4, ho4, hx4⟩
  have X4 : Ext W0 w4 := X3.trans hx4
  have O4 := Kp.mk (O3.out.ext hx4)
  have S4 := Kp.mk hs4
  clear hs4 ho4 hx4 X3
  refine held_go HK' X4 (fun hHeld => ?_)
  clear HK'
  try simp only [Act.put, List.setIfInBounds_toArray, List.set_cons_zero, List.set_cons_succ]
  refine next_one 11 (by kernel_rfl) rfl (by rfl) fun K' HK' => ?_
  refine wp_append_bs (.tmp 12) (.tmp 15) rfl W0.heap.size _ 4 (d2 (t.y % 100) ++ d2 t.mo) rfl O4.out A4 2 k4 (d2 t.d) rfl S4.out (by decide) 6 rfl (d2 (t.y % 100) ++ d2 t.mo ++ d2 t.d) rfl W0 X4 (Nat.le_refl _) X4.size ?_
  intro A5 k5 w5 ho5 X5 hap5
  have O5 := Kp.mk ho5
  clear ho5 hap5 X4
  refine held_go HK' X5 (fun hHeld => ?_)
  clear HK'
  try simp only [Act.put, List.setIfInBounds_toArray, List.set_cons_zero, List.set_cons_succ]
  refine next_one 14 (by kernel_rfl) rfl (by rfl) fun K' HK' => ?_
  go_simp
  refine (T4.out _).mono ?_
  rintro e w6 ⟨A6, k6, rfl, hs6, ho6, hx6⟩
  have X6 : Ext W0 w6 := X5.trans hx6
  have O6 := Kp.mk (O5.out.ext hx6)
  have S6 := Kp.mk hs6
  clear hs6 ho6 hx6 X5
  refine held_go HK' X6 (fun hHeld => ?_)
  clear HK'
  try simp only [Act.put, List.setIfInBounds_toArray, List.set_cons_zero, List.set_cons_succ]
  refine next_one 15 (by kernel_rfl) rfl (by rfl) fun K' HK' => ?_
  refine wp_append_bs (.tmp 16) (.tmp 19) rfl W0.heap.size _ 6 (d2 (t.y % 100) ++ d2 t.mo ++ d2 t.d) rfl O6.out A6 2 k6 (d2 t.h) rfl S6.out (by decide) 8 rfl (d2 (t.y % 100) ++ d2 t.mo ++ d2 t.d ++ d2 t.h) rfl W0 X6 (Nat.le_refl _) X6.size ?_
  intro A7 k7 w7 ho7 X7 hap7
  have O7 := Kp.mk ho7
  clear ho7 hap7 X6
  refine held_go HK' X7 (fun hHeld => ?_)
  clear HK'
  try simp only [Act.put, List.setIfInBounds_toArray, List.set_cons_zero, List.set_cons_succ]
  refine next_one 18 (by kernel_rfl) rfl (by rfl) fun K' HK' => ?_
  go_simp
  refine (T5.out _).mono ?_
  rintro e w8 ⟨A8, k8, rfl, hs8, ho8, hx8⟩
  have X8 : Ext W0 w8 := X7.trans hx8
  have O8 := Kp.mk (O7.out.ext hx8)
  have S8 := Kp.mk hs8
  clear hs8 ho8 hx8 X7
  refine held_go HK' X8 (fun hHeld => ?_)
  clear HK'
  try simp only [Act.put, List.setIfInBounds_toArray, List.set_cons_zero, List.set_cons_succ]
  refine next_one 19 (by kernel_rfl) rfl (by rfl) fun K' HK' => ?_
  refine wp_append_bs (.tmp 20) (.tmp 23) rfl W0.heap.size _ 8 (d2 (t.y % 100) ++ d2 t.mo ++ d2 t.d ++ d2 t.h) rfl O8.out A8 2 k8 (d2 t.mi) rfl S8.out (by decide) 10 rfl (d2 (t.y % 100) ++ d2 t.mo ++ d2 t.d ++ d2 t.h ++ d2 t.mi) rfl W0 X8 (Nat.le_refl _) X8.size ?_
  intro A9 k9 w9 ho9 X9 hap9
  have O9 := Kp.mk ho9
  clear ho9 hap9 X8
  refine held_go HK' X9 (fun hHeld => ?_)
  clear HK'
  try simp only [Act.put, List.setIfInBounds_toArray, List.set_cons_zero, List.set_cons_succ]
  refine next_one 22 (by kernel_rfl) rfl (by rfl) fun K' HK' => ?_
  go_simp
  refine (T6.out _).mono ?_
  rintro e w10 ⟨A10, k10, rfl, hs10, ho10, hx10⟩
  have X10 : Ext W0 w10 := X9.trans hx10
  have O10 := Kp.mk (O9.out.ext hx10)
  have S10 := Kp.mk hs10
  clear hs10 ho10 hx10 X9
  refine held_go HK' X10 (fun hHeld => ?_)
  clear HK'
  try simp only [Act.put, List.setIfInBounds_toArray, List.set_cons_zero, List.set_cons_succ]
  refine next_one 23 (by kernel_rfl) rfl (by rfl) fun K' HK' => ?_
  refine wp_append_bs (.tmp 24) (.tmp 27) rfl W0.heap.size _ 10 (d2 (t.y % 100) ++ d2 t.mo ++ d2 t.d ++ d2 t.h ++ d2 t.mi) rfl O10.out A10 2 k10 (d2 t.s) rfl S10.out (by decide) 12 rfl (d2 (t.y % 100) ++ d2 t.mo ++ d2 t.d ++ d2 t.h ++ d2 t.mi ++ d2 t.s) rfl W0 X10 (Nat.le_refl _) X10.size ?_
  intro A11 k11 w11 ho11 X11 hap11
  have O11 := Kp.mk ho11
  clear ho11 hap11 X10
  refine held_go HK' X11 (fun hHeld => ?_)
  clear HK'
  try simp only [Act.put, List.setIfInBounds_toArray, List.set_cons_zero, List.set_cons_succ]
  refine wpAnyH_take (i := 24) (oi := ⟨some 4, _, _, _, _, _⟩) (v := ?_) rfl (by kernel_rfl) (by kernel_rfl) (by kernel_rfl) (fun _ _ _ h => h) (Or.inl ⟨by rfl, ?_⟩) (by assumption) ?_
  rotate_left
  · (intro w hSw; (try dsimp only at hSw); go_simp; try with_reducible rfl)
  try simp only [Act.put, List.setIfInBounds_toArray, List.set_cons_zero, List.set_cons_succ]
  refine wpAnyH_done (by kernel_rfl) ?_ _
  clear c0 c1 c2 c3 c4 c5
  obtain ⟨g0, g1, g2, g3, g4, g5⟩ := box6 HB.out X11
  have XC := Kp.mk X11
  clear X11 hHeld
  by_cases hy : 1950 ≤ t.y ∧ t.y ≤ 2049
  · have b1 : decide (1950 ≤ y) = true := decide_eq_true (by have := P0.out; omega)
    have b2 : decide (y ≤ 2049) = true := decide_eq_true (by have := P0.out; omega)
    have g0' := fun (W : World) (hx : Ext w11 W) => (box6 HB.out (XC.out.trans hx)).1
    clear g0 g1 g2 g3 g4 g5
    go_wp2_with (first | (at_builtin; refine wpList_append_bs rfl (.tmp 29) (.tmp 30) rfl W0.heap.size _ 12 (d2 (t.y % 100) ++ d2 t.mo ++ d2 t.d ++ d2 t.h ++ d2 t.mi ++ d2 t.s) rfl (O11.out.ext (by (repeat (first | assumption | exact Ext.refl _ | apply Ext.drew | apply Ext.drewN | apply Ext.alloc | refine Ext.trans ?_ (by assumption))); first | done | fail)) _ 1 1 [90] rfl (const_bs w11 _ [90] 1 1 (0, 0) rfl rfl (by decide)) (by decide) 13 rfl (d2 (t.y % 100) ++ d2 t.mo ++ d2 t.d ++ d2 t.h ++ d2 t.mi ++ d2 t.s ++ [90]) rfl W0 (XC.out.trans (by (repeat (first | assumption | exact Ext.refl _ | apply Ext.drew | apply Ext.drewN | apply Ext.alloc | refine Ext.trans ?_ (by assumption))); first | done | fail)) (Nat.le_refl _) (Nat.le_trans XC.out.size (by simp)) ?_; intro A20 k20 w20 ho20 X20 hap20; have g0'' := (box6 HB.out X20).1) | fail)
    go_ret2
    have eB : tmB t = d2 (t.y % 100) ++ d2 t.mo ++ d2 t.d ++ d2 t.h ++ d2 t.mi ++ d2 t.s ++ [90] := by unfold tmB; rw [if_pos hy]; rfl
    have eM : ub (tmM t) = 23 := by unfold tmM; rw [if_pos hy]; rfl
    rw [eM, eB]
    exact ⟨A20, k20, rfl, ho20.bs, XW.out.trans X20⟩
  · have hc : (decide (1950 ≤ y) = false) ∨ (decide (1950 ≤ y) = true ∧ decide (y ≤ 2049) = false) := by
      have := P0.out
      by_cases k : 1950 ≤ y
      · exact .inr ⟨decide_eq_true k, decide_eq_false (by omega)⟩
      · exact .inl (decide_eq_false k)
    clear g0 g1 g2 g3 g4 g5
    rcases hc with b1 | ⟨b1, b2⟩
    all_goals
      go_wp2_with (first | (at_builtin; refine wpList_append_bs rfl (.tmp 29) (.tmp 30) rfl W0.heap.size _ 12 (d2 (t.y % 100) ++ d2 t.mo ++ d2 t.d ++ d2 t.h ++ d2 t.mi ++ d2 t.s) rfl (O11.out.ext (by (repeat (first | assumption | exact Ext.refl _ | apply Ext.drew | apply Ext.drewN | apply Ext.alloc | refine Ext.trans ?_ (by assumption))); first | done | fail)) _ 1 1 [90] rfl (const_bs w11 _ [90] 1 1 (0, 0) rfl rfl (by decide)) (by decide) 13 rfl (d2 (t.y % 100) ++ d2 t.mo ++ d2 t.d ++ d2 t.h ++ d2 t.mi ++ d2 t.s ++ [90]) rfl W0 (XC.out.trans (by (repeat (first | assumption | exact Ext.refl _ | apply Ext.drew | apply Ext.drewN | apply Ext.alloc | refine Ext.trans ?_ (by assumption))); first | done | fail)) (Nat.le_refl _) (Nat.le_trans XC.out.size (by simp)) ?_; intro A20 k20 w20 ho20 X20 hap20; have g0'' := (box6 HB.out X20).1) | fail)
      refine (T7.out _).mono ?_
      rintro e w21 ⟨A21, k21, rfl, hs21, ho21, hx21⟩
      have O20 := Kp.mk (ho20.bs.ext hx21)
      have O21 := Kp.mk (ho21.lower (B' := W0.heap.size) X20.size)
      have X21 := X20.trans hx21
      clear ho20 hs21 ho21 hx21 X20 hap20 g0''
      go_wp2_with (first | (at_builtin; refine wpList_append_bs rfl (.tmp 44) (.tmp 45) rfl W0.heap.size _ 2 (d2 (t.y / 100)) rfl O21.out A20 13 k20 (d2 (t.y % 100) ++ d2 t.mo ++ d2 t.d ++ d2 t.h ++ d2 t.mi ++ d2 t.s ++ [90]) rfl O20.out (by decide) 15 rfl (d2 (t.y / 100) ++ (d2 (t.y % 100) ++ d2 t.mo ++ d2 t.d ++ d2 t.h ++ d2 t.mi ++ d2 t.s ++ [90])) rfl W0 X21 (Nat.le_refl _) X21.size ?_; intro A22 k22 w22 ho22 X22 hap22) | fail)
      go_ret2
      have eB : tmB t = d2 (t.y / 100) ++ (d2 (t.y % 100) ++ d2 t.mo ++ d2 t.d ++ d2 t.h ++ d2 t.mi ++ d2 t.s ++ [90]) := by unfold tmB; rw [if_neg hy]; rfl
      have eM : ub (tmM t) = 24 := by unfold tmM; rw [if_neg hy]; rfl
      rw [eM, eB]
      exact ⟨A22, k22, rfl, ho22.bs, XW.out.trans X22⟩
theorem refTime_any (t : Tmt) (ht : MayT t) (w : World) : Calls Try.prog 26 #[.agg (tcs t)] w fun e w' => ∃ A c, e = .returned (.tuple #[.int .u8 (ub (tmM t)), .slice A (tmB t).length c]) ∧ Bs w' A (tmB t).length c (tmB t) ∧ Ext w w' :=
  refTime0 t ht _ _ _ _ _ _ _ _ rfl rfl rfl rfl rfl rfl rfl rfl w
end Go.Proofs.Ytfipgmjaabggjaa
