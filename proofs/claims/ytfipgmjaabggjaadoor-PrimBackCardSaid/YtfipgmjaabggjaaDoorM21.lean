/-
  prim: withPair, Time.
  prim: Time.
  prim: Count.
  Numbers in groups of seven bits, one behind the other; identifiers; plain (for layer 8).
-/
import Derived.Test.YtfipgmjaabggjaaDoorM20
import Derived.Test.YtfipgmjaabggjaaDoorM3
namespace Go.Proofs.YtfipgmjaabggjaaDoor
open Go Go.RowKit
set_option maxRecDepth 4000

theorem d2_one (n : Nat) (h : n < 100) : IntKind.u8.wrap (48 + IntKind.u8.wrap ((n / 10 : Nat) : Int)) = ub (gb (d2 n) 0) ∧ IntKind.u8.wrap (48 + IntKind.u8.wrap ((n % 10 : Nat) : Int)) = ub (gb (d2 n) 1) := by
  have e0 : gb (d2 n) 0 = BitVec.ofNat 8 (48 + n / 10 % 10) := rfl
  have e1 : gb (d2 n) 1 = BitVec.ofNat 8 (48 + n % 10) := rfl
  rw [e0, e1]
  unfold ub
  rw [BitVec.toNat_ofNat, BitVec.toNat_ofNat, IntKind.wrap_u8, IntKind.wrap_u8, IntKind.wrap_u8, IntKind.wrap_u8]
  omega
set_option maxHeartbeats 2000000 in
theorem withPair_any {w0 w : World} {B : Nat} {v : Value} {m : Nat} {l : List (BitVec 8)} (ho : Own w B v m l) (hx0 : Ext w0 w) (hB0 : w0.heap.size ≤ B) (hBw : B ≤ w.heap.size) (hm : m ≤ 1000000) (n : Nat) (hn : n < 100) :
    Calls Tryd.prog 52 #[v, .int .i64 (n : Int)] w fun e w' => ∃ A c, e = .returned (.slice A (m + 2) c) ∧ Own w' B (.slice A (m + 2) c) (m + 2) (l ++ d2 n) ∧ Ext w0 w' ∧ w.heap.size ≤ w'.heap.size := by
  obtain ⟨A, c, rfl⟩ := ho.form
  obtain ⟨h1, h2⟩ := d2_one n hn
  have e1 : (n : Int).tdiv 10 = _ := td_nat n 10
  have e2 : (n : Int).tmod 10 = _ := tm_nat n 10 (by decide)
  have hd : d2 n = [gb (d2 n) 0, gb (d2 n) 1] := rfl
  have e3 : IntKind.u8.wrap ((n / 10 : Nat) : Int) = ((n / 10 : Nat) : Int) := by rw [IntKind.wrap_u8]; omega
  have e4 : IntKind.u8.wrap ((n % 10 : Nat) : Int) = ((n % 10 : Nat) : Int) := by rw [IntKind.wrap_u8]; omega
  have e5 : IntKind.i64.wrap ((n / 10 : Nat) : Int) = ((n / 10 : Nat) : Int) := by rw [IntKind.wrap_i64]; omega
  rw [e3] at h1
  rw [e4] at h2
  rw [hd]
  generalize gb (d2 n) 0 = x at *
  generalize gb (d2 n) 1 = y at *
  generalize n / 10 = q at *
  generalize n % 10 = r at *
  have HO := Kp.mk ho
  have HX := Kp.mk hx0
  clear ho hx0 hd
  go_enter Tryd.func52, Tryd.ntmps52
  go_wp2_with (first | (at_builtin; refine wpList_append_bs rfl (.tmp 5) (.tmp 14) rfl B _ m l rfl (HO.out.ext (by (repeat (first | assumption | exact Ext.refl _ | apply Ext.drew | apply Ext.drewN | apply Ext.alloc | refine Ext.trans ?_ (by assumption))); first | done | fail)) _ 2 2 [x, y] rfl (const_bs w _ [x, y] 2 2 (0, 0) rfl rfl (by decide)) (by omega) (m + 2) rfl (l ++ [x, y]) rfl w0 (HX.out.trans (by (repeat (first | assumption | exact Ext.refl _ | apply Ext.drew | apply Ext.drewN | apply Ext.alloc | refine Ext.trans ?_ (by assumption))); first | done | fail)) hB0 (Nat.le_trans hBw (by simp)) ?_; intro A4 c4 w4 ho4 hx4 hap4) | fail)
  go_ret
  exact ⟨A4, c4, rfl, ho4, hx4, Nat.le_trans (by simp) hap4.grown.size⟩
end Go.Proofs.YtfipgmjaabggjaaDoor
namespace Go.Proofs.YtfipgmjaabggjaaDoor
open Go Go.RowKit
set_option maxRecDepth 4000

theorem idx6 (a b c d e f : Int) (w : World) (j : Int) (v : Int) (hj : (j = 0 ∧ v = a) ∨ (j = 1 ∧ v = b) ∨ (j = 2 ∧ v = c) ∨ (j = 3 ∧ v = d) ∨ (j = 4 ∧ v = e) ∨ (j = 5 ∧ v = f)) :
    (Instr.index 90 (.agg #[.int .i64 a, .int .i64 b, .int .i64 c, .int .i64 d, .int .i64 e, .int .i64 f]) (.int .i64 j)).run Tryd.prog w = .ok (.int .i64 v) w := by
  have hi : (Tryd.prog.info? 3).map (·.size) = some 1 := by kernel_rfl
  cases hq : Tryd.prog.info? 3 with
  | none => simp [hq] at hi
  | some i =>
    have hs1 : i.size = 1 := by simpa [hq] using hi
    rcases hj with ⟨rfl, rfl⟩ | ⟨rfl, rfl⟩ | ⟨rfl, rfl⟩ | ⟨rfl, rfl⟩ | ⟨rfl, rfl⟩ | ⟨rfl, rfl⟩ <;> simp [Instr.index, part, run_underlying Tryd.underlying90, Sem.run_bind, asIntOf, sizeOf, typeInfo, hq, hs1]
theorem box6 {w w' : World} {g t : Nat} {a b c d e f : Value} (h : Blk w g t #[a, b, c, d, e, f]) (hx : Ext w w') : w'.cell? ⟨g, 0, none⟩ = some a ∧ w'.cell? ⟨g, 1, none⟩ = some b ∧ w'.cell? ⟨g, 2, none⟩ = some c ∧ w'.cell? ⟨g, 3, none⟩ = some d ∧ w'.cell? ⟨g, 4, none⟩ = some e ∧ w'.cell? ⟨g, 5, none⟩ = some f := ⟨(h.ext hx).h.cell 0, (h.ext hx).h.cell 1, (h.ext hx).h.cell 2, (h.ext hx).h.cell 3, (h.ext hx).h.cell 4, (h.ext hx).h.cell 5⟩
set_option maxHeartbeats 2000000 in
theorem Time_no (y mo d h mi s : Int) (w : World) (hM : ¬ MayI y mo d h mi s) : Calls Tryd.prog 25 #[.agg (tci y mo d h mi s)] w fun e w' => e = .returned (.tuple #[.int .u8 0, .slice none 0 0, err 1]) ∧ Ext w w' := by
  have hC := fun W => isTime_any y mo d h mi s W false (by simp [hM])
  unfold tci at *
  clear hM
  go_enter Tryd.func25, Tryd.ntmps25
  go_wp2_with fail
  refine (hC _).mono ?_
  rintro e w1 ⟨rfl, hx1⟩
  have HX := Kp.mk (show Ext w w1 from (by (repeat (first | assumption | exact Ext.refl _ | apply Ext.drew | apply Ext.drewN | apply Ext.alloc | refine Ext.trans ?_ (by assumption))); first | done | fail))
  clear hx1
  go_wp2_with fail
  go_ret3
  exact ⟨rfl, HX.out⟩
set_option maxHeartbeats 4000000 in
theorem Time_ok0 (t : Tmt) (ht : MayT t) (y mo d h mi s y1 y2 : Int) (a1 : y = (t.y : Int)) (a2 : mo = (t.mo : Int)) (a3 : d = (t.d : Int)) (a4 : h = (t.h : Int)) (a5 : mi = (t.mi : Int)) (a6 : s = (t.s : Int)) (a7 : y1 = ((t.y % 100 : Nat) : Int)) (a8 : y2 = ((t.y / 100 : Nat) : Int)) (w : World) : Calls Tryd.prog 25 #[.agg (tci y mo d h mi s)] w fun e w' => ∃ A c, e = .returned (.tuple #[.int .u8 (ub (tmM t)), .slice A (tmB t).length c, .nilIface]) ∧ Own w' w.heap.size (.slice A (tmB t).length c) (tmB t).length (tmB t) ∧ Ext w w' := by
  have hC := fun W => isTime_any y mo d h mi s W true (by simp; exact ⟨t, ht, a1, a2, a3, a4, a5, a6⟩)
  have A1 := Kp.mk (And.intro a1 (And.intro a2 (And.intro a3 (And.intro a4 (And.intro a5 (And.intro a6 (And.intro a7 a8)))))))
  have p1 := Kp.mk a7
  have p2 := Kp.mk a2
  have p3 := Kp.mk a3
  have p4 := Kp.mk a4
  have p5 := Kp.mk a5
  have p6 := Kp.mk a6
  have p7 := Kp.mk a8
  have p0 := Kp.mk a1
  have r1 : y.tmod 100 = y1 := by rw [a1, a7]; exact tm_nat t.y 100 (by decide)
  have r2 : y.tdiv 100 = y2 := by rw [a1, a8]; exact td_nat t.y 100
  have r3 : IntKind.i64.wrap y2 = y2 := by have := ht.y2; rw [IntKind.wrap_i64]; omega
  clear a1 a2 a3 a4 a5 a6 a7 a8
  unfold tci at *
  have hmk := run_make0 15 15 rfl (by decide)
  have HB := Kp.mk (Blk.new w tmt #[.int .i64 y, .int .i64 mo, .int .i64 d, .int .i64 h, .int .i64 mi, .int .i64 s])
  have HT := Kp.mk ht
  clear ht
  go_enter Tryd.func25, Tryd.ntmps25
  go_wp2_with fail
  refine (hC _).mono ?_
  rintro e w1 ⟨rfl, hx1⟩
  obtain ⟨W0, hW0⟩ : ∃ W0, W0 = w.alloc (.cells #[.int .i64 y, .int .i64 mo, .int .i64 d, .int .i64 h, .int .i64 mi, .int .i64 s] tmt) := ⟨_, rfl⟩
  have hxw : Ext w W0 := by rw [hW0]; exact (by (repeat (first | assumption | exact Ext.refl _ | apply Ext.drew | apply Ext.drewN | apply Ext.alloc | refine Ext.trans ?_ (by assumption))); first | done | fail)
  rw [← hW0] at hx1 HB
  clear hC
  go_wp2_with fail
  refine wp_region_held_drew (S := fun w' => Ext w1 w') (by kernel_rfl) (Ext.refl w1).drew (fun hHeld => ?_)
  refine wpAnyH_take (i := 1) (oi := ⟨some 5, _, _, _, _, _⟩) (v := ?_) rfl (by kernel_rfl) (by kernel_rfl) (by kernel_rfl) (fun _ _ _ h => h) (Or.inl ⟨by rfl, ?_⟩) (by assumption) ?_
  rotate_left
  · (intro w hSw; (try dsimp only at hSw); go_simp; try with_reducible rfl)
  try simp only [Act.put, List.setIfInBounds_toArray, List.set_cons_zero, List.set_cons_succ]
  refine next_one 0 (by kernel_rfl) rfl (by rfl) fun K' HK' => ?_
  go_simp
  obtain ⟨B, hB⟩ : ∃ B, B = w1.heap.size := ⟨_, rfl⟩
  have ho2 : Own (w1.alloc (.cells (bv (zb 15)) 5)).drew w1.heap.size (.slice (some ⟨w1.heap.size, 0, none⟩) 0 15) 0 [] := (Own.made w1 _ 15 (Nat.le_refl _) (by decide)).ext (by (repeat (first | assumption | exact Ext.refl _ | apply Ext.drew | apply Ext.drewN | apply Ext.alloc | refine Ext.trans ?_ (by assumption))); first | done | fail)
  have hx2 : Ext w1 (w1.alloc (.cells (bv (zb 15)) 5)).drew := (by (repeat (first | assumption | exact Ext.refl _ | apply Ext.drew | apply Ext.drewN | apply Ext.alloc | refine Ext.trans ?_ (by assumption))); first | done | fail)
  have hx2d : Ext w1.drew (w1.alloc (.cells (bv (zb 15)) 5)).drew := (show Ext w1.drew (w1.drew.alloc (.cells (bv (zb 15)) 5)) from (by (repeat (first | assumption | exact Ext.refl _ | apply Ext.drew | apply Ext.drewN | apply Ext.alloc | refine Ext.trans ?_ (by assumption))); first | done | fail))
  generalize hw2 : (w1.alloc (.cells (bv (zb 15)) 5)).drew = w2 at *
  have hS2 := Ext.trans hHeld hx2d
  refine held_go HK' hS2 (fun _ => ?_)
  clear HK'
  refine held_more (S' := fun w' => Ext w2 w') (fun _ h => Ext.trans hS2 h) _ _ _ _ ?_
  clear hHeld hS2
  have hHeld : Ext w2 w2 := Ext.refl _
  try simp only [Act.put, List.setIfInBounds_toArray, List.set_cons_zero, List.set_cons_succ]
  refine wpAnyH_take (i := 2) (oi := ⟨some 6, _, _, _, _, _⟩) (v := ?_) rfl (by kernel_rfl) (by kernel_rfl) (by kernel_rfl) (fun _ _ _ h => h) (Or.inl ⟨by rfl, ?_⟩) (by assumption) ?_
  rotate_left
  · (intro w hSw; (try dsimp only at hSw); go_simp; try with_reducible rfl)
  try simp only [Act.put, List.setIfInBounds_toArray, List.set_cons_zero, List.set_cons_succ]
  refine wpAnyH_done (by kernel_rfl) ?_ _
  rw [← hB] at ho2 ⊢
  have HO := Kp.mk ho2
  have hB0 : W0.heap.size ≤ B := by rw [hB]; exact hx1.size
  have hB2 : B ≤ w2.heap.size := by rw [hB]; exact hx2.size
  have HX := Kp.mk (hx1.trans hx2)
  have HW := Kp.mk hxw
  have HG := Kp.mk hW0
  have hBw : w.heap.size ≤ B := Nat.le_trans hxw.size hB0
  have q1 : t.y % 100 < 100 := Nat.mod_lt _ (by decide)
  have q2 : t.mo < 100 := by have := HT.out.m2; omega
  have q3 : t.d < 100 := by have := HT.out.d2; have := dim_hi t.y t.mo; omega
  have q4 : t.h < 100 := by have := HT.out.h2; omega
  have q5 : t.mi < 100 := by have := HT.out.i2; omega
  have q6 : t.s < 100 := by have := HT.out.s2; omega
  have q7 : t.y / 100 < 100 := by have := HT.out.y2; omega
  have hidx := Kp.mk (fun W => idx6 y1 mo d h mi s W)
  clear hx2d hmk hx1 hx2 ho2 hxw hW0 hB hw2
  by_cases hy : 1950 ≤ t.y ∧ t.y ≤ 2049
  · obtain ⟨c0, k1, k2, k3, k4, k5⟩ := box6 HB.out HX.out
    have b1 : decide (y < 1950) = false := decide_eq_false (by have := p0.out; omega)
    have b2 : decide (2049 < y) = false := decide_eq_false (by have := p0.out; omega)
    go_wp2_with fail
    go_loopw [6, 41] (fun v i wr => ∃ j N : Nat, ∃ A3 c3, j ≤ 6 ∧ N = 0 + 2 * j ∧ i = .int .i64 (j : Int) ∧ v = .slice A3 N c3 ∧ Own wr B (.slice A3 N c3) N (([] : List (BitVec 8)) ++ ([t.y % 100, t.mo, t.d, t.h, t.mi, t.s].take j).flatMap d2) ∧ Ext W0 wr ∧ B ≤ wr.heap.size) (fun _ i _ => 6 - (intOf i).toNat)
    case atStart => exact ⟨0, 0, _, _, by omega, rfl, rfl, rfl, HO.out, HX.out, hB2⟩
    case round =>
      obtain ⟨j, N, A3, c3, hj, hN, rfl, rfl, ho, hx, hsz⟩ := hrel
      have HN := Kp.mk hN
      have hN3 : N ≤ 1000 := by omega
      have HO3 := Kp.mk ho
      have HX3 := Kp.mk hx
      clear ho hx hN
      rcases (by omega : j = 0 ∨ j = 1 ∨ j = 2 ∨ j = 3 ∨ j = 4 ∨ j = 5 ∨ j = 6) with rfl | rfl | rfl | rfl | rfl | rfl | rfl
      · have hi := fun W => hidx.out W 0 y1 (by omega)
        go_wp2_with fail
        have hwp := withPair_any (w0 := W0) HO3.out HX3.out hB0 hsz (by omega) _ q1
        rw [← p1.out] at hwp
        refine hwp.mono ?_
        rintro e w4 ⟨A4, c4, rfl, ho4, hx4, hz4⟩
        have HO4 := Kp.mk ho4
        have HX4 := Kp.mk hx4
        clear ho4 hx4
        go_wp2_with fail
        go_roundw
        case rel => exact ⟨1, N + 2, A4, c4, by omega, by have := HN.out; omega, by go_num, rfl, by simpa using HO4.out, HX4.out, Nat.le_trans hsz hz4⟩
        case measure => simp [intOf]
      · have hi := fun W => hidx.out W 1 mo (by omega)
        go_wp2_with fail
        have hwp := withPair_any (w0 := W0) HO3.out HX3.out hB0 hsz (by omega) _ q2
        rw [← p2.out] at hwp
        refine hwp.mono ?_
        rintro e w4 ⟨A4, c4, rfl, ho4, hx4, hz4⟩
        have HO4 := Kp.mk ho4
        have HX4 := Kp.mk hx4
        clear ho4 hx4
        go_wp2_with fail
        go_roundw
        case rel => exact ⟨2, N + 2, A4, c4, by omega, by have := HN.out; omega, by go_num, rfl, by simpa using HO4.out, HX4.out, Nat.le_trans hsz hz4⟩
        case measure => simp [intOf]
      · have hi := fun W => hidx.out W 2 d (by omega)
        go_wp2_with fail
        have hwp := withPair_any (w0 := W0) HO3.out HX3.out hB0 hsz (by omega) _ q3
        rw [← p3.out] at hwp
        refine hwp.mono ?_
        rintro e w4 ⟨A4, c4, rfl, ho4, hx4, hz4⟩
        have HO4 := Kp.mk ho4
        have HX4 := Kp.mk hx4
        clear ho4 hx4
        go_wp2_with fail
        go_roundw
        case rel => exact ⟨3, N + 2, A4, c4, by omega, by have := HN.out; omega, by go_num, rfl, by simpa using HO4.out, HX4.out, Nat.le_trans hsz hz4⟩
        case measure => simp [intOf]
      · have hi := fun W => hidx.out W 3 h (by omega)
        go_wp2_with fail
        have hwp := withPair_any (w0 := W0) HO3.out HX3.out hB0 hsz (by omega) _ q4
        rw [← p4.out] at hwp
        refine hwp.mono ?_
        rintro e w4 ⟨A4, c4, rfl, ho4, hx4, hz4⟩
        have HO4 := Kp.mk ho4
        have HX4 := Kp.mk hx4
        clear ho4 hx4
        go_wp2_with fail
        go_roundw
        case rel => exact ⟨4, N + 2, A4, c4, by omega, by have := HN.out; omega, by go_num, rfl, by simpa using HO4.out, HX4.out, Nat.le_trans hsz hz4⟩
        case measure => simp [intOf]
      · have hi := fun W => hidx.out W 4 mi (by omega)
        go_wp2_with fail
        have hwp := withPair_any (w0 := W0) HO3.out HX3.out hB0 hsz (by omega) _ q5
        rw [← p5.out] at hwp
        refine hwp.mono ?_
        rintro e w4 ⟨A4, c4, rfl, ho4, hx4, hz4⟩
        have HO4 := Kp.mk ho4
        have HX4 := Kp.mk hx4
        clear ho4 hx4
        go_wp2_with fail
        go_roundw
        case rel => exact ⟨5, N + 2, A4, c4, by omega, by have := HN.out; omega, by go_num, rfl, by simpa using HO4.out, HX4.out, Nat.le_trans hsz hz4⟩
        case measure => simp [intOf]
      · have hi := fun W => hidx.out W 5 s (by omega)
        go_wp2_with fail
        have hwp := withPair_any (w0 := W0) HO3.out HX3.out hB0 hsz (by omega) _ q6
        rw [← p6.out] at hwp
        refine hwp.mono ?_
        rintro e w4 ⟨A4, c4, rfl, ho4, hx4, hz4⟩
        have HO4 := Kp.mk ho4
        have HX4 := Kp.mk hx4
        clear ho4 hx4
        go_wp2_with fail
        go_roundw
        case rel => exact ⟨6, N + 2, A4, c4, by omega, by have := HN.out; omega, by go_num, rfl, by simpa using HO4.out, HX4.out, Nat.le_trans hsz hz4⟩
        case measure => simp [intOf]
      · go_wp2_with (first | (at_builtin; refine wpList_append_bs rfl (.tmp 49) (.tmp 50) rfl B _ N _ rfl (HO3.out.ext (by (repeat (first | assumption | exact Ext.refl _ | apply Ext.drew | apply Ext.drewN | apply Ext.alloc | refine Ext.trans ?_ (by assumption))); first | done | fail)) _ 1 1 [90] rfl (const_bs wr _ [90] 1 1 (0, 0) rfl rfl (by decide)) (by omega) (N + 1) rfl _ rfl W0 (HX3.out.trans (by (repeat (first | assumption | exact Ext.refl _ | apply Ext.drew | apply Ext.drewN | apply Ext.alloc | refine Ext.trans ?_ (by assumption))); first | done | fail)) hB0 (Nat.le_trans hsz (by simp)) ?_; intro A5 c5 w5 ho5 hx5 hap5) | fail)
        go_ret3
        have eB : tmB t = ([] : List (BitVec 8)) ++ ([t.y % 100, t.mo, t.d, t.h, t.mi, t.s].take 6).flatMap d2 ++ [90] := by unfold tmB; rw [if_pos hy]; rfl
        have eM : ub (tmM t) = 23 := by unfold tmM; rw [if_pos hy]; rfl
        obtain rfl : N = 12 := HN.out
        rw [eM, eB]
        exact ⟨A5, c5, rfl, ho5.lower hBw, HW.out.trans hx5⟩
  · by_cases hy2 : t.y < 1950
    · have b1 : decide (y < 1950) = true := decide_eq_true (by have := p0.out; omega)
      obtain ⟨c0, k1, k2, k3, k4, k5⟩ := box6 HB.out HX.out
      go_wp2_with fail
      have hwp := withPair_any (w0 := W0) HO.out HX.out hB0 hB2 (by decide) _ q7
      rw [← p7.out] at hwp
      refine hwp.mono ?_
      rintro e w3 ⟨A3, c3, rfl, ho3, hx3, hz3⟩
      have HO2 := Kp.mk ho3
      have HX2 := Kp.mk hx3
      have hB3 : B ≤ w3.heap.size := Nat.le_trans hB2 hz3
      clear ho3 c0 k1 k2 k3 k4 k5
      obtain ⟨c0, k1, k2, k3, k4, k5⟩ := box6 HB.out HX2.out
      clear hx3
      go_wp2_with fail
      go_loopw [6, 41] (fun v i wr => ∃ j N : Nat, ∃ A3 c3, j ≤ 6 ∧ N = 2 + 2 * j ∧ i = .int .i64 (j : Int) ∧ v = .slice A3 N c3 ∧ Own wr B (.slice A3 N c3) N (d2 (t.y / 100) ++ ([t.y % 100, t.mo, t.d, t.h, t.mi, t.s].take j).flatMap d2) ∧ Ext W0 wr ∧ B ≤ wr.heap.size) (fun _ i _ => 6 - (intOf i).toNat)
      case atStart => exact ⟨0, 2, _, _, by omega, rfl, rfl, rfl, by simpa using HO2.out, HX2.out, hB3⟩
      case round =>
        obtain ⟨j, N, A3, c3, hj, hN, rfl, rfl, ho, hx, hsz⟩ := hrel
        have HN := Kp.mk hN
        have hN3 : N ≤ 1000 := by omega
        have HO3 := Kp.mk ho
        have HX3 := Kp.mk hx
        clear ho hx hN
        rcases (by omega : j = 0 ∨ j = 1 ∨ j = 2 ∨ j = 3 ∨ j = 4 ∨ j = 5 ∨ j = 6) with rfl | rfl | rfl | rfl | rfl | rfl | rfl
        · have hi := fun W => hidx.out W 0 y1 (by omega)
          go_wp2_with fail
          have hwp := withPair_any (w0 := W0) HO3.out HX3.out hB0 hsz (by omega) _ q1
          rw [← p1.out] at hwp
          refine hwp.mono ?_
          rintro e w4 ⟨A4, c4, rfl, ho4, hx4, hz4⟩
          have HO4 := Kp.mk ho4
          have HX4 := Kp.mk hx4
          clear ho4 hx4
          go_wp2_with fail
          go_roundw
          case rel => exact ⟨1, N + 2, A4, c4, by omega, by have := HN.out; omega, by go_num, rfl, by simpa using HO4.out, HX4.out, Nat.le_trans hsz hz4⟩
          case measure => simp [intOf]
        · have hi := fun W => hidx.out W 1 mo (by omega)
          go_wp2_with fail
          have hwp := withPair_any (w0 := W0) HO3.out HX3.out hB0 hsz (by omega) _ q2
          rw [← p2.out] at hwp
          refine hwp.mono ?_
          rintro e w4 ⟨A4, c4, rfl, ho4, hx4, hz4⟩
          have HO4 := Kp.mk ho4
          have HX4 := Kp.mk hx4
          clear ho4 hx4
          go_wp2_with fail
          go_roundw
          case rel => exact ⟨2, N + 2, A4, c4, by omega, by have := HN.out; omega, by go_num, rfl, by simpa using HO4.out, HX4.out, Nat.le_trans hsz hz4⟩
          case measure => simp [intOf]
        · have hi := fun W => hidx.out W 2 d (by omega)
          go_wp2_with fail
          have hwp := withPair_any (w0 := W0) HO3.out HX3.out hB0 hsz (by omega) _ q3
          rw [← p3.out] at hwp
          refine hwp.mono ?_
          rintro e w4 ⟨A4, c4, rfl, ho4, hx4, hz4⟩
          have HO4 := Kp.mk ho4
          have HX4 := Kp.mk hx4
          clear ho4 hx4
          go_wp2_with fail
          go_roundw
          case rel => exact ⟨3, N + 2, A4, c4, by omega, by have := HN.out; omega, by go_num, rfl, by simpa using HO4.out, HX4.out, Nat.le_trans hsz hz4⟩
          case measure => simp [intOf]
        · have hi := fun W => hidx.out W 3 h (by omega)
          go_wp2_with fail
          have hwp := withPair_any (w0 := W0) HO3.out HX3.out hB0 hsz (by omega) _ q4
          rw [← p4.out] at hwp
          refine hwp.mono ?_
          rintro e w4 ⟨A4, c4, rfl, ho4, hx4, hz4⟩
          have HO4 := Kp.mk ho4
          have HX4 := Kp.mk hx4
          clear ho4 hx4
          go_wp2_with fail
          go_roundw
          case rel => exact ⟨4, N + 2, A4, c4, by omega, by have := HN.out; omega, by go_num, rfl, by simpa using HO4.out, HX4.out, Nat.le_trans hsz hz4⟩
          case measure => simp [intOf]
        · have hi := fun W => hidx.out W 4 mi (by omega)
          go_wp2_with fail
          have hwp := withPair_any (w0 := W0) HO3.out HX3.out hB0 hsz (by omega) _ q5
          rw [← p5.out] at hwp
          refine hwp.mono ?_
          rintro e w4 ⟨A4, c4, rfl, ho4, hx4, hz4⟩
          have HO4 := Kp.mk ho4
          have HX4 := Kp.mk hx4
          clear ho4 hx4
          go_wp2_with fail
          go_roundw
          case rel => exact ⟨5, N + 2, A4, c4, by omega, by have := HN.out; omega, by go_num, rfl, by simpa using HO4.out, HX4.out, Nat.le_trans hsz hz4⟩
          case measure => simp [intOf]
        · have hi := fun W => hidx.out W 5 s (by omega)
          go_wp2_with fail
          have hwp := withPair_any (w0 := W0) HO3.out HX3.out hB0 hsz (by omega) _ q6
          rw [← p6.out] at hwp
          refine hwp.mono ?_
          rintro e w4 ⟨A4, c4, rfl, ho4, hx4, hz4⟩
          have HO4 := Kp.mk ho4
          have HX4 := Kp.mk hx4
          clear ho4 hx4
          go_wp2_with fail
          go_roundw
          case rel => exact ⟨6, N + 2, A4, c4, by omega, by have := HN.out; omega, by go_num, rfl, by simpa using HO4.out, HX4.out, Nat.le_trans hsz hz4⟩
          case measure => simp [intOf]
        · go_wp2_with (first | (at_builtin; refine wpList_append_bs rfl (.tmp 49) (.tmp 50) rfl B _ N _ rfl (HO3.out.ext (by (repeat (first | assumption | exact Ext.refl _ | apply Ext.drew | apply Ext.drewN | apply Ext.alloc | refine Ext.trans ?_ (by assumption))); first | done | fail)) _ 1 1 [90] rfl (const_bs wr _ [90] 1 1 (0, 0) rfl rfl (by decide)) (by omega) (N + 1) rfl _ rfl W0 (HX3.out.trans (by (repeat (first | assumption | exact Ext.refl _ | apply Ext.drew | apply Ext.drewN | apply Ext.alloc | refine Ext.trans ?_ (by assumption))); first | done | fail)) hB0 (Nat.le_trans hsz (by simp)) ?_; intro A5 c5 w5 ho5 hx5 hap5) | fail)
          go_ret3
          have eB : tmB t = d2 (t.y / 100) ++ ([t.y % 100, t.mo, t.d, t.h, t.mi, t.s].take 6).flatMap d2 ++ [90] := by unfold tmB; rw [if_neg hy]; rfl
          have eM : ub (tmM t) = 24 := by unfold tmM; rw [if_neg hy]; rfl
          obtain rfl : N = 14 := HN.out
          rw [eM, eB]
          exact ⟨A5, c5, rfl, ho5.lower hBw, HW.out.trans hx5⟩
    · have b1 : decide (y < 1950) = false := decide_eq_false (by have := p0.out; omega)
      have b2 : decide (2049 < y) = true := decide_eq_true (by have := p0.out; omega)
      obtain ⟨c0, k1, k2, k3, k4, k5⟩ := box6 HB.out HX.out
      go_wp2_with fail
      have hwp := withPair_any (w0 := W0) HO.out HX.out hB0 hB2 (by decide) _ q7
      rw [← p7.out] at hwp
      refine hwp.mono ?_
      rintro e w3 ⟨A3, c3, rfl, ho3, hx3, hz3⟩
      have HO2 := Kp.mk ho3
      have HX2 := Kp.mk hx3
      have hB3 : B ≤ w3.heap.size := Nat.le_trans hB2 hz3
      clear ho3 c0 k1 k2 k3 k4 k5
      obtain ⟨c0, k1, k2, k3, k4, k5⟩ := box6 HB.out HX2.out
      clear hx3
      go_wp2_with fail
      go_loopw [6, 41] (fun v i wr => ∃ j N : Nat, ∃ A3 c3, j ≤ 6 ∧ N = 2 + 2 * j ∧ i = .int .i64 (j : Int) ∧ v = .slice A3 N c3 ∧ Own wr B (.slice A3 N c3) N (d2 (t.y / 100) ++ ([t.y % 100, t.mo, t.d, t.h, t.mi, t.s].take j).flatMap d2) ∧ Ext W0 wr ∧ B ≤ wr.heap.size) (fun _ i _ => 6 - (intOf i).toNat)
      case atStart => exact ⟨0, 2, _, _, by omega, rfl, rfl, rfl, by simpa using HO2.out, HX2.out, hB3⟩
      case round =>
        obtain ⟨j, N, A3, c3, hj, hN, rfl, rfl, ho, hx, hsz⟩ := hrel
        have HN := Kp.mk hN
        have hN3 : N ≤ 1000 := by omega
        have HO3 := Kp.mk ho
        have HX3 := Kp.mk hx
        clear ho hx hN
        rcases (by omega : j = 0 ∨ j = 1 ∨ j = 2 ∨ j = 3 ∨ j = 4 ∨ j = 5 ∨ j = 6) with rfl | rfl | rfl | rfl | rfl | rfl | rfl
        · have hi := fun W => hidx.out W 0 y1 (by omega)
          go_wp2_with fail
          have hwp := withPair_any (w0 := W0) HO3.out HX3.out hB0 hsz (by omega) _ q1
          rw [← p1.out] at hwp
          refine hwp.mono ?_
          rintro e w4 ⟨A4, c4, rfl, ho4, hx4, hz4⟩
          have HO4 := Kp.mk ho4
          have HX4 := Kp.mk hx4
          clear ho4 hx4
          go_wp2_with fail
          go_roundw
          case rel => exact ⟨1, N + 2, A4, c4, by omega, by have := HN.out; omega, by go_num, rfl, by simpa using HO4.out, HX4.out, Nat.le_trans hsz hz4⟩
          case measure => simp [intOf]
        · have hi := fun W => hidx.out W 1 mo (by omega)
          go_wp2_with fail
          have hwp := withPair_any (w0 := W0) HO3.out HX3.out hB0 hsz (by omega) _ q2
          rw [← p2.out] at hwp
          refine hwp.mono ?_
          rintro e w4 ⟨A4, c4, rfl, ho4, hx4, hz4⟩
          have HO4 := Kp.mk ho4
          have HX4 := Kp.mk hx4
          clear ho4 hx4
          go_wp2_with fail
          go_roundw
          case rel => exact ⟨2, N + 2, A4, c4, by omega, by have := HN.out; omega, by go_num, rfl, by simpa using HO4.out, HX4.out, Nat.le_trans hsz hz4⟩
          case measure => simp [intOf]
        · have hi := fun W => hidx.out W 2 d (by omega)
          go_wp2_with fail
          have hwp := withPair_any (w0 := W0) HO3.out HX3.out hB0 hsz (by omega) _ q3
          rw [← p3.out] at hwp
          refine hwp.mono ?_
          rintro e w4 ⟨A4, c4, rfl, ho4, hx4, hz4⟩
          have HO4 := Kp.mk ho4
          have HX4 := Kp.mk hx4
          clear ho4 hx4
          go_wp2_with fail
          go_roundw
          case rel => exact ⟨3, N + 2, A4, c4, by omega, by have := HN.out; omega, by go_num, rfl, by simpa using HO4.out, HX4.out, Nat.le_trans hsz hz4⟩
          case measure => simp [intOf]
        · have hi := fun W => hidx.out W 3 h (by omega)
          go_wp2_with fail
          have hwp := withPair_any (w0 := W0) HO3.out HX3.out hB0 hsz (by omega) _ q4
          rw [← p4.out] at hwp
          refine hwp.mono ?_
          rintro e w4 ⟨A4, c4, rfl, ho4, hx4, hz4⟩
          have HO4 := Kp.mk ho4
          have HX4 := Kp.mk hx4
          clear ho4 hx4
          go_wp2_with fail
          go_roundw
          case rel => exact ⟨4, N + 2, A4, c4, by omega, by have := HN.out; omega, by go_num, rfl, by simpa using HO4.out, HX4.out, Nat.le_trans hsz hz4⟩
          case measure => simp [intOf]
        · have hi := fun W => hidx.out W 4 mi (by omega)
          go_wp2_with fail
          have hwp := withPair_any (w0 := W0) HO3.out HX3.out hB0 hsz (by omega) _ q5
          rw [← p5.out] at hwp
          refine hwp.mono ?_
          rintro e w4 ⟨A4, c4, rfl, ho4, hx4, hz4⟩
          have HO4 := Kp.mk ho4
          have HX4 := Kp.mk hx4
          clear ho4 hx4
          go_wp2_with fail
          go_roundw
          case rel => exact ⟨5, N + 2, A4, c4, by omega, by have := HN.out; omega, by go_num, rfl, by simpa using HO4.out, HX4.out, Nat.le_trans hsz hz4⟩
          case measure => simp [intOf]
        · have hi := fun W => hidx.out W 5 s (by omega)
          go_wp2_with fail
          have hwp := withPair_any (w0 := W0) HO3.out HX3.out hB0 hsz (by omega) _ q6
          rw [← p6.out] at hwp
          refine hwp.mono ?_
          rintro e w4 ⟨A4, c4, rfl, ho4, hx4, hz4⟩
          have HO4 := Kp.mk ho4
          have HX4 := Kp.mk hx4
          clear ho4 hx4
          go_wp2_with fail
          go_roundw
          case rel => exact ⟨6, N + 2, A4, c4, by omega, by have := HN.out; omega, by go_num, rfl, by simpa using HO4.out, HX4.out, Nat.le_trans hsz hz4⟩
          case measure => simp [intOf]
        · go_wp2_with (first | (at_builtin; refine wpList_append_bs rfl (.tmp 49) (.tmp 50) rfl B _ N _ rfl (HO3.out.ext (by (repeat (first | assumption | exact Ext.refl _ | apply Ext.drew | apply Ext.drewN | apply Ext.alloc | refine Ext.trans ?_ (by assumption))); first | done | fail)) _ 1 1 [90] rfl (const_bs wr _ [90] 1 1 (0, 0) rfl rfl (by decide)) (by omega) (N + 1) rfl _ rfl W0 (HX3.out.trans (by (repeat (first | assumption | exact Ext.refl _ | apply Ext.drew | apply Ext.drewN | apply Ext.alloc | refine Ext.trans ?_ (by assumption))); first | done | fail)) hB0 (Nat.le_trans hsz (by simp)) ?_; intro A5 c5 w5 ho5 hx5 hap5) | fail)
          go_ret3
          have eB : tmB t = d2 (t.y / 100) ++ ([t.y % 100, t.mo, t.d, t.h, t.mi, t.s].take 6).flatMap d2 ++ [90] := by unfold tmB; rw [if_neg hy]; rfl
          have eM : ub (tmM t) = 24 := by unfold tmM; rw [if_neg hy]; rfl
          obtain rfl : N = 14 := HN.out
          rw [eM, eB]
          exact ⟨A5, c5, rfl, ho5.lower hBw, HW.out.trans hx5⟩
theorem Time_ok (t : Tmt) (ht : MayT t) (w : World) : Calls Tryd.prog 25 #[.agg (tcs t)] w fun e w' => ∃ A c, e = .returned (.tuple #[.int .u8 (ub (tmM t)), .slice A (tmB t).length c, .nilIface]) ∧ Own w' w.heap.size (.slice A (tmB t).length c) (tmB t).length (tmB t) ∧ Ext w w' :=
  Time_ok0 t ht _ _ _ _ _ _ _ _ rfl rfl rfl rfl rfl rfl rfl rfl w
end Go.Proofs.YtfipgmjaabggjaaDoor
namespace Go.Proofs.YtfipgmjaabggjaaDoor
open Go Go.RowKit
set_option maxRecDepth 4000

theorem mdN_hi (y m : Nat) : mdN y m ≤ 31 * m := by
  induction m with
  | zero => exact Nat.le_refl _
  | succ m ih => rw [mdN]; have := dim_hi y (m + 1); omega
theorem box6' {w w' : World} {g t : Nat} {a b c d e f : Value} (h : Blk w g t #[a, b, c, d, e, f]) (hx : Ext w w') : w'.cell? ⟨g, 0, none⟩ = some a ∧ w'.cell? ⟨g, 1, none⟩ = some b ∧ w'.cell? ⟨g, 2, none⟩ = some c ∧ w'.cell? ⟨g, 3, none⟩ = some d ∧ w'.cell? ⟨g, 4, none⟩ = some e ∧ w'.cell? ⟨g, 5, none⟩ = some f := ⟨(h.ext hx).h.cell 0, (h.ext hx).h.cell 1, (h.ext hx).h.cell 2, (h.ext hx).h.cell 3, (h.ext hx).h.cell 4, (h.ext hx).h.cell 5⟩
set_option maxHeartbeats 2000000 in
theorem Count_no (y mo d h mi s : Int) (w : World) (hM : ¬ MayI y mo d h mi s) : Calls Tryd.prog 27 #[.agg (tci y mo d h mi s)] w fun e w' => e = .returned (.tuple #[.int .i64 0, err 1]) ∧ Ext w w' := by
  have hC := fun W => isTime_any y mo d h mi s W false (by simp [hM])
  unfold tci at *
  clear hM
  go_enter Tryd.func27, Tryd.ntmps27
  go_wp2_with fail
  refine (hC _).mono ?_
  rintro e w1 ⟨rfl, hx1⟩
  have HX := Kp.mk (show Ext w w1 from (by (repeat (first | assumption | exact Ext.refl _ | apply Ext.drew | apply Ext.drewN | apply Ext.alloc | refine Ext.trans ?_ (by assumption))); first | done | fail))
  clear hx1
  go_wp2_with fail
  go_ret2
  exact ⟨rfl, HX.out⟩
set_option maxHeartbeats 4000000 in
theorem Count_ok (t : Tmt) (ht : MayT t) (w : World) : Calls Tryd.prog 27 #[.agg (tcs t)] w fun e w' => e = .returned (.tuple #[.int .i64 (cntT t : Int), .nilIface]) ∧ Ext w w' := by
  have hC := fun W => isTime_any t.y t.mo t.d t.h t.mi t.s W true (by simp; exact ⟨t, ht, rfl, rfl, rfl, rfl, rfl, rfl⟩)
  have hA := fun W => daysAhead_any (t.y - 1) (by have := ht.y2; omega) W
  rw [show t.y - 1 + 1 = t.y by have := ht.y1; omega] at hA
  have hD := Kp.mk (fun m hm W => daysOf_any t.y m hm W)
  have q1 := ht.y1
  have q2 := ht.y2
  have q3 := ht.m1
  have q4 := ht.m2
  have q5 := ht.d1
  have q6 := ht.d2
  have q7 := ht.h2
  have q8 := ht.i2
  have q9 := ht.s2
  have q0 := dim_hi t.y t.mo
  have hyd : ydN (t.y - 1) ≤ 3652059 := by
    have h1 := ydN_mono (show t.y - 1 ≤ 9999 by omega)
    have := ydN_eq 9999
    omega
  have hm12 := mdN_hi t.y (t.mo - 1)
  have hcnt : (ydN (t.y - 1) + t.d - 1 + mdN t.y (t.mo - 1)) * 86400 + ((t.h * 60 + t.mi) * 60 + t.s) = cntT t := by
    unfold cntT dayT
    have : ydN (t.y - 1) + t.d - 1 + mdN t.y (t.mo - 1) = ydN (t.y - 1) + mdN t.y (t.mo - 1) + (t.d - 1) := by omega
    rw [this]
    omega
  have hmd := fun m => dim_hi t.y m
  have hms : ∀ m, mdN t.y (m + 1) = mdN t.y m + dimM t.y (m + 1) := fun m => rfl
  have hm0 : mdN t.y 0 = 0 := rfl
  have hmh := fun m => mdN_hi t.y m
  have hDd := fun m => daysOf_any t.y m
  clear ht
  unfold tcs
  obtain ⟨y, mo, d, h, mi, s⟩ := t
  simp only at *
  generalize cntT _ = C at *
  generalize ydN (y - 1) = Y0 at *
  generalize mdN y = F at *
  generalize dimM y = G at *
  unfold tci at *
  have e1 : IntKind.i64.wrap ((Y0 : Int) + (d : Int)) = ((Y0 + d : Nat) : Int) := by rw [IntKind.wrap_i64]; omega
  have e2 : IntKind.i64.wrap (((Y0 + d : Nat) : Int) - 1) = ((Y0 + d - 1 : Nat) : Int) := by rw [IntKind.wrap_i64]; omega
  have e3 : IntKind.i64.wrap ((h : Int) * 60) = ((h * 60 : Nat) : Int) := by rw [IntKind.wrap_i64]; omega
  have e4 : IntKind.i64.wrap (((h * 60 : Nat) : Int) + (mi : Int)) = ((h * 60 + mi : Nat) : Int) := by rw [IntKind.wrap_i64]; omega
  have e5 : IntKind.i64.wrap (((h * 60 + mi : Nat) : Int) * 60) = (((h * 60 + mi) * 60 : Nat) : Int) := by rw [IntKind.wrap_i64]; omega
  have e6 : IntKind.i64.wrap ((((h * 60 + mi) * 60 : Nat) : Int) + (s : Int)) = (((h * 60 + mi) * 60 + s : Nat) : Int) := by rw [IntKind.wrap_i64]; omega
  have e7 : IntKind.i64.wrap (((Y0 + d - 1 + F (mo - 1) : Nat) : Int) * 86400) = (((Y0 + d - 1 + F (mo - 1)) * 86400 : Nat) : Int) := by rw [IntKind.wrap_i64]; omega
  have e8 : IntKind.i64.wrap ((((Y0 + d - 1 + F (mo - 1)) * 86400 : Nat) : Int) + (((h * 60 + mi) * 60 + s : Nat) : Int)) = (C : Int) := by rw [IntKind.wrap_i64]; omega
  generalize (Y0 + d - 1 + F (mo - 1)) * 86400 = z7 at *
  generalize (h * 60 + mi) * 60 + s = z6 at *
  generalize (h * 60 + mi) * 60 = z5 at *
  generalize h * 60 + mi = z4 at *
  generalize h * 60 = z3 at *
  have hz0 : Y0 + d - 1 ≤ 3652100 := by omega
  generalize hz1 : Y0 + d - 1 = z1 at *
  generalize hz2 : Y0 + d = z2 at *
  have HB := Kp.mk (Blk.new w tmt #[.int .i64 (y : Int), .int .i64 (mo : Int), .int .i64 (d : Int), .int .i64 (h : Int), .int .i64 (mi : Int), .int .i64 (s : Int)])
  have HF := Kp.mk (And.intro hm0 (And.intro hms (And.intro hmd hmh)))
  have HQ := Kp.mk (And.intro q3 q4)
  have HE := Kp.mk hDd
  clear hms hmd hmh hDd hm0 q1 q2 q3 q4 q5 q6 q7 q8 q9 q0 hyd hm12 hcnt hz1 hz2
  go_enter Tryd.func27, Tryd.ntmps27
  go_wp2_with fail
  refine (hC _).mono ?_
  rintro e w1 ⟨rfl, hx1⟩
  obtain ⟨W0, hW0⟩ : ∃ W0, W0 = w.alloc (.cells #[.int .i64 (y : Int), .int .i64 (mo : Int), .int .i64 (d : Int), .int .i64 (h : Int), .int .i64 (mi : Int), .int .i64 (s : Int)] tmt) := ⟨_, rfl⟩
  have hxw : Ext w W0 := by rw [hW0]; exact (by (repeat (first | assumption | exact Ext.refl _ | apply Ext.drew | apply Ext.drewN | apply Ext.alloc | refine Ext.trans ?_ (by assumption))); first | done | fail)
  rw [← hW0] at hx1 HB
  clear hC hW0
  obtain ⟨c0, k1, k2, k3, k4, k5⟩ := box6' HB.out hx1
  have HX := Kp.mk hx1
  have HW := Kp.mk hxw
  clear hx1 hxw
  go_wp2_with fail
  go_quiet (first | (go_at_call 55; exact Calls.quiet_of_same (hA _)) | fail)
  go_wp2_with fail
  have HX2 := Kp.mk (show Ext W0 (w1.drewN nq) from HX.out.trans (by (repeat (first | assumption | exact Ext.refl _ | apply Ext.drew | apply Ext.drewN | apply Ext.alloc | refine Ext.trans ?_ (by assumption))); first | done | fail))
  clear c0 k1 k2 k3 k4 k5 e1 e2 hA
  go_loopw [4, 5] (fun v i wr => ∃ m D : Nat, 1 ≤ m ∧ m ≤ mo ∧ D = z1 + F (m - 1) ∧ i = .int .i64 (m : Int) ∧ v = .int .i64 (D : Int) ∧ Ext W0 wr) (fun _ i _ => mo - (intOf i).toNat)
  case atStart => exact ⟨1, z1, by omega, HQ.out.1, by rw [show 1 - 1 = 0 from rfl, HF.out.1]; rfl, rfl, rfl, HX2.out⟩
  case round =>
    obtain ⟨m, D, hm1, hm, hDm, rfl, rfl, hx⟩ := hrel
    obtain ⟨c0, k1, k2, k3, k4, k5⟩ := box6' HB.out hx
    have HX3 := Kp.mk hx
    by_cases hlt : m < mo
    · have b1 : (m : Int) < (mo : Int) := by omega
      have hC := HE.out m ⟨hm1, by have := HQ.out.2; omega⟩
      have f1 := HF.out.2.1 (m - 1)
      rw [show m - 1 + 1 = m by omega] at f1
      have f2 := HF.out.2.2.1 m
      have f3 := HF.out.2.2.2 (m - 1)
      have s1 : IntKind.i64.wrap ((D : Int) + (G m : Int)) = ((D + G m : Nat) : Int) := by have := HQ.out.2; rw [IntKind.wrap_i64]; omega
      have s2 : IntKind.i64.wrap ((m : Int) + 1) = (m : Int) + 1 := by have := HQ.out.2; rw [IntKind.wrap_i64]; omega
      have HR := Kp.mk (show D + G m = z1 + F (m + 1 - 1) by rw [Nat.add_sub_cancel, f1, hDm]; omega)
      generalize D + G m = D2 at *
      generalize G m = gm at *
      clear f1 f2 f3 hx hDm
      go_wp2_with (go_at_call 56; refine (hC _).mono ?_; rintro e w3 ⟨rfl, hw⟩; obtain rfl : wr = w3 := hw.symm)
      go_roundw
      case rel => exact ⟨m + 1, D2, by omega, by omega, HR.out, by go_num, rfl, HX3.out.trans (by (repeat (first | assumption | exact Ext.refl _ | apply Ext.drew | apply Ext.drewN | apply Ext.alloc | refine Ext.trans ?_ (by assumption))); first | done | fail)⟩
      case measure => simp [intOf]; omega
    · obtain rfl : m = mo := by omega
      have b1 : ¬ (m : Int) < (m : Int) := by omega
      rw [← hDm] at e7
      clear hx hDm
      go_wp2_with fail
      go_ret2
      exact ⟨rfl, HW.out.trans (HX3.out.trans (by (repeat (first | assumption | exact Ext.refl _ | apply Ext.drew | apply Ext.drewN | apply Ext.alloc | refine Ext.trans ?_ (by assumption))); first | done | fail))⟩
end Go.Proofs.YtfipgmjaabggjaaDoor
namespace Go.Proofs.YtfipgmjaabggjaaDoor
open Go
set_option maxRecDepth 4000

/-- the groups ahead of the last one, each in a byte whose highest bit is 1; all of them -/
def g7hi (n : Nat) : List (BitVec 8) := if h : n = 0 then [] else g7hi (n / 128) ++ [BitVec.ofNat 8 (n % 128 + 128)]
  termination_by n
  decreasing_by omega
def g7 (n : Nat) : List (BitVec 8) := g7hi (n / 128) ++ [BitVec.ofNat 8 (n % 128)]
theorem g7hi_zero : g7hi 0 = [] := by rw [g7hi]; rfl
theorem g7hi_pos (n : Nat) (h : n ≠ 0) : g7hi n = g7hi (n / 128) ++ [BitVec.ofNat 8 (n % 128 + 128)] := by
  conv => lhs; rw [g7hi]
  rw [dif_neg h]
theorem g7_small (n : Nat) (h : n < 128) : g7 n = [BitVec.ofNat 8 n] := by
  unfold g7
  rw [show n / 128 = 0 by omega, g7hi_zero, List.nil_append, show n % 128 = n by omega]
/-- how many bytes: five at most below 2^35 -/
theorem g7hi_len : ∀ (k n : Nat), n < 128 ^ k → (g7hi n).length ≤ k
  | 0, n, h => by rw [show n = 0 by simpa using h, g7hi_zero]; exact Nat.le_refl _
  | k + 1, n, h => by
    by_cases h0 : n = 0
    · rw [h0, g7hi_zero]; exact Nat.zero_le _
    · rw [g7hi_pos n h0, List.length_append, List.length_singleton]
      have := g7hi_len k (n / 128) (by rw [Nat.div_lt_iff_lt_mul (by decide)]; rw [Nat.pow_succ] at h; exact h)
      omega
theorem g7_len (n : Nat) (h : n < 4294967296) : 1 ≤ (g7 n).length ∧ (g7 n).length ≤ 5 := by
  unfold g7
  rw [List.length_append, List.length_singleton]
  have := g7hi_len 4 (n / 128) (by show n / 128 < 268435456; omega)
  omega
/-- the numbers that groups make, from a number on -/
def p7 : Nat → List (BitVec 8) → List Nat
  | _, [] => []
  | n, x :: r => if x.toNat < 128 then (n * 128 + x.toNat % 128) :: p7 0 r else p7 (n * 128 + x.toNat % 128) r
theorem p7_hi : ∀ (n : Nat) (r : List (BitVec 8)), p7 0 (g7hi n ++ r) = p7 n r := by
  intro n
  induction n using Nat.strongRecOn with
  | ind n ih =>
    intro r
    by_cases h0 : n = 0
    · rw [h0, g7hi_zero]; rfl
    · rw [g7hi_pos n h0, List.append_assoc, ih (n / 128) (by omega)]
      show p7 (n / 128) (BitVec.ofNat 8 (n % 128 + 128) :: r) = _
      have e : (BitVec.ofNat 8 (n % 128 + 128)).toNat = n % 128 + 128 := by rw [BitVec.toNat_ofNat]; omega
      rw [p7, e, if_neg (by omega), show n / 128 * 128 + (n % 128 + 128) % 128 = n by omega]
theorem p7_one (n : Nat) (r : List (BitVec 8)) : p7 0 (g7 n ++ r) = n :: p7 0 r := by
  unfold g7
  rw [List.append_assoc, p7_hi]
  show p7 (n / 128) (BitVec.ofNat 8 (n % 128) :: r) = _
  have e : (BitVec.ofNat 8 (n % 128)).toNat = n % 128 := by rw [BitVec.toNat_ofNat]; omega
  rw [p7, e, if_pos (by omega), show n / 128 * 128 + n % 128 % 128 = n by omega]
/-- numbers one behind the other -/
def g7s (l : List Nat) : List (BitVec 8) := l.flatMap g7
theorem p7_all : ∀ l : List Nat, p7 0 (g7s l) = l
  | [] => rfl
  | n :: r => by
    show p7 0 (g7 n ++ g7s r) = _
    rw [p7_one, p7_all r]
theorem g7s_inj {a b : List Nat} (h : g7s a = g7s b) : a = b := by rw [← p7_all a, h, p7_all]
theorem g7s_len : ∀ l : List Nat, (∀ n ∈ l, n < 4294967296) → l.length ≤ (g7s l).length ∧ (g7s l).length ≤ 5 * l.length
  | [], _ => ⟨Nat.le_refl _, Nat.le_refl _⟩
  | n :: r, h => by
    have h1 := g7s_len r fun m hm => h m (List.mem_cons_of_mem _ hm)
    have h2 := g7_len n (h n (by simp))
    show _ ≤ (g7 n ++ g7s r).length ∧ (g7 n ++ g7s r).length ≤ _
    rw [List.length_append, List.length_cons]
    omega
/-- identifiers: 2 to 16 numbers; the first two in one -/
def OidP (l : List Nat) : Prop := ∃ a b r, l = a :: b :: r ∧ l.length ≤ 16 ∧ a ≤ 2 ∧ (a < 2 → b < 40) ∧ b ≤ 4294967215 ∧ ∀ n ∈ r, n < 4294967296
def oidL (l : List Nat) : List Nat := match l with
  | a :: b :: r => (40 * a + b) :: r
  | _ => []
def oidB (l : List Nat) : List (BitVec 8) := g7s (oidL l)
/-- the identifier of numbers -/
def oidU (l : List Nat) : List Nat := match l with
  | [] => []
  | z :: r => (if z / 40 > 2 then 2 else z / 40) :: (z - 40 * (if z / 40 > 2 then 2 else z / 40)) :: r
theorem oidU_L {l : List Nat} (h : OidP l) : oidU (oidL l) = l := by
  obtain ⟨a, b, r, rfl, _, ha, hb, _, _⟩ := h
  show (if (40 * a + b) / 40 > 2 then 2 else (40 * a + b) / 40) :: ((40 * a + b) - 40 * (if (40 * a + b) / 40 > 2 then 2 else (40 * a + b) / 40)) :: r = _
  have e : (if (40 * a + b) / 40 > 2 then 2 else (40 * a + b) / 40) = a := by
    split <;> omega
  rw [e, show 40 * a + b - 40 * a = b by omega]
/-- each identifier has a body of its own, which says it -/
theorem oid_back {l : List Nat} (h : OidP l) : oidU (p7 0 (oidB l)) = l := by
  unfold oidB
  rw [p7_all, oidU_L h]
theorem oid_inj {a b : List Nat} (ha : OidP a) (hb : OidP b) (h : oidB a = oidB b) : a = b := by rw [← oid_back ha, h, oid_back hb]
theorem oidB_len {l : List Nat} (h : OidP l) : (oidB l).length ≤ 75 := by
  obtain ⟨a, b, r, rfl, h1, ha, hb, hc, hr⟩ := h
  have h2 := (g7s_len ((40 * a + b) :: r) fun n hn => by
    rcases List.mem_cons.1 hn with rfl | hn
    · omega
    · exact hr n hn).2
  show (g7s ((40 * a + b) :: r)).length ≤ 75
  rw [List.length_cons] at h1 h2
  rw [List.length_cons] at h1
  omega
end Go.Proofs.YtfipgmjaabggjaaDoor
