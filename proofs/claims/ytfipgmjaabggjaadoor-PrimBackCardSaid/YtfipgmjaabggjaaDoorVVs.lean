/-
  prim: At.
-/
import Derived.Test.YtfipgmjaabggjaaDoorVVr
import Derived.Test.YtfipgmjaabggjaaDoorM21
import Derived.Test.YtfipgmjaabggjaaDoorVHb
namespace Go.Proofs.YtfipgmjaabggjaaDoor
open Go Go.RowKit
set_option maxRecDepth 4000

abbrev ti : TypeId := 3
theorem szTm : (Tryd.prog.info? tmt).map (·.size) = some 6 := by kernel_rfl
set_option maxHeartbeats 2000000 in
theorem At_no (c : Int) (h : c < 0 ∨ 315537897600 ≤ c) (w : World) : Calls Tryd.prog 28 #[.int .i64 c] w fun e w' => e = .returned (.tuple #[.agg (tci 0 0 0 0 0 0), err 1]) ∧ Ext w w' := by
  have HR := Kp.mk (Blk.new w tmt (tci 0 0 0 0 0 0))
  have hA : ∀ W, Calls Tryd.prog 55 #[.int .i64 10000] W fun e w' => e = .returned (.int .i64 3652059) ∧ w' = W := fun W => by
    have := daysAhead_any 9999 (by decide) W
    have e : ydN 9999 = 3652059 := by have := ydN_eq 9999; omega
    rw [e] at this
    exact this
  unfold tci at *
  rcases h with h | h
  · have b1 : decide (c < 0) = true := decide_eq_true h
    clear h
    go_enter Tryd.func28, Tryd.ntmps28
    go_wp2_with fail
    refine bodyPost_ret (v := .tuple #[.agg #[.int .i64 0, .int .i64 0, .int .i64 0, .int .i64 0, .int .i64 0, .int .i64 0], err 1]) ?_ rfl ⟨rfl, (by (repeat (first | assumption | exact Ext.refl _ | apply Ext.drew | apply Ext.drewN | apply Ext.alloc | refine Ext.trans ?_ (by assumption))); first | done | fail)⟩
    exact results_cell_row2 rfl _ _ w.heap.size tmt _ _ _ rfl rfl HR.out Tryd.underlying45 rfl szTm
  · have b1 : decide (c < 0) = false := decide_eq_false (by omega)
    have b2 : decide (315537897600 ≤ c) = true := decide_eq_true h
    clear h
    go_enter Tryd.func28, Tryd.ntmps28
    go_wp2_with (go_at_call 55; refine (hA _).mono ?_; rintro e w1 ⟨rfl, rfl⟩)
    refine bodyPost_ret (v := .tuple #[.agg #[.int .i64 0, .int .i64 0, .int .i64 0, .int .i64 0, .int .i64 0, .int .i64 0], err 1]) ?_ rfl ⟨rfl, (by (repeat (first | assumption | exact Ext.refl _ | apply Ext.drew | apply Ext.drewN | apply Ext.alloc | refine Ext.trans ?_ (by assumption))); first | done | fail)⟩
    exact results_cell_row2 rfl _ _ w.heap.size tmt _ _ _ rfl rfl HR.out Tryd.underlying45 rfl szTm
set_option maxHeartbeats 8000000 in
theorem At_ok (t : Tmt) (ht : MayT t) (w : World) : Calls Tryd.prog 28 #[.int .i64 (cntT t : Int)] w fun e w' => e = .returned (.tuple #[.agg (tcs t), .nilIface]) ∧ Ext w w' := by
  have HR := Kp.mk (Blk.new w tmt (tci 0 0 0 0 0 0))
  have hA : ∀ W, Calls Tryd.prog 55 #[.int .i64 10000] W fun e w' => e = .returned (.int .i64 3652059) ∧ w' = W := fun W => by
    have := daysAhead_any 9999 (by decide) W
    have e : ydN 9999 = 3652059 := by have := ydN_eq 9999; omega
    rw [e] at this
    exact this
  have hhi := cnt_hi ht
  have hday := dayT_year ht
  have hmon := dayT_month ht
  have q7 := ht.h2
  have q8 := ht.i2
  have q9 := ht.s2
  have hdv : cntT t / 86400 = dayT t ∧ cntT t % 86400 = t.h * 3600 + t.mi * 60 + t.s := by unfold cntT; omega
  have b1 : decide ((cntT t : Int) < 0) = false := decide_eq_false (by omega)
  have b2 : decide (315537897600 ≤ (cntT t : Int)) = false := decide_eq_false (by omega)
  have b3 : decide (315537897600 ≤ cntT t) = false := decide_eq_false (by omega)
  have b4 : ¬ 315537897600 ≤ cntT t := by omega
  have e1 : (cntT t : Int).tdiv 86400 = (dayT t : Int) := (show (cntT t : Int).tdiv 86400 = _ from td_nat (cntT t) 86400).trans (by rw [hdv.1])
  have hD9 : dayT t < 3652059 := by omega
  have e2 : (cntT t : Int).tmod 86400 = ((t.h * 3600 + t.mi * 60 + t.s : Nat) : Int) := (show (cntT t : Int).tmod 86400 = _ from tm_nat (cntT t) 86400 (by decide)).trans (by rw [hdv.2])
  have e3 : IntKind.i64.wrap (dayT t : Int) = (dayT t : Int) := by rw [IntKind.wrap_i64]; omega
  have e4 : IntKind.i64.wrap ((t.h * 3600 + t.mi * 60 + t.s : Nat) : Int) = ((t.h * 3600 + t.mi * 60 + t.s : Nat) : Int) := by rw [IntKind.wrap_i64]; omega
  have HT := Kp.mk ht
  have HD := Kp.mk hday
  have HM := Kp.mk hmon
  obtain ⟨C, hC⟩ : ∃ C : Int, C = (cntT t : Int) := ⟨_, rfl⟩
  rw [← hC] at b1 b2 e1 e2 ⊢
  obtain ⟨D, hDe⟩ : ∃ D, D = dayT t := ⟨_, rfl⟩
  rw [← hDe] at e1 e3 HD HM
  obtain ⟨S, hSe⟩ : ∃ S, S = t.h * 3600 + t.mi * 60 + t.s := ⟨_, rfl⟩
  rw [← hSe] at e2 e4
  have HS := Kp.mk hSe
  have HDe := Kp.mk hDe
  clear hhi hday hmon hdv b3 b4 ht hC hDe hSe q7 q8 q9 hD9
  unfold tci at *
  go_enter Tryd.func28, Tryd.ntmps28
  go_wp2_with (go_at_call 55; refine (hA _).mono ?_; rintro e w1 ⟨rfl, hw⟩)
  obtain ⟨W1, hW1⟩ : ∃ W1, W1 = (w.alloc (.cells #[.int .i64 0, .int .i64 0, .int .i64 0, .int .i64 0, .int .i64 0, .int .i64 0] tmt)).alloc (.cells #[.int .i64 (D : Int)] ti) := ⟨_, rfl⟩
  have hx1 : Ext w W1 := by rw [hW1]; exact (by (repeat (first | assumption | exact Ext.refl _ | apply Ext.drew | apply Ext.drewN | apply Ext.alloc | refine Ext.trans ?_ (by assumption))); first | done | fail)
  have HR1 := Kp.mk (show Blk W1 w.heap.size tmt #[.int .i64 0, .int .i64 0, .int .i64 0, .int .i64 0, .int .i64 0, .int .i64 0] from by rw [hW1]; exact HR.out.ext (by (repeat (first | assumption | exact Ext.refl _ | apply Ext.drew | apply Ext.drewN | apply Ext.alloc | refine Ext.trans ?_ (by assumption))); first | done | fail))
  have HB1 := Kp.mk (show Blk W1 (w.heap.size + 1) ti #[.int .i64 (D : Int)] from by
    have hbb := Blk.new (w.alloc (.cells #[.int .i64 0, .int .i64 0, .int .i64 0, .int .i64 0, .int .i64 0, .int .i64 0] tmt)) ti #[.int .i64 (D : Int)]
    rw [show (w.alloc (.cells #[.int .i64 0, .int .i64 0, .int .i64 0, .int .i64 0, .int .i64 0, .int .i64 0] tmt)).heap.size = w.heap.size + 1 by simp] at hbb
    rw [hW1]
    exact hbb)
  rw [← hW1]
  have X1 := Kp.mk hx1
  clear hW1 hx1 HR hA b1 b2 e1 e2 e3 e4
  obtain ⟨g, hg⟩ : ∃ g, g = w.heap.size + 1 := ⟨_, rfl⟩
  rw [← hg] at HB1 ⊢
  have HG := Kp.mk (show w.heap.size < g by omega)
  clear hg
  have hy1 := HT.out.y1
  have hy2 := HT.out.y2
  have hm1 := HT.out.m1
  have hm2 := HT.out.m2
  refine (Search_any D t.y g hy1 hy2 HD.out.1 HD.out.2 W1 (HB1.out.h.cell 0)).mono ?_
  rintro e W2 ⟨rfl, x2⟩
  have X2 := Kp.mk (X1.out.trans x2)
  have HR2 := Kp.mk (HR1.out.ext x2)
  have HB2 := Kp.mk (HB1.out.ext x2)
  have s1 : IntKind.i64.wrap (1 + ((t.y - 1 : Nat) : Int)) = (t.y : Int) := by rw [IntKind.wrap_i64]; omega
  have hA := fun W => daysAhead_any (t.y - 1) (by omega) W
  rw [show t.y - 1 + 1 = t.y by omega] at hA
  have hyd : ydN (t.y - 1) ≤ 3652059 := by
    have h1 := ydN_mono (show t.y - 1 ≤ 9999 by omega)
    have := ydN_eq 9999
    omega
  have hm12 := mdN_hi t.y t.mo
  obtain ⟨d0, hd0⟩ : ∃ d0, d0 = D - ydN (t.y - 1) := ⟨_, rfl⟩
  have hM := HM.out
  have hD9 : d0 ≤ 400 := by omega
  have s2 : IntKind.i64.wrap ((D : Int) - (ydN (t.y - 1) : Int)) = (d0 : Int) := by rw [IntKind.wrap_i64]; omega
  have HD0 := Kp.mk (show mdN t.y (t.mo - 1) ≤ d0 ∧ d0 < mdN t.y t.mo ∧ D = ydN (t.y - 1) + d0 from by omega)
  have c0 : ∀ W, Ext W2 W → W.cell? ⟨g, 0, none⟩ = some (.int .i64 (D : Int)) := fun W hx => (HB2.out.ext hx).h.cell 0
  obtain ⟨yi, hyi⟩ : ∃ yi : Int, yi = (t.y : Int) := ⟨_, rfl⟩
  obtain ⟨y0, hy0⟩ : ∃ y0 : Int, y0 = (ydN (t.y - 1) : Int) := ⟨_, rfl⟩
  obtain ⟨yj, hyj⟩ : ∃ yj : Int, yj = ((t.y - 1 : Nat) : Int) := ⟨_, rfl⟩
  rw [← hyi] at s1 hA
  rw [← hy0] at s2 hA
  rw [← hyj] at s1 ⊢
  have HYI := Kp.mk hyi
  have f0 := HB2.out.h.frozen 0
  clear x2 hyi hy0 hyj hy1 hy2 hm1 hm2 hyd hm12 hd0 hM
  go_wp2_with fail
  refine wp_region_R (st := fun s => s == 4) (R := fun w' => Ext W2 w') (by kernel_rfl) (Ext.refl W2).drew (fun hR => ?_)
  refine wpAnyR_take (i := 0) (oi := ⟨some 25, _, _, _, _, _⟩) (v := ?_) rfl (by kernel_rfl) (by kernel_rfl) (by kernel_rfl) rfl (by kernel_rfl) (by kernel_rfl) (fun _ _ _ h => h) (Or.inl ⟨by rfl, ?_⟩) (by assumption) ?_
  rotate_left
  · (intro w hSw; (try dsimp only at hSw); go_simp; try with_reducible rfl)
  try simp only [Act.put, List.setIfInBounds_toArray, List.set_cons_zero, List.set_cons_succ]
  refine wpAnyR_take0 (i := 1) (oi := ⟨some 26, _, _, _, _, _⟩) (v := ?_) rfl (by kernel_rfl) (by kernel_rfl) (by kernel_rfl) rfl (fun _ _ _ h => h) (Or.inl ⟨by rfl, ?_⟩) (by first | exact .inr (by assumption) | exact .inl (by kernel_rfl)) ?_
  rotate_left
  · (intro w hSw; (try dsimp only at hSw); go_simp; try with_reducible rfl)
  try simp only [Act.put, List.setIfInBounds_toArray, List.set_cons_zero, List.set_cons_succ]
  refine nextR 2 (by kernel_rfl) rfl (by rfl) fun K' HK' => ?_
  go_simp
  refine (hA _).mono ?_
  rintro e W3 ⟨rfl, hw3⟩
  subst hw3
  refine held_go HK' (.inr (hR)) (fun _ => ?_)
  clear HK'
  try simp only [Act.put, List.setIfInBounds_toArray, List.set_cons_zero, List.set_cons_succ]
  refine wpAnyR_take0 (i := 3) (oi := ⟨some 28, _, _, _, _, _⟩) (v := ?_) rfl (by kernel_rfl) (by kernel_rfl) (by kernel_rfl) rfl (fun _ _ _ h => h) (Or.inl ⟨by rfl, ?_⟩) (by first | exact .inr (by assumption) | exact .inl (by kernel_rfl)) ?_
  rotate_left
  · (intro w hSw; (try dsimp only at hSw); go_simp; try with_reducible rfl)
  try simp only [Act.put, List.setIfInBounds_toArray, List.set_cons_zero, List.set_cons_succ]
  refine nextR 4 (by kernel_rfl) rfl (by rfl) fun K' HK' => ?_
  go_simp
  have hb5 : Blk (W2.setCell ⟨g, 0, none⟩ (.int .i64 (d0 : Int))).drew g ti #[.int .i64 (d0 : Int)] := (HB2.out.set_ 0 (.int .i64 (d0 : Int))).ext (by (repeat (first | assumption | exact Ext.refl _ | apply Ext.drew | apply Ext.drewN | apply Ext.alloc | refine Ext.trans ?_ (by assumption))); first | done | fail)
  have hr5 : Blk (W2.setCell ⟨g, 0, none⟩ (.int .i64 (d0 : Int))).drew w.heap.size tmt #[.int .i64 0, .int .i64 0, .int .i64 0, .int .i64 0, .int .i64 0, .int .i64 0] := (HR2.out.far (p := ⟨g, 0, none⟩) (show w.heap.size ≠ g by have := HG.out; omega) _).ext (by (repeat (first | assumption | exact Ext.refl _ | apply Ext.drew | apply Ext.drewN | apply Ext.alloc | refine Ext.trans ?_ (by assumption))); first | done | fail)
  have hx5 : Ext w (W2.setCell ⟨g, 0, none⟩ (.int .i64 (d0 : Int))).drew := (X2.out.setCell (show w.heap.size ≤ g by have := HG.out; omega) _).drew
  generalize (W2.setCell ⟨g, 0, none⟩ (.int .i64 (d0 : Int))).drew = W5 at *
  refine held_go HK' (.inl (by kernel_rfl)) (fun _ => ?_)
  clear HK'
  try simp only [Act.put, List.setIfInBounds_toArray, List.set_cons_zero, List.set_cons_succ]
  refine wpAnyR_done (by kernel_rfl) ?_ _
  have HB5 := Kp.mk hb5
  have HR5 := Kp.mk hr5
  have X5 := Kp.mk hx5
  have HF := Kp.mk (fun m => mdN_hi t.y m)
  have HDM := Kp.mk (fun m => dim_hi t.y m)
  have HMM := Kp.mk (fun a b (h : a ≤ b) => mdN_mono t.y h)
  have HMS := Kp.mk (show ∀ m, mdN t.y (m + 1) = mdN t.y m + dimM t.y (m + 1) from fun m => rfl)
  clear hb5 hr5 hx5 hR c0 f0 hA s1 s2
  go_wp2_with fail
  go_loopw [7] (fun v wr => ∃ m E : Nat, 1 ≤ m ∧ m ≤ t.mo ∧ d0 = mdN t.y (m - 1) + E ∧ v = .int .i64 (m : Int) ∧ Blk wr g ti #[.int .i64 (E : Int)] ∧ Blk wr w.heap.size tmt #[.int .i64 0, .int .i64 0, .int .i64 0, .int .i64 0, .int .i64 0, .int .i64 0] ∧ Ext w wr) (fun v _ => t.mo - (intOf v).toNat)
  case atStart => exact ⟨1, d0, Nat.le_refl _, HT.out.m1, by rw [show 1 - 1 = 0 from rfl]; show d0 = 0 + d0; omega, rfl, HB5.out, HR5.out, X5.out⟩
  case round =>
    obtain ⟨m, E, hm1, hm, hE, rfl, hbr, hrr, hxr⟩ := hrel
    have hmo := HT.out.m2
    have hC := fun W => daysOf_any t.y m ⟨hm1, by omega⟩ W
    rw [← HYI.out] at hC
    have k0 := hbr.h.cell 0
    simp only [List.getElem?_toArray, List.getElem?_cons_zero] at k0
    have hmm := HMS.out (m - 1)
    rw [show m - 1 + 1 = m by omega] at hmm
    have hd31 := HDM.out m
    have hd0 := HD0.out
    have HBr := Kp.mk hbr
    have HRr := Kp.mk hrr
    have HXr := Kp.mk hxr
    by_cases hlt : m < t.mo
    · have hge : dimM t.y m ≤ E := by
        have := HMM.out m (t.mo - 1) (by omega)
        omega
      have b1 : decide ((dimM t.y m : Int) ≤ (E : Int)) = true := decide_eq_true (by omega)
      have b2 : decide (dimM t.y m ≤ E) = true := decide_eq_true hge
      have s1 : IntKind.i64.wrap ((E : Int) - (dimM t.y m : Int)) = ((E - dimM t.y m : Nat) : Int) := by rw [IntKind.wrap_i64]; omega
      have s2 : IntKind.i64.wrap ((m : Int) + 1) = (m : Int) + 1 := by rw [IntKind.wrap_i64]; omega
      have HE := Kp.mk (show d0 = mdN t.y (m + 1 - 1) + (E - dimM t.y m) by rw [Nat.add_sub_cancel, hmm]; omega)
      generalize E - dimM t.y m = E2 at *
      generalize dimM t.y m = dm at *
      clear hge hmm hd31 hd0 hE hbr hrr hxr
      go_wp2_with fail
      go_quiet (first | (go_at_call 56; exact Calls.quiet_of_same (hC _)) | fail)
      have HB6 := Kp.mk (HBr.out.ext (show Ext wr (wr.drewN nq) from (by (repeat (first | assumption | exact Ext.refl _ | apply Ext.drew | apply Ext.drewN | apply Ext.alloc | refine Ext.trans ?_ (by assumption))); first | done | fail)))
      have HR6 := Kp.mk (HRr.out.ext (show Ext wr (wr.drewN nq) from (by (repeat (first | assumption | exact Ext.refl _ | apply Ext.drew | apply Ext.drewN | apply Ext.alloc | refine Ext.trans ?_ (by assumption))); first | done | fail)))
      have X6 := Kp.mk (HXr.out.trans (show Ext wr (wr.drewN nq) from (by (repeat (first | assumption | exact Ext.refl _ | apply Ext.drew | apply Ext.drewN | apply Ext.alloc | refine Ext.trans ?_ (by assumption))); first | done | fail)))
      clear k0
      generalize wr.drewN nq = W6 at *
      have c0 : ∀ W, Ext W6 W → W.cell? ⟨g, 0, none⟩ = some (.int .i64 (E : Int)) := fun W hx => (HB6.out.ext hx).h.cell 0
      have f0 := HB6.out.h.frozen 0
      go_wp2_with fail
      refine wp_region_R (st := fun s => s == 5) (R := fun w' => Ext W6 w') (by kernel_rfl) (Ext.refl W6).drew (fun hR => ?_)
      refine wpAnyR_take (i := 0) (oi := ⟨some 34, _, _, _, _, _⟩) (v := ?_) rfl (by kernel_rfl) (by kernel_rfl) (by kernel_rfl) rfl (by kernel_rfl) (by kernel_rfl) (fun _ _ _ h => h) (Or.inl ⟨by rfl, ?_⟩) (by assumption) ?_
      rotate_left
      · (intro w hSw; (try dsimp only at hSw); go_simp; try with_reducible rfl)
      try simp only [Act.put, List.setIfInBounds_toArray, List.set_cons_zero, List.set_cons_succ]
      refine wpAnyR_take0 (i := 1) (oi := ⟨some 35, _, _, _, _, _⟩) (v := ?_) rfl (by kernel_rfl) (by kernel_rfl) (by kernel_rfl) rfl (fun _ _ _ h => h) (Or.inl ⟨by rfl, ?_⟩) (by first | exact .inr (by assumption) | exact .inl (by kernel_rfl)) ?_
      rotate_left
      · (intro w hSw; (try dsimp only at hSw); go_simp; try with_reducible rfl)
      try simp only [Act.put, List.setIfInBounds_toArray, List.set_cons_zero, List.set_cons_succ]
      refine wpAnyR_take0 (i := 2) (oi := ⟨some 36, _, _, _, _, _⟩) (v := ?_) rfl (by kernel_rfl) (by kernel_rfl) (by kernel_rfl) rfl (fun _ _ _ h => h) (Or.inl ⟨by rfl, ?_⟩) (by first | exact .inr (by assumption) | exact .inl (by kernel_rfl)) ?_
      rotate_left
      · (intro w hSw; (try dsimp only at hSw); go_simp; try with_reducible rfl)
      try simp only [Act.put, List.setIfInBounds_toArray, List.set_cons_zero, List.set_cons_succ]
      refine nextR 3 (by kernel_rfl) rfl (by rfl) fun K' HK' => ?_
      go_simp
      refine (hC _).mono ?_
      rintro e W7 ⟨rfl, hw7⟩
      subst hw7
      refine held_go HK' (.inr (hR)) (fun _ => ?_)
      clear HK'
      try simp only [Act.put, List.setIfInBounds_toArray, List.set_cons_zero, List.set_cons_succ]
      refine wpAnyR_take0 (i := 4) (oi := ⟨some 38, _, _, _, _, _⟩) (v := ?_) rfl (by kernel_rfl) (by kernel_rfl) (by kernel_rfl) rfl (fun _ _ _ h => h) (Or.inl ⟨by rfl, ?_⟩) (by first | exact .inr (by assumption) | exact .inl (by kernel_rfl)) ?_
      rotate_left
      · (intro w hSw; (try dsimp only at hSw); go_simp; try with_reducible rfl)
      try simp only [Act.put, List.setIfInBounds_toArray, List.set_cons_zero, List.set_cons_succ]
      refine nextR 5 (by kernel_rfl) rfl (by rfl) fun K' HK' => ?_
      go_simp
      have hb8 : Blk (W6.setCell ⟨g, 0, none⟩ (.int .i64 (E2 : Int))).drew g ti #[.int .i64 (E2 : Int)] := (HB6.out.set_ 0 (.int .i64 (E2 : Int))).ext (by (repeat (first | assumption | exact Ext.refl _ | apply Ext.drew | apply Ext.drewN | apply Ext.alloc | refine Ext.trans ?_ (by assumption))); first | done | fail)
      have hr8 : Blk (W6.setCell ⟨g, 0, none⟩ (.int .i64 (E2 : Int))).drew w.heap.size tmt #[.int .i64 0, .int .i64 0, .int .i64 0, .int .i64 0, .int .i64 0, .int .i64 0] := (HR6.out.far (p := ⟨g, 0, none⟩) (show w.heap.size ≠ g by have := HG.out; omega) _).ext (by (repeat (first | assumption | exact Ext.refl _ | apply Ext.drew | apply Ext.drewN | apply Ext.alloc | refine Ext.trans ?_ (by assumption))); first | done | fail)
      have hx8 : Ext w (W6.setCell ⟨g, 0, none⟩ (.int .i64 (E2 : Int))).drew := (X6.out.setCell (show w.heap.size ≤ g by have := HG.out; omega) _).drew
      generalize (W6.setCell ⟨g, 0, none⟩ (.int .i64 (E2 : Int))).drew = W8 at *
      refine held_go HK' (.inl (by kernel_rfl)) (fun _ => ?_)
      clear HK'
      try simp only [Act.put, List.setIfInBounds_toArray, List.set_cons_zero, List.set_cons_succ]
      refine wpAnyR_done (by kernel_rfl) ?_ _
      have HB8 := Kp.mk hb8
      have HR8 := Kp.mk hr8
      have X8 := Kp.mk hx8
      clear hb8 hr8 hx8 hR c0 f0
      go_wp2_with fail
      go_roundw
      case rel => exact ⟨m + 1, E2, by omega, hlt, HE.out, by go_num, HB8.out, HR8.out, X8.out⟩
      case measure => simp [intOf]; omega
    · obtain rfl : t.mo = m := by omega
      have hlt2 : E < dimM t.y t.mo := by omega
      have b1 : decide ((dimM t.y t.mo : Int) ≤ (E : Int)) = false := decide_eq_false (by omega)
      have b2 : decide (dimM t.y t.mo ≤ E) = false := decide_eq_false (by omega)
      have b3 : ¬ dimM t.y t.mo ≤ E := by omega
      have hday : E + 1 = t.d := by
        have h1 := HDe.out
        have h2 := HT.out.d1
        unfold dayT at h1
        omega
      have s1 : IntKind.i64.wrap ((E : Int) + 1) = (t.d : Int) := by rw [IntKind.wrap_i64]; omega
      have hS := HS.out
      have g1 := HT.out.h2
      have g2 := HT.out.i2
      have g3 := HT.out.s2
      have t1 : (S : Int).tdiv 3600 = (t.h : Int) := (show (S : Int).tdiv 3600 = _ from td_nat S 3600).trans (by rw [show S / 3600 = t.h by omega])
      have t2 : (S : Int).tdiv 60 = ((t.h * 60 + t.mi : Nat) : Int) := (show (S : Int).tdiv 60 = _ from td_nat S 60).trans (by rw [show S / 60 = t.h * 60 + t.mi by omega])
      have t3 : ((t.h * 60 + t.mi : Nat) : Int).tmod 60 = (t.mi : Int) := (show ((t.h * 60 + t.mi : Nat) : Int).tmod 60 = _ from tm_nat _ 60 (by decide)).trans (by rw [show (t.h * 60 + t.mi) % 60 = t.mi by omega])
      have t4 : (S : Int).tmod 60 = (t.s : Int) := (show (S : Int).tmod 60 = _ from tm_nat S 60 (by decide)).trans (by rw [show S % 60 = t.s by omega])
      have u1 : IntKind.i64.wrap (t.h : Int) = (t.h : Int) := by rw [IntKind.wrap_i64]; omega
      have u2 : IntKind.i64.wrap ((t.h * 60 + t.mi : Nat) : Int) = ((t.h * 60 + t.mi : Nat) : Int) := by rw [IntKind.wrap_i64]; omega
      have u3 : IntKind.i64.wrap (t.mi : Int) = (t.mi : Int) := by rw [IntKind.wrap_i64]; omega
      have u4 : IntKind.i64.wrap (t.s : Int) = (t.s : Int) := by rw [IntKind.wrap_i64]; omega
      generalize t.h * 60 + t.mi = hm60 at *
      generalize dimM t.y t.mo = dm at *
      clear hmm hd31 hd0 hE hbr hrr hxr hday hS g1 g2 g3 hlt2
      go_wp2_with fail
      go_quiet (first | (go_at_call 56; exact Calls.quiet_of_same (hC _)) | fail)
      have HR6 := Kp.mk (HRr.out.ext (show Ext wr (wr.drewN nq) from (by (repeat (first | assumption | exact Ext.refl _ | apply Ext.drew | apply Ext.drewN | apply Ext.alloc | refine Ext.trans ?_ (by assumption))); first | done | fail)))
      have X6 := Kp.mk (HXr.out.trans (show Ext wr (wr.drewN nq) from (by (repeat (first | assumption | exact Ext.refl _ | apply Ext.drew | apply Ext.drewN | apply Ext.alloc | refine Ext.trans ?_ (by assumption))); first | done | fail)))
      have k6 := (HBr.out.ext (show Ext wr (wr.drewN nq) from (by (repeat (first | assumption | exact Ext.refl _ | apply Ext.drew | apply Ext.drewN | apply Ext.alloc | refine Ext.trans ?_ (by assumption))); first | done | fail))).h.cell 0
      simp only [List.getElem?_toArray, List.getElem?_cons_zero] at k6
      clear k0
      generalize wr.drewN nq = W6 at *
      go_wp2_with (first | ((with_reducible refine at_store 2 52 ?_); refine wpList_store_row rfl tmt _ _ rfl w.heap.size #[.int .i64 yi, .int .i64 (t.mo : Int), .int .i64 (t.d : Int), .int .i64 (t.h : Int), .int .i64 (t.mi : Int), .int .i64 (t.s : Int)] rfl rfl tmt _ HR6.out.h szTm rfl (by simp [Value.oneCell']) ?_) | fail)
      have hx := X6.out.setRow (Nat.le_refl _) #[.int .i64 yi, .int .i64 (t.mo : Int), .int .i64 (t.d : Int), .int .i64 (t.h : Int), .int .i64 (t.mi : Int), .int .i64 (t.s : Int)]
      refine bodyPost_ret (v := .tuple #[.agg #[.int .i64 yi, .int .i64 (t.mo : Int), .int .i64 (t.d : Int), .int .i64 (t.h : Int), .int .i64 (t.mi : Int), .int .i64 (t.s : Int)], .nilIface]) ?_ rfl ?_
      · exact results_cell_row2 rfl _ _ w.heap.size tmt _ _ _ rfl rfl (HR6.out.row _) Tryd.underlying45 rfl szTm
      refine ⟨?_, hx⟩
      rw [HYI.out]
      rfl
end Go.Proofs.YtfipgmjaabggjaaDoor
