/-
  PrimCounts, one way.
-/
import Derived.Test.YtfipgmjaabggjaaVVt
namespace Go.Proofs.Ytfipgmjaabggjaa
open Go Go.RowKit
set_option maxRecDepth 4000

set_option maxHeartbeats 8000000 in
theorem counts_4 (y mo d h mi s c : Int) (w : World) (ta : Tmt) (hta : MayT ta) (ea : tci y mo d h mi s = tcs ta) (tc_ : Tmt) (htc : MayT tc_) (ec : c = (cntT tc_ : Int)) : Calls Try.prog 7 #[.agg (tci y mo d h mi s), .int .i64 c] w fun e w' => e = .returned (.bool true) ∧ Below w.heap.size w w' := by
  have e11 := code_neq 1 1
  have ee := code_eq 1 1
  have hCA := fun W => Count_ok ta hta W
  have hMA := fun W => May_any y mo d h mi s W true (iff_of_true rfl (may_of hta ea))
  have hRA := fun W => refCount_any ta hta W
  rw [← ea] at hCA hRA
  have EA := Kp.mk ea
  clear ea
  have hLast := fun W => refCount_any lastT last_may W
  rw [last_cnt] at hLast
  have hAt := fun W => At_ok tc_ htc W
  rw [← ec] at hAt
  have hhi := cnt_hi htc
  have b1 : decide (c < 0) = false := decide_eq_false (by omega)
  have b2 : decide (315537897599 < c) = false := decide_eq_false (by omega)
  have hMC := fun W => May_any tc_.y tc_.mo tc_.d tc_.h tc_.mi tc_.s W true (iff_of_true rfl (may_of htc rfl))
  have hRC := fun W => refCount_any tc_ htc W
  rw [← ec] at hRC
  unfold tcs at hAt hRC
  generalize (tc_.y : Int) = tY at *
  generalize (tc_.mo : Int) = tM at *
  generalize (tc_.d : Int) = tD at *
  generalize (tc_.h : Int) = tH at *
  generalize (tc_.mi : Int) = tI at *
  generalize (tc_.s : Int) = tS at *
  clear ec hhi htc
  have HX := Kp.mk (Blk.new w tmt (tci y mo d h mi s))
  unfold tci at *
  have HCA := Kp.mk hCA
  have HMA := Kp.mk hMA
  have HL := Kp.mk hLast
  have HAt := Kp.mk hAt
  clear hCA hMA hLast hAt
  have HRA := Kp.mk hRA
  clear hRA
  have HMC := Kp.mk hMC
  have HRC := Kp.mk hRC
  clear hMC hRC
  go_enter Try.func7, Try.ntmps7
  go_wp2_with fail
  obtain ⟨W0, hW0⟩ : ∃ W0, W0 = w.alloc (.cells #[.int .i64 y, .int .i64 mo, .int .i64 d, .int .i64 h, .int .i64 mi, .int .i64 s] tmt) := ⟨_, rfl⟩
  have hx0 : Ext w W0 := by rw [hW0]; exact (by (repeat (first | assumption | exact Ext.refl _ | apply Ext.drew | apply Ext.drewN | apply Ext.alloc | refine Ext.trans ?_ (by assumption))); first | done | fail)
  rw [← hW0] at HX ⊢
  have X0 := Kp.mk hx0
  clear hW0 hx0
  refine (up8 _).mono ?_
  rintro e w1 ⟨rfl, x1⟩
  have Y := Kp.mk x1
  clear x1
  obtain ⟨c0, k1, k2, k3, k4, k5⟩ := box6 HX.out Y.out
  go_wp2_with fail
  refine (HCA.out _).mono ?_
  rintro e w2 ⟨rfl, x2⟩
  have Y := Kp.mk (Y.out.trans x2)
  clear x2 c0 k1 k2 k3 k4 k5
  obtain ⟨c0, k1, k2, k3, k4, k5⟩ := box6 HX.out Y.out
  go_wp2_with fail
  refine (HMA.out _).mono ?_
  rintro e w3 ⟨rfl, x3⟩
  have Y := Kp.mk (Y.out.trans x3)
  clear x3 c0 k1 k2 k3 k4 k5
  obtain ⟨c0, k1, k2, k3, k4, k5⟩ := box6 HX.out Y.out
  go_wp2_with fail
  refine (HRA.out _).mono ?_
  rintro e w4 ⟨rfl, x4⟩
  have Y := Kp.mk (Y.out.trans x4)
  clear x4
  clear c0 k1 k2 k3 k4 k5
  go_wp2_with fail
  refine (HAt.out _).mono ?_
  rintro e w5 ⟨rfl, x5⟩
  have Y := Kp.mk (Y.out.trans x5)
  clear x5
  go_wp2_with fail
  obtain ⟨W9, hW9⟩ : ∃ W9, W9 = w5.alloc (.cells #[.int .i64 tY, .int .i64 tM, .int .i64 tD, .int .i64 tH, .int .i64 tI, .int .i64 tS] tmt) := ⟨_, rfl⟩
  have hx9 : Ext w5 W9 := by rw [hW9]; exact (by (repeat (first | assumption | exact Ext.refl _ | apply Ext.drew | apply Ext.drewN | apply Ext.alloc | refine Ext.trans ?_ (by assumption))); first | done | fail)
  have H9 := Kp.mk (show Blk W9 w5.heap.size tmt #[.int .i64 tY, .int .i64 tM, .int .i64 tD, .int .i64 tH, .int .i64 tI, .int .i64 tS] from hW9 ▸ Blk.new w5 tmt _)
  rw [← hW9]
  have Z := Kp.mk (Y.out.trans hx9)
  clear hW9 hx9
  refine (HL.out _).mono ?_
  rintro e w6 ⟨rfl, x6⟩
  have Q := Kp.mk x6
  clear x6
  obtain ⟨c0, k1, k2, k3, k4, k5⟩ := box6 H9.out Q.out
  go_wp2_with fail
  refine (HMC.out _).mono ?_
  rintro e w7 ⟨rfl, x7⟩
  have Q := Kp.mk (Q.out.trans x7)
  clear x7 c0 k1 k2 k3 k4 k5
  obtain ⟨c0, k1, k2, k3, k4, k5⟩ := box6 H9.out Q.out
  go_wp2_with fail
  refine (HRC.out _).mono ?_
  rintro e w8 ⟨rfl, x8⟩
  have Q := Kp.mk (Q.out.trans x8)
  clear x8 c0 k1 k2 k3 k4 k5
  go_wp2_with fail
  go_ret
  exact ⟨by simp, (X0.out.trans (Z.out.trans Q.out)).b⟩
end Go.Proofs.Ytfipgmjaabggjaa
