/-
  PrimLater, one way.
-/
import Derived.Test.YtfipgmjaabggjaaVVk
namespace Go.Proofs.Ytfipgmjaabggjaa
open Go Go.RowKit
set_option maxRecDepth 4000

set_option maxHeartbeats 4000000 in
theorem later_yn (y mo d h mi s y2 mo2 d2_ h2 mi2 s2 : Int) (w : World) (ta : Tmt) (hta : MayT ta) (ea : tci y mo d h mi s = tcs ta) (hB : ¬ MayI y2 mo2 d2_ h2 mi2 s2) : Calls Try.prog 9 #[.agg (tci y mo d h mi s), .agg (tci y2 mo2 d2_ h2 mi2 s2)] w fun e w' => e = .returned (.bool true) ∧ Below w.heap.size w w' := by
  have hCA := fun W => Count_ok ta hta W
  have hCB := fun W => Count_no y2 mo2 d2_ h2 mi2 s2 W hB
  have hTA := fun W => Time_ok ta hta W
  have hTB := fun W => Time_no y2 mo2 d2_ h2 mi2 s2 W hB
  rw [← ea] at hCA hTA
  have EA := Kp.mk ea
  clear ea
  have HBA := Kp.mk (Blk.new w tmt (tci y mo d h mi s))
  have HBB := Kp.mk (show Blk ((w.alloc (.cells (tci y mo d h mi s) tmt)).alloc (.cells (tci y2 mo2 d2_ h2 mi2 s2) tmt)) (w.heap.size + 1) tmt (tci y2 mo2 d2_ h2 mi2 s2) from by
    have hbb := Blk.new (w.alloc (.cells (tci y mo d h mi s) tmt)) tmt (tci y2 mo2 d2_ h2 mi2 s2)
    rw [show (w.alloc (.cells (tci y mo d h mi s) tmt)).heap.size = w.heap.size + 1 by simp] at hbb
    exact hbb)
  have hq := eq_time y mo d h mi s
  unfold tci at *
  have HCA := Kp.mk hCA
  have HCB := Kp.mk hCB
  have HTA := Kp.mk hTA
  have HTB := Kp.mk hTB
  clear hCA hCB hTA hTB
  go_enter Try.func9, Try.ntmps9
  go_wp2_with fail
  refine (up8 _).mono ?_
  rintro e w1 ⟨rfl, x1⟩
  have X1 := Kp.mk (show Ext w w1 from Ext.trans (by (repeat (first | assumption | exact Ext.refl _ | apply Ext.drew | apply Ext.drewN | apply Ext.alloc | refine Ext.trans ?_ (by assumption))); first | done | fail) x1)
  have XA := Kp.mk x1
  clear x1
  obtain ⟨c0, k1, k2, k3, k4, k5⟩ := box6 HBA.out (show Ext (w.alloc (.cells #[.int .i64 y, .int .i64 mo, .int .i64 d, .int .i64 h, .int .i64 mi, .int .i64 s] tmt)) w1 from Ext.trans (by (repeat (first | assumption | exact Ext.refl _ | apply Ext.drew | apply Ext.drewN | apply Ext.alloc | refine Ext.trans ?_ (by assumption))); first | done | fail) XA.out)
  obtain ⟨m0, m1, m2, m3, m4, m5⟩ := box6 HBB.out XA.out
  go_wp2_with fail
  refine (HCA.out _).mono ?_
  rintro e w2 ⟨rfl, x2⟩
  have XA := Kp.mk (XA.out.trans x2)
  clear c0 k1 k2 k3 k4 k5 m0 m1 m2 m3 m4 m5
  clear x2
  obtain ⟨c0, k1, k2, k3, k4, k5⟩ := box6 HBA.out (show Ext (w.alloc (.cells #[.int .i64 y, .int .i64 mo, .int .i64 d, .int .i64 h, .int .i64 mi, .int .i64 s] tmt)) w2 from Ext.trans (by (repeat (first | assumption | exact Ext.refl _ | apply Ext.drew | apply Ext.drewN | apply Ext.alloc | refine Ext.trans ?_ (by assumption))); first | done | fail) XA.out)
  obtain ⟨m0, m1, m2, m3, m4, m5⟩ := box6 HBB.out XA.out
  go_wp2_with fail
  refine (HCB.out _).mono ?_
  rintro e w3 ⟨rfl, x3⟩
  have XA := Kp.mk (XA.out.trans x3)
  clear c0 k1 k2 k3 k4 k5 m0 m1 m2 m3 m4 m5
  clear x3
  obtain ⟨c0, k1, k2, k3, k4, k5⟩ := box6 HBA.out (show Ext (w.alloc (.cells #[.int .i64 y, .int .i64 mo, .int .i64 d, .int .i64 h, .int .i64 mi, .int .i64 s] tmt)) w3 from Ext.trans (by (repeat (first | assumption | exact Ext.refl _ | apply Ext.drew | apply Ext.drewN | apply Ext.alloc | refine Ext.trans ?_ (by assumption))); first | done | fail) XA.out)
  obtain ⟨m0, m1, m2, m3, m4, m5⟩ := box6 HBB.out XA.out
  go_wp2_with fail
  refine (HTA.out _).mono ?_
  rintro e w4 ⟨A4, c4, rfl, ho4, x4⟩
  have XA := Kp.mk (XA.out.trans x4)
  clear c0 k1 k2 k3 k4 k5 m0 m1 m2 m3 m4 m5
  have HOA := Kp.mk ho4.bs
  clear ho4
  clear x4
  obtain ⟨c0, k1, k2, k3, k4, k5⟩ := box6 HBA.out (show Ext (w.alloc (.cells #[.int .i64 y, .int .i64 mo, .int .i64 d, .int .i64 h, .int .i64 mi, .int .i64 s] tmt)) w4 from Ext.trans (by (repeat (first | assumption | exact Ext.refl _ | apply Ext.drew | apply Ext.drewN | apply Ext.alloc | refine Ext.trans ?_ (by assumption))); first | done | fail) XA.out)
  obtain ⟨m0, m1, m2, m3, m4, m5⟩ := box6 HBB.out XA.out
  go_wp2_with fail
  refine (HTB.out _).mono ?_
  rintro e w5 ⟨rfl, x5⟩
  have XA := Kp.mk (XA.out.trans x5)
  clear c0 k1 k2 k3 k4 k5 m0 m1 m2 m3 m4 m5
  have HOA := Kp.mk (HOA.out.ext x5)
  clear x5
  obtain ⟨c0, k1, k2, k3, k4, k5⟩ := box6 HBA.out (show Ext (w.alloc (.cells #[.int .i64 y, .int .i64 mo, .int .i64 d, .int .i64 h, .int .i64 mi, .int .i64 s] tmt)) w5 from Ext.trans (by (repeat (first | assumption | exact Ext.refl _ | apply Ext.drew | apply Ext.drewN | apply Ext.alloc | refine Ext.trans ?_ (by assumption))); first | done | fail) XA.out)
  obtain ⟨m0, m1, m2, m3, m4, m5⟩ := box6 HBB.out XA.out
  have HF := Kp.mk (show Ext w w5 from Ext.trans (show Ext w ((w.alloc (.cells #[.int .i64 y, .int .i64 mo, .int .i64 d, .int .i64 h, .int .i64 mi, .int .i64 s] tmt)).alloc (.cells #[.int .i64 y2, .int .i64 mo2, .int .i64 d2_, .int .i64 h2, .int .i64 mi2, .int .i64 s2] tmt)) from (by (repeat (first | assumption | exact Ext.refl _ | apply Ext.drew | apply Ext.drewN | apply Ext.alloc | refine Ext.trans ?_ (by assumption))); first | done | fail)) XA.out)
  obtain ⟨C, hC⟩ : ∃ C, C = cntT ta := ⟨_, rfl⟩
  rw [← hC]
  clear hC
  by_cases hz : C = 0
  · subst hz
    go_wp2_with fail
    go_quiet (fail)
    go_wp2_with fail
    go_ret
    exact ⟨rfl, (HF.out.trans (by (repeat (first | assumption | exact Ext.refl _ | apply Ext.drew | apply Ext.drewN | apply Ext.alloc | refine Ext.trans ?_ (by assumption))); first | done | fail)).b⟩
  · have z1 : ((C : Int) == 0) = false := beq_eq_false_iff_ne.2 (by omega)
    have z2 : ((0 : Int) == (C : Int)) = false := beq_eq_false_iff_ne.2 (by omega)
    have z3 : ((C : Int) != 0) = true := bne_iff_ne.2 (by omega)
    have z4 : ((0 : Int) != (C : Int)) = true := bne_iff_ne.2 (by omega)
    have z5 : ¬ C = 0 := hz
    go_wp2_with fail
    go_quiet (fail)
    go_wp2_with fail
    go_ret
    exact ⟨rfl, (HF.out.trans (by (repeat (first | assumption | exact Ext.refl _ | apply Ext.drew | apply Ext.drewN | apply Ext.alloc | refine Ext.trans ?_ (by assumption))); first | done | fail)).b⟩
end Go.Proofs.Ytfipgmjaabggjaa
