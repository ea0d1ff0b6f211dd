/-
  PrimLater, one way.
-/
import Derived.Test.YtfipgmjaabggjaaVVk
namespace Go.Proofs.Ytfipgmjaabggjaa
open Go Go.RowKit
set_option maxRecDepth 4000

set_option maxHeartbeats 4000000 in
theorem later_yy (y mo d h mi s y2 mo2 d2_ h2 mi2 s2 : Int) (w : World) (ta : Tmt) (hta : MayT ta) (ea : tci y mo d h mi s = tcs ta) (tb : Tmt) (htb : MayT tb) (eb : tci y2 mo2 d2_ h2 mi2 s2 = tcs tb) : Calls Try.prog 9 #[.agg (tci y mo d h mi s), .agg (tci y2 mo2 d2_ h2 mi2 s2)] w fun e w' => e = .returned (.bool true) ∧ Below w.heap.size w w' := by
  have hCA := fun W => Count_ok ta hta W
  have hCB := fun W => Count_ok tb htb W
  have hTA := fun W => Time_ok ta hta W
  have hTB := fun W => Time_ok tb htb W
  rw [← ea] at hCA hTA
  have EA := Kp.mk ea
  clear ea
  rw [← eb] at hCB hTB
  have EB := Kp.mk eb
  clear eb
  have HBA := Kp.mk (Blk.new w tmt (tci y mo d h mi s))
  have HBB := Kp.mk (show Blk ((w.alloc (.cells (tci y mo d h mi s) tmt)).alloc (.cells (tci y2 mo2 d2_ h2 mi2 s2) tmt)) (w.heap.size + 1) tmt (tci y2 mo2 d2_ h2 mi2 s2) from by
    have hbb := Blk.new (w.alloc (.cells (tci y mo d h mi s) tmt)) tmt (tci y2 mo2 d2_ h2 mi2 s2)
    rw [show (w.alloc (.cells (tci y mo d h mi s) tmt)).heap.size = w.heap.size + 1 by simp] at hbb
    exact hbb)
  have hq := eq_time y mo d h mi s
  unfold tci at *
  have HCA := Kp.mk hCA
  have HCB := Kp.mk hCB
  have HTA := Kp.mk hTA
  have HTB := Kp.mk hTB
  clear hCA hCB hTA hTB
  go_enter Try.func9, Try.ntmps9
  go_wp2_with fail
  refine (up8 _).mono ?_
  rintro e w1 ⟨rfl, x1⟩
  have X1 := Kp.mk (show Ext w w1 from Ext.trans (by (repeat (first | assumption | exact Ext.refl _ | apply Ext.drew | apply Ext.drewN | apply Ext.alloc | refine Ext.trans ?_ (by assumption))); first | done | fail) x1)
  have XA := Kp.mk x1
  clear x1
  obtain ⟨c0, k1, k2, k3, k4, k5⟩ := box6 HBA.out (show Ext (w.alloc (.cells #[.int .i64 y, .int .i64 mo, .int .i64 d, .int .i64 h, .int .i64 mi, .int .i64 s] tmt)) w1 from Ext.trans (by (repeat (first | assumption | exact Ext.refl _ | apply Ext.drew | apply Ext.drewN | apply Ext.alloc | refine Ext.trans ?_ (by assumption))); first | done | fail) XA.out)
  obtain ⟨m0, m1, m2, m3, m4, m5⟩ := box6 HBB.out XA.out
  go_wp2_with fail
  refine (HCA.out _).mono ?_
  rintro e w2 ⟨rfl, x2⟩
  have XA := Kp.mk (XA.out.trans x2)
  clear c0 k1 k2 k3 k4 k5 m0 m1 m2 m3 m4 m5
  clear x2
  obtain ⟨c0, k1, k2, k3, k4, k5⟩ := box6 HBA.out (show Ext (w.alloc (.cells #[.int .i64 y, .int .i64 mo, .int .i64 d, .int .i64 h, .int .i64 mi, .int .i64 s] tmt)) w2 from Ext.trans (by (repeat (first | assumption | exact Ext.refl _ | apply Ext.drew | apply Ext.drewN | apply Ext.alloc | refine Ext.trans ?_ (by assumption))); first | done | fail) XA.out)
  obtain ⟨m0, m1, m2, m3, m4, m5⟩ := box6 HBB.out XA.out
  go_wp2_with fail
  refine (HCB.out _).mono ?_
  rintro e w3 ⟨rfl, x3⟩
  have XA := Kp.mk (XA.out.trans x3)
  clear c0 k1 k2 k3 k4 k5 m0 m1 m2 m3 m4 m5
  clear x3
  obtain ⟨c0, k1, k2, k3, k4, k5⟩ := box6 HBA.out (show Ext (w.alloc (.cells #[.int .i64 y, .int .i64 mo, .int .i64 d, .int .i64 h, .int .i64 mi, .int .i64 s] tmt)) w3 from Ext.trans (by (repeat (first | assumption | exact Ext.refl _ | apply Ext.drew | apply Ext.drewN | apply Ext.alloc | refine Ext.trans ?_ (by assumption))); first | done | fail) XA.out)
  obtain ⟨m0, m1, m2, m3, m4, m5⟩ := box6 HBB.out XA.out
  go_wp2_with fail
  refine (HTA.out _).mono ?_
  rintro e w4 ⟨A4, c4, rfl, ho4, x4⟩
  have XA := Kp.mk (XA.out.trans x4)
  clear c0 k1 k2 k3 k4 k5 m0 m1 m2 m3 m4 m5
  have HOA := Kp.mk ho4.bs
  clear ho4
  clear x4
  obtain ⟨c0, k1, k2, k3, k4, k5⟩ := box6 HBA.out (show Ext (w.alloc (.cells #[.int .i64 y, .int .i64 mo, .int .i64 d, .int .i64 h, .int .i64 mi, .int .i64 s] tmt)) w4 from Ext.trans (by (repeat (first | assumption | exact Ext.refl _ | apply Ext.drew | apply Ext.drewN | apply Ext.alloc | refine Ext.trans ?_ (by assumption))); first | done | fail) XA.out)
  obtain ⟨m0, m1, m2, m3, m4, m5⟩ := box6 HBB.out XA.out
  go_wp2_with fail
  refine (HTB.out _).mono ?_
  rintro e w5 ⟨A5, c5, rfl, ho5, x5⟩
  have XA := Kp.mk (XA.out.trans x5)
  clear c0 k1 k2 k3 k4 k5 m0 m1 m2 m3 m4 m5
  have HOB := Kp.mk ho5.bs
  clear ho5
  have HOA := Kp.mk (HOA.out.ext x5)
  clear x5
  obtain ⟨c0, k1, k2, k3, k4, k5⟩ := box6 HBA.out (show Ext (w.alloc (.cells #[.int .i64 y, .int .i64 mo, .int .i64 d, .int .i64 h, .int .i64 mi, .int .i64 s] tmt)) w5 from Ext.trans (by (repeat (first | assumption | exact Ext.refl _ | apply Ext.drew | apply Ext.drewN | apply Ext.alloc | refine Ext.trans ?_ (by assumption))); first | done | fail) XA.out)
  obtain ⟨m0, m1, m2, m3, m4, m5⟩ := box6 HBB.out XA.out
  have HF := Kp.mk (show Ext w w5 from Ext.trans (show Ext w ((w.alloc (.cells #[.int .i64 y, .int .i64 mo, .int .i64 d, .int .i64 h, .int .i64 mi, .int .i64 s] tmt)).alloc (.cells #[.int .i64 y2, .int .i64 mo2, .int .i64 d2_, .int .i64 h2, .int .i64 mi2, .int .i64 s2] tmt)) from (by (repeat (first | assumption | exact Ext.refl _ | apply Ext.drew | apply Ext.drewN | apply Ext.alloc | refine Ext.trans ?_ (by assumption))); first | done | fail)) XA.out)
  obtain ⟨C, hC⟩ : ∃ C, C = cntT ta := ⟨_, rfl⟩
  obtain ⟨D, hD⟩ : ∃ D, D = cntT tb := ⟨_, rfl⟩
  rw [← hC, ← hD]
  have S1 := HOA.out.str (Ext.refl _)
  have S2 := HOB.out.str (Ext.refl _)
  have HS1 := Kp.mk S1
  have HS2 := Kp.mk S2
  clear S1 S2
  obtain ⟨N1, hN1⟩ : ∃ N1, N1 = (tmB ta).length := ⟨_, rfl⟩
  obtain ⟨N2, hN2⟩ : ∃ N2, N2 = (tmB tb).length := ⟨_, rfl⟩
  rw [← hN1] at HS1 ⊢
  rw [← hN2] at HS2 ⊢
  clear hN1 hN2 HOA HOB
  by_cases hle : D ≤ C
  · have g1 : decide ((D : Int) ≤ (C : Int)) = true := decide_eq_true (by omega)
    have g2 : decide (D ≤ C) = true := decide_eq_true hle
    by_cases heq : C = D
    · have hT : ta = tb := cnt_inj hta htb (by omega)
      subst hT
      obtain ⟨rfl⟩ : D = C := heq.symm
      have hh : tci y mo d h mi s = tci y2 mo2 d2_ h2 mi2 s2 := EA.out.trans EB.out.symm
      unfold tci at hh
      simp only [Array.mk.injEq, List.cons.injEq, Value.int.injEq, true_and, and_true] at hh
      obtain ⟨rfl, rfl, rfl, rfl, rfl, rfl⟩ := hh
      clear hta hC hD hle htb
      go_wp2_with fail
      go_quiet (fail)
      go_wp2_with fail
      go_ret
      exact ⟨rfl, (HF.out.trans (by (repeat (first | assumption | exact Ext.refl _ | apply Ext.drew | apply Ext.drewN | apply Ext.alloc | refine Ext.trans ?_ (by assumption))); first | done | fail)).b⟩

    · have z1 : ((C : Int) == (D : Int)) = false := beq_eq_false_iff_ne.2 (by omega)
      have z3 : ((C : Int) != (D : Int)) = true := bne_iff_ne.2 (by omega)
      have z5 : ¬ C = D := heq
      clear hta htb hC hD
      go_wp2_with fail
      go_quiet (fail)
      go_wp2_with fail
      go_ret
      exact ⟨rfl, (HF.out.trans (by (repeat (first | assumption | exact Ext.refl _ | apply Ext.drew | apply Ext.drewN | apply Ext.alloc | refine Ext.trans ?_ (by assumption))); first | done | fail)).b⟩

  · have g1 : decide ((D : Int) ≤ (C : Int)) = false := decide_eq_false (by omega)
    have g2 : decide (D ≤ C) = false := decide_eq_false hle
    have g3 : ¬ D ≤ C := hle
    have hlt : LtT ta tb := (cnt_iff hta htb).1 (by omega)
    have hM : ∀ t : Tmt, (tmM t = 23 ∧ ub (tmM t) = 23) ∨ (tmM t = 24 ∧ ub (tmM t) = 24) := fun t => by
      by_cases k : 1950 ≤ t.y ∧ t.y ≤ 2049
      · have e : tmM t = 23 := by unfold tmM; rw [if_pos k]
        exact .inl ⟨e, by rw [e]; rfl⟩
      · have e : tmM t = 24 := by unfold tmM; rw [if_neg k]
        exact .inr ⟨e, by rw [e]; rfl⟩
    have hya : y = (ta.y : Int) := by
      have hh := EA.out
      unfold tcs tci at hh
      simp only [Array.mk.injEq, List.cons.injEq, Value.int.injEq, true_and, and_true] at hh
      exact hh.1
    have hyb : y2 = (tb.y : Int) := by
      have hh := EB.out
      unfold tcs tci at hh
      simp only [Array.mk.injEq, List.cons.injEq, Value.int.injEq, true_and, and_true] at hh
      exact hh.1
    have hL : tmM ta = tmM tb → ¬ (tmM ta = 23 ∧ ta.y < 2000 ∧ 2000 ≤ tb.y) → Op.bytesLess (strOf (tmB ta)).toList (strOf (tmB tb)).toList = true := fun e1 e2 => by rw [lexB_str]; exact later_body hta htb hlt e1 e2
    have HL := Kp.mk hL
    clear hL hlt hta htb hC hD hle hq
    rcases hM ta with ⟨t1, u1⟩ | ⟨t1, u1⟩ <;> rcases hM tb with ⟨t2, u2⟩ | ⟨t2, u2⟩
    · rw [u1, u2]
      by_cases j1 : y < 2000
      · have j1' : decide (y < 2000) = true := decide_eq_true j1
        by_cases j2 : 2000 ≤ y2
        · have j2' : decide (2000 ≤ y2) = true := decide_eq_true j2
          clear hya hyb hM t1 t2 u1 u2 j1 j2
          go_wp2_with fail
          go_ret
          exact ⟨rfl, (HF.out.trans (by (repeat (first | assumption | exact Ext.refl _ | apply Ext.drew | apply Ext.drewN | apply Ext.alloc | refine Ext.trans ?_ (by assumption))); first | done | fail)).b⟩
        · have j2' : decide (2000 ≤ y2) = false := decide_eq_false j2
          have hl := HL.out (t1.trans t2.symm) (fun e => by omega)
          have s1 := HS1.out
          have s2 := HS2.out
          clear hya hyb hM t1 t2 u1 u2 j1 j2
          go_wp2_with fail
          go_ret
          exact ⟨rfl, (HF.out.trans (by (repeat (first | assumption | exact Ext.refl _ | apply Ext.drew | apply Ext.drewN | apply Ext.alloc | refine Ext.trans ?_ (by assumption))); first | done | fail)).b⟩
      · have j1' : decide (y < 2000) = false := decide_eq_false j1
        have hl := HL.out (t1.trans t2.symm) (fun e => by omega)
        have s1 := HS1.out
        have s2 := HS2.out
        clear hya hyb hM t1 t2 u1 u2 j1
        go_wp2_with fail
        go_ret
        exact ⟨rfl, (HF.out.trans (by (repeat (first | assumption | exact Ext.refl _ | apply Ext.drew | apply Ext.drewN | apply Ext.alloc | refine Ext.trans ?_ (by assumption))); first | done | fail)).b⟩
    · rw [u1, u2]
      clear hya hyb hM t1 t2 u1 u2
      go_wp2_with fail
      go_ret
      exact ⟨rfl, (HF.out.trans (by (repeat (first | assumption | exact Ext.refl _ | apply Ext.drew | apply Ext.drewN | apply Ext.alloc | refine Ext.trans ?_ (by assumption))); first | done | fail)).b⟩
    · rw [u1, u2]
      clear hya hyb hM t1 t2 u1 u2
      go_wp2_with fail
      go_ret
      exact ⟨rfl, (HF.out.trans (by (repeat (first | assumption | exact Ext.refl _ | apply Ext.drew | apply Ext.drewN | apply Ext.alloc | refine Ext.trans ?_ (by assumption))); first | done | fail)).b⟩
    · rw [u1, u2]
      have hl := HL.out (t1.trans t2.symm) (fun e => by rw [t1] at e; exact absurd e.1 (by decide))
      have s1 := HS1.out
      have s2 := HS2.out
      clear hya hyb hM t1 t2 u1 u2
      go_wp2_with fail
      go_ret
      exact ⟨rfl, (HF.out.trans (by (repeat (first | assumption | exact Ext.refl _ | apply Ext.drew | apply Ext.drewN | apply Ext.alloc | refine Ext.trans ?_ (by assumption))); first | done | fail)).b⟩
end Go.Proofs.Ytfipgmjaabggjaa
