/-
  The walk of the law NatPowers.
-/
import Derived.Test.YtpmoaccaknfodaaOl
namespace Go.Proofs.Ytpmoaccaknfodaa
open Go Go.RowKit

set_option maxHeartbeats 8000000 in
set_option maxRecDepth 100000 in
theorem NatPowers_any {a e f m : List Nat} {Aa Ae Af Am : Option Addr} {na ne nf nm ca ce cf cm : Nat} {w : World} (ha : Rd vL w Aa na ca a) (he : Rd vL w Ae ne ce e) (hf : Rd vL w Af nf cf f) (hm : Rd vL w Am nm cm m) (da : Dg BB a) (de : Dg BB e) (df : Dg BB f) (dm : Dg BB m) :
    Calls Try.prog 10 #[.slice Aa na ca, .slice Ae ne ce, .slice Af nf cf, .slice Am nm cm] w fun e w' => e = .returned (.bool true) ∧ Below w.heap.size w w' := by
  have HU := Kp.mk (up_any w)
  have hcs : (na ≤ 20 ∧ ne ≤ 2 ∧ nf ≤ 2 ∧ nm ≤ 6) ∨ 20 < na ∨ (na ≤ 20 ∧ 2 < ne) ∨ (na ≤ 20 ∧ ne ≤ 2 ∧ 2 < nf) ∨ (na ≤ 20 ∧ ne ≤ 2 ∧ nf ≤ 2 ∧ 6 < nm) := by omega
  rcases hcs with ⟨hna, hne, hnf, hnm⟩ | hna | ⟨hna, hne⟩ | ⟨hna, hne, hnf⟩ | ⟨hna, hne, hnf, hnm⟩
  · have ba : decide ((20 : Int) < (na : Int)) = false := decide_eq_false (by omega)
    have Na := Kp.mk (Nv.small ha da (by omega))
    have la : vl BB a < BB ^ 20 := Nat.lt_of_lt_of_le (vl_len ha da) (Nat.pow_le_pow_right (n := BB) (by decide) hna)
    have be : decide ((2 : Int) < (ne : Int)) = false := decide_eq_false (by omega)
    have Ne := Kp.mk (Nv.small he de (by omega))
    have le : vl BB e < BB ^ 2 := Nat.lt_of_lt_of_le (vl_len he de) (Nat.pow_le_pow_right (n := BB) (by decide) hne)
    have bf : decide ((2 : Int) < (nf : Int)) = false := decide_eq_false (by omega)
    have Nf := Kp.mk (Nv.small hf df (by omega))
    have lf : vl BB f < BB ^ 2 := Nat.lt_of_lt_of_le (vl_len hf df) (Nat.pow_le_pow_right (n := BB) (by decide) hnf)
    have bm : decide ((6 : Int) < (nm : Int)) = false := decide_eq_false (by omega)
    have Nm := Kp.mk (Nv.small hm dm (by omega))
    have lm : vl BB m < BB ^ 6 := Nat.lt_of_lt_of_le (vl_len hm dm) (Nat.pow_le_pow_right (n := BB) (by decide) hnm)
    generalize vl BB a = va at *
    generalize vl BB e = ve at *
    generalize vl BB f = vf at *
    generalize vl BB m = vm at *
    clear ha da he de hf df hm dm
    by_cases hm0 : vm = 0
    · subst hm0
      clear la le lf lm
      go_enter Try.func10, Try.ntmps10
      go_wp2_with fail
      refine (HU.out).mono ?_
      rintro e w1 ⟨rfl, x1⟩
      go_wp2_with fail
      refine (CmpV (Nm.out.ext (by (repeat (first | assumption | exact Ext.refl _ | apply Ext.drew | apply Ext.drewN | apply Ext.alloc | refine Ext.trans ?_ (by assumption))); first | done | fail)) (Nv.nil _) 0 rfl).mono ?_
      rintro e w2 ⟨rfl, x2⟩
      have HX := Kp.mk (show Ext w w2 from (by (repeat (first | assumption | exact Ext.refl _ | apply Ext.drew | apply Ext.drewN | apply Ext.alloc | refine Ext.trans ?_ (by assumption))); first | done | fail))
      clear x1 x2
      go_wp2_with fail
      go_ret
      exact ⟨rfl, HX.out.b⟩
    · have hmp : 0 < vm := Nat.pos_of_ne_zero hm0
      have ls : ve + vf < BB ^ 3 := lt_add le lf (by decide) (by decide)
      have lx : va ^ ve % vm < BB ^ 6 := Nat.lt_trans (Nat.mod_lt _ hmp) lm
      have ly : va ^ vf % vm < BB ^ 6 := Nat.lt_trans (Nat.mod_lt _ hmp) lm
      have lz : va ^ (ve + vf) % vm < BB ^ 6 := Nat.lt_trans (Nat.mod_lt _ hmp) lm
      have lp : va ^ ve % vm * (va ^ vf % vm) < BB ^ 12 := lt_mul lx ly (by decide)
      have hq := Kp.mk (show va ^ ve % vm * (va ^ vf % vm) % vm = va ^ (ve + vf) % vm by rw [← Nat.mul_mod, ← Nat.pow_add])
      have SA := Kp.mk (short_of la (by decide))
      have SE := Kp.mk (short_of le (by decide))
      have SF := Kp.mk (short_of lf (by decide))
      have SM := Kp.mk (short_of lm (by decide))
      have SS := Kp.mk (short_of ls (by decide))
      have SX := Kp.mk (short_of lx (by decide))
      have SY := Kp.mk (short_of ly (by decide))
      have SZ := Kp.mk (short_of lz (by decide))
      have SP := Kp.mk (short_of lp (by decide))
      have SR := Kp.mk (show ¬ lng (va ^ ve % vm * (va ^ vf % vm) % vm) by rw [hq.out]; exact SZ.out)
      have SQ := Kp.mk (show ¬ lng (va ^ ve % vm * (va ^ vf % vm) / vm) from fun h => SP.out (Nat.lt_of_lt_of_le h (nl_mono (Nat.div_le_self _ _))))
      have HM := Kp.mk hm0
      clear la le lf lm hm0 hmp ls lx ly lz lp
      go_enter Try.func10, Try.ntmps10
      go_wp2_with fail
      refine (HU.out).mono ?_
      rintro e w1 ⟨rfl, x1⟩
      go_wp2_with fail
      refine (CmpV (Nm.out.ext (by (repeat (first | assumption | exact Ext.refl _ | apply Ext.drew | apply Ext.drewN | apply Ext.alloc | refine Ext.trans ?_ (by assumption))); first | done | fail)) (Nv.nil _) 1 (cmpI_gt (Nat.pos_of_ne_zero HM.out))).mono ?_
      rintro e w2 ⟨rfl, x2⟩
      go_wp2_with fail
      refine (AddV (Ne.out.ext (by (repeat (first | assumption | exact Ext.refl _ | apply Ext.drew | apply Ext.drewN | apply Ext.alloc | refine Ext.trans ?_ (by assumption))); first | done | fail)) (Nf.out.ext (by (repeat (first | assumption | exact Ext.refl _ | apply Ext.drew | apply Ext.drewN | apply Ext.alloc | refine Ext.trans ?_ (by assumption))); first | done | fail)) SE.out SF.out).mono ?_
      rintro e w3 ⟨A3, n3, c3, rfl, o3, x3⟩
      have M3 := Kp.mk (Nv.of o3 SS.out)
      clear o3
      go_wp2_with fail
      refine (ExpV (Na.out.ext (by (repeat (first | assumption | exact Ext.refl _ | apply Ext.drew | apply Ext.drewN | apply Ext.alloc | refine Ext.trans ?_ (by assumption))); first | done | fail)) (Ne.out.ext (by (repeat (first | assumption | exact Ext.refl _ | apply Ext.drew | apply Ext.drewN | apply Ext.alloc | refine Ext.trans ?_ (by assumption))); first | done | fail)) (Nm.out.ext (by (repeat (first | assumption | exact Ext.refl _ | apply Ext.drew | apply Ext.drewN | apply Ext.alloc | refine Ext.trans ?_ (by assumption))); first | done | fail)) SA.out SE.out SM.out HM.out).mono ?_
      rintro e w4 ⟨A4, n4, c4, rfl, o4, x4⟩
      have M4 := Kp.mk (Nv.of o4 SX.out)
      clear o4
      go_wp2_with fail
      refine (ExpV (Na.out.ext (by (repeat (first | assumption | exact Ext.refl _ | apply Ext.drew | apply Ext.drewN | apply Ext.alloc | refine Ext.trans ?_ (by assumption))); first | done | fail)) (Nf.out.ext (by (repeat (first | assumption | exact Ext.refl _ | apply Ext.drew | apply Ext.drewN | apply Ext.alloc | refine Ext.trans ?_ (by assumption))); first | done | fail)) (Nm.out.ext (by (repeat (first | assumption | exact Ext.refl _ | apply Ext.drew | apply Ext.drewN | apply Ext.alloc | refine Ext.trans ?_ (by assumption))); first | done | fail)) SA.out SF.out SM.out HM.out).mono ?_
      rintro e w5 ⟨A5, n5, c5, rfl, o5, x5⟩
      have M5 := Kp.mk (Nv.of o5 SY.out)
      clear o5
      go_wp2_with fail
      refine (ExpV (Na.out.ext (by (repeat (first | assumption | exact Ext.refl _ | apply Ext.drew | apply Ext.drewN | apply Ext.alloc | refine Ext.trans ?_ (by assumption))); first | done | fail)) (M3.out.ext (by (repeat (first | assumption | exact Ext.refl _ | apply Ext.drew | apply Ext.drewN | apply Ext.alloc | refine Ext.trans ?_ (by assumption))); first | done | fail)) (Nm.out.ext (by (repeat (first | assumption | exact Ext.refl _ | apply Ext.drew | apply Ext.drewN | apply Ext.alloc | refine Ext.trans ?_ (by assumption))); first | done | fail)) SA.out SS.out SM.out HM.out).mono ?_
      rintro e w6 ⟨A6, n6, c6, rfl, o6, x6⟩
      have M6 := Kp.mk (Nv.of o6 SZ.out)
      clear o6
      go_wp2_with fail
      refine (MulV (M4.out.ext (by (repeat (first | assumption | exact Ext.refl _ | apply Ext.drew | apply Ext.drewN | apply Ext.alloc | refine Ext.trans ?_ (by assumption))); first | done | fail)) (M5.out.ext (by (repeat (first | assumption | exact Ext.refl _ | apply Ext.drew | apply Ext.drewN | apply Ext.alloc | refine Ext.trans ?_ (by assumption))); first | done | fail)) SX.out SY.out).mono ?_
      rintro e w7 ⟨A7, n7, c7, rfl, o7, x7⟩
      have M7 := Kp.mk (Nv.of o7 SP.out)
      clear o7
      go_wp2_with fail
      refine (DivV (M7.out.ext (by (repeat (first | assumption | exact Ext.refl _ | apply Ext.drew | apply Ext.drewN | apply Ext.alloc | refine Ext.trans ?_ (by assumption))); first | done | fail)) (Nm.out.ext (by (repeat (first | assumption | exact Ext.refl _ | apply Ext.drew | apply Ext.drewN | apply Ext.alloc | refine Ext.trans ?_ (by assumption))); first | done | fail)) SP.out SM.out HM.out).mono ?_
      rintro e w8 ⟨A8, n8, c8, A9, n9, c9, rfl, o8, o9, x8⟩
      have M9 := Kp.mk (Nv.of o9 SR.out)
      clear o8 o9
      go_wp2_with fail
      refine (CmpV (M9.out.ext (by (repeat (first | assumption | exact Ext.refl _ | apply Ext.drew | apply Ext.drewN | apply Ext.alloc | refine Ext.trans ?_ (by assumption))); first | done | fail)) (M6.out.ext (by (repeat (first | assumption | exact Ext.refl _ | apply Ext.drew | apply Ext.drewN | apply Ext.alloc | refine Ext.trans ?_ (by assumption))); first | done | fail)) 0 (cmpI_same hq.out)).mono ?_
      rintro e w9 ⟨rfl, x9⟩
      have HX := Kp.mk (show Ext w w9 from (by (repeat (first | assumption | exact Ext.refl _ | apply Ext.drew | apply Ext.drewN | apply Ext.alloc | refine Ext.trans ?_ (by assumption))); first | done | fail))
      clear x1 x2 x3 x4 x5 x6 x7 x8 x9
      go_wp2_with fail
      go_ret
      exact ⟨rfl, HX.out.b⟩
  · have ba : decide ((20 : Int) < (na : Int)) = true := decide_eq_true (by omega)
    clear ha da he de hf df hm dm
    go_enter Try.func10, Try.ntmps10
    go_wp2_with fail
    refine (HU.out).mono ?_
    rintro e w1 ⟨rfl, x1⟩
    go_wp2_with fail
    go_ret
    exact ⟨rfl, x1.b⟩
  · have ba : decide ((20 : Int) < (na : Int)) = false := decide_eq_false (by omega)
    have be : decide ((2 : Int) < (ne : Int)) = true := decide_eq_true (by omega)
    clear ha da he de hf df hm dm
    go_enter Try.func10, Try.ntmps10
    go_wp2_with fail
    refine (HU.out).mono ?_
    rintro e w1 ⟨rfl, x1⟩
    go_wp2_with fail
    go_ret
    exact ⟨rfl, x1.b⟩
  · have ba : decide ((20 : Int) < (na : Int)) = false := decide_eq_false (by omega)
    have be : decide ((2 : Int) < (ne : Int)) = false := decide_eq_false (by omega)
    have bf : decide ((2 : Int) < (nf : Int)) = true := decide_eq_true (by omega)
    clear ha da he de hf df hm dm
    go_enter Try.func10, Try.ntmps10
    go_wp2_with fail
    refine (HU.out).mono ?_
    rintro e w1 ⟨rfl, x1⟩
    go_wp2_with fail
    go_ret
    exact ⟨rfl, x1.b⟩
  · have ba : decide ((20 : Int) < (na : Int)) = false := decide_eq_false (by omega)
    have be : decide ((2 : Int) < (ne : Int)) = false := decide_eq_false (by omega)
    have bf : decide ((2 : Int) < (nf : Int)) = false := decide_eq_false (by omega)
    have bm : decide ((6 : Int) < (nm : Int)) = true := decide_eq_true (by omega)
    clear ha da he de hf df hm dm
    go_enter Try.func10, Try.ntmps10
    go_wp2_with fail
    refine (HU.out).mono ?_
    rintro e w1 ⟨rfl, x1⟩
    go_wp2_with fail
    go_ret
    exact ⟨rfl, x1.b⟩
end Go.Proofs.Ytpmoaccaknfodaa
