/-
  The laws' head: up, one, light.
-/
import Derived.Test.YtpmoaccaknfodaaDoorOj
import Derived.Test.YtpmoaccaknfodaaDoorOi
namespace Go.Proofs.YtpmoaccaknfodaaDoor
open Go Go.RowKit

theorem one_any {A : Option Addr} {n c v : Nat} {w : World} (h : Rd vL w A n c (dgs BB v)) (hv0 : v ≠ 0) (hv : v < 4294967296) : Calls Tryd.prog 14 #[.slice A n c, .int .u32 (v : Int)] w fun e w' => e = .returned (.bool true) ∧ w' = w := by
  have e : dgs BB v = [v] := (dgs_of (by decide) ⟨Dg.one hv, by simpa using hv0⟩ (by simp [vl])).symm
  rw [e] at h
  have hl := h.len
  obtain rfl : n = 1 := hl.symm
  obtain ⟨g, o, rfl⟩ := h.some_ (by omega)
  have k1 := h.dig 0 (by omega)
  unfold vL at k1
  rw [show dg [v] 0 = v from rfl, Nat.add_zero] at k1
  clear h hl e
  go_enter Tryd.func14, Tryd.ntmps14
  go_wp2_with fail
  go_ret
  exact ⟨by first | rfl | simp, rfl⟩
theorem nl_small {x : Nat} (h : x < 4294967296) : nl x ≤ 1 := by
  by_cases h0 : x = 0
  · subst h0; exact Nat.zero_le _
  · rw [nl_eq (L := 0) (by rw [Nat.pow_zero]; omega) (by rw [Nat.zero_add, Nat.pow_one]; exact h)]
    exact Nat.le_refl _
theorem In1.lit (w : World) (x : Nat) (a : Int) (ha : a = (x : Int)) (hx : x < 4294967296) (g : Nat) (hg : g = w.heap.size) : In1 (w.alloc (.cells #[.int .u32 a] ut)) (some ⟨g, 0, none⟩) 1 1 [x] := by
  subst hg ha
  exact ⟨(lit_lb w [x] w.heap.size rfl).whole 1 1 rfl (Nat.le_refl _), Dg.one hx, by omega⟩
theorem lit_short {x : Nat} (hx : x < 4294967296) : ¬ lng (vl BB [x]) := by
  rw [show vl BB [x] = x by simp [vl]]
  unfold lng
  have := nl_small hx
  omega
theorem vl_one (x : Nat) : vl BB [x] = x := by simp [vl]
set_option maxHeartbeats 4000000 in
theorem up_any (w : World) : Calls Tryd.prog 4 #[] w fun e w' => e = .returned (.bool true) ∧ Ext w w' := by
  have ee1 := code_eq 13 13
  have ee2 := code_eq 1 1
  go_enter Tryd.func4, Tryd.ntmps4
  go_wp2_with fail
  have C1 := Div_ok (w := (w.alloc (.cells #[.int .u32 1000] ut)).alloc (.cells #[.int .u32 7] ut)) ((In1.lit w 1000 1000 rfl (by decide) _ rfl).ext (by (repeat (first | assumption | exact Ext.refl _ | apply Ext.drew | apply Ext.drewN | apply Ext.alloc | refine Ext.trans ?_ (by assumption))); first | done | fail)) (In1.lit (w.alloc (.cells #[.int .u32 1000] ut)) 7 7 rfl (by decide) (w.heap.size + 1) (by simp)) (lit_short (by decide)) (lit_short (by decide)) (by rw [vl_one]; decide)
  rw [vl_one, vl_one, show 1000 / 7 = 142 by decide, show 1000 % 7 = 6 by decide] at C1
  refine C1.mono ?_
  clear C1
  rintro e w1 ⟨A1, n1, c1, A2, n2, c2, rfl, o1, o2, hx1⟩
  have HX1 : Kp (Ext w w1) := Kp.mk ((show Ext w ((w.alloc (.cells #[.int .u32 1000] ut)).alloc (.cells #[.int .u32 7] ut)) from (by (repeat (first | assumption | exact Ext.refl _ | apply Ext.drew | apply Ext.drewN | apply Ext.alloc | refine Ext.trans ?_ (by assumption))); first | done | fail)).trans hx1)
  have D1 := Kp.mk (And.intro o1.rd o2.rd)
  clear o1 o2 hx1
  go_wp2_with fail
  have C2 := Exp_ok (w := ((w1.alloc (.cells #[.int .u32 3] ut)).alloc (.cells #[.int .u32 5] ut)).alloc (.cells #[.int .u32 7] ut)) ((In1.lit w1 3 3 rfl (by decide) _ rfl).ext (by (repeat (first | assumption | exact Ext.refl _ | apply Ext.drew | apply Ext.drewN | apply Ext.alloc | refine Ext.trans ?_ (by assumption))); first | done | fail)) ((In1.lit (w1.alloc (.cells #[.int .u32 3] ut)) 5 5 rfl (by decide) (w1.heap.size + 1) (by simp)).ext (by (repeat (first | assumption | exact Ext.refl _ | apply Ext.drew | apply Ext.drewN | apply Ext.alloc | refine Ext.trans ?_ (by assumption))); first | done | fail))
    (In1.lit ((w1.alloc (.cells #[.int .u32 3] ut)).alloc (.cells #[.int .u32 5] ut)) 7 7 rfl (by decide) (w1.heap.size + 1 + 1) (by simp)) (lit_short (by decide)) (lit_short (by decide)) (lit_short (by decide)) (by rw [vl_one]; decide)
  rw [vl_one, vl_one, vl_one, show 3 ^ 5 % 7 = 5 by decide] at C2
  refine C2.mono ?_
  clear C2
  rintro e w2 ⟨A3, n3, c3, rfl, o3, hx2⟩
  have HX2 : Kp (Ext w1 w2) := Kp.mk ((show Ext w1 (((w1.alloc (.cells #[.int .u32 3] ut)).alloc (.cells #[.int .u32 5] ut)).alloc (.cells #[.int .u32 7] ut)) from (by (repeat (first | assumption | exact Ext.refl _ | apply Ext.drew | apply Ext.drewN | apply Ext.alloc | refine Ext.trans ?_ (by assumption))); first | done | fail)).trans hx2)
  have D2 := Kp.mk o3.rd
  clear o3 hx2
  go_wp2_with fail
  have C3 := Inv_ok (w := (w2.alloc (.cells #[.int .u32 3] ut)).alloc (.cells #[.int .u32 7] ut)) ((In1.lit w2 3 3 rfl (by decide) _ rfl).ext (by (repeat (first | assumption | exact Ext.refl _ | apply Ext.drew | apply Ext.drewN | apply Ext.alloc | refine Ext.trans ?_ (by assumption))); first | done | fail)) (In1.lit (w2.alloc (.cells #[.int .u32 3] ut)) 7 7 rfl (by decide) (w2.heap.size + 1) (by simp)) (lit_short (by decide)) (lit_short (by decide)) (by rw [vl_one]; decide)
  rw [vl_one, vl_one] at C3
  refine C3.mono ?_
  clear C3
  rintro e w3 (⟨_, A4, n4, c4, rfl, o4, hx3⟩ | ⟨hg, -⟩)
  rotate_left
  · exact absurd (by decide) hg
  rw [← invN_eq (v := 5) (a := 3) (m := 7) (by decide) (by decide)] at o4
  have HX3 : Kp (Ext w2 w3) := Kp.mk ((show Ext w2 ((w2.alloc (.cells #[.int .u32 3] ut)).alloc (.cells #[.int .u32 7] ut)) from (by (repeat (first | assumption | exact Ext.refl _ | apply Ext.drew | apply Ext.drewN | apply Ext.alloc | refine Ext.trans ?_ (by assumption))); first | done | fail)).trans hx3)
  have D3 := Kp.mk o4.rd
  clear o4 hx3
  go_wp2_with fail
  have C4 := Inv_ok (w := (w3.alloc (.cells #[.int .u32 2] ut)).alloc (.cells #[.int .u32 4] ut)) ((In1.lit w3 2 2 rfl (by decide) _ rfl).ext (by (repeat (first | assumption | exact Ext.refl _ | apply Ext.drew | apply Ext.drewN | apply Ext.alloc | refine Ext.trans ?_ (by assumption))); first | done | fail)) (In1.lit (w3.alloc (.cells #[.int .u32 2] ut)) 4 4 rfl (by decide) (w3.heap.size + 1) (by simp)) (lit_short (by decide)) (lit_short (by decide)) (by rw [vl_one]; decide)
  rw [vl_one, vl_one] at C4
  refine C4.mono ?_
  clear C4
  rintro e w4 (⟨hg, -⟩ | ⟨_, rfl, hx4⟩)
  · exact absurd hg (by decide)
  have HX4 : Kp (Ext w3 w4) := Kp.mk ((show Ext w3 ((w3.alloc (.cells #[.int .u32 2] ut)).alloc (.cells #[.int .u32 4] ut)) from (by (repeat (first | assumption | exact Ext.refl _ | apply Ext.drew | apply Ext.drewN | apply Ext.alloc | refine Ext.trans ?_ (by assumption))); first | done | fail)).trans hx4)
  clear hx4
  go_wp2_with fail
  have C5 := Sub_low (w := (w4.alloc (.cells #[.int .u32 1] ut)).alloc (.cells #[.int .u32 2] ut)) ((In1.lit w4 1 1 rfl (by decide) _ rfl).ext (by (repeat (first | assumption | exact Ext.refl _ | apply Ext.drew | apply Ext.drewN | apply Ext.alloc | refine Ext.trans ?_ (by assumption))); first | done | fail)) (In1.lit (w4.alloc (.cells #[.int .u32 1] ut)) 2 2 rfl (by decide) (w4.heap.size + 1) (by simp)) (lit_short (by decide)) (lit_short (by decide)) (by rw [vl_one, vl_one]; decide)
  refine C5.mono ?_
  clear C5
  rintro e w5 ⟨rfl, hx5⟩
  have HX5 : Kp (Ext w4 w5) := Kp.mk ((show Ext w4 ((w4.alloc (.cells #[.int .u32 1] ut)).alloc (.cells #[.int .u32 2] ut)) from (by (repeat (first | assumption | exact Ext.refl _ | apply Ext.drew | apply Ext.drewN | apply Ext.alloc | refine Ext.trans ?_ (by assumption))); first | done | fail)).trans hx5)
  clear hx5
  go_wp2_with fail
  have C6 := Write_low (In1.lit w5 256 256 rfl (by decide) _ rfl) (lit_short (by decide)) (by rw [vl_one]; decide)
  refine C6.mono ?_
  clear C6
  rintro e w6 ⟨rfl, hx6⟩
  have HX6 : Kp (Ext w5 w6) := Kp.mk ((show Ext w5 (w5.alloc (.cells #[.int .u32 256] ut)) from (by (repeat (first | assumption | exact Ext.refl _ | apply Ext.drew | apply Ext.drewN | apply Ext.alloc | refine Ext.trans ?_ (by assumption))); first | done | fail)).trans hx6)
  clear hx6
  have HXX := Kp.mk (HX2.out.trans (HX3.out.trans (HX4.out.trans (HX5.out.trans HX6.out))))
  have O1 := one_any (w := w6) (D1.out.1.ext HXX.out) (by decide) (by decide)
  have O2 := one_any (w := w6) (D1.out.2.ext HXX.out) (by decide) (by decide)
  have O3 := one_any (w := w6) (D2.out.ext (HX3.out.trans (HX4.out.trans (HX5.out.trans HX6.out)))) (by decide) (by decide)
  have O4 := one_any (w := w6) (D3.out.ext (HX4.out.trans (HX5.out.trans HX6.out))) (by decide) (by decide)
  have HF := Kp.mk (HX1.out.trans HXX.out)
  clear D1 D2 D3 HX1 HX2 HX3 HX4 HX5 HX6 HXX
  go_wp2_with fail
  refine O1.mono ?_
  rintro e wa ⟨rfl, rfl⟩
  go_wp2_with fail
  refine O2.mono ?_
  rintro e wb ⟨rfl, rfl⟩
  go_wp2_with fail
  refine O3.mono ?_
  rintro e wc ⟨rfl, rfl⟩
  go_wp2_with fail
  refine O4.mono ?_
  rintro e wd ⟨rfl, rfl⟩
  clear O1 O2 O3 O4
  go_wp2_with fail
  go_ret
  exact ⟨rfl, HF.out⟩
end Go.Proofs.YtpmoaccaknfodaaDoor
