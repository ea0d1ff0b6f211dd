/-
  nat: Inv; Write of what doesn't fit.
-/
import Derived.Test.YtpmoaccaknfodaaDoorOd
import Derived.Test.YtpmoaccaknfodaaDoorOf
namespace Go.Proofs.YtpmoaccaknfodaaDoor
open Go Go.RowKit

section
variable {w : World} {A B : Option Addr} {n c m d : Nat} {a b : List Nat}
theorem Inv_long (ha : In1 w A n c a) (hb : In1 w B m d b) (h : lng (vl BB a) ∨ lng (vl BB b)) : Calls Tryd.prog 11 #[.slice A n c, .slice B m d] w (Bad1 w 4) := by
  have C := Kp.mk (two_long ha hb h)
  clear ha hb h
  go_enter Tryd.func11, Tryd.ntmps11
  go_wp2_with fail
  refine C.out.mono ?_
  rintro e w1 ⟨rfl, rfl⟩
  go_wp2_with fail
  go_ret2
  exact ⟨rfl, (by (repeat (first | assumption | exact Ext.refl _ | apply Ext.drew | apply Ext.drewN | apply Ext.alloc | refine Ext.trans ?_ (by assumption))); first | done | fail)⟩
/-- what is told of what makes 1 -/
def InvR (w : World) (va vm : Nat) (e : Ending) (w' : World) : Prop :=
  (Nat.gcd vm va = 1 ∧ Ok1 w (invN va vm) e w') ∨ (Nat.gcd vm va ≠ 1 ∧ Bad1 w 13 e w')
theorem Inv_low (ha : In1 w A n c a) (hb : In1 w B m d b) (h1 : ¬ lng (vl BB a)) (h2 : ¬ lng (vl BB b)) (hm : vl BB b < 2) : Calls Tryd.prog 11 #[.slice A n c, .slice B m d] w (Bad1 w 1) := by
  have C := Kp.mk (two_short ha hb h1 h2)
  have hx : Ext w (w.alloc (.cells #[.slice A n c, .slice B m d] nt)) := (by (repeat (first | assumption | exact Ext.refl _ | apply Ext.drew | apply Ext.drewN | apply Ext.alloc | refine Ext.trans ?_ (by assumption))); first | done | fail)
  have C2 := Kp.mk (hb.ext hx).counted
  have HX := Kp.mk hx
  have HL := Kp.mk (show nl (vl BB b) ≤ 64 from Nat.le_of_not_lt h2)
  have HM := Kp.mk hm
  generalize vl BB b = vm at *
  clear ha hb h1 h2 hx hm
  go_enter Tryd.func11, Tryd.ntmps11
  go_wp2_with fail
  refine C.out.mono ?_
  rintro e w1 ⟨rfl, hw1⟩
  rw [← hw1] at C2 HX
  clear hw1
  go_wp2_with fail
  refine C2.out.mono ?_
  rintro e w2 ⟨rfl, _, r2, rfl⟩
  have C3 := Kp.mk (CmpN_any (w := w2.alloc (.cells #[.int .u32 2] ut)) (r2.ext (by (repeat (first | assumption | exact Ext.refl _ | apply Ext.drew | apply Ext.drewN | apply Ext.alloc | refine Ext.trans ?_ (by assumption))); first | done | fail)) ((lit_lb w2 [2] w2.heap.size rfl).whole 1 1 rfl (Nat.le_refl _)) (cn_dgs (by decide) vm).d (Dg.one (by decide)) (by have := HL.out; omega) (by omega))
  rw [vl_dgs (B := BB) (by decide), show vl BB [2] = 2 from rfl, cmpI_lt HM.out] at C3
  clear r2 C2
  go_wp2_with fail
  refine C3.out.mono ?_
  rintro e w3 ⟨rfl, hx3⟩
  have HF := Kp.mk (show Bad1 w 1 (.returned (.tuple #[.slice none 0 0, err 1])) w3 from ⟨rfl, (HX.out.trans ((Ext.refl w2).alloc _)).trans hx3⟩)
  clear hx3
  go_wp2_with fail
  go_ret2
  exact HF.out
theorem Inv_ok (ha : In1 w A n c a) (hb : In1 w B m d b) (h1 : ¬ lng (vl BB a)) (h2 : ¬ lng (vl BB b)) (hm : 2 ≤ vl BB b) : Calls Tryd.prog 11 #[.slice A n c, .slice B m d] w (InvR w (vl BB a) (vl BB b)) := by
  have C := Kp.mk (two_short ha hb h1 h2)
  have hx : Ext w (w.alloc (.cells #[.slice A n c, .slice B m d] nt)) := (by (repeat (first | assumption | exact Ext.refl _ | apply Ext.drew | apply Ext.drewN | apply Ext.alloc | refine Ext.trans ?_ (by assumption))); first | done | fail)
  have C1 := Kp.mk (fun w' (h : Ext w w') => (ha.ext h).counted)
  have C2 := Kp.mk (hb.ext hx).counted
  have HX := Kp.mk hx
  have HL := Kp.mk (show nl (vl BB a) ≤ 64 ∧ nl (vl BB b) ≤ 64 from ⟨Nat.le_of_not_lt h1, Nat.le_of_not_lt h2⟩)
  have HM := Kp.mk hm
  generalize vl BB a = va at *
  generalize vl BB b = vm at *
  have hz : ¬ cmpI vm 2 < 0 := by
    rcases Nat.lt_or_ge 2 vm with h | h
    · rw [cmpI_gt h]; decide
    · rw [show vm = 2 by omega, cmpI_eq]; decide
  clear ha hb h1 h2 hx hm
  go_enter Tryd.func11, Tryd.ntmps11
  go_wp2_with fail
  refine C.out.mono ?_
  rintro e w1 ⟨rfl, hw1⟩
  rw [← hw1] at C2 HX
  clear hw1
  go_wp2_with fail
  refine C2.out.mono ?_
  rintro e w2 ⟨rfl, _, r2, rfl⟩
  have C3 := Kp.mk (CmpN_any (w := w2.alloc (.cells #[.int .u32 2] ut)) (r2.ext (by (repeat (first | assumption | exact Ext.refl _ | apply Ext.drew | apply Ext.drewN | apply Ext.alloc | refine Ext.trans ?_ (by assumption))); first | done | fail)) ((lit_lb w2 [2] w2.heap.size rfl).whole 1 1 rfl (Nat.le_refl _)) (cn_dgs (by decide) vm).d (Dg.one (by decide)) (by have := HL.out; omega) (by omega))
  rw [vl_dgs (B := BB) (by decide), show vl BB [2] = 2 from rfl] at C3
  have R2 := Kp.mk r2
  generalize cmpI vm 2 = z at *
  clear r2 C2
  go_wp2_with fail
  refine C3.out.mono ?_
  rintro e w3 ⟨rfl, hx3⟩
  have hx23 : Ext w2 w3 := ((Ext.refl w2).alloc _).trans hx3
  have HX3 := Kp.mk (HX.out.trans hx23)
  have R3 := Kp.mk (R2.out.ext hx23)
  have C4 := Kp.mk (C1.out _ (HX.out.trans hx23))
  clear hx3 hx23 C1 R2 C3
  go_wp2_with fail
  refine C4.out.mono ?_
  rintro e w4 ⟨rfl, _, r1, rfl⟩
  have C5 := Kp.mk (invert_any r1 R3.out HL.out.1 HL.out.2 HM.out)
  clear r1 R3 C4
  go_wp2_with fail
  refine C5.out.mono ?_
  rintro e w5 (⟨hg, A5, n5, c5, rfl, ho5, hx5⟩ | ⟨hg, rfl, hx5⟩)
  · have HF := Kp.mk (show InvR w va vm (.returned (.tuple #[.slice A5 n5 c5, .nilIface])) w5 from .inl ⟨hg, A5, n5, c5, rfl, ho5.lower HX3.out.size, HX3.out.trans hx5⟩)
    clear ho5 hx5 hg
    go_wp2_with fail
    go_ret2
    exact HF.out
  · have HF := Kp.mk (show InvR w va vm (.returned (.tuple #[.slice none 0 0, err 13])) w5 from .inr ⟨hg, rfl, HX3.out.trans hx5⟩)
    clear hx5 hg
    go_wp2_with fail
    go_ret2
    exact HF.out
/-- a number that has more bits than fit into 1 byte -/
theorem bitsOf_lo {l : List Nat} (h : 256 ≤ vl BB l) {k : Nat} (hk : vl BB l < 2 ^ k) : 9 ≤ k := by
  rcases Nat.lt_or_ge k 9 with h1 | h1
  · have := Nat.pow_le_pow_right (n := 2) (by decide) (show k ≤ 8 by omega)
    omega
  · exact h1
theorem Write_low (ha : In1 w A n c a) (h1 : ¬ lng (vl BB a)) (hv : 256 ≤ vl BB a) : Calls Tryd.prog 13 #[.slice A n c, .int .i64 1] w fun e w' => e = .returned (.tuple #[.slice none 0 0, err 1]) ∧ Ext w w' := by
  have C := Kp.mk (anyLong_at w nt [⟨A, n, c, a⟩] #[.slice A n c] rfl 1 rfl (by omega) (by simp [ha.ok]) false (by simp [h1]))
  have hx : Ext w (w.alloc (.cells #[.slice A n c] nt)) := (by (repeat (first | assumption | exact Ext.refl _ | apply Ext.drew | apply Ext.drewN | apply Ext.alloc | refine Ext.trans ?_ (by assumption))); first | done | fail)
  have C1 := Kp.mk (ha.ext hx).counted
  have HL := Kp.mk (show nl (vl BB a) ≤ 64 from Nat.le_of_not_lt h1)
  have HX := Kp.mk hx
  have HV := Kp.mk hv
  generalize vl BB a = va at *
  clear ha h1 hx hv
  go_enter Tryd.func13, Tryd.ntmps13
  go_wp2_with fail
  refine C.out.mono ?_
  rintro e w1 ⟨rfl, hw1⟩
  rw [← hw1] at C1 HX
  clear hw1
  go_wp2_with fail
  refine C1.out.mono ?_
  rintro e w2 ⟨rfl, _, r1, rfl⟩
  have C2 := Kp.mk (bitsOf_any r1 (cn_dgs (by decide) va).d (by have := HL.out; omega))
  clear r1 C1
  go_wp2_with fail
  refine C2.out.mono ?_
  rintro e w3 ⟨k, rfl, hk, hk2, rfl⟩
  have hk9 := bitsOf_lo (by rw [vl_dgs (by decide)]; exact HV.out) hk
  have b1 : (1 : Int) < ((k : Int) + 7) / 8 := by omega
  have b2 : (k : Int) < 100000 := by have := HL.out; omega
  clear hk hk2 hk9
  go_wp2_with fail
  go_ret2
  exact ⟨rfl, HX.out⟩
end
end Go.Proofs.YtpmoaccaknfodaaDoor
