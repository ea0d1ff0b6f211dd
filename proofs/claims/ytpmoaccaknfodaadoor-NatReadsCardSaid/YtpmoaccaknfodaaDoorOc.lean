/-
  nat: Mul, Sub, Div.
-/
import Derived.Test.YtpmoaccaknfodaaDoorOb
namespace Go.Proofs.YtpmoaccaknfodaaDoor
open Go Go.RowKit

theorem nl_mono {a b : Nat} (h : a ≤ b) : nl a ≤ nl b := by
  rcases Nat.lt_or_ge (nl b) (nl a) with h1 | h1
  · have := cn_len_lt (B := BB) (by decide) (cn_dgs (by decide) b) (cn_dgs (by decide) a) h1
    rw [vl_dgs (by decide), vl_dgs (by decide)] at this
    omega
  · exact h1
section
variable {w : World} {A B : Option Addr} {n c m d : Nat} {a b : List Nat}
theorem Sub_long (ha : In1 w A n c a) (hb : In1 w B m d b) (h : lng (vl BB a) ∨ lng (vl BB b)) : Calls Tryd.prog 12 #[.slice A n c, .slice B m d] w (Bad1 w 4) := by
  have C := Kp.mk (two_long ha hb h)
  clear ha hb h
  go_enter Tryd.func12, Tryd.ntmps12
  go_wp2_with fail
  refine C.out.mono ?_
  rintro e w1 ⟨rfl, rfl⟩
  go_wp2_with fail
  go_ret2
  exact ⟨rfl, (by (repeat (first | assumption | exact Ext.refl _ | apply Ext.drew | apply Ext.drewN | apply Ext.alloc | refine Ext.trans ?_ (by assumption))); first | done | fail)⟩
theorem Sub_low (ha : In1 w A n c a) (hb : In1 w B m d b) (h1 : ¬ lng (vl BB a)) (h2 : ¬ lng (vl BB b)) (hlt : vl BB a < vl BB b) : Calls Tryd.prog 12 #[.slice A n c, .slice B m d] w (Bad1 w 1) := by
  have C := Kp.mk (two_short ha hb h1 h2)
  have hx : Ext w (w.alloc (.cells #[.slice A n c, .slice B m d] nt)) := (by (repeat (first | assumption | exact Ext.refl _ | apply Ext.drew | apply Ext.drewN | apply Ext.alloc | refine Ext.trans ?_ (by assumption))); first | done | fail)
  have C0 := Kp.mk (CmpN_any (ha.r.ext hx) (hb.r.ext hx) ha.d hb.d (by have := ha.n; omega) (by have := hb.n; omega))
  have HX := Kp.mk hx
  rw [cmpI_lt hlt] at C0
  clear ha hb h1 h2 hlt hx
  go_enter Tryd.func12, Tryd.ntmps12
  go_wp2_with fail
  refine C.out.mono ?_
  rintro e w1 ⟨rfl, hw1⟩
  rw [← hw1] at C0 HX
  clear hw1
  go_wp2_with fail
  refine C0.out.mono ?_
  rintro e w0 ⟨rfl, hx0⟩
  have HX0 := Kp.mk (HX.out.trans hx0)
  clear hx0
  go_wp2_with fail
  go_ret2
  exact ⟨rfl, HX0.out⟩
theorem Sub_ok (ha : In1 w A n c a) (hb : In1 w B m d b) (h1 : ¬ lng (vl BB a)) (h2 : ¬ lng (vl BB b)) (hle : vl BB b ≤ vl BB a) : Calls Tryd.prog 12 #[.slice A n c, .slice B m d] w (Ok1 w (vl BB a - vl BB b)) := by
  have C := Kp.mk (two_short ha hb h1 h2)
  have hx : Ext w (w.alloc (.cells #[.slice A n c, .slice B m d] nt)) := (by (repeat (first | assumption | exact Ext.refl _ | apply Ext.drew | apply Ext.drewN | apply Ext.alloc | refine Ext.trans ?_ (by assumption))); first | done | fail)
  have D1 := Kp.mk (fun w' (h : Ext w w') => (ha.ext h).counted)
  have D2 := Kp.mk (fun w' (h : Ext w w') => (hb.ext h).counted)
  have HX := Kp.mk hx
  have HLE := Kp.mk hle
  have HNN := Kp.mk (show nl (vl BB b) ≤ nl (vl BB a) from nl_mono hle)
  have C0 := Kp.mk (fun w' (h : Ext w w') => CmpN_any (ha.r.ext h) (hb.r.ext h) ha.d hb.d (by have := ha.n; omega) (by have := hb.n; omega))
  have hz : ¬ cmpI (vl BB a) (vl BB b) < 0 := by
    rcases Nat.lt_or_ge (vl BB b) (vl BB a) with h | h
    · rw [cmpI_gt h]; decide
    · rw [show vl BB b = vl BB a by omega, cmpI_eq]; decide
  generalize cmpI (vl BB a) (vl BB b) = z at *
  have HL := Kp.mk (show nl (vl BB a) ≤ 64 ∧ nl (vl BB b) ≤ 64 from ⟨Nat.le_of_not_lt h1, Nat.le_of_not_lt h2⟩)
  generalize vl BB a = va at *
  generalize vl BB b = vb at *
  clear ha hb h1 h2 hx hle
  go_enter Tryd.func12, Tryd.ntmps12
  go_wp2_with fail
  refine C.out.mono ?_
  rintro e w1 ⟨rfl, hw1⟩
  rw [← hw1] at HX
  clear hw1
  go_wp2_with fail
  refine (C0.out _ HX.out).mono ?_
  rintro e w0 ⟨rfl, hx0⟩
  have HX0 := Kp.mk (HX.out.trans hx0)
  clear HX
  have HX := HX0
  have C1 := Kp.mk (D1.out _ HX0.out)
  have C2 := Kp.mk (D2.out _ HX0.out)
  clear hx0 HX0
  go_wp2_with fail
  refine C1.out.mono ?_
  rintro e w2 ⟨rfl, _, r1, rfl⟩
  have R1 := Kp.mk r1
  clear r1
  go_wp2_with fail
  refine C2.out.mono ?_
  rintro e w3 ⟨rfl, _, r2, rfl⟩
  have C3 := Kp.mk (difference_any R1.out r2 (cn_dgs (by decide) va).d (cn_dgs (by decide) vb).d HNN.out (by have := HL.out; omega) (by rw [vl_dgs (by decide), vl_dgs (by decide)]; exact HLE.out))
  rw [vl_dgs (B := BB) (by decide), vl_dgs (B := BB) (by decide)] at C3
  clear r2 R1 C1 C2
  go_wp2_with fail
  refine C3.out.mono ?_
  rintro e w4 ⟨A4, n4, c4, rfl, ho, hx4⟩
  have HF := Kp.mk (show Ok1 w (va - vb) (.returned (.tuple #[.slice A4 n4 c4, .nilIface])) w4 from ⟨A4, n4, c4, rfl, ho.lower HX.out.size, HX.out.trans hx4⟩)
  clear ho hx4
  go_wp2_with fail
  go_ret2
  exact HF.out
theorem Div_long (ha : In1 w A n c a) (hb : In1 w B m d b) (h : lng (vl BB a) ∨ lng (vl BB b)) : Calls Tryd.prog 9 #[.slice A n c, .slice B m d] w (Bad2 w 4) := by
  have C := Kp.mk (two_long ha hb h)
  clear ha hb h
  go_enter Tryd.func9, Tryd.ntmps9
  go_wp2_with fail
  refine C.out.mono ?_
  rintro e w1 ⟨rfl, rfl⟩
  go_wp2_with fail
  go_ret3
  exact ⟨rfl, (by (repeat (first | assumption | exact Ext.refl _ | apply Ext.drew | apply Ext.drewN | apply Ext.alloc | refine Ext.trans ?_ (by assumption))); first | done | fail)⟩
theorem Div_zero (ha : In1 w A n c a) (hb : In1 w B m d b) (h1 : ¬ lng (vl BB a)) (h2 : vl BB b = 0) : Calls Tryd.prog 9 #[.slice A n c, .slice B m d] w (Bad2 w 1) := by
  have C := Kp.mk (two_short ha hb h1 (by rw [h2]; decide))
  have hx : Ext w (w.alloc (.cells #[.slice A n c, .slice B m d] nt)) := (by (repeat (first | assumption | exact Ext.refl _ | apply Ext.drew | apply Ext.drewN | apply Ext.alloc | refine Ext.trans ?_ (by assumption))); first | done | fail)
  have C2 := Kp.mk (hb.ext hx).counted
  rw [h2, show nl 0 = 0 from rfl] at C2
  have HX := Kp.mk hx
  clear ha hb h1 h2 hx
  go_enter Tryd.func9, Tryd.ntmps9
  go_wp2_with fail
  refine C.out.mono ?_
  rintro e w1 ⟨rfl, hw1⟩
  rw [← hw1] at C2 HX
  clear hw1
  go_wp2_with fail
  refine C2.out.mono ?_
  rintro e w0 ⟨rfl, _, _, rfl⟩
  go_wp2_with fail
  go_ret3
  exact ⟨rfl, HX.out⟩
theorem Div_ok (ha : In1 w A n c a) (hb : In1 w B m d b) (h1 : ¬ lng (vl BB a)) (h2 : ¬ lng (vl BB b)) (h0 : vl BB b ≠ 0) : Calls Tryd.prog 9 #[.slice A n c, .slice B m d] w (Ok2 w (vl BB a / vl BB b) (vl BB a % vl BB b)) := by
  have C := Kp.mk (two_short ha hb h1 h2)
  have hx : Ext w (w.alloc (.cells #[.slice A n c, .slice B m d] nt)) := (by (repeat (first | assumption | exact Ext.refl _ | apply Ext.drew | apply Ext.drewN | apply Ext.alloc | refine Ext.trans ?_ (by assumption))); first | done | fail)
  have C1 := Kp.mk (ha.ext hx).counted
  have C2 := Kp.mk (hb.ext hx).counted
  have HX := Kp.mk hx
  have ht := top_dgs h0
  obtain ⟨M, hM⟩ : ∃ M, nl (vl BB b) = M + 1 := ⟨nl (vl BB b) - 1, by
    have : 0 < nl (vl BB b) := List.length_pos_iff.2 fun e => h0 ((dgs_nil (by decide) _).1 e)
    omega⟩
  have HL := Kp.mk (show nl (vl BB a) ≤ 64 ∧ nl (vl BB b) ≤ 64 from ⟨Nat.le_of_not_lt h1, Nat.le_of_not_lt h2⟩)
  generalize vl BB a = va at *
  generalize vl BB b = vb at *
  rw [hM] at C2 HL ht
  rw [Nat.add_sub_cancel] at ht
  have HT := Kp.mk ht
  have b0 : ¬ ((M + 1 : Nat) : Int) = 0 := by omega
  clear ha hb h1 h2 hx h0 ht hM
  go_enter Tryd.func9, Tryd.ntmps9
  go_wp2_with fail
  refine C.out.mono ?_
  rintro e w1 ⟨rfl, hw1⟩
  rw [← hw1] at C1 C2 HX
  clear hw1
  go_wp2_with fail
  refine C2.out.mono ?_
  rintro e w3 ⟨rfl, _, r2, rfl⟩
  have R2 := Kp.mk r2
  clear r2
  go_wp2_with fail
  refine C1.out.mono ?_
  rintro e w2 ⟨rfl, _, r1, rfl⟩
  have C3 := Kp.mk (divide_any r1 R2.out (cn_dgs (by decide) va).d (cn_dgs (by decide) vb).d (by have := HL.out; omega) (by have := HL.out; omega) HT.out)
  rw [vl_dgs (B := BB) (by decide), vl_dgs (B := BB) (by decide)] at C3
  clear r1 R2 C1 C2 b0
  go_wp2_with fail
  refine C3.out.mono ?_
  rintro e w4 ⟨A4, n4, c4, A5, n5, c5, rfl, ho, ho2, hx4⟩
  have HF := Kp.mk (show Ok2 w (va / vb) (va % vb) (.returned (.tuple #[.slice A4 n4 c4, .slice A5 n5 c5, .nilIface])) w4 from ⟨A4, n4, c4, A5, n5, c5, rfl, ho.lower HX.out.size, ho2.lower HX.out.size, HX.out.trans hx4⟩)
  clear ho ho2 hx4
  go_wp2_with fail
  go_ret3
  exact HF.out
end
end Go.Proofs.YtpmoaccaknfodaaDoor
