/-
  nat: Exp.
-/
import Derived.Test.YtpmoaccaknfodaaDoorOh
import Derived.Test.YtpmoaccaknfodaaDoorOc
namespace Go.Proofs.YtpmoaccaknfodaaDoor
open Go Go.RowKit

section
variable {w : World} {A E B : Option Addr} {n c m d k ec : Nat} {a x b : List Nat}
theorem three (ha : In1 w A n c a) (he : In1 w E k ec x) (hb : In1 w B m d b) (r : Bool) (h : r = true ↔ lng (vl BB a) ∨ lng (vl BB x) ∨ lng (vl BB b)) :
    Calls Tryd.prog 18 #[.slice (some ⟨w.heap.size, 0, none⟩) 3 3] (w.alloc (.cells #[.slice A n c, .slice E k ec, .slice B m d] nt)) fun e w' => e = .returned (.bool r) ∧ w' = w.alloc (.cells #[.slice A n c, .slice E k ec, .slice B m d] nt) :=
  anyLong_at w nt [⟨A, n, c, a⟩, ⟨E, k, ec, x⟩, ⟨B, m, d, b⟩] _ rfl 3 rfl (by omega) (by simp [ha.ok, he.ok, hb.ok]) r (by simpa using h)
theorem Exp_long (ha : In1 w A n c a) (he : In1 w E k ec x) (hb : In1 w B m d b) (h : lng (vl BB a) ∨ lng (vl BB x) ∨ lng (vl BB b)) : Calls Tryd.prog 10 #[.slice A n c, .slice E k ec, .slice B m d] w (Bad1 w 4) := by
  have C := Kp.mk (three ha he hb true (by simpa using h))
  clear ha he hb h
  go_enter Tryd.func10, Tryd.ntmps10
  go_wp2_with fail
  refine C.out.mono ?_
  rintro e w1 ⟨rfl, rfl⟩
  go_wp2_with fail
  go_ret2
  exact ⟨rfl, (by (repeat (first | assumption | exact Ext.refl _ | apply Ext.drew | apply Ext.drewN | apply Ext.alloc | refine Ext.trans ?_ (by assumption))); first | done | fail)⟩
theorem Exp_zero (ha : In1 w A n c a) (he : In1 w E k ec x) (hb : In1 w B m d b) (h1 : ¬ lng (vl BB a)) (h2 : ¬ lng (vl BB x)) (h3 : vl BB b = 0) : Calls Tryd.prog 10 #[.slice A n c, .slice E k ec, .slice B m d] w (Bad1 w 1) := by
  have C := Kp.mk (three ha he hb false (by simp [h1, h2, h3]; decide))
  have hx : Ext w (w.alloc (.cells #[.slice A n c, .slice E k ec, .slice B m d] nt)) := (by (repeat (first | assumption | exact Ext.refl _ | apply Ext.drew | apply Ext.drewN | apply Ext.alloc | refine Ext.trans ?_ (by assumption))); first | done | fail)
  have C2 := Kp.mk (hb.ext hx).counted
  rw [h3, show nl 0 = 0 from rfl] at C2
  have HX := Kp.mk hx
  clear ha he hb h1 h2 h3 hx
  go_enter Tryd.func10, Tryd.ntmps10
  go_wp2_with fail
  refine C.out.mono ?_
  rintro e w1 ⟨rfl, hw1⟩
  rw [← hw1] at C2 HX
  clear hw1
  go_wp2_with fail
  refine C2.out.mono ?_
  rintro e w0 ⟨rfl, _, _, rfl⟩
  go_wp2_with fail
  go_ret2
  exact ⟨rfl, HX.out⟩
theorem Exp_ok (ha : In1 w A n c a) (he : In1 w E k ec x) (hb : In1 w B m d b) (h1 : ¬ lng (vl BB a)) (h2 : ¬ lng (vl BB x)) (h3 : ¬ lng (vl BB b)) (h0 : vl BB b ≠ 0) :
    Calls Tryd.prog 10 #[.slice A n c, .slice E k ec, .slice B m d] w (Ok1 w (vl BB a ^ vl BB x % vl BB b)) := by
  have C := Kp.mk (three ha he hb false (by simp [h1, h2, h3]))
  have hx : Ext w (w.alloc (.cells #[.slice A n c, .slice E k ec, .slice B m d] nt)) := (by (repeat (first | assumption | exact Ext.refl _ | apply Ext.drew | apply Ext.drewN | apply Ext.alloc | refine Ext.trans ?_ (by assumption))); first | done | fail)
  have C1 := Kp.mk (ha.ext hx).counted
  have C2 := Kp.mk (he.ext hx).counted
  have C3 := Kp.mk (hb.ext hx).counted
  have HX := Kp.mk hx
  obtain ⟨M, hM⟩ : ∃ M, nl (vl BB b) = M + 1 := ⟨nl (vl BB b) - 1, by
    have : 0 < nl (vl BB b) := List.length_pos_iff.2 fun e => h0 ((dgs_nil (by decide) _).1 e)
    omega⟩
  have HL := Kp.mk (show nl (vl BB a) ≤ 64 ∧ nl (vl BB x) ≤ 64 ∧ M + 1 ≤ 64 from ⟨Nat.le_of_not_lt h1, Nat.le_of_not_lt h2, hM ▸ Nat.le_of_not_lt h3⟩)
  have HM := Kp.mk hM
  rw [hM] at C3
  have b0 : ¬ ((M + 1 : Nat) : Int) = 0 := by omega
  clear ha he hb h1 h2 h3 h0 hM hx
  generalize vl BB a = va at *
  generalize vl BB x = ve at *
  generalize vl BB b = vm at *
  go_enter Tryd.func10, Tryd.ntmps10
  go_wp2_with fail
  refine C.out.mono ?_
  rintro e w1 ⟨rfl, hw1⟩
  rw [← hw1] at C1 C2 C3 HX
  clear hw1
  go_wp2_with fail
  refine C3.out.mono ?_
  rintro e w2 ⟨rfl, _, r3, rfl⟩
  have R3 := Kp.mk r3
  clear r3
  go_wp2_with fail
  refine C1.out.mono ?_
  rintro e w3 ⟨rfl, _, r1, rfl⟩
  have R1 := Kp.mk r1
  clear r1
  go_wp2_with fail
  refine C2.out.mono ?_
  rintro e w4 ⟨rfl, _, r2, rfl⟩
  have C4 := Kp.mk (power_any R1.out r2 R3.out HL.out.1 HL.out.2.1 HM.out HL.out.2.2)
  clear r2 R1 R3 C1 C2 C3 b0
  go_wp2_with fail
  refine C4.out.mono ?_
  rintro e w5 ⟨A5, n5, c5, rfl, ho5, hx5⟩
  have HF := Kp.mk (show Ok1 w (va ^ ve % vm) (.returned (.tuple #[.slice A5 n5 c5, .nilIface])) w5 from ⟨A5, n5, c5, rfl, ho5.lower HX.out.size, HX.out.trans hx5⟩)
  clear ho5 hx5
  go_wp2_with fail
  go_ret2
  exact HF.out
end
end Go.Proofs.YtpmoaccaknfodaaDoor
