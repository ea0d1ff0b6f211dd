/-
  The walk of the laws' head: the document's examples of layer 2 hold.
-/
import Derived.Test.YtkjfhgbpiogigaaDoorMc
namespace Go.Proofs.YtkjfhgbpiogigaaDoor
open Go Go.RowKit

theorem str_mark : strOf (mkL [74, 101, 102, 101] [119, 104, 97, 116, 32, 100, 111, 32, 121, 97, 32, 119, 97, 110, 116, 32, 102, 111, 114, 32, 110, 111, 116, 104, 105, 110, 103, 63]) = { data := #[91, 220, 193, 70, 191, 96, 117, 78, 106, 4, 36, 38, 8, 149, 117, 199, 90, 0, 63, 8, 157, 39, 57, 131, 157, 236, 88, 185, 100, 236, 56, 67] } := by
  decide +kernel
theorem str_derived : strOf (dkL [112, 97, 115, 115, 119, 100] [115, 97, 108, 116] 1 16) = { data := #[85, 172, 4, 110, 86, 227, 8, 159, 236, 22, 145, 194, 37, 68, 182, 5] } := by
  decide +kernel
set_option maxHeartbeats 2000000 in
theorem up2_any (w : World) (hw : Lay w) : Calls Tryd.prog 31 #[] w fun e w' => e = .returned (.bool true) ∧ Ext w w' := by
  have kc := run_const
  go_enter Tryd.func31, Tryd.ntmps31
  go_wp2_with fail
  refine (Derive_any 1 16 (Bs.ext (const_bs w w.heap.size [112, 97, 115, 115, 119, 100] 6 6 (6, 7) rfl rfl (Nat.le_refl _)) (by (repeat (first | assumption | exact Ext.refl _ | apply Ext.drew | apply Ext.drewN | apply Ext.alloc | refine Ext.trans ?_ (by assumption))); first | done | fail)) (const_bs (w.alloc (.cells (bv [112, 97, 115, 115, 119, 100]) 5 (6, 7))) (w.heap.size + 1) [115, 97, 108, 116] 4 4 (4, 5) (by simp) rfl (Nat.le_refl _)) (hw.ext (by (repeat (first | assumption | exact Ext.refl _ | apply Ext.drew | apply Ext.drewN | apply Ext.alloc | refine Ext.trans ?_ (by assumption))); first | done | fail)) (by decide) (by decide) (by decide) (by decide) (by decide)).mono ?_
  rintro e w1 ⟨A1, c1, rfl, hs1, _, hx1⟩
  have hxa : Ext w w1 := (by (repeat (first | assumption | exact Ext.refl _ | apply Ext.drew | apply Ext.drewN | apply Ext.alloc | refine Ext.trans ?_ (by assumption))); first | done | fail)
  have hst1 := hs1.str (Ext.refl _)
  clear hx1 hst1
  go_wp2_with fail
  refine (Mark_any (Bs.ext (const_bs w1 w1.heap.size [74, 101, 102, 101] 4 4 (4, 5) rfl rfl (Nat.le_refl _)) (by (repeat (first | assumption | exact Ext.refl _ | apply Ext.drew | apply Ext.drewN | apply Ext.alloc | refine Ext.trans ?_ (by assumption))); first | done | fail)) (const_bs (w1.alloc (.cells (bv [74, 101, 102, 101]) 5 (4, 5))) (w1.heap.size + 1) [119, 104, 97, 116, 32, 100, 111, 32, 121, 97, 32, 119, 97, 110, 116, 32, 102, 111, 114, 32, 110, 111, 116, 104, 105, 110, 103, 63] 28 28 (28, 29) (by simp) rfl (Nat.le_refl _)) (hw.ext (by (repeat (first | assumption | exact Ext.refl _ | apply Ext.drew | apply Ext.drewN | apply Ext.alloc | refine Ext.trans ?_ (by assumption))); first | done | fail)) (by decide) (by decide)).mono ?_
  rintro e w2 ⟨A2, c2, rfl, hs2, _, hx2⟩
  have hxb : Ext w1 w2 := (by (repeat (first | assumption | exact Ext.refl _ | apply Ext.drew | apply Ext.drewN | apply Ext.alloc | refine Ext.trans ?_ (by assumption))); first | done | fail)
  have k1 := hs1.str hxb
  have k2 := hs2.str (Ext.refl _)
  rw [str_mark] at k2
  rw [str_derived] at k1
  have HX := Kp.mk (hxa.trans hxb)
  clear hs1 hs2 hx2 hxa hxb hw kc
  go_wp2
  go_ret
  exact ⟨rfl, HX.out⟩
end Go.Proofs.YtkjfhgbpiogigaaDoor
