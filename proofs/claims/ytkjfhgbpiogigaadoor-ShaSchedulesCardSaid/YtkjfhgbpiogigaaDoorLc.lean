/-
  The walk of the law ShaSchedules.
-/
import Derived.Test.YtkjfhgbpiogigaaDoorLa
import Derived.Test.YtkjfhgbpiogigaaDoorRb
import Derived.Test.YtkjfhgbpiogigaaDoorRg
namespace Go.Proofs.YtkjfhgbpiogigaaDoor
open Go Go.RowKit

theorem eq64 (x y : List (BitVec 32)) (hx : x.length = 64) (hy : y.length = 64) (w : World) :
    (Op.equalIn 10000 25 (.agg (wv x)) (.agg (wv y))).run Tryd.prog w = .ok (x == y) w :=
  run_equalIn_words w 9998 25 24 64 Tryd.underlying25 Tryd.underlying24 (by kernel_rfl) x y hx hy
theorem loadB {w : World} (g : Nat) (x : List (BitVec 8)) (h : Has w g 22 (bv x)) (hx : x.length = 64) :
    (Instr.loadAt 22 (.pointer (some ⟨g, 0, none⟩))).run Tryd.prog w = .ok (.agg (bv x)) w :=
  run_load_arr w 22 5 64 g (bv x) Tryd.underlying22 (szB64 _ hx) (fun j _ hv => (h.cell j).trans hv)

set_option maxHeartbeats 2000000 in
theorem ShaSchedules_any (v : List (BitVec 8)) (w : World) (hv : v.length = 64) (hw : Laid w) :
    Calls Tryd.prog 3 #[.agg (bv v)] w fun e w' => e = .returned (.bool true) ∧ Below w.heap.size w w' := by
  have HV := Lib.hid hv
  have HW := Lib.hid hw
  clear hv hw
  go_enter Tryd.func3, Tryd.ntmps3
  go_wp2_with fail
  have hb0 : Below w.heap.size w (w.alloc (.cells (bv v) 22)) := (Below.refl _ _).alloc (Nat.le_refl _) _
  have h1 : Has (w.alloc (.cells (bv v) 22)) w.heap.size 22 (bv v) := Has.new _ _ _ _ rfl
  refine (up_any _ (HW.out.below hb0 (Nat.le_refl _))).mono ?_
  rintro e w1 ⟨rfl, hb1⟩
  have h11 := h1.below hb1 h1.lt
  have hb01 := hb0.trans (hb1.mono hb0.size)
  clear h1 hb0 hb1
  go_wp2_with fail
  refine wp_region_held (S := fun w' => Has w' w.heap.size 22 (bv v) ∧ Below w.heap.size w w') (by kernel_rfl) ?_
  have hS : (fun w' : World => Has w' w.heap.size 22 (bv v) ∧ Below w.heap.size w w') w1.drew := ⟨h11, hb01.drew⟩
  have HS := Lib.hid hS
  clear hS h11 hb01
  change wpAnyH _ _ _ _ _ _ _ _ w1.drew
  refine wpAnyH_take (i := 0) (v := .bool true) rfl (by kernel_rfl) (by kernel_rfl) (by kernel_rfl) (fun _ _ _ h => h) (.inl ⟨by rfl, fun W hW => exec_move _ rfl _ rfl⟩) HS.out ?_
  refine wpAnyH_take (i := 1) (v := .bool true) rfl (by kernel_rfl) (by kernel_rfl) (by kernel_rfl) (fun _ _ _ h => h) (.inl ⟨by rfl, fun W hW => exec_move _ rfl _ rfl⟩) HS.out ?_
  refine wpAnyH_take (i := 2) (v := .agg (bv v)) rfl (by kernel_rfl) (by kernel_rfl) (by kernel_rfl) (fun _ _ _ h => h) (.inl ⟨by rfl, fun W hW => exec_load 22 _ rfl ⟨w.heap.size, 0, none⟩ rfl _ (loadB _ _ hW.1 HV.out)⟩) HS.out ?_
  refine wpAnyH_take (i := 4) (v := .agg (bv v)) rfl (by kernel_rfl) (by kernel_rfl) (by kernel_rfl) (fun _ _ _ h => h) (.inl ⟨by rfl, fun W hW => exec_load 22 _ rfl ⟨w.heap.size, 0, none⟩ rfl _ (loadB _ _ hW.1 HV.out)⟩) HS.out ?_
  refine next_one 3 (by kernel_rfl) rfl (by rfl) fun K' HK' => ?_
  go_simp
  refine (schedule_any v _ HV.out).mono ?_
  rintro e w2 ⟨rfl, hb2⟩
  have hS2 := HS.out
  have HS2 := Lib.hid (show Has w2 w.heap.size 22 (bv v) ∧ Below w.heap.size w w2 from ⟨hS2.1.below hb2 hS2.1.lt, hS2.2.trans (hb2.mono hS2.2.size)⟩)
  clear hS2 hb2 HS
  refine HK'.out _ _ HS2.out ?_
  clear HK'
  refine next_one 5 (by kernel_rfl) rfl (by rfl) fun K' HK' => ?_
  go_simp
  refine (refSchedule_any v _ HV.out).mono ?_
  rintro e w3 ⟨rfl, hb3⟩
  have hS3 := HS2.out
  have HS3 := Lib.hid (show Has w3 w.heap.size 22 (bv v) ∧ Below w.heap.size w w3 from ⟨hS3.1.below hb3 hS3.1.lt, hS3.2.trans (hb3.mono hS3.2.size)⟩)
  clear hS3 hb3 HS2
  refine HK'.out _ _ HS3.out ?_
  clear HK'
  have e1 := eq64 (sched v 64) (sched v 64) (sched_len _ _) (sched_len _ _)
  refine next_one 6 (by kernel_rfl) rfl (by rfl) fun K' HK' => ?_
  go_simp
  refine HK'.out _ _ HS3.out ?_
  clear HK' e1
  refine next_one 7 (by kernel_rfl) rfl (by rfl) fun K' HK' => ?_
  go_simp
  refine HK'.out _ _ HS3.out ?_
  clear HK'
  refine next_one 8 (by kernel_rfl) rfl (by rfl) fun K' HK' => ?_
  go_simp
  refine HK'.out _ _ HS3.out ?_
  clear HK'
  refine wpAnyH_done (by kernel_rfl) ?_ _
  go_wp2
  go_ret
  exact ⟨rfl, HS3.out.2⟩
end Go.Proofs.YtkjfhgbpiogigaaDoor
