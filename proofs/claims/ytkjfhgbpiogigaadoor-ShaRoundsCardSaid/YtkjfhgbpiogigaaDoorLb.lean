/-
  The walk of the law ShaRounds.
-/
import Derived.Test.YtkjfhgbpiogigaaDoorLa
import Derived.Test.YtkjfhgbpiogigaaDoorRb
import Derived.Test.YtkjfhgbpiogigaaDoorRg
namespace Go.Proofs.YtkjfhgbpiogigaaDoor
open Go Go.RowKit

set_option maxHeartbeats 2000000 in
theorem ShaRounds_any (v : List (BitVec 32)) (n : BitVec 32) (w : World) (hv : v.length = 8) (hw : Laid w) :
    Calls Tryd.prog 4 #[.agg (wv v), .int .u32 (un n)] w fun e w' => e = .returned (.bool true) ∧ Below w.heap.size w w' := by
  have HV := Lib.hid hv
  have HW := Lib.hid hw
  clear hv hw
  go_enter Tryd.func4, Tryd.ntmps4
  go_wp2_with fail
  have hb0 : Below w.heap.size w (w.alloc (.cells (wv v) 28)) := (Below.refl _ _).alloc (Nat.le_refl _) _
  have h1 : Has (w.alloc (.cells (wv v) 28)) w.heap.size 28 (wv v) := Has.new _ _ _ _ rfl
  refine (up_any _ (HW.out.below hb0 (Nat.le_refl _))).mono ?_
  rintro e w1 ⟨rfl, hb1⟩
  have h11 := h1.below hb1 h1.lt
  have hb01 := hb0.trans (hb1.mono hb0.size)
  clear h1 hb0 hb1
  go_wp2_with fail
  refine wp_region_held (S := fun w' => Has w' w.heap.size 28 (wv v) ∧ Below w.heap.size w w') (by kernel_rfl) ?_
  have hS : (fun w' : World => Has w' w.heap.size 28 (wv v) ∧ Below w.heap.size w w') w1.drew := ⟨h11, hb01.drew⟩
  have HS := Lib.hid hS
  clear hS h11 hb01
  change wpAnyH _ _ _ _ _ _ _ _ w1.drew
  refine wpAnyH_take (i := 0) (v := .bool true) rfl (by kernel_rfl) (by kernel_rfl) (by kernel_rfl) (fun _ _ _ h => h) (.inl ⟨by rfl, fun W hW => exec_move _ rfl _ rfl⟩) HS.out ?_
  refine wpAnyH_take (i := 1) (v := .bool true) rfl (by kernel_rfl) (by kernel_rfl) (by kernel_rfl) (fun _ _ _ h => h) (.inl ⟨by rfl, fun W hW => exec_move _ rfl _ rfl⟩) HS.out ?_
  refine wpAnyH_take (i := 2) (v := .agg (wv v)) rfl (by kernel_rfl) (by kernel_rfl) (by kernel_rfl) (fun _ _ _ h => h) (.inl ⟨by rfl, fun W hW => exec_load 28 _ rfl ⟨w.heap.size, 0, none⟩ rfl _ (load8 _ _ hW.1 HV.out)⟩) HS.out ?_
  refine wpAnyH_take (i := 3) (v := .int .u32 (un n)) rfl (by kernel_rfl) (by kernel_rfl) (by kernel_rfl) (fun _ _ _ h => h) (.inl ⟨by rfl, fun W hW => exec_move _ rfl _ rfl⟩) HS.out ?_
  refine wpAnyH_take (i := 5) (v := .agg (wv v)) rfl (by kernel_rfl) (by kernel_rfl) (by kernel_rfl) (fun _ _ _ h => h) (.inl ⟨by rfl, fun W hW => exec_load 28 _ rfl ⟨w.heap.size, 0, none⟩ rfl _ (load8 _ _ hW.1 HV.out)⟩) HS.out ?_
  refine wpAnyH_take (i := 6) (v := .int .u32 (un n)) rfl (by kernel_rfl) (by kernel_rfl) (by kernel_rfl) (fun _ _ _ h => h) (.inl ⟨by rfl, fun W hW => exec_move _ rfl _ rfl⟩) HS.out ?_
  refine next_one 4 (by kernel_rfl) rfl (by rfl) fun K' HK' => ?_
  go_simp
  refine (round_any v n _ HV.out).mono ?_
  rintro e w2 ⟨rfl, hb2⟩
  have hS2 := HS.out
  have HS2 := Lib.hid (show Has w2 w.heap.size 28 (wv v) ∧ Below w.heap.size w w2 from ⟨hS2.1.below hb2 hS2.1.lt, hS2.2.trans (hb2.mono hS2.2.size)⟩)
  clear hS2 hb2 HS
  refine HK'.out _ _ HS2.out ?_
  clear HK'
  refine next_one 7 (by kernel_rfl) rfl (by rfl) fun K' HK' => ?_
  go_simp
  refine (refRound_any v n _ HV.out).mono ?_
  rintro e w3 ⟨rfl, hb3⟩
  have hS3 := HS2.out
  have HS3 := Lib.hid (show Has w3 w.heap.size 28 (wv v) ∧ Below w.heap.size w w3 from ⟨hS3.1.below hb3 hS3.1.lt, hS3.2.trans (hb3.mono hS3.2.size)⟩)
  clear hS3 hb3 HS2
  refine HK'.out _ _ HS3.out ?_
  clear HK'
  have e1 := eq8 (round v n) (round v n) (round_len _ _) (round_len _ _)
  have HE := Lib.hid e1
  clear e1
  refine next_one 8 (by kernel_rfl) rfl (by rfl) fun K' HK' => ?_
  have e1 := HE.out
  go_simp
  refine HK'.out _ _ HS3.out ?_
  clear HK' e1
  refine next_one 9 (by kernel_rfl) rfl (by rfl) fun K' HK' => ?_
  go_simp
  refine HK'.out _ _ HS3.out ?_
  clear HK'
  refine next_one 10 (by kernel_rfl) rfl (by rfl) fun K' HK' => ?_
  go_simp
  refine HK'.out _ _ HS3.out ?_
  clear HK'
  refine wpAnyH_done (by kernel_rfl) ?_ _
  go_wp2
  go_ret
  exact ⟨rfl, HS3.out.2⟩
end Go.Proofs.YtkjfhgbpiogigaaDoor
