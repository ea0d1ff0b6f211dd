/-
  The walk of the law ShaPresses.
-/
import Derived.Test.YtkjfhgbpiogigaaDoorLa
import Derived.Test.YtkjfhgbpiogigaaDoorLc
import Derived.Test.YtkjfhgbpiogigaaDoorRk
import Derived.Test.YtkjfhgbpiogigaaDoorRg
namespace Go.Proofs.YtkjfhgbpiogigaaDoor
open Go Go.RowKit

/-- what the law's region holds -/
def LP (v : List (BitVec 32)) (b : List (BitVec 8)) (w w' : World) : Prop := Has w' w.heap.size 28 (wv v) ∧ Has w' (w.heap.size + 1) 22 (bv b) ∧ Below w.heap.size w w'
theorem LP.keep {v : List (BitVec 32)} {b : List (BitVec 8)} {w w1 w2 : World} (h : LP v b w w1) (hb : Below w1.heap.size w1 w2) : LP v b w w2 :=
  ⟨h.1.below hb h.1.lt, h.2.1.below hb h.2.1.lt, h.2.2.trans (hb.mono h.2.2.size)⟩
theorem press_named (v : List (BitVec 32)) (b : List (BitVec 8)) (hv : v.length = 8) (hb : b.length = 64) : ∃ (r K : List (BitVec 32)), r.length = 8 ∧ K.length = 64 ∧
    (∀ w : World, Laid w → Calls Tryd.prog 22 #[.agg (wv v), .agg (bv b)] w fun e w' => e = .returned (.agg (wv r)) ∧ Below w.heap.size w w') ∧
    (∀ w : World, Calls Tryd.prog 24 #[] w fun e w' => ∃ u, e = .returned u ∧ w'.ownsRow w.heap.size 24 1 u 64 (K.map vu) ∧ Below w.heap.size w w') ∧
    (∀ (A : Option Addr) (c : Nat) (w : World), Ow w A 64 c (K.map vu) → Calls Tryd.prog 23 #[.slice A 64 c, .agg (wv v), .agg (bv b)] w fun e w' => e = .returned (.agg (wv r)) ∧ Below w.heap.size w w') :=
  ⟨press KK b v, KK, press_len _ _ _ hv, KK_len, fun w hw => press_any v b w hv hb hw, fun w => Constants_any w, fun A c w ho => refPress_any A c KK v b w KK_len ho hv hb⟩

set_option maxHeartbeats 2000000 in
theorem ShaPresses_any (v : List (BitVec 32)) (b : List (BitVec 8)) (w : World) (hv : v.length = 8) (hb : b.length = 64) (hw : Laid w) :
    Calls Tryd.prog 5 #[.agg (wv v), .agg (bv b)] w fun e w' => e = .returned (.bool true) ∧ Below w.heap.size w w' := by
  obtain ⟨r, K, hr, hK, c1, c2, c3⟩ := press_named v b hv hb
  have HV := Hd.mk hv
  have HBL := Hd.mk hb
  have HW := Hd.mk hw
  have HR := Hd.mk hr
  have C1 := Hd.mk c1
  have C2 := Hd.mk c2
  have C3 := Hd.mk c3
  clear hv hb hw hr hK c1 c2 c3
  go_enter Tryd.func5, Tryd.ntmps5
  go_wp2_with fail
  have hb0 : Below w.heap.size w ((w.alloc (.cells (wv v) 28)).alloc (.cells (bv b) 22)) := ((Below.refl _ _).alloc (Nat.le_refl _) _).alloc (by simp) _
  have h1 : LP v b w ((w.alloc (.cells (wv v) 28)).alloc (.cells (bv b) 22)) := ⟨(Has.new _ _ _ _ rfl).alloc _, Has.new _ _ _ _ (by simp), hb0⟩
  refine (up_any _ (HW.out.below hb0 (Nat.le_refl _))).mono ?_
  rintro e w1 ⟨rfl, hb1⟩
  have h11 := Hd.mk (h1.keep hb1)
  clear h1 hb0 hb1
  go_wp2_with fail
  refine wp_region_held (S := LP v b w) (by kernel_rfl) ?_
  have HS : Hd (LP v b w w1.drew) := ⟨h11.out.keep (Below.refl _ _).drew⟩
  clear h11
  change wpAnyH _ _ _ _ _ _ _ _ w1.drew
  refine wpAnyH_take (i := 0) (v := .bool true) rfl (by kernel_rfl) (by kernel_rfl) (by kernel_rfl) (fun _ _ _ h => h) (.inl ⟨by rfl, fun W hW => exec_move _ rfl _ rfl⟩) HS.out ?_
  refine wpAnyH_take (i := 1) (v := .bool true) rfl (by kernel_rfl) (by kernel_rfl) (by kernel_rfl) (fun _ _ _ h => h) (.inl ⟨by rfl, fun W hW => exec_move _ rfl _ rfl⟩) HS.out ?_
  refine wpAnyH_take (i := 2) (v := .agg (wv v)) rfl (by kernel_rfl) (by kernel_rfl) (by kernel_rfl) (fun _ _ _ h => h) (.inl ⟨by rfl, fun W hW => exec_load 28 _ rfl ⟨w.heap.size, 0, none⟩ rfl _ (load8 _ _ hW.1 HV.out)⟩) HS.out ?_
  refine wpAnyH_take (i := 3) (v := .agg (bv b)) rfl (by kernel_rfl) (by kernel_rfl) (by kernel_rfl) (fun _ _ _ h => h) (.inl ⟨by rfl, fun W hW => exec_load 22 _ rfl ⟨w.heap.size + 1, 0, none⟩ rfl _ (loadB _ _ hW.2.1 HBL.out)⟩) HS.out ?_
  refine wpAnyH_take (i := 6) (v := .agg (wv v)) rfl (by kernel_rfl) (by kernel_rfl) (by kernel_rfl) (fun _ _ _ h => h) (.inl ⟨by rfl, fun W hW => exec_load 28 _ rfl ⟨w.heap.size, 0, none⟩ rfl _ (load8 _ _ hW.1 HV.out)⟩) HS.out ?_
  refine wpAnyH_take (i := 7) (v := .agg (bv b)) rfl (by kernel_rfl) (by kernel_rfl) (by kernel_rfl) (fun _ _ _ h => h) (.inl ⟨by rfl, fun W hW => exec_load 22 _ rfl ⟨w.heap.size + 1, 0, none⟩ rfl _ (loadB _ _ hW.2.1 HBL.out)⟩) HS.out ?_
  refine next_one 4 (by kernel_rfl) rfl (by rfl) fun K' HK' => ?_
  go_simp
  refine (C1.out _ (HW.out.below HS.out.2.2 (Nat.le_refl _))).mono ?_
  rintro e w2 ⟨rfl, hb2⟩
  have HS2 := Hd.mk (HS.out.keep hb2)
  clear hb2 HS
  refine HK'.out _ _ HS2.out ?_
  clear HK'
  refine next_one 5 (by kernel_rfl) rfl (by rfl) fun K' HK' => ?_
  go_simp
  refine (C2.out _).mono ?_
  rintro e w3 ⟨v3, rfl, hown, hb3⟩
  obtain ⟨A, c, rfl, how⟩ := Ow.of_own hown
  have HO := Hd.mk how
  have HS3 := Hd.mk (HS2.out.keep hb3)
  clear hown how hb3 HS2
  refine HK'.out _ _ HS3.out ?_
  clear HK'
  refine next_one 8 (by kernel_rfl) rfl (by rfl) fun K' HK' => ?_
  go_simp
  refine (C3.out A c _ HO.out).mono ?_
  rintro e w4 ⟨rfl, hb4⟩
  have HS4 := Hd.mk (HS3.out.keep hb4)
  clear hb4 HS3 HO
  refine HK'.out _ _ HS4.out ?_
  clear HK'
  have e1 := eq8 r r HR.out HR.out
  have HE := Hd.mk e1
  clear e1
  refine next_one 9 (by kernel_rfl) rfl (by rfl) fun K' HK' => ?_
  have e1 := HE.out
  go_simp
  refine HK'.out _ _ HS4.out ?_
  clear HK' e1
  refine next_one 10 (by kernel_rfl) rfl (by rfl) fun K' HK' => ?_
  go_simp
  refine HK'.out _ _ HS4.out ?_
  clear HK'
  refine next_one 11 (by kernel_rfl) rfl (by rfl) fun K' HK' => ?_
  go_simp
  refine HK'.out _ _ HS4.out ?_
  clear HK'
  refine wpAnyH_done (by kernel_rfl) ?_ _
  go_wp2
  go_ret
  exact ⟨rfl, HS4.out.2.2⟩
end Go.Proofs.YtkjfhgbpiogigaaDoor
