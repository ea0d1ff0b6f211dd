/-
  rsa: laidToSign, Sign, Verify; the reference's Laid.
-/
import Derived.Test.YticggkllfojgkaaDoorM18
import Derived.Test.YticggkllfojgkaaDoorVTl
import Derived.Test.YticggkllfojgkaaDoorVFs
namespace Go.Proofs.YticggkllfojgkaaDoor
open Go Go.RowKit
set_option maxRecDepth 4000

section
variable {A B D E : Option Addr} {n c m d k f p q vn ve vd N : Nat} {w : World} {lb sig : List (BitVec 8)}
set_option maxHeartbeats 4000000 in
theorem laidToSign_any (hb : Bs w B m d lb) (hw : Lay w) (hm : m ≤ 1000000) (h62 : 62 ≤ N) (h128 : N ≤ 128) :
    Calls Tryd.prog 38 #[.int .i64 (N : Int), .slice B m d] w (Fresh w N (sgL (dgH lb) N)) := by
  have HB := Kp.mk hb
  have HW := Kp.mk hw
  clear hb hw
  go_enter Tryd.func38, Tryd.ntmps38
  have hcv := fun (C : Array Value) (n c : Nat) => run_const w w.heap.size C n c rfl
  have hca := Kp.mk (const_bs w w.heap.size aheadL 19 19 (19, 20) rfl rfl (Nat.le_refl _))
  have hxa : Ext w (w.alloc (.cells (bv aheadL) 5 (19, 20))) := (by (repeat (first | assumption | exact Ext.refl _ | apply Ext.drew | apply Ext.drewN | apply Ext.alloc | refine Ext.trans ?_ (by assumption))); first | done | fail)
  have ea : bv aheadL = #[.int .u8 48, .int .u8 49, .int .u8 48, .int .u8 13, .int .u8 6, .int .u8 9, .int .u8 96, .int .u8 134, .int .u8 72, .int .u8 1, .int .u8 101, .int .u8 3, .int .u8 4, .int .u8 2, .int .u8 1, .int .u8 5, .int .u8 0, .int .u8 4, .int .u8 32] := rfl
  rw [ea] at hca hxa
  go_wp2_with fail
  clear hcv ea
  generalize w.alloc (.cells #[.int .u8 48, .int .u8 49, .int .u8 48, .int .u8 13, .int .u8 6, .int .u8 9, .int .u8 96, .int .u8 134, .int .u8 72, .int .u8 1, .int .u8 101, .int .u8 3, .int .u8 4, .int .u8 2, .int .u8 1, .int .u8 5, .int .u8 0, .int .u8 4, .int .u8 32] 5 (19, 20)) = wa at *
  generalize w.heap.size = ga at *
  refine (sum_fr lb B m d wa (HB.out.ext hxa) (HW.out.ext hxa) (by omega)).mono ?_
  rintro e w1 ⟨A1, c1, rfl, s1, _, x1⟩
  have C := ConcatP (ps := [⟨some ⟨ga, 0, none⟩, 19, 19, aheadL⟩, ⟨A1, 32, c1, dgH lb⟩]) (k := 2) (g := w1.heap.size) (t := 26) (w := w1.alloc (.cells #[.slice (some ⟨ga, 0, none⟩) 19 19, .slice A1 32 c1] 26)) rfl (fun j p hj => by
    match j, hj with
    | 0, hj => cases hj; exact (hca.out.ext (by (repeat (first | assumption | exact Ext.refl _ | apply Ext.drew | apply Ext.drewN | apply Ext.alloc | refine Ext.trans ?_ (by assumption))); first | done | fail))
    | 1, hj => cases hj; exact (s1.ext (by (repeat (first | assumption | exact Ext.refl _ | apply Ext.drew | apply Ext.drewN | apply Ext.alloc | refine Ext.trans ?_ (by assumption))); first | done | fail))
    | j + 2, hj => simp at hj) (Blk.new _ _ _) (by simp [pN]) (by simp [pN]) (by decide)
  rw [show pN [⟨some ⟨ga, 0, none⟩, 19, 19, aheadL⟩, ⟨A1, 32, c1, dgH lb⟩] = 51 by simp [pN], show pL [⟨some ⟨ga, 0, none⟩, 19, 19, aheadL⟩, ⟨A1, 32, c1, dgH lb⟩] = aheadL ++ dgH lb by simp [pL]] at C
  have HC := Kp.mk C
  clear C s1
  go_wp2_with fail
  refine HC.out.mono ?_
  rintro e w2 ⟨A2, c2, rfl, s2, _, x⟩
  have x2 := Ext.trans (show Ext w1 _ from (by (repeat (first | assumption | exact Ext.refl _ | apply Ext.drew | apply Ext.drewN | apply Ext.alloc | refine Ext.trans ?_ (by assumption))); first | done | fail)) x
  have S2 := Kp.mk s2
  clear x HC s2
  obtain ⟨K, hK⟩ : ∃ K, N - 54 = K := ⟨_, rfl⟩
  have k1 : (N : Int) - 3 - 51 = (K : Int) := by omega
  have w1' : IntKind.i64.wrap ((N : Int) - 3) = (N : Int) - 3 := by rw [IntKind.wrap_i64]; omega
  have w2' : IntKind.i64.wrap ((N : Int) - 3 - 51) = (K : Int) := by rw [IntKind.wrap_i64]; omega
  have w3' : IntKind.i64.wrap (K : Int) = (K : Int) := by rw [IntKind.wrap_i64]; omega
  go_wp2_with fail
  refine (Repeat_many (x := 255) K (by omega) (by omega) (lit_bytes w2 [255] #[.int .u8 255] 1 rfl rfl _ rfl)).mono ?_
  rintro e w3 ⟨A3, c3, rfl, s3, x⟩
  have x3 := Ext.trans (show Ext w2 _ from (by (repeat (first | assumption | exact Ext.refl _ | apply Ext.drew | apply Ext.drewN | apply Ext.alloc | refine Ext.trans ?_ (by assumption))); first | done | fail)) x
  have C := Kp.mk (laidOut_any 1 1 rfl s3 (S2.out.ext (by (repeat (first | assumption | exact Ext.refl _ | apply Ext.drew | apply Ext.drewN | apply Ext.alloc | refine Ext.trans ?_ (by assumption))); first | done | fail)) (by omega) N (by omega))
  rw [show [0, 1] ++ List.replicate K 255 ++ [0] ++ (aheadL ++ dgH lb) = sgL (dgH lb) N by rw [← hK]; rfl] at C
  clear x s3
  go_wp2_with fail
  refine C.out.mono ?_
  rintro e w4 ⟨A4, c4, rfl, s4, o4, x4⟩
  have HF := Kp.mk (fresh_mk s4 o4 (show Ext w w3 from (by (repeat (first | assumption | exact Ext.refl _ | apply Ext.drew | apply Ext.drewN | apply Ext.alloc | refine Ext.trans ?_ (by assumption))); first | done | fail)) x4)
  clear s4 o4 x4 hxa x1 x2 x3
  go_wp2_with fail
  go_ret
  exact HF.out
end
end Go.Proofs.YticggkllfojgkaaDoor
