/-
  The walk of the laws' head of layer 3; the laws AesSubstitutes, AesKeys.
-/
import Derived.Test.YthggoodcdjgokaaDoorBc
import Derived.Test.YthggoodcdjgokaaDoorBt
namespace Go.Proofs.YthggoodcdjgokaaDoor
open Go Go.RowKit

theorem num_bs (w : World) (v : Int) (x : BitVec 8) (h : ub x = v) : Bs (w.alloc (.cells #[.int .u8 v] 5)) (some ⟨w.heap.size, 0, none⟩) 1 1 [x] := by subst h; exact one_bs w x
def exK : List (BitVec 8) := li 16 fun i => BitVec.ofNat 8 i
def exB : List (BitVec 8) := li 16 fun i => BitVec.ofNat 8 (17 * i)
set_option maxRecDepth 100000 in
theorem str_ex : strOf (encL (ks exK) exB) = { data := #[105, 196, 224, 216, 106, 123, 4, 48, 216, 205, 183, 128, 112, 180, 197, 90] } := by
  decide +kernel
theorem sb_ex : sb (BitVec.ofNat 8 83) = BitVec.ofNat 8 237 := by decide +kernel

set_option maxHeartbeats 2000000 in
theorem up3_any (w : World) (hw : Lay3 w) : Calls Tryd.prog 9 #[] w fun e w' => e = .returned (.bool true) ∧ Ext w w' := by
  go_enter Tryd.func9, Tryd.ntmps9
  go_wp2_with fail
  go_loopw [1, 2, 3] (fun kv bv' iv wr => ∃ j : Nat, j ≤ 16 ∧ iv = .int .i64 j ∧ (∃ A c, kv = .slice A j c) ∧ (∃ A c, bv' = .slice A j c) ∧ Own wr w.heap.size kv j (li j fun i => BitVec.ofNat 8 i) ∧ Own wr w.heap.size bv' j (li j fun i => BitVec.ofNat 8 (17 * i)) ∧ Dj kv bv' ∧ Ext w wr) (fun _ _ i _ => 16 - (intOf i).toNat)
  case atStart => exact ⟨0, by omega, rfl, ⟨_, _, rfl⟩, ⟨_, _, rfl⟩, Own.nil _ _, Own.nil _ _, Dj.nil _, Ext.refl _⟩
  case round =>
    obtain ⟨j, hj, rfl, ⟨Ak, ck, rfl⟩, ⟨Ab, cb, rfl⟩, hi, ho, hd, hx⟩ := hrel
    by_cases hlt : j < 16
    · have b1 : (j : Int) < 16 := by omega
      have h1 : ub (BitVec.ofNat 8 j) = (j : Int) := by rw [ub_ofNat]; omega
      have h2 : ub (BitVec.ofNat 8 (17 * j)) = 17 * (j : Int) := by rw [ub_ofNat]; omega
      have HL1 := Kp.mk (li_succ j fun i => BitVec.ofNat 8 i)
      have HL2 := Kp.mk (li_succ j fun i => BitVec.ofNat 8 (17 * i))
      have H1 := Kp.mk h1
      have H2 := Kp.mk h2
      clear h1 h2
      go_wp2_with (first | (at_builtin; refine wpList_append_bs rfl (.tmp 10) (.tmp 13) rfl w.heap.size _ j _ rfl (hi.ext (by (repeat (first | assumption | exact Ext.refl _ | apply Ext.drew | apply Ext.drewN | apply Ext.alloc | refine Ext.trans ?_ (by assumption))); first | done | fail)) _ 1 1 [BitVec.ofNat 8 j] rfl (num_bs wr _ _ H1.out) (by omega) (j + 1) rfl _ rfl w (hx.trans (by (repeat (first | assumption | exact Ext.refl _ | apply Ext.drew | apply Ext.drewN | apply Ext.alloc | refine Ext.trans ?_ (by assumption))); first | done | fail)) (Nat.le_refl _) (hx.trans (by (repeat (first | assumption | exact Ext.refl _ | apply Ext.drew | apply Ext.drewN | apply Ext.alloc | refine Ext.trans ?_ (by assumption))); first | done | fail)).size ?_; intro A3 c3 w3 hi3 hx3 hap3; have ho3 := hap3.keep (ho.ext (by (repeat (first | assumption | exact Ext.refl _ | apply Ext.drew | apply Ext.drewN | apply Ext.alloc | refine Ext.trans ?_ (by assumption))); first | done | fail)) hd.symm; have hd3 := hap3.dj (ho.ext (by (repeat (first | assumption | exact Ext.refl _ | apply Ext.drew | apply Ext.drewN | apply Ext.alloc | refine Ext.trans ?_ (by assumption))); first | done | fail)) hd) | (at_builtin; refine wpList_append_bs rfl (.tmp 15) (.tmp 19) rfl w.heap.size _ j _ rfl (ho3.ext (by (repeat (first | assumption | exact Ext.refl _ | apply Ext.drew | apply Ext.drewN | apply Ext.alloc | refine Ext.trans ?_ (by assumption))); first | done | fail)) _ 1 1 [BitVec.ofNat 8 (17 * j)] rfl (num_bs w3 _ _ H2.out) (by omega) (j + 1) rfl _ rfl w (hx3.trans (by (repeat (first | assumption | exact Ext.refl _ | apply Ext.drew | apply Ext.drewN | apply Ext.alloc | refine Ext.trans ?_ (by assumption))); first | done | fail)) (Nat.le_refl _) (hx3.trans (by (repeat (first | assumption | exact Ext.refl _ | apply Ext.drew | apply Ext.drewN | apply Ext.alloc | refine Ext.trans ?_ (by assumption))); first | done | fail)).size ?_; intro A4 c4 w4 ho4 hx4 hap4) | fail)
      go_roundw
      case rel =>
        refine ⟨j + 1, by omega, by go_num, ⟨_, _, rfl⟩, ⟨_, _, rfl⟩, ?_, ?_, ?_, hx4⟩
        · rw [HL1.out]
          exact hap4.keep (hi3.ext (by (repeat (first | assumption | exact Ext.refl _ | apply Ext.drew | apply Ext.drewN | apply Ext.alloc | refine Ext.trans ?_ (by assumption))); first | done | fail)) hd3
        · rw [HL2.out]
          exact ho4
        · exact (hap4.dj (hi3.ext (by (repeat (first | assumption | exact Ext.refl _ | apply Ext.drew | apply Ext.drewN | apply Ext.alloc | refine Ext.trans ?_ (by assumption))); first | done | fail)) hd3.symm).symm
      case measure => simp [intOf]; omega
    · obtain rfl : j = 16 := by omega
      have hk : Bs wr Ak 16 ck exK := hi.bs
      have hb : Bs wr Ab 16 cb exB := ho.bs
      have hwr := hw.ext hx
      clear hi ho hd
      go_wp2_with fail
      refine (Encrypt_any hk hb hwr).mono ?_
      rintro e w1 ⟨A1, c1, rfl, hs1, _, hx1⟩
      have k1 := hs1.str (Ext.refl _)
      rw [str_ex] at k1
      have hx01 := hx.trans hx1
      have hsub := Substitute_any (BitVec.ofNat 8 83) w1 (hw.ext hx01)
      rw [sb_ex] at hsub
      have HS := Kp.mk hsub
      have HX := Kp.mk hx01
      clear hsub hx01 hx hx1 hs1 hk hb hwr hw
      go_wp2_with (first | (go_at_call 10; refine Calls.mono HS.out ?_; rintro e w2 ⟨rfl, rfl⟩) | fail)
      go_ret
      exact ⟨rfl, HX.out⟩
end Go.Proofs.YthggoodcdjgokaaDoor
