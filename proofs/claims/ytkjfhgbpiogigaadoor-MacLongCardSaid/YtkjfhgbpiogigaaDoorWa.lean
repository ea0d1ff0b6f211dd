/-
  The walks of the small functions of package sha.
-/
import Derived.Test.YtkjfhgbpiogigaaDoorProg
import Derived.Test.YtkjfhgbpiogigaaDoorPure
import Derived.Test.YtkjfhgbpiogigaaDoorMem
import Derived.WalkKit
import Derived.WalkSpells
import Derived.WalkLawsBesides
import Derived.Lib.Hide
import Derived.Deep.QuietTactic
import Derived.BigQuiet
namespace Go.Proofs.YtkjfhgbpiogigaaDoor
open Go Go.RowKit

theorem sizeB64 : (Tryd.prog.info? 22).map (·.size) = some 64 := by kernel_rfl
theorem sizeW64 : (Tryd.prog.info? 25).map (·.size) = some 64 := by kernel_rfl
theorem sizeW8 : (Tryd.prog.info? 28).map (·.size) = some 8 := by kernel_rfl
theorem szB64 (l : List (BitVec 8)) (h : l.length = 64) : (Tryd.prog.info? 22).map (·.size) = some (bv l).size := by rw [bv_size, h]; exact sizeB64
theorem szW64 (l : List (BitVec 32)) (h : l.length = 64) : (Tryd.prog.info? 25).map (·.size) = some (wv l).size := by rw [wv_size, h]; exact sizeW64
theorem szW8 (l : List (BitVec 32)) (h : l.length = 8) : (Tryd.prog.info? 28).map (·.size) = some (wv l).size := by rw [wv_size, h]; exact sizeW8
theorem wraps_u64 (n : Int) (h0 : 0 ≤ n) (h1 : n < 2 ^ 64) : IntKind.u64.wrap n = n := by rw [IntKind.wrap_u64]; omega
theorem and31 (k : Int) (h1 : 0 < k) (h2 : k < 32) : bits .and .u64 (IntKind.u64.wrap (-k)) 31 = 32 - k := by
  have h := bits_mask .u64 64 (by decide) wraps_u64 5 (by decide) (IntKind.u64.wrap (-k)) (by rw [IntKind.wrap_u64]; omega) (by rw [IntKind.wrap_u64]; omega)
  rw [show (2 : Int) ^ 5 - 1 = 31 by decide] at h
  rw [h, IntKind.wrap_u64]; omega
set_option maxHeartbeats 400000 in
theorem rot_any (x : BitVec 32) (k : Int) (w : World) (h1 : 0 < k) (h2 : k < 32) :
    Calls Tryd.prog 56 #[.int .u32 (un x), .int .i64 (-k)] w fun e w' => e = .returned (.int .u32 (un (rr x k.toNat))) ∧ w = w' := by
  have ha := and31 k h1 h2
  have hk : (32 : Int) - (32 - k) = k := by omega
  go_enter Tryd.func56, Tryd.ntmps56
  go_wp2
  go_ret
  refine ⟨?_, rfl⟩
  rw [b_shl', b_shr, b_or, show (32 - k).toNat = 32 - k.toNat by omega]; rfl

set_option maxHeartbeats 400000 in
theorem rolled_any (x : BitVec 32) (k : Int) (w : World) (h1 : 0 < k) (h2 : k < 32) :
    Calls Tryd.prog 41 #[.int .u32 (un x), .int .i64 k] w fun e w' => e = .returned (.int .u32 (un (rr x k.toNat))) ∧ w = w' := by
  go_enter Tryd.func41, Tryd.ntmps41
  go_wp2_with (go_at_call 56; refine (rot_any _ _ _ h1 h2).mono ?_; rintro e w' ⟨rfl, rfl⟩)
  go_ret
  exact ⟨rfl, rfl⟩
set_option maxHeartbeats 400000 in
theorem word_any (l : List (BitVec 8)) (n : Nat) (m : Int) (w : World) (hl : l.length = 64) (h : n + 3 < 64) (hm : m = (n : Int)) :
    Calls Tryd.prog 40 #[.agg (bv l), .int .i64 m] w fun e w' => e = .returned (.int .u32 (un (word l n))) ∧ Below w.heap.size w w' := by
  have c0 := bv_at l n (by omega)
  have c1 := bv_at l (n + 1) (by omega)
  have c2 := bv_at l (n + 2) (by omega)
  have c3 := bv_at l (n + 3) (by omega)
  have H := Lib.hid hl
  clear hl
  subst hm
  go_enter Tryd.func40, Tryd.ntmps40
  go_wp2
  go_quiet (fail)
  go_wp2
  go_ret
  refine ⟨?_, ?_⟩
  · exact congrArg (fun z => Ending.returned (.int .u32 z)) (by rw [un_shl24, un_shl16, un_shl8, b_or, b_or, b_or]; rfl)
  · exact below_drewN ((Below.refl _ _).alloc (Nat.le_refl _) _) _
set_option maxHeartbeats 400000 in
theorem turn_any (a b c e f g h : BitVec 32) (w : World) :
    Calls Tryd.prog 43 #[.int .u32 (un a), .int .u32 (un b), .int .u32 (un c), .int .u32 (un e), .int .u32 (un f), .int .u32 (un g), .int .u32 (un h)] w fun r w' => r = .returned (.tuple #[.int .u32 (un (tA a b c e f g h)), .int .u32 (un (tT e f g h))]) ∧ w = w' := by
  go_enter Tryd.func43, Tryd.ntmps43
  go_wp2_with (go_at_call 41; refine (rolled_any _ _ _ (by omega) (by omega)).mono ?_; rintro e w' ⟨rfl, rfl⟩)
  go_ret2
  exact ⟨rfl, rfl⟩
set_option maxHeartbeats 400000 in
theorem round_any (l : List (BitVec 32)) (n : BitVec 32) (w : World) (hl : l.length = 8) :
    Calls Tryd.prog 20 #[.agg (wv l), .int .u32 (un n)] w fun e w' => e = .returned (.agg (wv (round l n))) ∧ Below w.heap.size w w' := by
  have c0 := wv_at l 0 (by omega)
  have c1 := wv_at l 1 (by omega)
  have c2 := wv_at l 2 (by omega)
  have c3 := wv_at l 3 (by omega)
  have c4 := wv_at l 4 (by omega)
  have c5 := wv_at l 5 (by omega)
  have c6 := wv_at l 6 (by omega)
  have c7 := wv_at l 7 (by omega)
  have H := Lib.hid hl
  have HR := Lib.hid (round_tA l n)
  clear hl
  go_enter Tryd.func20, Tryd.ntmps20
  have hg : Has ((w.alloc (.cells (wv l) 28)).alloc (.cells (wv [0, 0, 0, 0, 0, 0, 0, 0]) 28)) (w.heap.size + 1) 28 (wv [0, 0, 0, 0, 0, 0, 0, 0]) :=
    Has.new _ _ _ _ (by simp)
  have H2 := Lib.hid hg
  clear hg
  rw [HR.out]
  go_wp2_with (first | (go_at_call 43; refine (turn_any _ _ _ _ _ _ _ _).mono ?_; rintro e w' ⟨rfl, rfl⟩) | (refine wpList_store_row rfl 28 _ _ rfl (w.heap.size + 1) (wv [tA (gw l 0) (gw l 1) (gw l 2) (gw l 4) (gw l 5) (gw l 6) (gw l 7 + n), gw l 0, gw l 1, gw l 2, gw l 3 + tT (gw l 4) (gw l 5) (gw l 6) (gw l 7 + n), gw l 4, gw l 5, gw l 6]) rfl rfl 28 _ H2.out (by kernel_rfl) rfl (wv_one _) ?_))
  refine bodyPost_ret (v := .agg (wv [tA (gw l 0) (gw l 1) (gw l 2) (gw l 4) (gw l 5) (gw l 6) (gw l 7 + n), gw l 0, gw l 1, gw l 2, gw l 3 + tT (gw l 4) (gw l 5) (gw l 6) (gw l 7 + n), gw l 4, gw l 5, gw l 6])) ?_ rfl ⟨rfl, ?_⟩
  · exact results_cell_row rfl _ _ (w.heap.size + 1) 28 _ (0, 0) _ rfl (H2.out.row _) Tryd.underlying28 rfl (by kernel_rfl)
  · exact below_row (((Below.refl _ _).alloc (Nat.le_refl _) _).alloc (by simp) _) (by omega) _
end Go.Proofs.YtkjfhgbpiogigaaDoor
