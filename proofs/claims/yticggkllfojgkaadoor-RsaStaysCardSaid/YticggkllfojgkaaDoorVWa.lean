/-
  The walks of the small functions of package sha.
-/
import Derived.Test.YticggkllfojgkaaDoorProg
import Derived.Test.YticggkllfojgkaaDoorM0
import Derived.WalkKit
import Derived.WalkSpells
import Derived.WalkLawsBesides
import Derived.Lib.Hide
import Derived.Deep.QuietTactic
import Derived.BigQuiet
namespace Go.Proofs.YticggkllfojgkaaDoor
open Go Go.RowKit
set_option maxRecDepth 4000

theorem sizeB64 : (Tryd.prog.info? 123).map (·.size) = some 64 := by kernel_rfl
theorem sizeW64 : (Tryd.prog.info? 135).map (·.size) = some 64 := by kernel_rfl
theorem sizeW8 : (Tryd.prog.info? 96).map (·.size) = some 8 := by kernel_rfl
theorem szB64 (l : List (BitVec 8)) (h : l.length = 64) : (Tryd.prog.info? 123).map (·.size) = some (bv l).size := by rw [bv_size, h]; exact sizeB64
theorem szW64 (l : List (BitVec 32)) (h : l.length = 64) : (Tryd.prog.info? 135).map (·.size) = some (wv l).size := by rw [wv_size, h]; exact sizeW64
theorem szW8 (l : List (BitVec 32)) (h : l.length = 8) : (Tryd.prog.info? 96).map (·.size) = some (wv l).size := by rw [wv_size, h]; exact sizeW8
theorem wraps_u64 (n : Int) (h0 : 0 ≤ n) (h1 : n < 2 ^ 64) : IntKind.u64.wrap n = n := by rw [IntKind.wrap_u64]; omega
theorem and31 (k : Int) (h1 : 0 < k) (h2 : k < 32) : bits .and .u64 (IntKind.u64.wrap (-k)) 31 = 32 - k := by
  have h := bits_mask .u64 64 (by decide) wraps_u64 5 (by decide) (IntKind.u64.wrap (-k)) (by rw [IntKind.wrap_u64]; omega) (by rw [IntKind.wrap_u64]; omega)
  rw [show (2 : Int) ^ 5 - 1 = 31 by decide] at h
  rw [h, IntKind.wrap_u64]; omega
set_option maxHeartbeats 400000 in
theorem rot_any (x : BitVec 32) (k : Int) (w : World) (h1 : 0 < k) (h2 : k < 32) :
    Calls Tryd.prog 116 #[.int .u32 (un x), .int .i64 (-k)] w fun e w' => e = .returned (.int .u32 (un (rr x k.toNat))) ∧ w = w' := by
  have ha := and31 k h1 h2
  have hk : (32 : Int) - (32 - k) = k := by omega
  go_enter Tryd.func116, Tryd.ntmps116
  go_wp2
  go_ret
  refine ⟨?_, rfl⟩
  rw [b_shl', b_shr, b_or, show (32 - k).toNat = 32 - k.toNat by omega]; rfl

set_option maxHeartbeats 400000 in
theorem rolled_any (x : BitVec 32) (k : Int) (w : World) (h1 : 0 < k) (h2 : k < 32) :
    Calls Tryd.prog 115 #[.int .u32 (un x), .int .i64 k] w fun e w' => e = .returned (.int .u32 (un (rr x k.toNat))) ∧ w = w' := by
  go_enter Tryd.func115, Tryd.ntmps115
  go_wp2_with (go_at_call 116; refine (rot_any _ _ _ h1 h2).mono ?_; rintro e w' ⟨rfl, rfl⟩)
  go_ret
  exact ⟨rfl, rfl⟩
set_option maxHeartbeats 400000 in
theorem word_any (l : List (BitVec 8)) (n : Nat) (m : Int) (w : World) (hl : l.length = 64) (h : n + 3 < 64) (hm : m = (n : Int)) :
    Calls Tryd.prog 114 #[.agg (bv l), .int .i64 m] w fun e w' => e = .returned (.int .u32 (un (word l n))) ∧ Below w.heap.size w w' := by
  have c0 := bv_at l n (by omega)
  have c1 := bv_at l (n + 1) (by omega)
  have c2 := bv_at l (n + 2) (by omega)
  have c3 := bv_at l (n + 3) (by omega)
  have H := Lib.hid hl
  clear hl
  subst hm
  go_enter Tryd.func114, Tryd.ntmps114
  go_wp2
  go_quiet (fail)
  go_wp2
  go_ret
  refine ⟨?_, ?_⟩
  · exact congrArg (fun z => Ending.returned (.int .u32 z)) (by rw [un_shl24, un_shl16, un_shl8, b_or, b_or, b_or]; rfl)
  · exact below_drewN ((Below.refl _ _).alloc (Nat.le_refl _) _) _
set_option maxHeartbeats 400000 in
theorem turn_any (a b c e f g h : BitVec 32) (w : World) :
    Calls Tryd.prog 110 #[.int .u32 (un a), .int .u32 (un b), .int .u32 (un c), .int .u32 (un e), .int .u32 (un f), .int .u32 (un g), .int .u32 (un h)] w fun r w' => r = .returned (.tuple #[.int .u32 (un (tA a b c e f g h)), .int .u32 (un (tT e f g h))]) ∧ w = w' := by
  go_enter Tryd.func110, Tryd.ntmps110
  go_wp2_with (go_at_call 115; refine (rolled_any _ _ _ (by omega) (by omega)).mono ?_; rintro e w' ⟨rfl, rfl⟩)
  go_ret2
  exact ⟨rfl, rfl⟩
end Go.Proofs.YticggkllfojgkaaDoor
