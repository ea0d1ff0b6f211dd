/-
  prim: Int.
-/
import Derived.Test.YthookcnkmlmgcaaDoorM8
import Derived.Shelf.Strconv.Itoa0
namespace Go.Proofs.YthookcnkmlmgcaaDoor
open Go Go.RowKit Go.Shelf
set_option maxRecDepth 4000

def Len64Laid_ren : Go.Shelf.Ren := ⟨fun | 129 => 100 | n => n, fun | 53 => 137 | 3 => 3 | 4 => 4 | 46 => 82 | 5 => 5 | 9 => 9 | n => n, fun | n => n⟩
theorem Len64Laid : Go.Proofs.Lays.n129 Tryd.prog Len64Laid_ren := {
  mixed := by kernel_rfl
  f129 := Tryd.func100.trans (congrArg some (by kernel_rfl))
  t3 := Tryd.underlying3
  a3 := Tryd.isAgg3
  z3 := Tryd.sizeOf3
  v3 := Tryd.zeroValue3
  t4 := Tryd.underlying4
  a4 := Tryd.isAgg4
  z4 := Tryd.sizeOf4
  v4 := Tryd.zeroValue4
  t5 := Tryd.underlying5
  a5 := Tryd.isAgg5
  z5 := Tryd.sizeOf5
  v5 := Tryd.zeroValue5
  t9 := Tryd.underlying9
  a9 := Tryd.isAgg9
  z9 := Tryd.sizeOf9
  v9 := Tryd.zeroValue9
  t46 := Tryd.underlying82
  a46 := Tryd.isAgg82
  z46 := Tryd.sizeOf82
  v46 := Tryd.zeroValue82
  t53 := Tryd.underlying137
  a53 := Tryd.isAgg137
  z53 := Tryd.sizeOf137
  v53 := Tryd.zeroValue137 }
theorem Len64_any (x : Nat) (hx : x < 18446744073709551616) (w : World) : Calls Tryd.prog 100 #[.int .u64 (x : Int)] w fun e w' => e = .returned (.int .i64 (Lib.bitLen x : Int)) ∧ w' = w := by
  have h := Any.bits_Len64 Len64Laid (x : Int) w (by omega) (by omega)
  rw [Int.toNat_natCast] at h
  exact h
/-- the row that Int builds: zeros, then the lowest bytes -/
theorem intL_row (n : Int) (k j : Nat) (h : j < k) : (zb (k - j) ++ intL n j).set (k - 1 - j) (BitVec.ofNat 8 ((n / ((256 ^ j : Nat) : Int)) % 256).toNat) = zb (k - (j + 1)) ++ intL n (j + 1) := by
  obtain ⟨d, rfl⟩ : ∃ d, k = j + (d + 1) := ⟨k - j - 1, by omega⟩
  rw [show j + (d + 1) - j = d + 1 by omega, show j + (d + 1) - 1 - j = d by omega, show j + (d + 1) - (j + 1) = d by omega]
  rw [List.set_append_left _ _ (by rw [zb_len]; omega), intL]
  have e : zb (d + 1) = zb d ++ [0] := by unfold zb; rw [List.replicate_succ']
  rw [e, List.set_append_right _ _ (by rw [zb_len]; exact Nat.le_refl _), zb_len, Nat.sub_self]
  simp
theorem byte_shr (n : Int) (j : Nat) : IntKind.u8.wrap (n / ((256 ^ j : Nat) : Int)) = ub (BitVec.ofNat 8 ((n / ((256 ^ j : Nat) : Int)) % 256).toNat) := by
  unfold ub
  rw [byt_nat, IntKind.wrap_u8]
  omega
theorem pow_shr (j : Nat) : ((2 : Int) ^ (8 * j)) = ((256 ^ j : Nat) : Int) := by
  rw [Nat.pow_mul' 2 8 j |> fun h => (by rw [Nat.pow_mul] : (256 ^ j : Nat) = 2 ^ (8 * j))]
  exact (Int.natCast_pow 2 (8 * j)).symm
end Go.Proofs.YthookcnkmlmgcaaDoor
