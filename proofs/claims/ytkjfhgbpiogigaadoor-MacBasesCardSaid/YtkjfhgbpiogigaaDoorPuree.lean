/-
  The tail as the reference lays it.
-/
import Derived.Test.YtkjfhgbpiogigaaDoorPureb
namespace Go.Proofs.YtkjfhgbpiogigaaDoor
open Go

/-- eight bytes of a number, the highest first, as they grow from behind -/
def beTo (m : Nat) : Nat → List (BitVec 8)
  | 0 => zb 8
  | j + 1 => (beTo m j).set (7 - j) (BitVec.ofNat 8 (m / 256 ^ j))
theorem beTo_len (m j : Nat) : (beTo m j).length = 8 := by
  induction j with
  | zero => rfl
  | succ j ih => simp [beTo, ih]
def tailZ (n : Nat) : Nat := tailLen n - 9
theorem tailZ_len (n : Nat) : tailZ n + 9 = tailLen n := by have := tailLen_lo n; unfold tailZ; omega
theorem tailZ_hi (n : Nat) : tailZ n ≤ 63 := by have := tailLen_hi n; unfold tailZ; omega
theorem tailZ_stop (n j : Nat) (h : j ≤ tailZ n) : (n + (1 + j) + 8) % 64 = 0 ↔ j = tailZ n := by
  unfold tailZ tailLen at *; omega
theorem tail_be (n i : Nat) (hi : i ≤ 8) : tailTo n i = 128 :: zb (tailZ n) ++ beTo (8 * n) i := by
  induction i with
  | zero =>
    have e : zb (tailLen n) = 0 :: (zb (tailZ n) ++ zb 8) := by
      rw [← tailZ_len]
      unfold zb
      rw [← List.replicate_append_replicate.symm, ← List.replicate_succ]
    rw [tailTo, e]; rfl
  | succ i ih =>
    rw [tailTo, ih (by omega), beTo, ← tailZ_len, show 2 ^ (8 * i) = 256 ^ i by rw [Nat.pow_mul]]
    have hl : (128 :: zb (tailZ n)).length = tailZ n + 1 := by simp [zb_len]
    rw [List.set_append_right _ _ (by rw [hl]; omega), hl, show tailZ n + 9 - 1 - i - (tailZ n + 1) = 7 - i by omega]
theorem zb_snoc (j : Nat) : zb j ++ [0] = zb (j + 1) := by
  unfold zb; rw [List.replicate_succ']
end Go.Proofs.YtkjfhgbpiogigaaDoor
