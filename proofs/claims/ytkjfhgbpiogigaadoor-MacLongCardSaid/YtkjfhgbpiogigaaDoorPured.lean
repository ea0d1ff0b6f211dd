/-
  A word out of four bytes, one behind the other.
-/
import Derived.Test.YtkjfhgbpiogigaaDoorPureb
namespace Go.Proofs.YtkjfhgbpiogigaaDoor
open Go

def part (l : List (BitVec 8)) (k : Nat) : Nat → BitVec 32
  | 0 => 0
  | j + 1 => part l k j <<< 8 + e8 (gb l (4 * k + j))
theorem e8_toNat (x : BitVec 8) : (e8 x).toNat = x.toNat := by
  have := x.isLt
  unfold e8; rw [BitVec.toNat_setWidth]; omega
theorem shl_toNat (x : BitVec 32) (k : Nat) : (x <<< k).toNat = x.toNat * 2 ^ k % 4294967296 := by
  rw [BitVec.toNat_shiftLeft, Nat.shiftLeft_eq]
theorem wd_toNat (a b c d : BitVec 8) : (wd a b c d).toNat = a.toNat * 16777216 + b.toNat * 65536 + c.toNat * 256 + d.toNat := by
  have ha := a.isLt
  have hb := b.isLt
  have hc := c.isLt
  have hd := d.isLt
  unfold wd
  rw [BitVec.toNat_or, BitVec.toNat_or, BitVec.toNat_or, shl_toNat, shl_toNat, shl_toNat, e8_toNat, e8_toNat, e8_toNat, e8_toNat]
  rw [show a.toNat * 2 ^ 24 % 4294967296 = a.toNat * 16777216 by omega, show b.toNat * 2 ^ 16 % 4294967296 = b.toNat * 65536 by omega, show c.toNat * 2 ^ 8 % 4294967296 = c.toNat * 256 by omega]
  rw [nat_join 24 (a.toNat * 16777216) (b.toNat * 65536) (by omega) (by omega), nat_join 16 _ (c.toNat * 256) (by omega) (by omega), nat_join 8 _ d.toNat (by omega) (by omega)]
theorem part_word (l : List (BitVec 8)) (k : Nat) : part l k 4 = word l (4 * k) := by
  apply BitVec.eq_of_toNat_eq
  unfold word
  rw [wd_toNat]
  simp only [part, BitVec.toNat_add, shl_toNat, e8_toNat, Nat.add_zero]
  have ha := (gb l (4 * k)).isLt
  have hb := (gb l (4 * k + 1)).isLt
  have hc := (gb l (4 * k + 2)).isLt
  have hd := (gb l (4 * k + 3)).isLt
  have h0 : (0 : BitVec 32).toNat = 0 := rfl
  rw [h0]
  omega
theorem gw_rep (n j : Nat) : gw (List.replicate n 0) j = 0 := by
  unfold gw
  rw [List.getD_eq_getElem?_getD, List.getElem?_replicate]
  split <;> rfl
theorem sched_zero (l : List (BitVec 8)) (k : Nat) : ∀ j, k ≤ j → gw (sched l k) j = 0 := by
  induction k with
  | zero =>
    intro j _
    rw [sched]
    exact gw_rep 64 j
  | succ k ih =>
    intro j hj
    have := ih j (by omega)
    simp only [gw, List.getD_eq_getElem?_getD] at this ⊢
    rw [sched, List.getElem?_set_ne (by omega)]
    exact this
theorem set_same (s : List (BitVec 32)) (k : Nat) (x : BitVec 32) (h : gw s k = x) : s.set k x = s := by
  by_cases hk : k < s.length
  · have e : x = s[k] := by rw [← h]; simp [gw, hk]
    rw [e, List.set_getElem_self]
  · rw [List.set_eq_of_length_le (by omega)]
theorem set_gw (s : List (BitVec 32)) (k : Nat) (x : BitVec 32) (hk : k < s.length) : gw (s.set k x) k = x := by
  simp [gw, hk]
end Go.Proofs.YtkjfhgbpiogigaaDoor
