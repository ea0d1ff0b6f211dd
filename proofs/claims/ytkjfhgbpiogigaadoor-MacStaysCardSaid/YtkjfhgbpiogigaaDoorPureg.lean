/-
  The reference's way through the blocks is the code's: bytes and tail in one row, or the whole blocks first.
-/
import Derived.Test.YtkjfhgbpiogigaaDoorPureb
namespace Go.Proofs.YtkjfhgbpiogigaaDoor
open Go

theorem blk_left (x y : List (BitVec 8)) (k : Nat) (h : 64 * k + 64 ≤ x.length) : blk (x ++ y) k = blk x k := by
  unfold blk
  rw [List.drop_append_of_le_length (by omega), List.take_append_of_le_length (by rw [List.length_drop]; omega)]
theorem blk_right (x y : List (BitVec 8)) (q j : Nat) (h : x.length = 64 * q) : blk (x ++ y) (q + j) = blk y j := by
  unfold blk
  rw [show 64 * (q + j) = x.length + 64 * j by omega, List.drop_length_add_append]
theorem pa_left (K : List (BitVec 32)) (x y : List (BitVec 8)) (v : List (BitVec 32)) (i : Nat) (h : 64 * i ≤ x.length) : pa K (x ++ y) v i = pa K x v i := by
  induction i with
  | zero => rfl
  | succ i ih => rw [pa, pa, ih (by omega), blk_left _ _ _ (by omega)]
theorem pa_split (K : List (BitVec 32)) (x y : List (BitVec 8)) (v : List (BitVec 32)) (q j : Nat) (h : x.length = 64 * q) : pa K (x ++ y) v (q + j) = pa K y (pa K x v q) j := by
  induction j with
  | zero => exact pa_left K x y v q (by omega)
  | succ j ih => rw [← Nat.add_assoc, pa, pa, ih, blk_right _ _ _ _ h]
/-- bytes and tail -/
def allL (l : List (BitVec 8)) : List (BitVec 8) := l ++ tailTo l.length 8
theorem allL_len (l : List (BitVec 8)) : (allL l).length = l.length + tailLen l.length := by simp [allL, tailTo_len]
theorem allL_64 (l : List (BitVec 8)) : (allL l).length = 64 * ((allL l).length / 64) := by
  rw [allL_len]; unfold tailLen; omega
theorem pa_all (K H : List (BitVec 32)) (l : List (BitVec 8)) : pa K (allL l) H ((allL l).length / 64) = digW K H l := by
  unfold digW
  have hx : (l.take (64 * (l.length / 64))).length = 64 * (l.length / 64) := by rw [List.length_take]; omega
  have he : allL l = l.take (64 * (l.length / 64)) ++ endL l := by
    unfold allL endL; rw [← List.append_assoc, List.take_append_drop]
  have hn : (allL l).length / 64 = l.length / 64 + (endL l).length / 64 := by
    rw [allL_len, endL_len]; unfold tailLen; omega
  rw [hn, he, pa_split K _ _ H (l.length / 64) _ hx, show 64 * (l.length / 64) / 64 = l.length / 64 by omega]
/-- a block as it grows in place -/
def btTo (L : List (BitVec 8)) (k : Nat) : Nat → List (BitVec 8)
  | 0 => zb 64
  | i + 1 => (btTo L k i).set i (gb L (64 * k + i))
theorem btTo_len (L : List (BitVec 8)) (k i : Nat) : (btTo L k i).length = 64 := by
  induction i with
  | zero => rfl
  | succ i ih => simp [btTo, ih]
theorem btTo_succ (L : List (BitVec 8)) (k i : Nat) : btTo L k (i + 1) = (btTo L k i).set i (gb L (64 * k + i)) := rfl
theorem btTo_gb (L : List (BitVec 8)) (k i j : Nat) (hj : j < i) (hi : i ≤ 64) : (btTo L k i)[j]? = some (gb L (64 * k + j)) := by
  induction i with
  | zero => omega
  | succ i ih =>
    rw [btTo, List.getElem?_set]
    by_cases e : i = j
    · subst e
      rw [if_pos rfl, if_pos (by rw [btTo_len]; omega)]
    · rw [if_neg e]
      exact ih (by omega) (by omega)
theorem btTo_blk (L : List (BitVec 8)) (k : Nat) (h : 64 * k + 64 ≤ L.length) : btTo L k 64 = blk L k := by
  apply List.ext_getElem?
  intro j
  by_cases hj : j < 64
  · rw [btTo_gb L k 64 j hj (Nat.le_refl _)]
    unfold blk gb
    rw [List.getElem?_take_of_lt hj, List.getElem?_drop, List.getD_eq_getElem?_getD, List.getElem?_eq_getElem (by omega)]
    rfl
  · rw [List.getElem?_eq_none (by rw [btTo_len]; omega), List.getElem?_eq_none (by rw [blk_len _ _ h]; omega)]
end Go.Proofs.YtkjfhgbpiogigaaDoor
