/-
  Marks and derived keys as plain lists.
-/
import Derived.Test.YticggkllfojgkaaDoorVPureb
import Derived.Test.YticggkllfojgkaaDoorM11
import Derived.Laws.CopyOwn
namespace Go.Proofs.YticggkllfojgkaaDoor
open Go
set_option maxRecDepth 4000

/-- the digest -/
def dgH (l : List (BitVec 8)) : List (BitVec 8) := dig KK HH l
theorem dg_len (l : List (BitVec 8)) : (dgH l).length = 32 := dig_len _ _ _

@[go_sem] theorem b_xor54 (x : BitVec 8) : bits .xor .u8 (ub x) 54 = ub (x ^^^ 54) := b_xor8 x 54
@[go_sem] theorem b_xor92 (x : BitVec 8) : bits .xor .u8 (ub x) 92 = ub (x ^^^ 92) := b_xor8 x 92

/-- a key's bytes, each xor one, 0 where there is none -/
def padTo (k : List (BitVec 8)) (c : BitVec 8) (n : Nat) : List (BitVec 8) := (List.range n).map fun i => gb k i ^^^ c
def padX (k : List (BitVec 8)) (c : BitVec 8) : List (BitVec 8) := padTo k c 64
theorem padTo_len (k : List (BitVec 8)) (c : BitVec 8) (n : Nat) : (padTo k c n).length = n := by simp [padTo]
theorem padX_len (k : List (BitVec 8)) (c : BitVec 8) : (padX k c).length = 64 := padTo_len k c 64
theorem padTo_succ (k : List (BitVec 8)) (c : BitVec 8) (n : Nat) : padTo k c (n + 1) = padTo k c n ++ [gb k n ^^^ c] := by
  unfold padTo; rw [List.range_succ, List.map_append]; rfl
/-- both pads, as they grow in place -/
def pf (k : List (BitVec 8)) (j : Nat) : List (BitVec 8) :=
  ((List.range 64).map fun i => if i < j then gb k i ^^^ 54 else gb k i) ++ ((List.range 64).map fun i => if i < j then gb k i ^^^ 92 else gb k i)
theorem pf_len (k : List (BitVec 8)) (j : Nat) : (pf k j).length = 128 := by simp [pf]
theorem pf_lo (k : List (BitVec 8)) (j i : Nat) (h : i < 64) : gb (pf k j) i = if i < j then gb k i ^^^ 54 else gb k i := by
  unfold pf
  rw [gb_app, if_pos (by simpa using h), gb_map_range _ _ _ h]
theorem pf_hi (k : List (BitVec 8)) (j i : Nat) (h : i < 64) : gb (pf k j) (64 + i) = if i < j then gb k i ^^^ 92 else gb k i := by
  unfold pf
  rw [gb_app, if_neg (by simp), List.length_map, List.length_range, show 64 + i - 64 = i by omega, gb_map_range _ _ _ h]
theorem pf_next (k : List (BitVec 8)) (j : Nat) (h : j < 64) : ((pf k j).set j (gb k j ^^^ 54)).set (64 + j) (gb k j ^^^ 92) = pf k (j + 1) := by
  apply ext_gb
  · simp [pf_len]
  · intro i hi
    have hi' : i < 128 := by simpa [pf_len] using hi
    rw [gb_set _ _ _ _ (by simp [pf_len]; omega), gb_set _ _ _ _ (by rw [pf_len]; omega)]
    by_cases h1 : i < 64
    · rw [if_neg (by omega), pf_lo _ _ _ h1, pf_lo _ _ _ h1]
      by_cases h2 : i = j
      · subst h2; simp
      · rw [if_neg h2]
        by_cases h3 : i < j
        · rw [if_pos h3, if_pos (by omega)]
        · rw [if_neg h3, if_neg (by omega)]
    · obtain ⟨d, rfl⟩ : ∃ d, i = 64 + d := ⟨i - 64, by omega⟩
      have hd : d < 64 := by omega
      rw [if_neg (show ¬ 64 + d = j by omega), pf_hi _ _ _ hd, pf_hi _ _ _ hd]
      by_cases h2 : d = j
      · subst h2; simp
      · rw [if_neg (by omega)]
        by_cases h3 : d < j
        · rw [if_pos h3, if_pos (by omega)]
        · rw [if_neg h3, if_neg (by omega)]
theorem pf_end (k : List (BitVec 8)) : pf k 64 = padX k 54 ++ padX k 92 := by
  unfold pf padX padTo
  congr 1 <;> (apply List.map_congr_left; intro i hi; rw [if_pos (by simpa using hi)])
theorem splice_map {α β : Type} (f : α → β) (L : List α) (o : Nat) (c : List α) : splice (L.map f) o (c.map f) = (splice L o c).map f := by
  simp [splice]
theorem pf_start (k : List (BitVec 8)) (h : k.length ≤ 64) : splice (splice ((zb 128).map vb) 0 (k.map vb)) 64 (k.map vb) = (pf k 0).map vb := by
  rw [splice_map, splice_map]
  congr 1
  have hl : (splice (zb 128) 0 k).length = 128 := by
    rw [length_splice _ _ _ (by rw [zb_len]; omega), zb_len]
  have h1 : ∀ i, gb (splice (zb 128) 0 k) i = gb k i := by
    intro i
    unfold splice
    rw [List.take_zero, List.nil_append, gb_app]
    split
    · rfl
    · rw [gb_drop', gb_zb, gb_out k i (by omega)]
  apply ext_gb
  · rw [length_splice _ _ _ (by rw [hl]; omega), hl, pf_len]
  · intro i hi
    have hi' : i < 128 := by rwa [length_splice _ _ _ (by rw [hl]; omega), hl] at hi
    unfold splice at h1 ⊢
    rw [gb_app, gb_app, List.length_take, show (List.take 0 (zb 128) ++ (k ++ List.drop (0 + k.length) (zb 128))).length = 128 from hl, show min 64 128 = 64 from rfl]
    by_cases h2 : i < 64
    · rw [if_pos h2, gb_take', if_pos h2, h1, pf_lo _ _ _ h2, if_neg (by omega)]
    · obtain ⟨d, rfl⟩ : ∃ d, i = 64 + d := ⟨i - 64, by omega⟩
      have e1 : gb (pf k 0) (64 + d) = gb k d := by rw [pf_hi _ _ _ (by omega), if_neg (by omega)]
      rw [if_neg h2, show 64 + d - 64 = d by omega, e1]
      by_cases h3 : d < k.length
      · rw [if_pos h3]
      · rw [if_neg h3, gb_drop', h1, gb_out k _ (by omega), gb_out k _ (by omega)]

/-- a mark -/
def kx (k : List (BitVec 8)) : List (BitVec 8) := if 64 < k.length then dgH k else k
theorem kx_len (k : List (BitVec 8)) : (kx k).length ≤ 64 := by
  unfold kx; split
  · rw [dg_len]; decide
  · omega
def mkP (p q b : List (BitVec 8)) : List (BitVec 8) := dgH (q ++ dgH (p ++ b))
def mkL (k b : List (BitVec 8)) : List (BitVec 8) := mkP (padX (kx k) 54) (padX (kx k) 92) b
theorem mkP_len (p q b : List (BitVec 8)) : (mkP p q b).length = 32 := dg_len _
theorem mkL_len (k b : List (BitVec 8)) : (mkL k b).length = 32 := dg_len _
theorem kx_long (k : List (BitVec 8)) (h : 64 < k.length) : kx (dgH k) = kx k := by
  unfold kx
  rw [if_pos h, if_neg (by rw [dg_len]; decide)]
theorem mkL_long (k b : List (BitVec 8)) (h : 64 < k.length) : mkL (dgH k) b = mkL k b := by
  unfold mkL; rw [kx_long k h]
theorem padX_zero (k : List (BitVec 8)) (c : BitVec 8) : padX (k ++ [0]) c = padX k c := by
  unfold padX padTo
  apply List.map_congr_left
  intro i _
  rw [gb_app]
  split
  · rfl
  · rw [gb_out k i (by omega)]
    by_cases h : i - k.length = 0
    · rw [h]; rfl
    · rw [gb_out _ _ (by simp; omega)]
theorem mkL_zero (k b : List (BitVec 8)) (h : k.length < 64) : mkL (k ++ [0]) b = mkL k b := by
  have h1 : kx (k ++ [0]) = k ++ [0] := by unfold kx; rw [if_neg (by simp; omega)]
  have h2 : kx k = k := by unfold kx; rw [if_neg (by omega)]
  unfold mkL
  rw [h1, h2, padX_zero, padX_zero]

/-- two rows xored in place -/
def xorTo (a b : List (BitVec 8)) : Nat → List (BitVec 8)
  | 0 => a
  | j + 1 => (xorTo a b j).set j (gb (xorTo a b j) j ^^^ gb b j)
theorem xorTo_len (a b : List (BitVec 8)) (j : Nat) : (xorTo a b j).length = a.length := by
  induction j with
  | zero => rfl
  | succ j ih => simp [xorTo, ih]
theorem xorTo_succ (a b : List (BitVec 8)) (j : Nat) : xorTo a b (j + 1) = (xorTo a b j).set j (gb (xorTo a b j) j ^^^ gb b j) := rfl
/-- the marks one of the other, and a piece -/
def um (p q s : List (BitVec 8)) : Nat → List (BitVec 8)
  | 0 => mkP p q s
  | j + 1 => mkP p q (um p q s j)
theorem um_len (p q s : List (BitVec 8)) (j : Nat) : (um p q s j).length = 32 := by cases j <;> exact mkP_len _ _ _
theorem um_succ (p q s : List (BitVec 8)) (j : Nat) : um p q s (j + 1) = mkP p q (um p q s j) := rfl
def pc (p q s : List (BitVec 8)) : Nat → List (BitVec 8)
  | 0 => mkP p q s
  | j + 1 => xorTo (pc p q s j) (um p q s (j + 1)) 32
theorem pc_len (p q s : List (BitVec 8)) (j : Nat) : (pc p q s j).length = 32 := by
  induction j with
  | zero => exact mkP_len _ _ _
  | succ j ih => rw [pc, xorTo_len, ih]
theorem pc_succ (p q s : List (BitVec 8)) (j : Nat) : pc p q s (j + 1) = xorTo (pc p q s j) (um p q s (j + 1)) 32 := rfl
/-- a number in four bytes -/
def be4 (i : Nat) : List (BitVec 8) := [BitVec.ofNat 8 (i / 16777216), BitVec.ofNat 8 (i / 65536), BitVec.ofNat 8 (i / 256), BitVec.ofNat 8 i]
/-- pieces one behind the other -/
def dv (p q s : List (BitVec 8)) (r : Nat) : Nat → List (BitVec 8)
  | 0 => []
  | i + 1 => dv p q s r i ++ pc p q (s ++ be4 (i + 1)) r
theorem dv_len (p q s : List (BitVec 8)) (r i : Nat) : (dv p q s r i).length = 32 * i := by
  induction i with
  | zero => rfl
  | succ i ih => rw [dv, List.length_append, ih, pc_len]; omega
theorem dv_succ (p q s : List (BitVec 8)) (r i : Nat) : dv p q s r (i + 1) = dv p q s r i ++ pc p q (s ++ be4 (i + 1)) r := rfl
theorem dv_pre (p q s : List (BitVec 8)) (r i d : Nat) : (dv p q s r (i + d)).take (32 * i) = dv p q s r i := by
  induction d with
  | zero => rw [Nat.add_zero, List.take_of_length_le (by rw [dv_len]; exact Nat.le_refl _)]
  | succ d ih => rw [← Nat.add_assoc, dv, List.take_append_of_le_length (by rw [dv_len]; omega), ih]
theorem dv_take (p q s : List (BitVec 8)) (r i j n : Nat) (hi : n ≤ 32 * i) (hij : i ≤ j) : (dv p q s r j).take n = (dv p q s r i).take n := by
  obtain ⟨d, rfl⟩ := Nat.exists_eq_add_of_le hij
  rw [← dv_pre p q s r i d, List.take_take, Nat.min_eq_left hi]
/-- how many pieces -/
def pcs (n : Nat) : Nat := (n + 31) / 32
theorem pcs_hi (n : Nat) : n ≤ 32 * pcs n := by unfold pcs; omega
theorem pcs_lo (n j : Nat) (h : j < pcs n) : 32 * j < n := by unfold pcs at h; omega
theorem pcs_mono (m n : Nat) (h : m ≤ n) : pcs m ≤ pcs n := by unfold pcs; omega
/-- a derived key -/
def dkL (k s : List (BitVec 8)) (r n : Nat) : List (BitVec 8) := (dv (padX (kx k) 54) (padX (kx k) 92) s (r - 1) (pcs n)).take n
theorem dkL_len (k s : List (BitVec 8)) (r n : Nat) : (dkL k s r n).length = n := by
  unfold dkL
  rw [List.length_take, dv_len, Nat.min_eq_left (pcs_hi n)]
theorem dkL_take (k s : List (BitVec 8)) (r m n : Nat) (h : m ≤ n) : (dkL k s r n).take m = dkL k s r m := by
  unfold dkL
  rw [List.take_take, Nat.min_eq_left h]
  exact dv_take _ _ _ _ _ _ _ (pcs_hi m) (pcs_mono m n h)
/-- a based key -/
def bk (k s : List (BitVec 8)) : Nat → List (BitVec 8)
  | 0 => dgH (k ++ s)
  | j + 1 => dgH (bk k s j)
theorem bk_len (k s : List (BitVec 8)) (j : Nat) : (bk k s j).length = 32 := by cases j <;> exact dg_len _
theorem bk_succ (k s : List (BitVec 8)) (j : Nat) : bk k s (j + 1) = dgH (bk k s j) := rfl
end Go.Proofs.YticggkllfojgkaaDoor
