/-
  rsa: a number's bytes read as that number; what was laid out to be hidden is shown.
-/
import Derived.Test.YticggkllfojgkaaGreatDoorM18
import Derived.Test.YticggkllfojgkaaGreatDoorM23
namespace Go.Proofs.YticggkllfojgkaaGreatDoor
open Go Go.RowKit
set_option maxRecDepth 4000

theorem toB_succ (v k : Nat) : toB v (k + 1) = toB (v / 256) k ++ [BitVec.ofNat 8 v] := by
  unfold toB
  rw [List.range_succ, List.map_append]
  congr 1
  · refine List.map_congr_left fun j hj => ?_
    have hj' : j < k := by simpa using hj
    rw [show k + 1 - 1 - j = (k - 1 - j) + 1 by omega, Nat.pow_succ, Nat.mul_comm, Nat.div_div_eq_div_mul]
  · simp
theorem bnum_toB : ∀ (k v : Nat), v < 256 ^ k → bnum (toB v k) = v
  | 0, v, h => by
    have h2 : v = 0 := by simpa using h
    subst h2
    rfl
  | k + 1, v, h => by
    have h2 : v / 256 < 256 ^ k := by
      rw [Nat.pow_succ] at h
      omega
    have h3 : bnum [BitVec.ofNat 8 v] = v % 256 := by
      simp [bnum, vl]
    rw [toB_succ, bnum_append, bnum_toB k _ h2, h3]
    simp only [List.length_singleton, Nat.pow_one]
    omega
/-- what was so often multiplied is below it -/
theorem rs_again {l r : List (BitVec 8)} {vt vn : Nat} (h : rs l vt vn = some r) (h0 : vn ≠ 0) (ve : Nat) : ∃ s, rs r ve vn = some s := by
  obtain ⟨_, _, h3⟩ := rs_some h
  have hm : bnum l ^ vt % vn < vn := Nat.mod_lt _ (Nat.pos_of_ne_zero h0)
  refine ⟨_, if_pos ⟨rs_out h, ?_⟩⟩
  rw [h3, bnum_toB _ _ (Nat.lt_trans hm ((nb_iff vn _).1 (Nat.le_refl _)))]
  exact hm
theorem gb_app_l (a b : List (BitVec 8)) (j : Nat) (h : j < a.length) : gb (a ++ b) j = gb a j := by
  unfold gb
  rw [List.getD_eq_getElem?_getD, List.getD_eq_getElem?_getD, List.getElem?_append_left h]
theorem gb_app_r (a b : List (BitVec 8)) : gb (a ++ b) a.length = gb b 0 := by
  unfold gb
  rw [List.getD_eq_getElem?_getD, List.getD_eq_getElem?_getD, List.getElem?_append_right (Nat.le_refl _), Nat.sub_self]
theorem shown_hd (fill text : List (BitVec 8)) (hz : fz fill = fill.length) (h8 : 8 ≤ fill.length) : shownL (hdL fill text) = some text := by
  have hd : (hdL fill text).drop 2 = fill ++ (0 :: text) := by simp [hdL]
  have ht : (hdL fill text).take 2 = [0, 2] := by simp [hdL]
  have hf : fz (fill ++ (0 :: text)) = fill.length := by
    refine fz_eq (fun j hj => ?_) (by simp) ?_
    · rw [gb_app_l _ _ _ hj]
      exact fz_ahead fill j (by omega)
    · rw [gb_app_r]
      rfl
  unfold shownL
  rw [hd, ht, hf, if_pos ⟨rfl, by simp, h8⟩]
  simp
end Go.Proofs.YticggkllfojgkaaGreatDoor
