/-
  prim: belowZero, isNumber, ReadInt; the reference's Number, Value.
-/
import Derived.Test.YthookcnkmlmgcaaVKe
import Derived.Test.YthookcnkmlmgcaaVBl
import Derived.Test.YthookcnkmlmgcaaVEn
namespace Go.Proofs.Ythookcnkmlmgcaa
open Go Go.RowKit
set_option maxRecDepth 4000

/-- a slice cut at its head -/
theorem Bs.cut {w : World} {A : Option Addr} {n c : Nat} {l : List (BitVec 8)} (h : Bs w A n c l) (k : Nat) (hk : k ≤ n) : ∃ A', (if c = k then A else A.map (·.add k)) = A' ∧ Bs w A' (n - k) (c - k) (l.drop k) := by
  have hl := h.len
  have hcap := h.cap
  refine ⟨_, rfl, by rw [List.length_drop, hl], by omega, fun e => ?_, fun hn => ?_⟩
  · have hA : A = none := by
      cases A with
      | none => rfl
      | some a => split at e <;> simp at e
    have := h.s.2.2.1 hA
    omega
  · obtain ⟨g, o, rfl, hc⟩ := h.s.2.2.2 (by omega)
    rw [if_neg (by omega)]
    have hadd : (⟨g, o, none⟩ : Addr).add k = ⟨g, o + k, none⟩ := by unfold Addr.add; split <;> simp_all
    refine ⟨g, o + k, by simp [hadd], fun j hj => ?_⟩
    rw [gb_drop, Nat.add_assoc]
    exact hc (k + j) (by omega)
theorem and128b (x : BitVec 8) : bits .and .u8 (ub x) 128 = if 128 ≤ x.toNat then 128 else 0 := by
  revert x
  refine all8 ?_
  decide +kernel
theorem tcB_cases (b : List (BitVec 8)) (h : 2 ≤ b.length) : (gb b 0 = 0 ∧ tcB b = decide (128 ≤ (gb b 1).toNat)) ∨ (gb b 0 = 255 ∧ tcB b = !decide (128 ≤ (gb b 1).toNat)) ∨ (gb b 0 ≠ 0 ∧ gb b 0 ≠ 255 ∧ tcB b = true) := by
  obtain ⟨x, y, r, rfl⟩ : ∃ x y r, b = x :: y :: r := by
    match b, h with
    | x :: y :: r, _ => exact ⟨x, y, r, rfl⟩
  have e0 : gb (x :: y :: r) 0 = x := rfl
  have e1 : gb (x :: y :: r) 1 = y := rfl
  rw [e0, e1]
  unfold tcB
  by_cases h0 : x = 0
  · subst h0
    refine .inl ⟨rfl, ?_⟩
    by_cases h1 : 128 ≤ y.toNat
    · simp [h1]
    · simp [h1]; omega
  · by_cases h2 : x = 255
    · subst h2
      refine .inr (.inl ⟨rfl, ?_⟩)
      by_cases h1 : 128 ≤ y.toNat
      · simp [h1]
      · simp [h1]
    · refine .inr (.inr ⟨h0, h2, ?_⟩)
      show (!(x == 0 && decide (y.toNat < 128)) && !(x == 255 && decide (128 ≤ y.toNat))) = true
      rw [beq_eq_false_iff_ne.2 h0, beq_eq_false_iff_ne.2 h2]
      rfl
theorem ub_neq {x k : BitVec 8} (h : x ≠ k) (z : Int) (hz : ub k = z) : (ub x == z) = false ∧ ¬ ub x = z := by
  have e : ¬ ub x = z := fun e => h (by rw [← hz] at e; unfold ub at e; exact BitVec.eq_of_toNat_eq (by omega))
  exact ⟨beq_eq_false_iff_ne.2 e, e⟩
/-- the number that the first bytes of a body make -/
def tcP (b : List (BitVec 8)) (j : Nat) : Int := beF (if 128 ≤ (gb b 0).toNat then -1 else 0) (b.take j)
theorem tcP_all (b : List (BitVec 8)) : tcP b b.length = tcV b := by unfold tcP tcV; rw [List.take_length]
theorem tcP_zero (b : List (BitVec 8)) : tcP b 0 = if 128 ≤ (gb b 0).toNat then -1 else 0 := rfl
theorem take_gb (l : List (BitVec 8)) (i : Nat) (h : i < l.length) : l.take (i + 1) = l.take i ++ [gb l i] := by
  rw [List.take_succ_eq_append_getElem h]
  simp [gb, h]
theorem tcP_succ (b : List (BitVec 8)) (j : Nat) (h : j < b.length) : tcP b (j + 1) = tcP b j * 256 + ub (gb b j) := by
  unfold tcP
  rw [take_gb b j h]
  unfold beF
  rw [List.foldl_append]
  rfl
theorem tcP_range (b : List (BitVec 8)) (j : Nat) (hj : j < b.length) (h8 : j ≤ 7) : -36028797018963968 ≤ tcP b j ∧ tcP b j < 36028797018963968 := by
  cases j with
  | zero => rw [tcP_zero]; split <;> omega
  | succ j =>
    have e : tcP b (j + 1) = tcV (b.take (j + 1)) := by
      unfold tcP tcV
      rw [gb_take _ _ _ (by omega)]
    have hlen : (b.take (j + 1)).length = j + 1 := by rw [List.length_take]; omega
    have hr := tcV_range (b.take (j + 1)) (by intro e; rw [e] at hlen; simp at hlen)
    rw [hlen] at hr
    have hm := tcH_mono (j := j + 1) (k := 7) (by omega)
    have h7 : tcH 7 = 36028797018963968 := by decide
    rw [e]
    omega
theorem int8_of (x : BitVec 8) : IntKind.i8.wrap (ub x) = (if 128 ≤ x.toNat then -1 else 0) * 256 + ub x := by
  revert x
  refine all8 ?_
  decide +kernel
end Go.Proofs.Ythookcnkmlmgcaa
