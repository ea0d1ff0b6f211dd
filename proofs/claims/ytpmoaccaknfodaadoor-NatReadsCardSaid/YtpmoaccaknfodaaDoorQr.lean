/-
  Slices of bytes that read as digits to the base 256; what each round of reading them leaves. No condition.
-/
import Derived.Test.YtpmoaccaknfodaaDoorQa
import Derived.Test.YtpmoaccaknfodaaDoorNg
namespace Go.Proofs.YtpmoaccaknfodaaDoor
open Go Go.RowKit

/-- a digit as a byte -/
def vB (d : Nat) : Value := .int .u8 (d : Int)
theorem Rd.of_sl {w : World} {A : Option Addr} {n c : Nat} {l : List (BitVec 8)} (h : Sl w A n c l) : Rd vB w A n c (l.map BitVec.toNat) := by
  obtain ⟨h1, h2, h3, h4⟩ := h
  refine ⟨by rw [List.length_map, h1], h2, h3, fun hn => ?_⟩
  obtain ⟨g, o, e, hc⟩ := h4 hn
  refine ⟨g, o, e, fun j x hj => ?_⟩
  rw [List.getElem?_map] at hj
  have hjl : j < l.length := by
    rcases Nat.lt_or_ge j l.length with h | h
    · exact h
    · rw [List.getElem?_eq_none h] at hj; cases hj
  rw [hc j (by omega)]
  rw [List.getElem?_eq_getElem hjl] at hj
  cases hj
  simp [vB, ub, gb, hjl]
theorem Dg.of_bytes (l : List (BitVec 8)) : Dg 256 (l.map BitVec.toNat) := fun d hd => by
  obtain ⟨x, _, rfl⟩ := List.mem_map.1 hd
  exact x.isLt
theorem Rd.drop {α : Type} {e : α → Value} {w : World} {A : Option Addr} {n c : Nat} {l : List α} (h : Rd e w A n c l) (k : Nat) (hk : k ≤ n) : Rd e w (if c = k then A else A.map (·.add k)) (n - k) (c - k) (l.drop k) := by
  have hl := h.len
  have hc := h.cap
  refine ⟨by rw [List.length_drop, hl], by omega, ?_, fun hn => ?_⟩
  · intro ea
    have hA : A = none := by
      by_cases hck : c = k
      · rwa [if_pos hck] at ea
      · rw [if_neg hck] at ea; cases A with
        | none => rfl
        | some a => cases ea
    have := h.nul hA
    omega
  · obtain ⟨g, o, rfl, hc⟩ := h.at_ (by omega)
    have hck : ¬ c = k := by omega
    refine ⟨g, o + k, ?_, fun j x hj => ?_⟩
    · rw [if_neg hck]
      simp only [Option.map_some, Option.some.injEq]
      unfold Addr.add
      split <;> simp_all
    · rw [List.getElem?_drop] at hj
      rw [Nat.add_assoc]
      exact hc (k + j) x hj
/-- a digit from the end -/
theorem dg_rev (l : List Nat) (i : Nat) (h : i < l.length) : dg l.reverse i = dg l (l.length - 1 - i) := by
  unfold dg
  rw [List.getD_eq_getElem?_getD, List.getD_eq_getElem?_getD, List.getElem?_reverse h]
theorem Dg.rev {B : Nat} {l : List Nat} (h : Dg B l) : Dg B l.reverse := fun d hd => h d (List.mem_reverse.1 hd)
/-- noughts ahead say nothing -/
theorem vl_rev_drop (B : Nat) (l : List Nat) : vl B (l.dropWhile (· == 0)).reverse = vl B l.reverse := by
  induction l with
  | nil => rfl
  | cons x l ih =>
    rw [List.dropWhile_cons]
    split
    · rename_i h
      rw [ih, List.reverse_cons, vl_snoc, eq_of_beq h, Nat.mul_zero, Nat.add_zero]
    · rfl
/-- after i bytes -/
structure RdS (r : List Nat) (K i : Nat) (L : List Nat) : Prop where
  len : L.length = K
  d : Dg BB L
  v : vl BB L = vl 256 (r.take i)
theorem RdS.start (r : List Nat) (K : Nat) : RdS r K 0 (List.replicate K 0) :=
  ⟨by simp, fun d hd => by rw [List.eq_of_mem_replicate hd]; decide, by rw [vl_zeros]; rfl⟩
theorem p256 (q s : Nat) : BB ^ q * 2 ^ (8 * s) = 256 ^ (4 * q + s) := by
  rw [Nat.pow_add, Nat.pow_mul, Nat.pow_mul]
theorem RdS.low {r L : List Nat} {K i q s : Nat} (hr : Dg 256 r) (h : RdS r K i L) (hi : i = 4 * q + s) (hir : i ≤ r.length) (hq : q < K) : dg L q < 2 ^ (8 * s) := by
  have h1 := vl_lt (by decide) (hr.take i)
  rw [← h.v, List.length_take, Nat.min_eq_left hir, hi, ← p256] at h1
  have h2 := vl_split BB L q (by rw [h.len]; exact hq)
  rw [Nat.mul_add] at h2
  have h3 : BB ^ q * dg L q < BB ^ q * 2 ^ (8 * s) := by omega
  exact Nat.lt_of_mul_lt_mul_left h3
theorem RdS.next {r L : List Nat} {K i q s : Nat} (hr : Dg 256 r) (h : RdS r K i L) (hi : i = 4 * q + s) (hs : s < 4) (hir : i < r.length) (hq : q < K) : RdS r K (i + 1) (L.set q (dg r i * 2 ^ (8 * s) + dg L q)) := by
  have h1 := h.low hr hi (by omega) hq
  have h2 := hr.at (by decide) i
  have h5 : dg r i * 2 ^ (8 * s) + dg L q < BB := by
    have h3 : (dg r i + 1) * 2 ^ (8 * s) ≤ 256 * 2 ^ (8 * s) := Nat.mul_le_mul_right _ h2
    rw [Nat.add_mul, Nat.one_mul] at h3
    have h4 : 256 * 2 ^ (8 * s) ≤ 256 * 2 ^ (8 * 3) := Nat.mul_le_mul_left _ (Nat.pow_le_pow_right (by decide) (by omega))
    have h6 : 256 * 2 ^ (8 * 3) = BB := by decide
    omega
  refine ⟨by rw [List.length_set, h.len], h.d.set q _ h5, ?_⟩
  have h3 := vl_set BB L q (dg r i * 2 ^ (8 * s) + dg L q) (by rw [h.len]; exact hq)
  rw [Nat.mul_add, Nat.mul_comm (dg r i), ← Nat.mul_assoc, p256, ← hi] at h3
  rw [vl_take_succ, ← h.v]
  rw [Nat.mul_comm (dg r i)]
  omega
theorem RdS.done {r L : List Nat} {K : Nat} (h : RdS r K r.length L) : vl BB L = vl 256 r := by rw [h.v, List.take_length]
/-- just so many limbs -/
theorem RdS.cn {r L : List Nat} {K : Nat} (h : RdS r K r.length L) (hK : K = (r.length + 3) / 4) (ht : r.length = 0 ∨ dg r (r.length - 1) ≠ 0) (hr : Dg 256 r) : L = dgs BB (vl 256 r) := by
  have hv := h.done
  have e : L.take K = dgs BB (vl BB L) := by
    refine cut_cn (by decide) h.d K (by rw [h.len]; exact Nat.le_refl _) (fun i hi => dg_out L i (by rw [h.len]; exact hi)) ?_
    rcases ht with ht | ht
    · left; omega
    · by_cases h0 : r.length = 0
      · left; omega
      · right
        intro hz
        have h1 : vl BB L < BB ^ (K - 1) := by
          have h2 := vl_split BB L (K - 1) (by rw [h.len]; omega)
          rw [List.drop_eq_nil_of_le (by rw [h.len]; omega), hz] at h2
          simp only [vl, Nat.mul_zero, Nat.add_zero] at h2
          have h3 := vl_lt (by decide) (h.d.take (K - 1))
          rw [List.length_take, h.len, Nat.min_eq_left (by omega)] at h3
          omega
        have h4 : 256 ^ (r.length - 1) ≤ vl 256 r := by
          have h5 := vl_split 256 r (r.length - 1) (by omega)
          have h6 : 256 ^ (r.length - 1) * 1 ≤ 256 ^ (r.length - 1) * (dg r (r.length - 1) + 256 * vl 256 (r.drop (r.length - 1 + 1))) := Nat.mul_le_mul_left _ (by omega)
          omega
        have h7 : BB ^ (K - 1) ≤ 256 ^ (r.length - 1) := by
          rw [show BB = 256 ^ 4 by decide, ← Nat.pow_mul]
          exact Nat.pow_le_pow_right (by decide) (by omega)
        omega
  rw [List.take_of_length_le (by rw [h.len]; exact Nat.le_refl _), hv] at e
  exact e
/-- more than so many bytes -/
theorem long_iff {r : List Nat} (hr : Dg 256 r) (ht : r.length = 0 ∨ dg r (r.length - 1) ≠ 0) : r.length ≤ 256 ↔ vl 256 r < 256 ^ 256 := by
  constructor
  · intro h
    exact Nat.lt_of_lt_of_le (vl_lt (by decide) hr) (Nat.pow_le_pow_right (by decide) h)
  · intro h
    rcases Nat.lt_or_ge 256 r.length with h1 | h1
    · rcases ht with ht | ht
      · omega
      · have h5 := vl_split 256 r (r.length - 1) (by omega)
        have h6 : 256 ^ (r.length - 1) * 1 ≤ 256 ^ (r.length - 1) * (dg r (r.length - 1) + 256 * vl 256 (r.drop (r.length - 1 + 1))) := Nat.mul_le_mul_left _ (by omega)
        have h7 := Nat.pow_le_pow_right (n := 256) (by decide) (show 256 ≤ r.length - 1 by omega)
        omega
    · exact h1
theorem sz_iff (v : Nat) : sz (dgs 65536 v) ≤ 256 ↔ v < 256 ^ 256 := by
  have h := len_iff (B := 65536) (by decide) v 128
  rw [show (65536 : Nat) = 256 ^ 2 by decide, ← Nat.pow_mul, show 2 * 128 = 256 by decide] at h
  rw [← h, ← show (65536 : Nat) = 256 ^ 2 by decide]
  unfold sz
  split <;> omega
end Go.Proofs.YtpmoaccaknfodaaDoor
