/-
  Words as lists of bits, the highest first: what the reference reckons bit by bit.
-/
import Derived.Test.YtkjfhgbpiogigaaDoorPureb
namespace Go.Proofs.YtkjfhgbpiogigaaDoor
open Go

/-- a bit as the model's number (no abbreviation) -/
def bI (b : Bool) : Int := if b then 1 else 0
theorem bI_lo (b : Bool) : 0 ≤ bI b := by cases b <;> decide
theorem bI_hi (b : Bool) : bI b ≤ 1 := by cases b <;> decide
theorem bI_xor (p q r : Bool) : (bI p + bI q + bI r) % 2 = bI (p ^^ q ^^ r) := by cases p <;> cases q <;> cases r <;> decide
theorem bI_maj (p q r : Bool) : (bI p + bI q + bI r) / 2 = bI (p && q || p && r || q && r) := by cases p <;> cases q <;> cases r <;> decide

/-- a number out of bits, the highest first -/
def acc (f : Nat → Bool) : Nat → Nat
  | 0 => 0
  | i + 1 => acc f i * 2 + (f i).toNat
theorem bI_toNat (b : Bool) : bI b = (b.toNat : Int) := by cases b <;> rfl
theorem acc_lt (f : Nat → Bool) (i : Nat) : acc f i < 2 ^ i := by
  induction i with
  | zero => simp [acc]
  | succ i ih =>
    have : (f i).toNat ≤ 1 := Bool.toNat_le _
    rw [acc, Nat.pow_succ]; omega
theorem acc_lt31 (f : Nat → Bool) (i : Nat) (h : i < 32) : acc f i < 2147483648 :=
  Nat.lt_of_lt_of_le (acc_lt f i) (by have : 2 ^ i ≤ 2 ^ 31 := Nat.pow_le_pow_right (by decide) (by omega); simpa using this)
theorem acc_congr (f g : Nat → Bool) (n : Nat) (h : ∀ i, i < n → f i = g i) : acc f n = acc g n := by
  induction n with
  | zero => rfl
  | succ n ih => rw [acc, acc, ih (fun i hi => h i (by omega)), h n (by omega)]
theorem acc_msb (x : BitVec 32) (i : Nat) (h : i ≤ 32) : acc (fun j => x.getMsbD j) i = x.toNat / 2 ^ (32 - i) := by
  induction i with
  | zero =>
    have := x.isLt
    rw [acc, Nat.div_eq_of_lt (by simpa using this)]
  | succ i ih =>
    rw [acc, ih (by omega)]
    have e1 : x.getMsbD i = x.toNat.testBit (31 - i) := by
      simp [BitVec.getMsbD, BitVec.getLsbD, show i < 32 by omega]
    rw [e1, Nat.testBit_eq_decide_div_mod_eq, show 32 - i = (31 - i) + 1 by omega, show 32 - (i + 1) = 31 - i by omega, Nat.pow_succ, ← Nat.div_div_eq_div_mul]
    generalize x.toNat / 2 ^ (31 - i) = q
    by_cases hq : q % 2 = 1
    · rw [decide_eq_true hq]; simp; omega
    · rw [decide_eq_false hq]; simp; omega
theorem acc_all (x : BitVec 32) : acc (fun j => x.getMsbD j) 32 = x.toNat := by
  rw [acc_msb x 32 (Nat.le_refl _)]; simp

theorem msb_rr (x : BitVec 32) (k i : Nat) (h0 : 0 < k) (hk : k < 32) (hi : i < 32) : (rr x k).getMsbD i = x.getMsbD ((i + 32 - k) % 32) := by
  unfold rr
  rw [BitVec.getMsbD_or, BitVec.getMsbD_shiftLeft, BitVec.getMsbD_ushiftRight]
  by_cases h : i < k
  · rw [show (i + 32 - k) % 32 = i + (32 - k) by omega]
    simp [h]
  · rw [show (i + 32 - k) % 32 = i - k by omega, BitVec.getMsbD_of_ge _ _ (show 32 ≤ i + (32 - k) by omega)]
    simp [h, hi]
theorem msb_shr (x : BitVec 32) (k i : Nat) (hi : i < 32) : (x >>> k).getMsbD i = (if i < k then false else x.getMsbD (i - k)) := by
  rw [BitVec.getMsbD_ushiftRight]
  by_cases h : i < k <;> simp [h, hi]

/-- the reference's bits -/
def mixB (x : BitVec 32) (a b c : Nat) (push : Bool) (i : Nat) : Bool :=
  (x.getMsbD ((i + 32 - a) % 32) ^^ x.getMsbD ((i + 32 - b) % 32)) ^^ (if push then (if i < c then false else x.getMsbD (i - c)) else x.getMsbD ((i + 32 - c) % 32))
def chB (e f g : BitVec 32) (i : Nat) : Bool := if e.getMsbD i then f.getMsbD i else g.getMsbD i
def majB (a b c : BitVec 32) (i : Nat) : Bool := a.getMsbD i && b.getMsbD i || a.getMsbD i && c.getMsbD i || b.getMsbD i && c.getMsbD i
theorem mix_push (x : BitVec 32) (a b c : Nat) (ha : 0 < a ∧ a < 32) (hb : 0 < b ∧ b < 32) : acc (mixB x a b c true) 32 = (rr x a ^^^ rr x b ^^^ x >>> c).toNat := by
  rw [← acc_all]
  refine acc_congr _ _ _ fun i hi => ?_
  simp only [BitVec.getMsbD_xor, msb_rr x a i ha.1 ha.2 hi, msb_rr x b i hb.1 hb.2 hi, msb_shr x c i hi, mixB, if_true]
theorem mix_roll (x : BitVec 32) (a b c : Nat) (ha : 0 < a ∧ a < 32) (hb : 0 < b ∧ b < 32) (hc : 0 < c ∧ c < 32) : acc (mixB x a b c false) 32 = (rr x a ^^^ rr x b ^^^ rr x c).toNat := by
  rw [← acc_all]
  refine acc_congr _ _ _ fun i hi => ?_
  simp only [BitVec.getMsbD_xor, msb_rr x a i ha.1 ha.2 hi, msb_rr x b i hb.1 hb.2 hi, msb_rr x c i hc.1 hc.2 hi, mixB, Bool.false_eq_true, if_false]
theorem ch_acc (e f g : BitVec 32) : acc (chB e f g) 32 = (ch e f g).toNat := by
  rw [← acc_all]
  refine acc_congr _ _ _ fun i hi => ?_
  simp only [ch, BitVec.getMsbD_or, BitVec.getMsbD_and, BitVec.getMsbD_not, chB, hi, decide_true, Bool.true_and]
  cases e.getMsbD i <;> simp
theorem maj_acc (a b c : BitVec 32) : acc (majB a b c) 32 = (maj a b c).toNat := by
  rw [← acc_all]
  refine acc_congr _ _ _ fun i _ => ?_
  simp only [maj, BitVec.getMsbD_or, BitVec.getMsbD_and, majB]
end Go.Proofs.YtkjfhgbpiogigaaDoor
