/-
  The reference's bytes in plain: products, and the substitute out of what makes 1; it is the table's. No condition.
-/
import Derived.Test.YtjjoghdlbnlicaaDoorAp
namespace Go.Proofs.YtjjoghdlbnlicaaDoor
open Go

/-- a product, bit by bit -/
def tX (a : BitVec 8) : Nat → BitVec 8
  | 0 => a
  | k + 1 => tw (tX a k)
def tO (a b : BitVec 8) : Nat → BitVec 8
  | 0 => 0
  | k + 1 => if b.getLsbD k then tO a b k ^^^ tX a k else tO a b k
def tm (a b : BitVec 8) : BitVec 8 := tO a b 8
set_option maxRecDepth 100000 in
theorem tm_two (x : BitVec 8) : tm x 2 = tw x := all8 (p := fun x => tm x 2 = tw x) (by decide +kernel) x
set_option maxRecDepth 100000 in
theorem two_tm (x : BitVec 8) : tm 2 x = tw x := all8 (p := fun x => tm 2 x = tw x) (by decide +kernel) x
set_option maxRecDepth 100000 in
theorem three_tm (x : BitVec 8) : tm 3 x = tw x ^^^ x := all8 (p := fun x => tm 3 x = tw x ^^^ x) (by decide +kernel) x
/-- what makes 1 of a byte, among the first so many -/
def yN (b : BitVec 8) : Nat → Nat
  | 0 => 0
  | k + 1 => if tm b (BitVec.ofNat 8 (k + 1)) = 1 then k + 1 else yN b k
/-- a bit of a number -/
def bitN (y j : Nat) : Nat := y / 2 ^ j % 2
def pl (k : Nat) : Nat := [0, 4, 5, 6, 7].getD k 0
def vS (y i : Nat) : Nat → Nat
  | 0 => bitN 99 i
  | k + 1 => vS y i k + bitN y ((i + pl k) % 8)
def oS (y : Nat) : Nat → Nat
  | 0 => 0
  | i + 1 => if vS y i 5 % 2 = 1 then oS y i + 2 ^ i else oS y i
def refS (b : BitVec 8) : BitVec 8 := BitVec.ofNat 8 (oS (yN b 255) 8)

/-- what makes 1 of each byte -/
def IV : List Nat := [
  0, 1, 141, 246, 203, 82, 123, 209, 232, 79, 41, 192, 176, 225, 229, 199,
  116, 180, 170, 75, 153, 43, 96, 95, 88, 63, 253, 204, 255, 64, 238, 178,
  58, 110, 90, 241, 85, 77, 168, 201, 193, 10, 152, 21, 48, 68, 162, 194,
  44, 69, 146, 108, 243, 57, 102, 66, 242, 53, 32, 111, 119, 187, 89, 25,
  29, 254, 55, 103, 45, 49, 245, 105, 167, 100, 171, 19, 84, 37, 233, 9,
  237, 92, 5, 202, 76, 36, 135, 191, 24, 62, 34, 240, 81, 236, 97, 23,
  22, 94, 175, 211, 73, 166, 54, 67, 244, 71, 145, 223, 51, 147, 33, 59,
  121, 183, 151, 133, 16, 181, 186, 60, 182, 112, 208, 6, 161, 250, 129, 130,
  131, 126, 127, 128, 150, 115, 190, 86, 155, 158, 149, 217, 247, 2, 185, 164,
  222, 106, 50, 109, 216, 138, 132, 114, 42, 20, 159, 136, 249, 220, 137, 154,
  251, 124, 46, 195, 143, 184, 101, 72, 38, 200, 18, 74, 206, 231, 210, 98,
  12, 224, 31, 239, 17, 117, 120, 113, 165, 142, 118, 61, 189, 188, 134, 87,
  11, 40, 47, 163, 218, 212, 228, 15, 169, 39, 83, 4, 27, 252, 172, 230,
  122, 7, 174, 99, 197, 219, 226, 234, 148, 139, 196, 213, 157, 248, 144, 107,
  177, 13, 214, 235, 198, 14, 207, 173, 8, 78, 215, 227, 93, 80, 30, 179,
  91, 35, 56, 52, 104, 70, 3, 140, 221, 156, 125, 160, 205, 26, 65, 28]
/-- products of plain numbers -/
def twN (x : Nat) : Nat := Nat.xor (Nat.mul x 2) (Nat.mul (Nat.div x 128) 283)
def tmN (a b : Nat) : Nat :=
  let x1 := twN a
  let x2 := twN x1
  let x3 := twN x2
  let x4 := twN x3
  let x5 := twN x4
  let x6 := twN x5
  let x7 := twN x6
  Nat.xor (Nat.mul a (Nat.mod b 2)) (Nat.xor (Nat.mul x1 (Nat.mod (Nat.div b 2) 2)) (Nat.xor (Nat.mul x2 (Nat.mod (Nat.div b 4) 2)) (Nat.xor (Nat.mul x3 (Nat.mod (Nat.div b 8) 2))
    (Nat.xor (Nat.mul x4 (Nat.mod (Nat.div b 16) 2)) (Nat.xor (Nat.mul x5 (Nat.mod (Nat.div b 32) 2)) (Nat.xor (Nat.mul x6 (Nat.mod (Nat.div b 64) 2)) (Nat.mul x7 (Nat.mod (Nat.div b 128) 2))))))))
def chk (b v : Nat) : Nat → Bool := Nat.rec true fun k ih => and (Nat.beq (tmN b (k + 1)) 1 == Nat.beq (k + 1) v) ih
def chkAll : Nat → Bool := Nat.rec true fun b ih => and (chk b (IV.getD b 0) 255) ih
set_option maxRecDepth 100000 in
theorem chk_all : chkAll 256 = true := by decide +kernel
theorem chk_spec {b v : Nat} : ∀ n, chk b v n = true → ∀ k, 1 ≤ k → k ≤ n → (tmN b k = 1 ↔ k = v)
  | 0, _, k, h1, h2 => by omega
  | n + 1, h, k, h1, h2 => by
    have h' : and (Nat.beq (tmN b (n + 1)) 1 == Nat.beq (n + 1) v) (chk b v n) = true := h
    rw [Bool.and_eq_true] at h'
    by_cases hk : k = n + 1
    · subst hk
      have e : Nat.beq (tmN b (n + 1)) 1 = Nat.beq (n + 1) v := by simpa using h'.1
      constructor
      · intro h3
        have h4 : Nat.beq (tmN b (n + 1)) 1 = true := by rw [h3]; rfl
        rw [e] at h4
        exact Nat.eq_of_beq_eq_true h4
      · intro h3
        subst h3
        rw [Nat.beq_refl] at e
        exact Nat.eq_of_beq_eq_true e
    · exact chk_spec n h'.2 k h1 (by omega)
theorem chkAll_spec : ∀ n, chkAll n = true → ∀ b, b < n → chk b (IV.getD b 0) 255 = true
  | 0, _, b, hb => by omega
  | n + 1, h, b, hb => by
    have h' : and (chk n (IV.getD n 0) 255) (chkAll n) = true := h
    rw [Bool.and_eq_true] at h'
    by_cases hk : b = n
    · subst hk; exact h'.1
    · exact chkAll_spec n h'.2 b (by omega)

set_option maxRecDepth 100000 in
theorem tw_nat (x : BitVec 8) : (tw x).toNat = twN x.toNat := all8 (p := fun x => (tw x).toNat = twN x.toNat) (by decide +kernel) x
theorem bit_nat (o x b : BitVec 8) (k : Nat) : (if b.getLsbD k then o ^^^ x else o).toNat = Nat.xor o.toNat (x.toNat * (b.toNat / 2 ^ k % 2)) := by
  have hb : b.getLsbD k = decide (b.toNat / 2 ^ k % 2 = 1) := by
    rw [BitVec.getLsbD, Nat.testBit_eq_decide_div_mod_eq]
  rw [hb]
  by_cases h : b.toNat / 2 ^ k % 2 = 1
  · rw [h]; simp
  · rw [show b.toNat / 2 ^ k % 2 = 0 by omega]; simp
theorem tm_nat (a b : BitVec 8) : (tm a b).toNat = tmN a.toNat b.toNat := by
  unfold tm
  simp only [tO, tX, bit_nat, tw_nat, tmN]
  have hx : ∀ x y : Nat, Nat.xor x y = x ^^^ y := fun _ _ => rfl
  have hm : ∀ x y : Nat, Nat.mul x y = x * y := fun _ _ => rfl
  have hd : ∀ x y : Nat, Nat.div x y = x / y := fun _ _ => rfl
  have hr : ∀ x y : Nat, Nat.mod x y = x % y := fun _ _ => rfl
  have h0 : (0 : BitVec 8).toNat = 0 := rfl
  simp only [hx, hm, hd, hr, h0, Nat.zero_xor, Nat.xor_assoc, Nat.pow_zero, Nat.div_one]
set_option maxRecDepth 100000 in
theorem IV_lt : ∀ b, b < 256 → IV.getD b 0 < 256 := by decide +kernel
theorem yN_of {b : BitVec 8} {v : Nat} (h : ∀ k, 1 ≤ k → k ≤ 255 → (tm b (BitVec.ofNat 8 k) = 1 ↔ k = v)) : ∀ n, n ≤ 255 → yN b n = if 1 ≤ v ∧ v ≤ n then v else 0
  | 0, _ => by rw [if_neg (by omega)]; rfl
  | n + 1, hn => by
    have h1 := h (n + 1) (by omega) hn
    rw [yN]
    by_cases hv : n + 1 = v
    · rw [if_pos (h1.2 hv), if_pos (by omega)]; exact hv
    · rw [if_neg (fun e => hv (h1.1 e)), yN_of h n (by omega)]
      by_cases h2 : 1 ≤ v ∧ v ≤ n
      · rw [if_pos h2, if_pos (by omega)]
      · rw [if_neg h2, if_neg (by omega)]
theorem yN_IV (b : BitVec 8) : yN b 255 = IV.getD b.toNat 0 := by
  have hc := chkAll_spec 256 chk_all b.toNat b.isLt
  have hv := IV_lt b.toNat b.isLt
  generalize IV.getD b.toNat 0 = v at hc hv
  rw [yN_of (v := v) (fun k h1 h2 => ?_) 255 (Nat.le_refl _)]
  · split <;> omega
  · rw [← chk_spec 255 hc k h1 h2]
    have e := tm_nat b (BitVec.ofNat 8 k)
    rw [BitVec.toNat_ofNat, Nat.mod_eq_of_lt (show k < 2 ^ 8 by omega)] at e
    rw [← e]
    constructor
    · intro h; rw [h]; rfl
    · intro h; exact BitVec.eq_of_toNat_eq h
set_option maxRecDepth 100000 in
theorem refS_IV : ∀ n, n < 256 → BitVec.ofNat 8 (oS (IV.getD n 0) 8) = gb SB n := by decide +kernel
/-- the reference's substitute is the table's -/
theorem refS_sb (b : BitVec 8) : refS b = sb b := by
  unfold refS sb
  rw [yN_IV]
  exact refS_IV b.toNat b.isLt
end Go.Proofs.YtjjoghdlbnlicaaDoor
