/-
  The reference's numbers: products of two words, squares, cubes, roots by bits, the first primes; as plain numbers.
-/
import Derived.Test.YtkjfhgbpiogigaaDoorPureb
namespace Go.Proofs.YtkjfhgbpiogigaaDoor
open Go

/-- numbers of 64 bits as cells -/
def gn (l : List Nat) (j : Nat) : Nat := l.getD j 0
def nv (l : List Nat) : Array Value := (l.map fun n : Nat => Value.int .u64 (n : Int)).toArray
theorem nv_size (l : List Nat) : (nv l).size = l.length := by simp [nv]
theorem nv_at (l : List Nat) (j : Nat) (h : j < l.length) : (nv l)[j]? = some (.int .u64 ((gn l j : Nat) : Int)) := by simp [nv, gn, h]
theorem nv_set (l : List Nat) (j n : Nat) : (nv l).setIfInBounds j (.int .u64 (n : Int)) = nv (l.set j n) := by simp [nv, List.map_set]
theorem nv_one (l : List Nat) : (nv l).all (·.oneCell') = true := by simp [nv, Value.oneCell']

/-- the product of two numbers, as four words -/
def mid4 (a0 a1 b0 b1 : Nat) : Nat := a0 * b1 % 4294967296 + a1 * b0 % 4294967296 + a0 * b0 / 4294967296
def hi4 (a0 a1 b0 b1 : Nat) : Nat := a0 * b1 / 4294967296 + a1 * b0 / 4294967296 + a1 * b1 % 4294967296 + mid4 a0 a1 b0 b1 / 4294967296
def prod4 (a0 a1 b0 b1 : Nat) : List Nat := [a0 * b0 % 4294967296, mid4 a0 a1 b0 b1 % 4294967296, hi4 a0 a1 b0 b1 % 4294967296, a1 * b1 / 4294967296 + hi4 a0 a1 b0 b1 / 4294967296]
def sq4 (x : Nat) : List Nat := prod4 (x % 4294967296) (x / 4294967296) (x % 4294967296) (x / 4294967296)
def le2 (h p : Nat) (z : Bool) : Bool := decide (h < p) || (decide (h = p) && z)
def two (a b : Nat) : Nat := a * 4294967296 + b
def isZ (n : Nat) : Bool := n == 0
def squareN (x p : Nat) : Bool := le2 (two (gn (sq4 x) 3) (gn (sq4 x) 2)) p (isZ (two (gn (sq4 x) 1) (gn (sq4 x) 0)))

/-- a cube's words: the carry and the words so far -/
def cubS (x i c : Nat) : Nat :=
  c + (if i < 4 then gn (sq4 x) i * (x % 4294967296) % 4294967296 else 0) + (if 0 < i then gn (sq4 x) (i - 1) * (x / 4294967296) % 4294967296 else 0)
def cubC (x i c : Nat) : Nat :=
  (if i < 4 then gn (sq4 x) i * (x % 4294967296) / 4294967296 else 0) + (if 0 < i then gn (sq4 x) (i - 1) * (x / 4294967296) / 4294967296 else 0) + cubS x i c / 4294967296
def cubc (x : Nat) : Nat → Nat
  | 0 => 0
  | i + 1 => cubC x i (cubc x i)
def cubv (x : Nat) : Nat → List Nat
  | 0 => [0, 0, 0, 0, 0]
  | i + 1 => (cubv x i).set i (cubS x i (cubc x i) % 4294967296)
theorem cubv_len (x i : Nat) : (cubv x i).length = 5 := by
  induction i with
  | zero => rfl
  | succ i ih => simp [cubv, ih]
def cubeN (x p : Nat) : Bool :=
  le2 (two (gn (cubv x 5) 4) (gn (cubv x 5) 3)) p (isZ (gn (cubv x 5) 0) && isZ (gn (cubv x 5) 1) && isZ (gn (cubv x 5) 2))
def okN (third : Bool) (x p : Nat) : Bool := if third then cubeN x p else squareN x p
def fr (third : Bool) (p : Nat) : Nat → Nat
  | 0 => 0
  | i + 1 => if okN third (fr third p i + 2 ^ (36 - i)) p then fr third p i + 2 ^ (36 - i) else fr third p i
def fracN (third : Bool) (p : Nat) : Nat := fr third p 37 % 4294967296
theorem fr_hi (third : Bool) (p i : Nat) (h : i ≤ 37) : fr third p i + 2 ^ (37 - i) ≤ 2 ^ 37 := by
  induction i with
  | zero => simp [fr]
  | succ i ih =>
    have h1 := ih (by omega)
    have e : 2 ^ (37 - i) = 2 ^ (36 - i) * 2 := by rw [show 37 - i = (36 - i) + 1 by omega, Nat.pow_succ]
    rw [show 37 - (i + 1) = 36 - i by omega, fr]
    split <;> omega
theorem fr_y (third : Bool) (p i : Nat) (h : i < 37) : fr third p i + 2 ^ (36 - i) < 137438953472 := by
  have h1 := fr_hi third p i (by omega)
  have e : 2 ^ (37 - i) = 2 ^ (36 - i) * 2 := by rw [show 37 - i = (36 - i) + 1 by omega, Nat.pow_succ]
  have h2 : 0 < 2 ^ (36 - i) := Nat.two_pow_pos _
  have h3 : 2 ^ 37 = 137438953472 := by decide
  omega

/-- the first primes -/
def allTo (l : List Nat) (p : Nat) : Nat → Bool
  | 0 => true
  | i + 1 => allTo l p i && (p % gn l i != 0)
def outTo : Nat → List Nat
  | 0 => []
  | p + 1 => if 2 ≤ p && allTo (outTo p) p (outTo p).length then outTo p ++ [p] else outTo p
theorem outTo_mem (p : Nat) : ∀ q ∈ outTo p, 2 ≤ q ∧ q < p := by
  induction p with
  | zero => intro q h; simp [outTo] at h
  | succ p ih =>
    intro q h
    rw [outTo] at h
    split at h
    · rename_i hc
      simp only [Bool.and_eq_true, decide_eq_true_eq] at hc
      rcases List.mem_append.1 h with h | h
      · have := ih q h; omega
      · obtain rfl := List.mem_singleton.1 h; omega
    · have := ih q h; omega
theorem outTo_mono (p q : Nat) (h : p ≤ q) : (outTo p).length ≤ (outTo q).length := by
  induction q with
  | zero => obtain rfl : p = 0 := by omega
            exact Nat.le_refl _
  | succ q ih =>
    by_cases e : p = q + 1
    · subst e; exact Nat.le_refl _
    · have h1 := ih (by omega)
      rw [outTo]
      split
      · simp; omega
      · exact h1
theorem gn_mem (l : List Nat) (j : Nat) (h : j < l.length) : gn l j ∈ l := by simp [gn, h]
theorem primes64 : (outTo 312).length = 64 := by decide +kernel
theorem primes63 : (outTo 311).length = 63 := by decide +kernel
theorem primes8 : (outTo 20).length = 8 := by decide +kernel
theorem primes7 : (outTo 19).length = 7 := by decide +kernel
/-- the constants and the beginning, as the reference reckons them -/
def conTo (third : Bool) (l : List Nat) : Nat → List (BitVec 32)
  | 0 => []
  | k + 1 => conTo third l k ++ [BitVec.ofNat 32 (fracN third (gn l k))]
theorem con_KK : conTo true (outTo 312) 64 = KK := by decide +kernel
theorem con_HH : conTo false (outTo 20) 8 = HH := by decide +kernel
end Go.Proofs.YtkjfhgbpiogigaaDoor
