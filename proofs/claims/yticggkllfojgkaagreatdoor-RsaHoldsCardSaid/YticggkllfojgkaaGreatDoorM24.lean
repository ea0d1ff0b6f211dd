/-
  The reference's numbers: products of two words, squares, cubes, roots by bits, the first primes; as plain numbers.
  The walks of the reference's product, square, cube.
  The walk of the reference's cube.
  The tail as the reference lays it.
-/
import Derived.Test.YticggkllfojgkaaGreatDoorM21
import Derived.Test.YticggkllfojgkaaGreatDoorM20
import Derived.Test.YticggkllfojgkaaGreatDoorM0
import Derived.Deep.LoopGhost
import Derived.IntWalk
namespace Go.Proofs.YticggkllfojgkaaGreatDoor
open Go
set_option maxRecDepth 4000

/-- numbers of 64 bits as cells -/
def gn (l : List Nat) (j : Nat) : Nat := l.getD j 0
def nv (l : List Nat) : Array Value := (l.map fun n : Nat => Value.int .u64 (n : Int)).toArray
theorem nv_size (l : List Nat) : (nv l).size = l.length := by simp [nv]
theorem nv_at (l : List Nat) (j : Nat) (h : j < l.length) : (nv l)[j]? = some (.int .u64 ((gn l j : Nat) : Int)) := by simp [nv, gn, h]
theorem nv_set (l : List Nat) (j n : Nat) : (nv l).setIfInBounds j (.int .u64 (n : Int)) = nv (l.set j n) := by simp [nv, List.map_set]
theorem nv_one (l : List Nat) : (nv l).all (·.oneCell') = true := by simp [nv, Value.oneCell']

/-- the product of two numbers, as four words -/
def mid4 (a0 a1 b0 b1 : Nat) : Nat := a0 * b1 % 4294967296 + a1 * b0 % 4294967296 + a0 * b0 / 4294967296
def hi4 (a0 a1 b0 b1 : Nat) : Nat := a0 * b1 / 4294967296 + a1 * b0 / 4294967296 + a1 * b1 % 4294967296 + mid4 a0 a1 b0 b1 / 4294967296
def prod4 (a0 a1 b0 b1 : Nat) : List Nat := [a0 * b0 % 4294967296, mid4 a0 a1 b0 b1 % 4294967296, hi4 a0 a1 b0 b1 % 4294967296, a1 * b1 / 4294967296 + hi4 a0 a1 b0 b1 / 4294967296]
def sq4 (x : Nat) : List Nat := prod4 (x % 4294967296) (x / 4294967296) (x % 4294967296) (x / 4294967296)
def le2 (h p : Nat) (z : Bool) : Bool := decide (h < p) || (decide (h = p) && z)
def two (a b : Nat) : Nat := a * 4294967296 + b
def isZ (n : Nat) : Bool := n == 0
def squareN (x p : Nat) : Bool := le2 (two (gn (sq4 x) 3) (gn (sq4 x) 2)) p (isZ (two (gn (sq4 x) 1) (gn (sq4 x) 0)))

/-- a cube's words: the carry and the words so far -/
def cubS (x i c : Nat) : Nat :=
  c + (if i < 4 then gn (sq4 x) i * (x % 4294967296) % 4294967296 else 0) + (if 0 < i then gn (sq4 x) (i - 1) * (x / 4294967296) % 4294967296 else 0)
def cubC (x i c : Nat) : Nat :=
  (if i < 4 then gn (sq4 x) i * (x % 4294967296) / 4294967296 else 0) + (if 0 < i then gn (sq4 x) (i - 1) * (x / 4294967296) / 4294967296 else 0) + cubS x i c / 4294967296
def cubc (x : Nat) : Nat → Nat
  | 0 => 0
  | i + 1 => cubC x i (cubc x i)
def cubv (x : Nat) : Nat → List Nat
  | 0 => [0, 0, 0, 0, 0]
  | i + 1 => (cubv x i).set i (cubS x i (cubc x i) % 4294967296)
theorem cubv_len (x i : Nat) : (cubv x i).length = 5 := by
  induction i with
  | zero => rfl
  | succ i ih => simp [cubv, ih]
def cubeN (x p : Nat) : Bool :=
  le2 (two (gn (cubv x 5) 4) (gn (cubv x 5) 3)) p (isZ (gn (cubv x 5) 0) && isZ (gn (cubv x 5) 1) && isZ (gn (cubv x 5) 2))
def okN (third : Bool) (x p : Nat) : Bool := if third then cubeN x p else squareN x p
def fr (third : Bool) (p : Nat) : Nat → Nat
  | 0 => 0
  | i + 1 => if okN third (fr third p i + 2 ^ (36 - i)) p then fr third p i + 2 ^ (36 - i) else fr third p i
def fracN (third : Bool) (p : Nat) : Nat := fr third p 37 % 4294967296
theorem fr_hi (third : Bool) (p i : Nat) (h : i ≤ 37) : fr third p i + 2 ^ (37 - i) ≤ 2 ^ 37 := by
  induction i with
  | zero => simp [fr]
  | succ i ih =>
    have h1 := ih (by omega)
    have e : 2 ^ (37 - i) = 2 ^ (36 - i) * 2 := by rw [show 37 - i = (36 - i) + 1 by omega, Nat.pow_succ]
    rw [show 37 - (i + 1) = 36 - i by omega, fr]
    split <;> omega
theorem fr_y (third : Bool) (p i : Nat) (h : i < 37) : fr third p i + 2 ^ (36 - i) < 137438953472 := by
  have h1 := fr_hi third p i (by omega)
  have e : 2 ^ (37 - i) = 2 ^ (36 - i) * 2 := by rw [show 37 - i = (36 - i) + 1 by omega, Nat.pow_succ]
  have h2 : 0 < 2 ^ (36 - i) := Nat.two_pow_pos _
  have h3 : 2 ^ 37 = 137438953472 := by decide
  omega

/-- the first primes -/
def allTo (l : List Nat) (p : Nat) : Nat → Bool
  | 0 => true
  | i + 1 => allTo l p i && (p % gn l i != 0)
def outTo : Nat → List Nat
  | 0 => []
  | p + 1 => if 2 ≤ p && allTo (outTo p) p (outTo p).length then outTo p ++ [p] else outTo p
theorem outTo_mem (p : Nat) : ∀ q ∈ outTo p, 2 ≤ q ∧ q < p := by
  induction p with
  | zero => intro q h; simp [outTo] at h
  | succ p ih =>
    intro q h
    rw [outTo] at h
    split at h
    · rename_i hc
      simp only [Bool.and_eq_true, decide_eq_true_eq] at hc
      rcases List.mem_append.1 h with h | h
      · have := ih q h; omega
      · obtain rfl := List.mem_singleton.1 h; omega
    · have := ih q h; omega
theorem outTo_mono (p q : Nat) (h : p ≤ q) : (outTo p).length ≤ (outTo q).length := by
  induction q with
  | zero => obtain rfl : p = 0 := by omega
            exact Nat.le_refl _
  | succ q ih =>
    by_cases e : p = q + 1
    · subst e; exact Nat.le_refl _
    · have h1 := ih (by omega)
      rw [outTo]
      split
      · simp; omega
      · exact h1
theorem gn_mem (l : List Nat) (j : Nat) (h : j < l.length) : gn l j ∈ l := by simp [gn, h]
theorem primes64 : (outTo 312).length = 64 := by decide +kernel
theorem primes63 : (outTo 311).length = 63 := by decide +kernel
theorem primes8 : (outTo 20).length = 8 := by decide +kernel
theorem primes7 : (outTo 19).length = 7 := by decide +kernel
/-- the constants and the beginning, as the reference reckons them -/
def conTo (third : Bool) (l : List Nat) : Nat → List (BitVec 32)
  | 0 => []
  | k + 1 => conTo third l k ++ [BitVec.ofNat 32 (fracN third (gn l k))]
theorem con_KK : conTo true (outTo 312) 64 = KK := by decide +kernel
theorem con_HH : conTo false (outTo 20) 8 = HH := by decide +kernel
end Go.Proofs.YticggkllfojgkaaGreatDoor
namespace Go.Proofs.YticggkllfojgkaaGreatDoor
open Go Go.RowKit
set_option maxRecDepth 4000

theorem u64_in (n : Int) (h0 : 0 ≤ n) (h1 : n < 18446744073709551616) : IntKind.u64.wrap n = n := by rw [IntKind.wrap_u64]; omega
theorem mul_in (a b : Nat) (ha : a < 4294967296) (hb : b < 4294967296) : IntKind.u64.wrap ((a : Int) * (b : Int)) = ((a * b : Nat) : Int) := by
  have : a * b ≤ 4294967295 * 4294967295 := Nat.mul_le_mul (by omega) (by omega)
  rw [← Int.natCast_mul, u64_in _ (by omega) (by omega)]
theorem mul_hi (a b : Nat) (ha : a < 4294967296) (hb : b < 4294967296) : a * b ≤ 18446744065119617025 := Nat.mul_le_mul (show a ≤ 4294967295 by omega) (show b ≤ 4294967295 by omega)
theorem sizeQ4 : (Tryz.prog.info? 149).map (·.size) = some 4 := by kernel_rfl
theorem zeroQ4 : nv [0, 0, 0, 0] = #[.int .u64 0, .int .u64 0, .int .u64 0, .int .u64 0] := rfl

theorem nv4 (p1 p2 p3 p4 : Nat) : nv [p1 % 4294967296, (p2 % 4294967296 + p3 % 4294967296 + p1 / 4294967296) % 4294967296,
    (p2 / 4294967296 + p3 / 4294967296 + p4 % 4294967296 + (p2 % 4294967296 + p3 % 4294967296 + p1 / 4294967296) / 4294967296) % 4294967296,
    p4 / 4294967296 + (p2 / 4294967296 + p3 / 4294967296 + p4 % 4294967296 + (p2 % 4294967296 + p3 % 4294967296 + p1 / 4294967296) / 4294967296) / 4294967296] =
  #[.int .u64 ((p1 : Int) % 4294967296), .int .u64 (((p2 : Int) % 4294967296 + (p3 : Int) % 4294967296 + (p1 : Int) / 4294967296) % 4294967296),
    .int .u64 (((p2 : Int) / 4294967296 + (p3 : Int) / 4294967296 + (p4 : Int) % 4294967296 + ((p2 : Int) % 4294967296 + (p3 : Int) % 4294967296 + (p1 : Int) / 4294967296) / 4294967296) % 4294967296),
    .int .u64 ((p4 : Int) / 4294967296 + ((p2 : Int) / 4294967296 + (p3 : Int) / 4294967296 + (p4 : Int) % 4294967296 + ((p2 : Int) % 4294967296 + (p3 : Int) % 4294967296 + (p1 : Int) / 4294967296) / 4294967296) / 4294967296)] := by
  simp [nv]
set_option maxHeartbeats 1000000 in
theorem rproduct_any (x : Nat) (w : World) (hx : x < 137438953472) :
    Calls Tryz.prog 125 #[.int .u64 (x : Int), .int .u64 (x : Int)] w fun e w' => e = .returned (.agg (nv (sq4 x))) ∧ Below w.heap.size w w' := by
  obtain ⟨a, ha⟩ : ∃ a, a = x % 4294967296 := ⟨_, rfl⟩
  obtain ⟨b, hb⟩ : ∃ b, b = x / 4294967296 := ⟨_, rfl⟩
  have e1 : (x : Int) % 4294967296 = (a : Int) := by omega
  have e2 : (x : Int) / 4294967296 = (b : Int) := by omega
  have la : a < 4294967296 := by omega
  have lb : b < 32 := by omega
  have m1 := mul_in a a la la
  have m2 := mul_in a b la (by omega)
  have m3 := mul_in b a (by omega) la
  have m4 := mul_in b b (by omega) (by omega)
  have k1 := mul_hi a a la la
  have k2 := mul_hi a b la (by omega)
  have k3 := mul_hi b a (by omega) la
  have k4 := mul_hi b b (by omega) (by omega)
  have hsq : sq4 x = prod4 a b a b := by unfold sq4; rw [ha, hb]
  rw [hsq]
  have hp : prod4 a b a b = [a * a % 4294967296, mid4 a b a b % 4294967296, hi4 a b a b % 4294967296, b * b / 4294967296 + hi4 a b a b / 4294967296] := rfl
  have hmid : mid4 a b a b = a * b % 4294967296 + b * a % 4294967296 + a * a / 4294967296 := rfl
  have hhi : hi4 a b a b = a * b / 4294967296 + b * a / 4294967296 + b * b % 4294967296 + mid4 a b a b / 4294967296 := rfl
  rw [hp]
  rw [hmid] at hhi ⊢
  rw [hhi]
  clear hsq hp hmid hhi ha hb hx
  generalize a * a = p1 at *
  generalize a * b = p2 at *
  generalize b * a = p3 at *
  generalize b * b = p4 at *
  have hnv := nv4 p1 p2 p3 p4
  rw [hnv]
  clear hnv
  go_enter Tryz.func125, Tryz.ntmps125
  go_wp2
  refine bodyPost_ret ?_ rfl ⟨rfl, ?_⟩
  · exact results_cell_row rfl _ _ w.heap.size 149 _ (0, 0) _ rfl ((Has.new _ _ _ _ rfl).alloc _) Tryz.underlying149 rfl (by kernel_rfl)
  · exact ((Below.refl _ _).alloc (Nat.le_refl _) _).alloc (by simp) _

/-- two tests on a number in two words -/
theorem le2_lt (h p : Nat) (z : Bool) (hl : h < p) : le2 h p z = true := by simp [le2, hl]
theorem le2_eq (h p : Nat) (z : Bool) (hl : h = p) : le2 h p z = z := by subst hl; simp [le2]
theorem le2_gt (h p : Nat) (z : Bool) (hl : p < h) : le2 h p z = false := by
  have h1 : ¬ h < p := by omega
  have h2 : ¬ h = p := by omega
  simp [le2, h1, h2]
theorem sq4_lt (x : Nat) (hx : x < 137438953472) : gn (sq4 x) 0 < 4294967296 ∧ gn (sq4 x) 1 < 4294967296 ∧ gn (sq4 x) 2 < 4294967296 ∧ gn (sq4 x) 3 < 4294967296 := by
  have la : x % 4294967296 < 4294967296 := by omega
  have lb : x / 4294967296 < 4294967296 := by omega
  have k1 := mul_hi _ _ la la
  have k2 := mul_hi _ _ la lb
  have k3 := mul_hi _ _ lb la
  have k4 : x / 4294967296 * (x / 4294967296) ≤ 31 * 31 := Nat.mul_le_mul (by omega) (by omega)
  have hg : gn (sq4 x) 0 = x % 4294967296 * (x % 4294967296) % 4294967296 ∧ gn (sq4 x) 1 = mid4 (x % 4294967296) (x / 4294967296) (x % 4294967296) (x / 4294967296) % 4294967296 ∧
    gn (sq4 x) 2 = hi4 (x % 4294967296) (x / 4294967296) (x % 4294967296) (x / 4294967296) % 4294967296 ∧
    gn (sq4 x) 3 = x / 4294967296 * (x / 4294967296) / 4294967296 + hi4 (x % 4294967296) (x / 4294967296) (x % 4294967296) (x / 4294967296) / 4294967296 := ⟨rfl, rfl, rfl, rfl⟩
  obtain ⟨g0, g1, g2, g3⟩ := hg
  rw [g0, g1, g2, g3]
  unfold hi4 mid4
  omega
/-- the product with its words named -/
theorem product_lit (x q0 q1 q2 q3 : Nat) (w : World) (hx : x < 137438953472) (hq : sq4 x = [q0, q1, q2, q3]) :
    Calls Tryz.prog 125 #[.int .u64 (x : Int), .int .u64 (x : Int)] w fun e w' => e = .returned (.agg #[.int .u64 (q0 : Int), .int .u64 (q1 : Int), .int .u64 (q2 : Int), .int .u64 (q3 : Int)]) ∧ Below w.heap.size w w' := by
  have h := rproduct_any x w hx
  rw [hq] at h
  exact h
theorem sq4_form (x : Nat) : ∃ q0 q1 q2 q3, sq4 x = [q0, q1, q2, q3] := ⟨_, _, _, _, rfl⟩
theorem squareN_form (x p q0 q1 q2 q3 : Nat) (hq : sq4 x = [q0, q1, q2, q3]) : squareN x p = le2 (two q3 q2) p (isZ (two q1 q0)) := by
  unfold squareN
  rw [hq, show gn [q0, q1, q2, q3] 0 = q0 from rfl, show gn [q0, q1, q2, q3] 1 = q1 from rfl, show gn [q0, q1, q2, q3] 2 = q2 from rfl, show gn [q0, q1, q2, q3] 3 = q3 from rfl]

set_option maxHeartbeats 1000000 in
theorem square_lt (x p q0 q1 q2 q3 : Nat) (w : World) (hx : x < 137438953472) (_hp : p < 4294967296) (hq : sq4 x = [q0, q1, q2, q3]) (h0 : q0 < 4294967296) (h1 : q1 < 4294967296) (h2 : q2 < 4294967296) (h3 : q3 < 4294967296)
    (hc : q3 * 4294967296 + q2 < p) : Calls Tryz.prog 108 #[.int .u64 (x : Int), .int .u64 (p : Int)] w fun e w' => e = .returned (.bool true) ∧ Below w.heap.size w w' := by
  have HQ := Lib.hid hq
  have HX := Lib.hid hx
  have hd : decide ((q3 : Int) * 4294967296 + (q2 : Int) < (p : Int)) = true := decide_eq_true (by omega)
  clear hq hx hc
  go_enter Tryz.func108, Tryz.ntmps108
  go_wp2_with fail
  refine (product_lit x q0 q1 q2 q3 _ HX.out HQ.out).mono ?_
  rintro e w1 ⟨rfl, hb1⟩
  have HB := Lib.hid hb1
  clear hb1
  go_wp2
  go_ret
  exact ⟨rfl, (HB.out).alloc HB.out.size _⟩
set_option maxHeartbeats 1000000 in
theorem square_gt (x p q0 q1 q2 q3 : Nat) (w : World) (hx : x < 137438953472) (hp : p < 4294967296) (hq : sq4 x = [q0, q1, q2, q3]) (h0 : q0 < 4294967296) (h1 : q1 < 4294967296) (h2 : q2 < 4294967296) (h3 : q3 < 4294967296)
    (hc : p < q3 * 4294967296 + q2) : Calls Tryz.prog 108 #[.int .u64 (x : Int), .int .u64 (p : Int)] w fun e w' => e = .returned (.bool false) ∧ Below w.heap.size w w' := by
  have HQ := Lib.hid hq
  have HX := Lib.hid hx
  have hn : ((q3 : Int) * 4294967296 + (q2 : Int) == (p : Int)) = false := by rw [beq_eq_false_iff_ne]; omega
  have hd : decide ((q3 : Int) * 4294967296 + (q2 : Int) < (p : Int)) = false := decide_eq_false (by omega)
  clear hq hx
  go_enter Tryz.func108, Tryz.ntmps108
  go_wp2_with fail
  refine (product_lit x q0 q1 q2 q3 _ HX.out HQ.out).mono ?_
  rintro e w1 ⟨rfl, hb1⟩
  have HB := Lib.hid hb1
  clear hb1
  go_wp2
  go_ret
  exact ⟨rfl, (HB.out).alloc HB.out.size _⟩
set_option maxHeartbeats 1000000 in
theorem square_eq (x p q0 q1 q2 q3 : Nat) (w : World) (hx : x < 137438953472) (hp : p < 4294967296) (hq : sq4 x = [q0, q1, q2, q3]) (h0 : q0 < 4294967296) (h1 : q1 < 4294967296) (_h2 : q2 < 4294967296) (h3 : q3 < 4294967296)
    (hc : q3 * 4294967296 + q2 = p) : Calls Tryz.prog 108 #[.int .u64 (x : Int), .int .u64 (p : Int)] w fun e w' => e = .returned (.bool (isZ (two q1 q0))) ∧ Below w.heap.size w w' := by
  have HQ := Lib.hid hq
  have HX := Lib.hid hx
  have hn : ((q3 : Int) * 4294967296 + (q2 : Int) == (p : Int)) = true := by rw [beq_iff_eq]; omega
  have hd : decide ((q3 : Int) * 4294967296 + (q2 : Int) < (p : Int)) = false := decide_eq_false (by omega)
  have hz : ((q1 : Int) * 4294967296 + (q0 : Int) == 0) = isZ (two q1 q0) := by
    have e : two q1 q0 = q1 * 4294967296 + q0 := by unfold two; rw [Nat.mul_comm]
    unfold isZ
    rw [e]
    by_cases h : q1 * 4294967296 + q0 = 0
    · rw [beq_iff_eq.2 h, beq_iff_eq]; omega
    · rw [beq_eq_false_iff_ne.2 h, beq_eq_false_iff_ne]; omega
  have HZ := Lib.hid hz
  have c1 : q3 * 4294967296 + q2 ≤ p := by omega
  have c2 : p ≤ q3 * 4294967296 + q2 := by omega
  clear hq hx hz hc
  go_enter Tryz.func108, Tryz.ntmps108
  go_wp2_with fail
  refine (product_lit x q0 q1 q2 q3 _ HX.out HQ.out).mono ?_
  rintro e w1 ⟨rfl, hb1⟩
  have HB := Lib.hid hb1
  clear hb1
  go_wp2
  go_ret
  exact ⟨congrArg (fun z => Ending.returned (.bool z)) HZ.out, (HB.out).alloc HB.out.size _⟩
theorem square_any (x p : Nat) (w : World) (hx : x < 137438953472) (hp : p < 4294967296) :
    Calls Tryz.prog 108 #[.int .u64 (x : Int), .int .u64 (p : Int)] w fun e w' => e = .returned (.bool (squareN x p)) ∧ Below w.heap.size w w' := by
  obtain ⟨h0, h1, h2, h3⟩ := sq4_lt x hx
  obtain ⟨q0, q1, q2, q3, hq⟩ := sq4_form x
  rw [hq, show gn [q0, q1, q2, q3] 0 = q0 from rfl] at h0
  rw [hq, show gn [q0, q1, q2, q3] 1 = q1 from rfl] at h1
  rw [hq, show gn [q0, q1, q2, q3] 2 = q2 from rfl] at h2
  rw [hq, show gn [q0, q1, q2, q3] 3 = q3 from rfl] at h3
  rw [squareN_form x p q0 q1 q2 q3 hq]
  have e : two q3 q2 = q3 * 4294967296 + q2 := by unfold two; rw [Nat.mul_comm]
  rcases Nat.lt_trichotomy (two q3 q2) p with hc | hc | hc
  · rw [le2_lt _ _ _ hc]
    rw [e] at hc
    exact square_lt x p q0 q1 q2 q3 w hx hp hq h0 h1 h2 h3 hc
  · rw [le2_eq _ _ _ hc]
    rw [e] at hc
    exact square_eq x p q0 q1 q2 q3 w hx hp hq h0 h1 h2 h3 hc
  · rw [le2_gt _ _ _ hc]
    rw [e] at hc
    exact square_gt x p q0 q1 q2 q3 w hx hp hq h0 h1 h2 h3 hc
end Go.Proofs.YticggkllfojgkaaGreatDoor
namespace Go.Proofs.YticggkllfojgkaaGreatDoor
open Go Go.RowKit
set_option maxRecDepth 4000

theorem sizeQ5 : (Tryz.prog.info? 151).map (·.size) = some 5 := by kernel_rfl
theorem cubS_lt (x k c : Nat) : cubS x k c < c + 8589934592 := by
  unfold cubS
  have h1 : (if k < 4 then gn (sq4 x) k * (x % 4294967296) % 4294967296 else 0) < 4294967296 := by split <;> omega
  have h2 : (if 0 < k then gn (sq4 x) (k - 1) * (x / 4294967296) % 4294967296 else 0) < 4294967296 := by split <;> omega
  omega
theorem sq4_le (x k : Nat) (hx : x < 137438953472) : gn (sq4 x) k < 4294967296 := by
  obtain ⟨h0, h1, h2, h3⟩ := sq4_lt x hx
  match k with
  | 0 => exact h0
  | 1 => exact h1
  | 2 => exact h2
  | 3 => exact h3
  | _ + 4 => exact (by decide : 0 < 4294967296)
theorem cubc_lt (x k : Nat) (hx : x < 137438953472) : cubc x k < 12884901888 := by
  induction k with
  | zero => exact (by decide : 0 < 12884901888)
  | succ k ih =>
    have hs := cubS_lt x k (cubc x k)
    have la : x % 4294967296 < 4294967296 := by omega
    have lb : x / 4294967296 < 4294967296 := by omega
    have m1 := mul_hi _ _ (sq4_le x k hx) la
    have m2 := mul_hi _ _ (sq4_le x (k - 1) hx) lb
    rw [cubc]
    unfold cubC
    have h1 : (if k < 4 then gn (sq4 x) k * (x % 4294967296) / 4294967296 else 0) ≤ 4294967295 := by split <;> omega
    have h2 : (if 0 < k then gn (sq4 x) (k - 1) * (x / 4294967296) / 4294967296 else 0) ≤ 4294967295 := by split <;> omega
    omega
theorem cubv_lt (x i j : Nat) : gn (cubv x i) j < 4294967296 := by
  induction i with
  | zero =>
    match j with
    | 0 => exact (by decide : 0 < 4294967296)
    | 1 => exact (by decide : 0 < 4294967296)
    | 2 => exact (by decide : 0 < 4294967296)
    | 3 => exact (by decide : 0 < 4294967296)
    | 4 => exact (by decide : 0 < 4294967296)
    | _ + 5 => exact (by decide : 0 < 4294967296)
  | succ i ih =>
    rw [cubv]
    unfold gn at ih ⊢
    rw [List.getD_eq_getElem?_getD] at ih ⊢
    by_cases h : j = i
    · subst h
      by_cases hl : j < (cubv x j).length
      · rw [List.getElem?_set_self hl]; exact Nat.mod_lt _ (by decide)
      · rw [List.getElem?_eq_none (by rw [List.length_set]; omega)]; exact (by decide : 0 < 4294967296)
    · rw [List.getElem?_set_ne (fun e => h e.symm)]; exact ih
/-- what the loop of cube keeps -/
def KI (x : Nat) (w : World) (g k : Nat) (wr : World) : Prop :=
  Has wr g 149 (nv (sq4 x)) ∧ Has wr (g + 1) 151 (nv (cubv x k)) ∧ Below w.heap.size w wr ∧ w.heap.size ≤ g
abbrev zq5 : Array Value := #[.int .u64 0, .int .u64 0, .int .u64 0, .int .u64 0, .int .u64 0]
theorem KI.set {x : Nat} {w wr : World} {g k : Nat} (h : KI x w g k wr) : KI x w g (k + 1) (wr.setCell ⟨g + 1, k, none⟩ (.int .u64 ((cubS x k (cubc x k) % 4294967296 : Nat) : Int))) :=
  ⟨h.1.far (by simp) _, by have := h.2.1.set k (.int .u64 ((cubS x k (cubc x k) % 4294967296 : Nat) : Int)); rw [nv_set] at this; exact this, h.2.2.1.setCell (by have := h.2.2.2; simp; omega) _, h.2.2.2⟩

set_option maxHeartbeats 2000000 in
theorem cube_any (x p : Nat) (w : World) (hx : x < 137438953472) (_hp : p < 4294967296) :
    Calls Tryz.prog 107 #[.int .u64 (x : Int), .int .u64 (p : Int)] w fun e w' => e = .returned (.bool (cubeN x p)) ∧ Below w.heap.size w w' := by
  obtain ⟨q0, q1, q2, q3, hq⟩ := sq4_form x
  have HQ := Lib.hid hq
  have HX := Lib.hid hx
  obtain ⟨a, ha⟩ : ∃ a, a = x % 4294967296 := ⟨_, rfl⟩
  obtain ⟨b, hb⟩ : ∃ b, b = x / 4294967296 := ⟨_, rfl⟩
  have e1 : (x : Int) % 4294967296 = (a : Int) := by omega
  have e2 : (x : Int) / 4294967296 = (b : Int) := by omega
  have la : a < 4294967296 := by omega
  have lb : b < 32 := by omega
  have HA := Lib.hid ha
  have HB := Lib.hid hb
  clear hq ha hb
  go_enter Tryz.func107, Tryz.ntmps107
  go_wp2_with fail
  refine (product_lit x q0 q1 q2 q3 _ HX.out HQ.out).mono ?_
  rintro e w1 ⟨rfl, hb1⟩
  go_wp2
  go_loopw [9, 10] (fun c i wr => ∃ k : Nat, k ≤ 5 ∧ i = .int .i64 k ∧ c = .int .u64 ((cubc x k : Nat) : Int) ∧ KI x w w1.heap.size k wr) (fun _ i _ => 5 - (intOf i).toNat)
  case atStart =>
    refine ⟨0, by omega, rfl, rfl, ?_, Has.new _ _ _ _ (by simp), (hb1.alloc hb1.size _).alloc (Nat.le_trans hb1.size (by simp)) _, hb1.size⟩
    rw [HQ.out]
    exact (Has.new _ _ _ _ rfl).alloc _
  case round =>
    clear hb1
    obtain ⟨k, hk, rfl, rfl, hs⟩ := hrel
    by_cases hlt : k < 5
    · have hc3 := cubc_lt x k HX.out
      have hcS : cubS x k (cubc x k) = cubc x k + (if k < 4 then gn (sq4 x) k * (x % 4294967296) % 4294967296 else 0) + (if 0 < k then gn (sq4 x) (k - 1) * (x / 4294967296) % 4294967296 else 0) := rfl
      have hcC : cubc x (k + 1) = (if k < 4 then gn (sq4 x) k * (x % 4294967296) / 4294967296 else 0) + (if 0 < k then gn (sq4 x) (k - 1) * (x / 4294967296) / 4294967296 else 0) + cubS x k (cubc x k) / 4294967296 := rfl
      rw [← HA.out, ← HB.out] at hcS hcC
      have hst := hs.set
      have hcell := (hs.2.1.cell k).trans (nv_at _ k (by rw [cubv_len]; exact hlt))
      have hfree := hs.2.1.frozen k
      have g1 := sq4_le x k HX.out
      have g2 := sq4_le x (k - 1) HX.out
      have m1 := mul_in _ _ g1 la
      have m2 := mul_in _ _ g2 (show b < 4294967296 by omega)
      have k1 := mul_hi _ _ g1 la
      have k2 := mul_hi _ _ g2 (show b < 4294967296 by omega)
      by_cases h4 : k < 4
      · have l1 := (hs.1.cell k).trans (nv_at (sq4 x) k h4)
        by_cases h0 : 0 < k
        · have l2 := (hs.1.cell (k - 1)).trans (nv_at (sq4 x) (k - 1) (show k - 1 < 4 by omega))
          rw [if_pos h4, if_pos h0] at hcS hcC
          rw [hcS] at hst hcC
          have HST := Lib.hid hst
          have HC := Lib.hid hcC
          clear hst hcC hcS g1 g2
          generalize gn (sq4 x) k * a = P at *
          generalize gn (sq4 x) (k - 1) * b = R at *
          generalize cubc x k = C at *
          go_wp2
          go_roundw
          case rel =>
            refine ⟨k + 1, by omega, by go_num, congrArg (Value.int .u64) (by rw [HC.out]; omega), ?_⟩
            have h := HST.out
            rw [show (((C + P % 4294967296 + R % 4294967296) % 4294967296 : Nat) : Int) = ((C : Int) + (P : Int) % 4294967296 + (R : Int)) % 4294967296 by omega] at h
            exact h
          case measure => simp [intOf]; omega
        · obtain rfl : k = 0 := by omega
          rw [if_pos (by decide), if_neg (by decide)] at hcS hcC
          rw [hcS] at hst hcC
          have HST := Lib.hid hst
          have HC := Lib.hid hcC
          clear hst hcC hcS g1 g2 h0 m2 k2
          generalize gn (sq4 x) 0 * a = P at *
          have HC2 := Lib.hid (show cubc x 1 = P / 4294967296 + 0 + (cubc x 0 + P % 4294967296 + 0) / 4294967296 from HC.out)
          clear HC
          generalize cubc x 0 = C at *
          go_wp2
          go_roundw
          case rel =>
            refine ⟨1, by omega, rfl, congrArg (Value.int .u64) (by rw [HC2.out]; omega), ?_⟩
            have h := HST.out
            rw [show (((C + P % 4294967296 + 0) % 4294967296 : Nat) : Int) = ((C : Int) + (P : Int)) % 4294967296 by omega] at h
            exact h
          case measure => simp [intOf]
      · obtain rfl : k = 4 := by omega
        have l2 := (hs.1.cell 3).trans (nv_at (sq4 x) 3 (show 3 < 4 by omega))
        rw [if_neg (by decide), if_pos (by decide)] at hcS hcC
        rw [hcS] at hst hcC
        have HST := Lib.hid hst
        have HC := Lib.hid hcC
        clear hst hcC hcS g1 g2 h4 m1 k1
        have m3 : IntKind.u64.wrap ((gn (sq4 x) 3 : Int) * (b : Int)) = ((gn (sq4 x) 3 * b : Nat) : Int) := m2
        have HM := Lib.hid m2
        clear m2
        change gn (sq4 x) 3 * b ≤ _ at k2
        have HST2 := Lib.hid (show KI x w w1.heap.size (4 + 1) (wr.setCell ⟨w1.heap.size + 1, 4, none⟩ (.int .u64 (((cubc x 4 + 0 + gn (sq4 x) 3 * b % 4294967296) % 4294967296 : Nat) : Int))) from HST.out)
        have HC2 := Lib.hid (show cubc x 5 = 0 + gn (sq4 x) 3 * b / 4294967296 + (cubc x 4 + 0 + gn (sq4 x) 3 * b % 4294967296) / 4294967296 from HC.out)
        clear HST HC HM
        generalize gn (sq4 x) 3 * b = R at *
        generalize cubc x 4 = C at *
        go_wp2
        go_roundw
        case rel =>
          refine ⟨5, by omega, rfl, congrArg (Value.int .u64) (by rw [HC2.out]; omega), ?_⟩
          have h := HST2.out
          rw [show (((C + 0 + R % 4294967296) % 4294967296 : Nat) : Int) = ((C : Int) + (R : Int)) % 4294967296 by omega] at h
          exact h
        case measure => simp [intOf]
    · obtain rfl : k = 5 := by omega
      have c0 := (hs.2.1.cell 0).trans (nv_at _ 0 (by rw [cubv_len]; decide))
      have c1 := (hs.2.1.cell 1).trans (nv_at _ 1 (by rw [cubv_len]; decide))
      have c2 := (hs.2.1.cell 2).trans (nv_at _ 2 (by rw [cubv_len]; decide))
      have c3 := (hs.2.1.cell 3).trans (nv_at _ 3 (by rw [cubv_len]; decide))
      have c4 := (hs.2.1.cell 4).trans (nv_at _ 4 (by rw [cubv_len]; decide))
      have b0 := cubv_lt x 5 0
      have b1 := cubv_lt x 5 1
      have b2 := cubv_lt x 5 2
      have b3 := cubv_lt x 5 3
      have b4 := cubv_lt x 5 4
      have HBW := Lib.hid hs.2.2.1
      have hres : cubeN x p = le2 (two (gn (cubv x 5) 4) (gn (cubv x 5) 3)) p (isZ (gn (cubv x 5) 0) && isZ (gn (cubv x 5) 1) && isZ (gn (cubv x 5) 2)) := rfl
      have HR := Lib.hid hres
      clear hres hs hk hlt
      generalize gn (cubv x 5) 0 = v0 at *
      generalize gn (cubv x 5) 1 = v1 at *
      generalize gn (cubv x 5) 2 = v2 at *
      generalize gn (cubv x 5) 3 = v3 at *
      generalize gn (cubv x 5) 4 = v4 at *
      have et : two v4 v3 = v4 * 4294967296 + v3 := by unfold two; rw [Nat.mul_comm]
      rcases Nat.lt_trichotomy (two v4 v3) p with hc | hc | hc
      · have hres2 := HR.out.trans (le2_lt _ _ _ hc)
        rw [et] at hc
        have hd : decide ((v4 : Int) * 4294967296 + (v3 : Int) < (p : Int)) = true := decide_eq_true (by omega)
        have HR2 := Lib.hid hres2
        clear et hc hres2
        go_wp2
        go_ret
        exact ⟨congrArg (fun z => Ending.returned (.bool z)) HR2.out.symm, HBW.out⟩
      · have hres2 := HR.out.trans (le2_eq _ _ _ hc)
        rw [et] at hc
        have hd : decide ((v4 : Int) * 4294967296 + (v3 : Int) < (p : Int)) = false := decide_eq_false (by omega)
        have hn : ((v4 : Int) * 4294967296 + (v3 : Int) == (p : Int)) = true := by rw [beq_iff_eq]; omega
        have HR2 := Lib.hid hres2
        clear et hc hres2
        by_cases z0 : v0 = 0
        · have n0 : ((v0 : Int) == 0) = true := by rw [beq_iff_eq]; omega
          have i0 : isZ v0 = true := beq_iff_eq.2 z0
          have HI0 := Lib.hid i0
          clear z0 i0
          by_cases z1 : v1 = 0
          · have n1 : ((v1 : Int) == 0) = true := by rw [beq_iff_eq]; omega
            have i1 : isZ v1 = true := beq_iff_eq.2 z1
            have HI1 := Lib.hid i1
            clear z1 i1
            by_cases z2 : v2 = 0
            · have n2 : ((v2 : Int) == 0) = true := by rw [beq_iff_eq]; omega
              have i2 : isZ v2 = true := beq_iff_eq.2 z2
              have HI2 := Lib.hid i2
              clear z2 i2
              go_wp2
              go_ret
              refine ⟨congrArg (fun z => Ending.returned (.bool z)) ?_, HBW.out⟩
              rw [HR2.out, HI0.out, HI1.out, HI2.out]; rfl
            · have n2 : ((v2 : Int) == 0) = false := by rw [beq_eq_false_iff_ne]; omega
              have HI2 := Lib.hid (show isZ v2 = false from beq_eq_false_iff_ne.2 z2)
              clear z2
              go_wp2
              go_ret
              refine ⟨congrArg (fun z => Ending.returned (.bool z)) ?_, HBW.out⟩
              rw [HR2.out, HI0.out, HI1.out, HI2.out]; rfl
          · have n1 : ((v1 : Int) == 0) = false := by rw [beq_eq_false_iff_ne]; omega
            have HI1 := Lib.hid (show isZ v1 = false from beq_eq_false_iff_ne.2 z1)
            clear z1
            go_wp2
            go_ret
            refine ⟨congrArg (fun z => Ending.returned (.bool z)) ?_, HBW.out⟩
            rw [HR2.out, HI0.out, HI1.out]; rfl
        · have n0 : ((v0 : Int) == 0) = false := by rw [beq_eq_false_iff_ne]; omega
          have HZ := Lib.hid z0
          clear z0
          go_wp2
          go_ret
          refine ⟨congrArg (fun z => Ending.returned (.bool z)) ?_, HBW.out⟩
          rw [HR2.out, show isZ v0 = false from beq_eq_false_iff_ne.2 HZ.out]; rfl
      · have hres2 := HR.out.trans (le2_gt _ _ _ hc)
        rw [et] at hc
        have hd : decide ((v4 : Int) * 4294967296 + (v3 : Int) < (p : Int)) = false := decide_eq_false (by omega)
        have hn : ((v4 : Int) * 4294967296 + (v3 : Int) == (p : Int)) = false := by rw [beq_eq_false_iff_ne]; omega
        have HR2 := Lib.hid hres2
        clear et hc hres2
        go_wp2
        go_ret
        exact ⟨congrArg (fun z => Ending.returned (.bool z)) HR2.out.symm, HBW.out⟩
end Go.Proofs.YticggkllfojgkaaGreatDoor
namespace Go.Proofs.YticggkllfojgkaaGreatDoor
open Go
set_option maxRecDepth 4000

/-- eight bytes of a number, the highest first, as they grow from behind -/
def beTo (m : Nat) : Nat → List (BitVec 8)
  | 0 => zb 8
  | j + 1 => (beTo m j).set (7 - j) (BitVec.ofNat 8 (m / 256 ^ j))
theorem beTo_len (m j : Nat) : (beTo m j).length = 8 := by
  induction j with
  | zero => rfl
  | succ j ih => simp [beTo, ih]
def tailZ (n : Nat) : Nat := tailLen n - 9
theorem tailZ_len (n : Nat) : tailZ n + 9 = tailLen n := by have := tailLen_lo n; unfold tailZ; omega
theorem tailZ_hi (n : Nat) : tailZ n ≤ 63 := by have := tailLen_hi n; unfold tailZ; omega
theorem tailZ_stop (n j : Nat) (h : j ≤ tailZ n) : (n + (1 + j) + 8) % 64 = 0 ↔ j = tailZ n := by
  unfold tailZ tailLen at *; omega
theorem tail_be (n i : Nat) (hi : i ≤ 8) : tailTo n i = 128 :: zb (tailZ n) ++ beTo (8 * n) i := by
  induction i with
  | zero =>
    have e : zb (tailLen n) = 0 :: (zb (tailZ n) ++ zb 8) := by
      rw [← tailZ_len]
      unfold zb
      rw [← List.replicate_append_replicate.symm, ← List.replicate_succ]
    rw [tailTo, e]; rfl
  | succ i ih =>
    rw [tailTo, ih (by omega), beTo, ← tailZ_len, show 2 ^ (8 * i) = 256 ^ i by rw [Nat.pow_mul]]
    have hl : (128 :: zb (tailZ n)).length = tailZ n + 1 := by simp [zb_len]
    rw [List.set_append_right _ _ (by rw [hl]; omega), hl, show tailZ n + 9 - 1 - i - (tailZ n + 1) = 7 - i by omega]
theorem zb_snoc (j : Nat) : zb j ++ [0] = zb (j + 1) := by
  unfold zb; rw [List.replicate_succ']
end Go.Proofs.YticggkllfojgkaaGreatDoor
