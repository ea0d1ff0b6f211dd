/-
  The walks of the reference's product, square, cube.
-/
import Derived.Test.YtkjfhgbpiogigaaDoorWa
import Derived.Test.YtkjfhgbpiogigaaDoorMem
import Derived.Test.YtkjfhgbpiogigaaDoorPuref
import Derived.Deep.LoopGhost
import Derived.IntWalk
namespace Go.Proofs.YtkjfhgbpiogigaaDoor
open Go Go.RowKit

theorem u64_in (n : Int) (h0 : 0 ≤ n) (h1 : n < 18446744073709551616) : IntKind.u64.wrap n = n := by rw [IntKind.wrap_u64]; omega
theorem mul_in (a b : Nat) (ha : a < 4294967296) (hb : b < 4294967296) : IntKind.u64.wrap ((a : Int) * (b : Int)) = ((a * b : Nat) : Int) := by
  have : a * b ≤ 4294967295 * 4294967295 := Nat.mul_le_mul (by omega) (by omega)
  rw [← Int.natCast_mul, u64_in _ (by omega) (by omega)]
theorem mul_hi (a b : Nat) (ha : a < 4294967296) (hb : b < 4294967296) : a * b ≤ 18446744065119617025 := Nat.mul_le_mul (show a ≤ 4294967295 by omega) (show b ≤ 4294967295 by omega)
theorem sizeQ4 : (Tryd.prog.info? 80).map (·.size) = some 4 := by kernel_rfl
theorem zeroQ4 : nv [0, 0, 0, 0] = #[.int .u64 0, .int .u64 0, .int .u64 0, .int .u64 0] := rfl

theorem nv4 (p1 p2 p3 p4 : Nat) : nv [p1 % 4294967296, (p2 % 4294967296 + p3 % 4294967296 + p1 / 4294967296) % 4294967296,
    (p2 / 4294967296 + p3 / 4294967296 + p4 % 4294967296 + (p2 % 4294967296 + p3 % 4294967296 + p1 / 4294967296) / 4294967296) % 4294967296,
    p4 / 4294967296 + (p2 / 4294967296 + p3 / 4294967296 + p4 % 4294967296 + (p2 % 4294967296 + p3 % 4294967296 + p1 / 4294967296) / 4294967296) / 4294967296] =
  #[.int .u64 ((p1 : Int) % 4294967296), .int .u64 (((p2 : Int) % 4294967296 + (p3 : Int) % 4294967296 + (p1 : Int) / 4294967296) % 4294967296),
    .int .u64 (((p2 : Int) / 4294967296 + (p3 : Int) / 4294967296 + (p4 : Int) % 4294967296 + ((p2 : Int) % 4294967296 + (p3 : Int) % 4294967296 + (p1 : Int) / 4294967296) / 4294967296) % 4294967296),
    .int .u64 ((p4 : Int) / 4294967296 + ((p2 : Int) / 4294967296 + (p3 : Int) / 4294967296 + (p4 : Int) % 4294967296 + ((p2 : Int) % 4294967296 + (p3 : Int) % 4294967296 + (p1 : Int) / 4294967296) / 4294967296) / 4294967296)] := by
  simp [nv]
set_option maxHeartbeats 1000000 in
theorem product_any (x : Nat) (w : World) (hx : x < 137438953472) :
    Calls Tryd.prog 60 #[.int .u64 (x : Int), .int .u64 (x : Int)] w fun e w' => e = .returned (.agg (nv (sq4 x))) ∧ Below w.heap.size w w' := by
  obtain ⟨a, ha⟩ : ∃ a, a = x % 4294967296 := ⟨_, rfl⟩
  obtain ⟨b, hb⟩ : ∃ b, b = x / 4294967296 := ⟨_, rfl⟩
  have e1 : (x : Int) % 4294967296 = (a : Int) := by omega
  have e2 : (x : Int) / 4294967296 = (b : Int) := by omega
  have la : a < 4294967296 := by omega
  have lb : b < 32 := by omega
  have m1 := mul_in a a la la
  have m2 := mul_in a b la (by omega)
  have m3 := mul_in b a (by omega) la
  have m4 := mul_in b b (by omega) (by omega)
  have k1 := mul_hi a a la la
  have k2 := mul_hi a b la (by omega)
  have k3 := mul_hi b a (by omega) la
  have k4 := mul_hi b b (by omega) (by omega)
  have hsq : sq4 x = prod4 a b a b := by unfold sq4; rw [ha, hb]
  rw [hsq]
  have hp : prod4 a b a b = [a * a % 4294967296, mid4 a b a b % 4294967296, hi4 a b a b % 4294967296, b * b / 4294967296 + hi4 a b a b / 4294967296] := rfl
  have hmid : mid4 a b a b = a * b % 4294967296 + b * a % 4294967296 + a * a / 4294967296 := rfl
  have hhi : hi4 a b a b = a * b / 4294967296 + b * a / 4294967296 + b * b % 4294967296 + mid4 a b a b / 4294967296 := rfl
  rw [hp]
  rw [hmid] at hhi ⊢
  rw [hhi]
  clear hsq hp hmid hhi ha hb hx
  generalize a * a = p1 at *
  generalize a * b = p2 at *
  generalize b * a = p3 at *
  generalize b * b = p4 at *
  have hnv := nv4 p1 p2 p3 p4
  rw [hnv]
  clear hnv
  go_enter Tryd.func60, Tryd.ntmps60
  go_wp2
  refine bodyPost_ret ?_ rfl ⟨rfl, ?_⟩
  · exact results_cell_row rfl _ _ w.heap.size 80 _ (0, 0) _ rfl ((Has.new _ _ _ _ rfl).alloc _) Tryd.underlying80 rfl (by kernel_rfl)
  · exact ((Below.refl _ _).alloc (Nat.le_refl _) _).alloc (by simp) _

/-- two tests on a number in two words -/
theorem le2_lt (h p : Nat) (z : Bool) (hl : h < p) : le2 h p z = true := by simp [le2, hl]
theorem le2_eq (h p : Nat) (z : Bool) (hl : h = p) : le2 h p z = z := by subst hl; simp [le2]
theorem le2_gt (h p : Nat) (z : Bool) (hl : p < h) : le2 h p z = false := by
  have h1 : ¬ h < p := by omega
  have h2 : ¬ h = p := by omega
  simp [le2, h1, h2]
theorem sq4_lt (x : Nat) (hx : x < 137438953472) : gn (sq4 x) 0 < 4294967296 ∧ gn (sq4 x) 1 < 4294967296 ∧ gn (sq4 x) 2 < 4294967296 ∧ gn (sq4 x) 3 < 4294967296 := by
  have la : x % 4294967296 < 4294967296 := by omega
  have lb : x / 4294967296 < 4294967296 := by omega
  have k1 := mul_hi _ _ la la
  have k2 := mul_hi _ _ la lb
  have k3 := mul_hi _ _ lb la
  have k4 : x / 4294967296 * (x / 4294967296) ≤ 31 * 31 := Nat.mul_le_mul (by omega) (by omega)
  have hg : gn (sq4 x) 0 = x % 4294967296 * (x % 4294967296) % 4294967296 ∧ gn (sq4 x) 1 = mid4 (x % 4294967296) (x / 4294967296) (x % 4294967296) (x / 4294967296) % 4294967296 ∧
    gn (sq4 x) 2 = hi4 (x % 4294967296) (x / 4294967296) (x % 4294967296) (x / 4294967296) % 4294967296 ∧
    gn (sq4 x) 3 = x / 4294967296 * (x / 4294967296) / 4294967296 + hi4 (x % 4294967296) (x / 4294967296) (x % 4294967296) (x / 4294967296) / 4294967296 := ⟨rfl, rfl, rfl, rfl⟩
  obtain ⟨g0, g1, g2, g3⟩ := hg
  rw [g0, g1, g2, g3]
  unfold hi4 mid4
  omega
/-- the product with its words named -/
theorem product_lit (x q0 q1 q2 q3 : Nat) (w : World) (hx : x < 137438953472) (hq : sq4 x = [q0, q1, q2, q3]) :
    Calls Tryd.prog 60 #[.int .u64 (x : Int), .int .u64 (x : Int)] w fun e w' => e = .returned (.agg #[.int .u64 (q0 : Int), .int .u64 (q1 : Int), .int .u64 (q2 : Int), .int .u64 (q3 : Int)]) ∧ Below w.heap.size w w' := by
  have h := product_any x w hx
  rw [hq] at h
  exact h
theorem sq4_form (x : Nat) : ∃ q0 q1 q2 q3, sq4 x = [q0, q1, q2, q3] := ⟨_, _, _, _, rfl⟩
theorem squareN_form (x p q0 q1 q2 q3 : Nat) (hq : sq4 x = [q0, q1, q2, q3]) : squareN x p = le2 (two q3 q2) p (isZ (two q1 q0)) := by
  unfold squareN
  rw [hq, show gn [q0, q1, q2, q3] 0 = q0 from rfl, show gn [q0, q1, q2, q3] 1 = q1 from rfl, show gn [q0, q1, q2, q3] 2 = q2 from rfl, show gn [q0, q1, q2, q3] 3 = q3 from rfl]

set_option maxHeartbeats 1000000 in
theorem square_lt (x p q0 q1 q2 q3 : Nat) (w : World) (hx : x < 137438953472) (_hp : p < 4294967296) (hq : sq4 x = [q0, q1, q2, q3]) (h0 : q0 < 4294967296) (h1 : q1 < 4294967296) (h2 : q2 < 4294967296) (h3 : q3 < 4294967296)
    (hc : q3 * 4294967296 + q2 < p) : Calls Tryd.prog 59 #[.int .u64 (x : Int), .int .u64 (p : Int)] w fun e w' => e = .returned (.bool true) ∧ Below w.heap.size w w' := by
  have HQ := Lib.hid hq
  have HX := Lib.hid hx
  have hd : decide ((q3 : Int) * 4294967296 + (q2 : Int) < (p : Int)) = true := decide_eq_true (by omega)
  clear hq hx hc
  go_enter Tryd.func59, Tryd.ntmps59
  go_wp2_with fail
  refine (product_lit x q0 q1 q2 q3 _ HX.out HQ.out).mono ?_
  rintro e w1 ⟨rfl, hb1⟩
  have HB := Lib.hid hb1
  clear hb1
  go_wp2
  go_ret
  exact ⟨rfl, (HB.out).alloc HB.out.size _⟩
set_option maxHeartbeats 1000000 in
theorem square_gt (x p q0 q1 q2 q3 : Nat) (w : World) (hx : x < 137438953472) (hp : p < 4294967296) (hq : sq4 x = [q0, q1, q2, q3]) (h0 : q0 < 4294967296) (h1 : q1 < 4294967296) (h2 : q2 < 4294967296) (h3 : q3 < 4294967296)
    (hc : p < q3 * 4294967296 + q2) : Calls Tryd.prog 59 #[.int .u64 (x : Int), .int .u64 (p : Int)] w fun e w' => e = .returned (.bool false) ∧ Below w.heap.size w w' := by
  have HQ := Lib.hid hq
  have HX := Lib.hid hx
  have hn : ((q3 : Int) * 4294967296 + (q2 : Int) == (p : Int)) = false := by rw [beq_eq_false_iff_ne]; omega
  have hd : decide ((q3 : Int) * 4294967296 + (q2 : Int) < (p : Int)) = false := decide_eq_false (by omega)
  clear hq hx
  go_enter Tryd.func59, Tryd.ntmps59
  go_wp2_with fail
  refine (product_lit x q0 q1 q2 q3 _ HX.out HQ.out).mono ?_
  rintro e w1 ⟨rfl, hb1⟩
  have HB := Lib.hid hb1
  clear hb1
  go_wp2
  go_ret
  exact ⟨rfl, (HB.out).alloc HB.out.size _⟩
set_option maxHeartbeats 1000000 in
theorem square_eq (x p q0 q1 q2 q3 : Nat) (w : World) (hx : x < 137438953472) (hp : p < 4294967296) (hq : sq4 x = [q0, q1, q2, q3]) (h0 : q0 < 4294967296) (h1 : q1 < 4294967296) (_h2 : q2 < 4294967296) (h3 : q3 < 4294967296)
    (hc : q3 * 4294967296 + q2 = p) : Calls Tryd.prog 59 #[.int .u64 (x : Int), .int .u64 (p : Int)] w fun e w' => e = .returned (.bool (isZ (two q1 q0))) ∧ Below w.heap.size w w' := by
  have HQ := Lib.hid hq
  have HX := Lib.hid hx
  have hn : ((q3 : Int) * 4294967296 + (q2 : Int) == (p : Int)) = true := by rw [beq_iff_eq]; omega
  have hd : decide ((q3 : Int) * 4294967296 + (q2 : Int) < (p : Int)) = false := decide_eq_false (by omega)
  have hz : ((q1 : Int) * 4294967296 + (q0 : Int) == 0) = isZ (two q1 q0) := by
    have e : two q1 q0 = q1 * 4294967296 + q0 := by unfold two; rw [Nat.mul_comm]
    unfold isZ
    rw [e]
    by_cases h : q1 * 4294967296 + q0 = 0
    · rw [beq_iff_eq.2 h, beq_iff_eq]; omega
    · rw [beq_eq_false_iff_ne.2 h, beq_eq_false_iff_ne]; omega
  have HZ := Lib.hid hz
  have c1 : q3 * 4294967296 + q2 ≤ p := by omega
  have c2 : p ≤ q3 * 4294967296 + q2 := by omega
  clear hq hx hz hc
  go_enter Tryd.func59, Tryd.ntmps59
  go_wp2_with fail
  refine (product_lit x q0 q1 q2 q3 _ HX.out HQ.out).mono ?_
  rintro e w1 ⟨rfl, hb1⟩
  have HB := Lib.hid hb1
  clear hb1
  go_wp2
  go_ret
  exact ⟨congrArg (fun z => Ending.returned (.bool z)) HZ.out, (HB.out).alloc HB.out.size _⟩
theorem square_any (x p : Nat) (w : World) (hx : x < 137438953472) (hp : p < 4294967296) :
    Calls Tryd.prog 59 #[.int .u64 (x : Int), .int .u64 (p : Int)] w fun e w' => e = .returned (.bool (squareN x p)) ∧ Below w.heap.size w w' := by
  obtain ⟨h0, h1, h2, h3⟩ := sq4_lt x hx
  obtain ⟨q0, q1, q2, q3, hq⟩ := sq4_form x
  rw [hq, show gn [q0, q1, q2, q3] 0 = q0 from rfl] at h0
  rw [hq, show gn [q0, q1, q2, q3] 1 = q1 from rfl] at h1
  rw [hq, show gn [q0, q1, q2, q3] 2 = q2 from rfl] at h2
  rw [hq, show gn [q0, q1, q2, q3] 3 = q3 from rfl] at h3
  rw [squareN_form x p q0 q1 q2 q3 hq]
  have e : two q3 q2 = q3 * 4294967296 + q2 := by unfold two; rw [Nat.mul_comm]
  rcases Nat.lt_trichotomy (two q3 q2) p with hc | hc | hc
  · rw [le2_lt _ _ _ hc]
    rw [e] at hc
    exact square_lt x p q0 q1 q2 q3 w hx hp hq h0 h1 h2 h3 hc
  · rw [le2_eq _ _ _ hc]
    rw [e] at hc
    exact square_eq x p q0 q1 q2 q3 w hx hp hq h0 h1 h2 h3 hc
  · rw [le2_gt _ _ _ hc]
    rw [e] at hc
    exact square_gt x p q0 q1 q2 q3 w hx hp hq h0 h1 h2 h3 hc
end Go.Proofs.YtkjfhgbpiogigaaDoor
