/-
  A number's body built byte by byte, plain; what the code asks of 64 bits.
  Errors that are codes, asked whether they differ.
  prim: belowZero, isNumber, ReadInt; the reference's Number, Value.
  prim: areBits, Bits; the reference's Bits.
-/
import Derived.Test.YtkdjhklnlnfhfaaGreatDoorM6
import Derived.Lib.ItoaNum
import Derived.Test.YtkdjhklnlnfhfaaGreatDoorM5
import Derived.Test.YtkdjhklnlnfhfaaGreatDoorM1
import Derived.Test.YtkdjhklnlnfhfaaGreatDoorM4
namespace Go.Proofs.YtkdjhklnlnfhfaaGreatDoor
open Go Go.RowKit
set_option maxRecDepth 4000

/-- the k lowest bytes of a number, the highest first -/
def intL (n : Int) : Nat → List (BitVec 8)
  | 0 => []
  | k + 1 => BitVec.ofNat 8 ((n / ((256 ^ k : Nat) : Int)) % 256).toNat :: intL n k
theorem intL_len (n : Int) (k : Nat) : (intL n k).length = k := by induction k with
  | zero => rfl
  | succ k ih => rw [intL, List.length_cons, ih]
theorem byt_nat (z : Int) : (BitVec.ofNat 8 (z % 256).toNat).toNat = (z % 256).toNat := by
  rw [BitVec.toNat_ofNat]
  omega
theorem intL_be (n : Int) (k : Nat) : ((beV (intL n k) : Nat) : Int) = n % ((256 ^ k : Nat) : Int) := by
  induction k with
  | zero => simp [intL, beV]
  | succ k ih =>
    rw [intL, beV_cons, byt_nat, intL_len, Int.natCast_add, ih, Int.natCast_mul]
    have hp : 0 < ((256 ^ k : Nat) : Int) := by have := Nat.pow_pos (n := k) (show 0 < 256 by decide); omega
    generalize hP : ((256 ^ k : Nat) : Int) = P at *
    have e : ((256 ^ (k + 1) : Nat) : Int) = P * 256 := by rw [Nat.pow_succ, Int.natCast_mul, hP]; rfl
    rw [e]
    have h1 := Int.mul_ediv_add_emod n P
    have h2 := Int.mul_ediv_add_emod (n / P) 256
    have h3 := Int.emod_nonneg n (show P ≠ 0 by omega)
    have h4 := Int.emod_lt_of_pos n hp
    have h5 := Int.emod_nonneg (n / P) (show (256 : Int) ≠ 0 by decide)
    have h6 := Int.emod_lt_of_pos (n / P) (show (0 : Int) < 256 by decide)
    rw [Int.toNat_of_nonneg h5]
    have key : n = P * 256 * (n / P / 256) + ((n / P % 256) * P + n % P) := by
      have : P * (n / P) = P * (256 * (n / P / 256) + n / P % 256) := by rw [h2]
      rw [Int.mul_add, ← Int.mul_assoc] at this
      rw [Int.mul_comm (n / P % 256) P]
      omega
    have hb : 0 ≤ (n / P % 256) * P + n % P ∧ (n / P % 256) * P + n % P < P * 256 := by
      have a1 : 0 ≤ (n / P % 256) * P := Int.mul_nonneg h5 (by omega)
      have a2 : (n / P % 256) * P ≤ 255 * P := Int.mul_le_mul_of_nonneg_right (by omega) (by omega)
      omega
    generalize (n / P % 256) * P + n % P = r at *
    generalize n / P / 256 = q at *
    rw [key, Int.add_comm, Int.add_mul_emod_self_left, Int.emod_eq_of_lt hb.1 hb.2]
/-- the greater one of a number and what it is with all bits turned -/
def magN (n : Int) : Nat := if 0 ≤ n then n.toNat else (-n - 1).toNat
theorem tcB_one (x : BitVec 8) : tcB [x] = true := rfl
set_option maxHeartbeats 1000000 in
theorem intL_ok (n : Int) (k : Nat) (h1 : magN n < 128 * 256 ^ k) (h2 : 1 ≤ k → 128 * 256 ^ (k - 1) ≤ magN n) : tcB (intL n (k + 1)) = true ∧ tcV (intL n (k + 1)) = n := by
  have hp := Nat.pow_pos (n := k) (show 0 < 256 by decide)
  have hbe := intL_be n (k + 1)
  generalize hP : (256 ^ k : Nat) = P at *
  have e : ((256 ^ (k + 1) : Nat) : Int) = (P : Int) * 256 := by rw [Nat.pow_succ, Int.natCast_mul, hP]; rfl
  rw [e] at hbe
  have hd := Int.mul_ediv_add_emod n (P : Int)
  have hd3 := Int.emod_nonneg n (show (P : Int) ≠ 0 by omega)
  have hd4 := Int.emod_lt_of_pos n (show (0 : Int) < (P : Int) by omega)
  have hq : (0 ≤ n → 0 ≤ n / (P : Int) ∧ n / (P : Int) < 128) ∧ (n < 0 → -128 ≤ n / (P : Int) ∧ n / (P : Int) ≤ -1) := by
    unfold magN at h1
    constructor
    · intro h0
      rw [if_pos h0] at h1
      refine ⟨Int.ediv_nonneg h0 (by omega), Int.ediv_lt_of_lt_mul (by omega) (by omega)⟩
    · intro h0
      rw [if_neg (by omega)] at h1
      refine ⟨Int.le_ediv_of_mul_le (by omega) (by omega), ?_⟩
      have := Int.ediv_lt_of_lt_mul (a := n) (b := 0) (c := (P : Int)) (by omega) (by omega)
      omega
  have hh : (gb (intL n (k + 1)) 0).toNat = ((n / (P : Int)) % 256).toNat := by
    have e0 : gb (intL n (k + 1)) 0 = BitVec.ofNat 8 ((n / (P : Int)) % 256).toNat := by rw [intL, hP]; rfl
    rw [e0, byt_nat]
  constructor
  · match k, hP with
    | 0, _ =>
      unfold intL intL
      exact tcB_one _
    | j + 1, hP =>
      have hpj := Nat.pow_pos (n := j) (show 0 < 256 by decide)
      have h2' := h2 (by omega)
      rw [Nat.add_sub_cancel] at h2'
      rw [Nat.pow_succ] at hP
      unfold intL intL
      rw [Nat.pow_succ, hP]
      unfold tcB
      generalize hR : (256 ^ j : Nat) = R at *
      have hdd : n / (P : Int) = n / (R : Int) / 256 := by
        rw [← hP, Int.natCast_mul, Int.ediv_ediv_of_nonneg (by omega)]
        rfl
      rw [hdd] at hq ⊢
      have hr := Int.mul_ediv_add_emod n (R : Int)
      have hr3 := Int.emod_nonneg n (show (R : Int) ≠ 0 by omega)
      have hr4 := Int.emod_lt_of_pos n (show (0 : Int) < (R : Int) by omega)
      have hq2 : (0 ≤ n → 128 ≤ n / (R : Int)) ∧ (n < 0 → n / (R : Int) < -128) := by
        unfold magN at h2'
        constructor
        · intro h0
          rw [if_pos h0] at h2'
          exact Int.le_ediv_of_mul_le (by omega) (by omega)
        · intro h0
          rw [if_neg (by omega)] at h2'
          exact Int.ediv_lt_of_lt_mul (by omega) (by omega)
      generalize n / (R : Int) = z at *
      have t1 := byt_nat (z / 256)
      have t2 := byt_nat z
      generalize BitVec.ofNat 8 (z / 256 % 256).toNat = x at *
      generalize BitVec.ofNat 8 (z % 256).toNat = y at *
      have n0 : ¬ (x = 0 ∧ y.toNat < 128) := by
        rintro ⟨hx, hy⟩
        rw [hx] at t1
        have : (0 : BitVec 8).toNat = 0 := rfl
        rcases Int.lt_or_le n 0 with hn | hn
        · have := hq.2 hn; have := hq2.2 hn; omega
        · have := hq.1 hn; have := hq2.1 hn; omega
      have n1 : ¬ (x = 255 ∧ 128 ≤ y.toNat) := by
        rintro ⟨hx, hy⟩
        rw [hx] at t1
        have : (255 : BitVec 8).toNat = 255 := rfl
        rcases Int.lt_or_le n 0 with hn | hn
        · have := hq.2 hn; have := hq2.2 hn; omega
        · have := hq.1 hn; have := hq2.1 hn; omega
      simp only [Bool.and_eq_true, Bool.not_eq_true', Bool.and_eq_false_iff, beq_eq_false_iff_ne, decide_eq_false_iff_not]
      constructor
      · by_cases hx : x = 0
        · exact .inr fun h => n0 ⟨hx, h⟩
        · exact .inl hx
      · by_cases hx : x = 255
        · exact .inr fun h => n1 ⟨hx, h⟩
        · exact .inl hx
  · unfold tcV
    rw [beF_eq, intL_len, e, hbe, hh]
    rcases Int.lt_or_le n 0 with hn | hn
    · have ha := hq.2 hn
      rw [if_pos (by omega)]
      have hb : 0 ≤ n + (P : Int) * 256 ∧ n + (P : Int) * 256 < (P : Int) * 256 := by
        unfold magN at h1
        rw [if_neg (by omega)] at h1
        omega
      have : n % ((P : Int) * 256) = n + (P : Int) * 256 := by
        rw [← Int.emod_eq_of_lt hb.1 hb.2, Int.add_emod_right]
      rw [this]
      omega
    · have ha := hq.1 hn
      rw [if_neg (by omega)]
      have : n % ((P : Int) * 256) = n := by
        unfold magN at h1
        rw [if_pos hn] at h1
        exact Int.emod_eq_of_lt hn (by omega)
      rw [this]
      omega
theorem bitLen_pow (x : Nat) (h : x < 2 ^ 64) : x < 2 ^ Lib.bitLen x ∧ (x ≠ 0 → 2 ^ (Lib.bitLen x - 1) ≤ x) := by
  induction x using Nat.strongRecOn with
  | ind x ih =>
    by_cases h0 : x = 0
    · subst h0
      exact ⟨Nat.pow_pos (by decide), fun h => absurd rfl h⟩
    · have h1 := Lib.bitLen_half x h0 h
      obtain ⟨i1, i2⟩ := ih (x / 2) (by omega) (by omega)
      rw [h1, Nat.pow_add, Nat.add_comm 1, Nat.add_sub_cancel]
      refine ⟨by omega, fun _ => ?_⟩
      by_cases h2 : x / 2 = 0
      · rw [h2]
        have : Lib.bitLen 0 = 0 := by unfold Lib.bitLen; exact Lib.bitLenAux_zero _
        rw [this]
        omega
      · have i3 := i2 h2
        have hb : 1 ≤ Lib.bitLen (x / 2) := by
          rcases Nat.eq_zero_or_pos (Lib.bitLen (x / 2)) with hz | hz
          · rw [hz] at i1; omega
          · exact hz
        obtain ⟨b, hb'⟩ : ∃ b, Lib.bitLen (x / 2) = b + 1 := ⟨Lib.bitLen (x / 2) - 1, by omega⟩
        rw [hb', Nat.add_sub_cancel] at i3
        rw [hb', Nat.pow_succ]
        omega
/-- how many bytes a number takes -/
def kN (m : Nat) : Nat := (Lib.bitLen m + 8) / 8
theorem kN_ok (m : Nat) (h : m < 9223372036854775808) : ∃ k, kN m = k + 1 ∧ k ≤ 7 ∧ Lib.bitLen m ≤ 63 ∧ m < 128 * 256 ^ k ∧ (1 ≤ k → 128 * 256 ^ (k - 1) ≤ m) := by
  obtain ⟨h1, h2⟩ := bitLen_pow m (by omega)
  have h3 := Lib.bitLen_le m 63 (by decide) (by omega)
  refine ⟨Lib.bitLen m / 8, by unfold kN; omega, by omega, h3, ?_, ?_⟩
  · have e : 128 * 256 ^ (Lib.bitLen m / 8) = 2 ^ (7 + 8 * (Lib.bitLen m / 8)) := by rw [Nat.pow_add, Nat.pow_mul]
    rw [e]
    exact Nat.lt_of_lt_of_le h1 (Nat.pow_le_pow_right (by decide) (by omega))
  · intro hk
    have e : 128 * 256 ^ (Lib.bitLen m / 8 - 1) = 2 ^ (7 + 8 * (Lib.bitLen m / 8 - 1)) := by rw [Nat.pow_add, Nat.pow_mul]
    rw [e]
    have hm : m ≠ 0 := by
      rintro rfl
      have : Lib.bitLen 0 = 0 := by unfold Lib.bitLen; exact Lib.bitLenAux_zero _
      omega
    exact Nat.le_trans (Nat.pow_le_pow_right (by decide) (by omega)) (h2 hm)
theorem intL_get (n : Int) (k j : Nat) (h : j < k) : gb (intL n k) j = BitVec.ofNat 8 ((n / ((256 ^ (k - 1 - j) : Nat) : Int)) % 256).toNat := by
  induction k generalizing j with
  | zero => omega
  | succ k ih =>
    cases j with
    | zero => rfl
    | succ j =>
      have : gb (intL n (k + 1)) (j + 1) = gb (intL n k) j := rfl
      rw [this, ih j (by omega), show k + 1 - 1 - (j + 1) = k - 1 - j by omega]
/-- the sign's bits over a number's -/
theorem sign_pos (n : Int) (h0 : 0 ≤ n) (h1 : n < 9223372036854775808) : n / 9223372036854775808 = 0 ∧ bits .xor .i64 n 0 = (magN n : Int) := by
  refine ⟨by omega, ?_⟩
  show IntKind.i64.wrap ((BitVec.ofInt 64 n ^^^ BitVec.ofInt 64 0).toNat : Int) = _
  have e : BitVec.ofInt 64 0 = BitVec.ofNat 64 0 := by decide
  rw [e, BitVec.xor_zero, BitVec.toNat_ofInt, IntKind.wrap_i64]
  unfold magN
  rw [if_pos h0]
  omega
theorem sign_neg (n : Int) (h0 : n < 0) (h1 : -9223372036854775808 ≤ n) : n / 9223372036854775808 = -1 ∧ bits .xor .i64 n (-1) = (magN n : Int) := by
  refine ⟨by omega, ?_⟩
  show IntKind.i64.wrap ((BitVec.ofInt 64 n ^^^ BitVec.ofInt 64 (-1)).toNat : Int) = _
  have e : BitVec.ofInt 64 (-1) = BitVec.allOnes 64 := by decide
  rw [e, BitVec.xor_allOnes, BitVec.toNat_not, BitVec.toNat_ofInt, IntKind.wrap_i64]
  unfold magN
  rw [if_neg (by omega)]
  omega
/-- a byte behind a number -/
theorem or_byte (n : Int) (x : BitVec 8) (h0 : -36028797018963968 ≤ n) (h1 : n < 36028797018963968) : bits .or .i64 (n * 256) (ub x) = n * 256 + ub x := by
  show IntKind.i64.wrap ((BitVec.ofInt 64 (n * 256) ||| BitVec.ofInt 64 (ub x)).toNat : Int) = _
  have hx := x.isLt
  unfold ub
  have e1 : (BitVec.ofInt 64 (n * 256)).toNat = 2 ^ 8 * (n % 72057594037927936).toNat := by
    rw [BitVec.toNat_ofInt]
    omega
  have e2 : (BitVec.ofInt 64 (x.toNat : Int)).toNat = x.toNat := by
    rw [BitVec.ofInt_natCast, BitVec.toNat_ofNat]
    omega
  rw [BitVec.toNat_or, e1, e2, ← Nat.two_pow_add_eq_or_of_lt (by omega), IntKind.wrap_i64]
  omega
end Go.Proofs.YtkdjhklnlnfhfaaGreatDoor
namespace Go.Proofs.YtkdjhklnlnfhfaaGreatDoor
open Go Go.RowKit
set_option maxRecDepth 4000

theorem code_neq0 {P : Program} (w : World) {u t : TypeId} {ms : Array (String × TypeId)} {i : TypeInfo} {k : IntKind} (x y : Int) (hu : P.underlying u = some (.interface ms)) (ht : P.underlying t = some (.int k)) (hi : P.info? t = some i) (hc : i.comparable = true) :
    (binOp .neq u (.iface t (.int k x)) (.iface t (.int k y))).run P w = .ok (.bool (!(x == y))) w := by
  simp only [binOp]
  simp [Op.equal, Op.maxDepth, code_eqIn w 9998 x y hu ht hi hc]
theorem code_neq (a b : Int) (w : World) : (binOp .neq 37 (.iface 42 (.int .i64 a)) (.iface 42 (.int .i64 b))).run Tryz.prog w = .ok (.bool (!(a == b))) w := by
  have hi : ((Tryz.prog.info? 42).map (·.comparable)) = some true := by kernel_rfl
  have hu : (match Tryz.prog.underlying 37 with | some (.interface _) => true | _ => false) = true := by kernel_rfl
  cases hq : Tryz.prog.info? 42 with
  | none => simp [hq] at hi
  | some i =>
    have hc : i.comparable = true := by simpa [hq] using hi
    cases hd : Tryz.prog.underlying 37 with
    | none => simp [hd] at hu
    | some d =>
      cases d with
      | interface ms => exact code_neq0 w a b hd Tryz.underlying42 hq hc
      | _ => simp [hd] at hu
end Go.Proofs.YtkdjhklnlnfhfaaGreatDoor
namespace Go.Proofs.YtkdjhklnlnfhfaaGreatDoor
open Go Go.RowKit
set_option maxRecDepth 4000

/-- a slice cut at its head -/
theorem Bs.cut {w : World} {A : Option Addr} {n c : Nat} {l : List (BitVec 8)} (h : Bs w A n c l) (k : Nat) (hk : k ≤ n) : ∃ A', (if c = k then A else A.map (·.add k)) = A' ∧ Bs w A' (n - k) (c - k) (l.drop k) := by
  have hl := h.len
  have hcap := h.cap
  refine ⟨_, rfl, by rw [List.length_drop, hl], by omega, fun e => ?_, fun hn => ?_⟩
  · have hA : A = none := by
      cases A with
      | none => rfl
      | some a => split at e <;> simp at e
    have := h.s.2.2.1 hA
    omega
  · obtain ⟨g, o, rfl, hc⟩ := h.s.2.2.2 (by omega)
    rw [if_neg (by omega)]
    have hadd : (⟨g, o, none⟩ : Addr).add k = ⟨g, o + k, none⟩ := by unfold Addr.add; split <;> simp_all
    refine ⟨g, o + k, by simp [hadd], fun j hj => ?_⟩
    rw [gb_drop, Nat.add_assoc]
    exact hc (k + j) (by omega)
theorem and128b (x : BitVec 8) : bits .and .u8 (ub x) 128 = if 128 ≤ x.toNat then 128 else 0 := by
  revert x
  refine all8 ?_
  decide +kernel
set_option maxHeartbeats 1000000 in
theorem belowZero_any {b : List (BitVec 8)} {A : Option Addr} {n c : Nat} {w : World} (h : Bs w A n c b) (hn : 0 < n) : Calls Tryz.prog 177 #[.slice A n c] w fun e w' => e = .returned (.bool (decide (128 ≤ (gb b 0).toNat))) ∧ w' = w := by
  obtain ⟨g, o, rfl, hc⟩ := h.s.2.2.2 hn
  have c0 := hc 0 hn
  rw [Nat.add_zero] at c0
  have h1 := and128b (gb b 0)
  have b1 : (0 : Int) < (n : Int) := by omega
  clear hc h
  generalize gb b 0 = x at *
  by_cases hx : 128 ≤ x.toNat
  · rw [if_pos hx] at h1
    rw [decide_eq_true hx]
    clear hx
    go_enter Tryz.func177, Tryz.ntmps177
    go_wp2
    go_ret
    exact ⟨rfl, rfl⟩
  · rw [if_neg hx] at h1
    rw [decide_eq_false hx]
    clear hx
    go_enter Tryz.func177, Tryz.ntmps177
    go_wp2
    go_ret
    exact ⟨rfl, rfl⟩
theorem tcB_cases (b : List (BitVec 8)) (h : 2 ≤ b.length) : (gb b 0 = 0 ∧ tcB b = decide (128 ≤ (gb b 1).toNat)) ∨ (gb b 0 = 255 ∧ tcB b = !decide (128 ≤ (gb b 1).toNat)) ∨ (gb b 0 ≠ 0 ∧ gb b 0 ≠ 255 ∧ tcB b = true) := by
  obtain ⟨x, y, r, rfl⟩ : ∃ x y r, b = x :: y :: r := by
    match b, h with
    | x :: y :: r, _ => exact ⟨x, y, r, rfl⟩
  have e0 : gb (x :: y :: r) 0 = x := rfl
  have e1 : gb (x :: y :: r) 1 = y := rfl
  rw [e0, e1]
  unfold tcB
  by_cases h0 : x = 0
  · subst h0
    refine .inl ⟨rfl, ?_⟩
    by_cases h1 : 128 ≤ y.toNat
    · simp [h1]
    · simp [h1]; omega
  · by_cases h2 : x = 255
    · subst h2
      refine .inr (.inl ⟨rfl, ?_⟩)
      by_cases h1 : 128 ≤ y.toNat
      · simp [h1]
      · simp [h1]
    · refine .inr (.inr ⟨h0, h2, ?_⟩)
      show (!(x == 0 && decide (y.toNat < 128)) && !(x == 255 && decide (128 ≤ y.toNat))) = true
      rw [beq_eq_false_iff_ne.2 h0, beq_eq_false_iff_ne.2 h2]
      rfl
theorem ub_neq {x k : BitVec 8} (h : x ≠ k) (z : Int) (hz : ub k = z) : (ub x == z) = false ∧ ¬ ub x = z := by
  have e : ¬ ub x = z := fun e => h (by rw [← hz] at e; unfold ub at e; exact BitVec.eq_of_toNat_eq (by omega))
  exact ⟨beq_eq_false_iff_ne.2 e, e⟩
set_option maxHeartbeats 1000000 in
theorem isNumber_any {b : List (BitVec 8)} {A : Option Addr} {n c : Nat} {w : World} (h : Bs w A n c b) : Calls Tryz.prog 197 #[.slice A n c] w fun e w' => e = .returned (.bool (tcB b)) ∧ w' = w := by
  have hl := h.len
  by_cases h2 : n < 2
  · have b1 : decide ((n : Int) < 2) = true := decide_eq_true (by omega)
    have e : tcB b = decide ((n : Int) = 1) := by
      match b, hl with
      | [], hl => rw [decide_eq_false (by simp at hl; omega)]; rfl
      | [x], hl => rw [decide_eq_true (by simp at hl; omega)]; rfl
      | _ :: _ :: _, hl => simp at hl; omega
    rw [e]
    clear h hl e h2
    go_enter Tryz.func197, Tryz.ntmps197
    go_wp2
    go_ret
    exact ⟨by first | rfl | (congr 2; rw [Bool.eq_iff_iff]; simp), rfl⟩
  · have b1 : decide ((n : Int) < 2) = false := decide_eq_false (by omega)
    obtain ⟨A', hA', hD⟩ := h.cut 1 (by omega)
    have hcut := run_from (P := Tryz.prog) A n c 39 5 Tryz.underlying39 szB 1 1 rfl (by omega)
    rw [hA'] at hcut
    have hg1 : gb (b.drop 1) 0 = gb b 1 := gb_drop b 1 0
    have hz := belowZero_any hD (by omega)
    rw [hg1] at hz
    obtain ⟨g, o, rfl, hc⟩ := h.s.2.2.2 (by omega)
    have c0 := hc 0 (by omega)
    rw [Nat.add_zero] at c0
    have b2 : (0 : Int) < (n : Int) := by omega
    have hk := tcB_cases b (by omega)
    clear hc hD hA' h hl hg1 h2
    generalize tcB b = R at *
    generalize gb b 1 = y at *
    generalize gb b 0 = x at *
    rcases hk with ⟨rfl, rfl⟩ | ⟨rfl, rfl⟩ | ⟨h0, h1, rfl⟩
    · have c0' : w.cell? ⟨g, o, none⟩ = some (.int .u8 0) := c0
      clear c0
      go_enter Tryz.func197, Tryz.ntmps197
      go_wp2_with (go_at_call 177; refine hz.mono ?_; rintro e w1 ⟨rfl, rfl⟩)
      go_ret
      exact ⟨rfl, rfl⟩
    · have c0' : w.cell? ⟨g, o, none⟩ = some (.int .u8 255) := c0
      clear c0
      go_enter Tryz.func197, Tryz.ntmps197
      go_wp2_with (go_at_call 177; refine hz.mono ?_; rintro e w1 ⟨rfl, rfl⟩)
      go_ret
      exact ⟨rfl, rfl⟩
    · have e1 := (ub_neq h0 0 rfl).1
      have e2 := (ub_neq h1 255 rfl).1
      clear h0 h1
      go_enter Tryz.func197, Tryz.ntmps197
      go_wp2_with (go_at_call 177; refine hz.mono ?_; rintro e w1 ⟨rfl, rfl⟩)
      go_ret
      exact ⟨rfl, rfl⟩
/-- the number that the first bytes of a body make -/
def tcP (b : List (BitVec 8)) (j : Nat) : Int := beF (if 128 ≤ (gb b 0).toNat then -1 else 0) (b.take j)
theorem tcP_all (b : List (BitVec 8)) : tcP b b.length = tcV b := by unfold tcP tcV; rw [List.take_length]
theorem tcP_zero (b : List (BitVec 8)) : tcP b 0 = if 128 ≤ (gb b 0).toNat then -1 else 0 := rfl
theorem take_gb (l : List (BitVec 8)) (i : Nat) (h : i < l.length) : l.take (i + 1) = l.take i ++ [gb l i] := by
  rw [List.take_succ_eq_append_getElem h]
  simp [gb, h]
theorem tcP_succ (b : List (BitVec 8)) (j : Nat) (h : j < b.length) : tcP b (j + 1) = tcP b j * 256 + ub (gb b j) := by
  unfold tcP
  rw [take_gb b j h]
  unfold beF
  rw [List.foldl_append]
  rfl
theorem tcP_range (b : List (BitVec 8)) (j : Nat) (hj : j < b.length) (h8 : j ≤ 7) : -36028797018963968 ≤ tcP b j ∧ tcP b j < 36028797018963968 := by
  cases j with
  | zero => rw [tcP_zero]; split <;> omega
  | succ j =>
    have e : tcP b (j + 1) = tcV (b.take (j + 1)) := by
      unfold tcP tcV
      rw [gb_take _ _ _ (by omega)]
    have hlen : (b.take (j + 1)).length = j + 1 := by rw [List.length_take]; omega
    have hr := tcV_range (b.take (j + 1)) (by intro e; rw [e] at hlen; simp at hlen)
    rw [hlen] at hr
    have hm := tcH_mono (j := j + 1) (k := 7) (by omega)
    have h7 : tcH 7 = 36028797018963968 := by decide
    rw [e]
    omega
theorem int8_of (x : BitVec 8) : IntKind.i8.wrap (ub x) = (if 128 ≤ x.toNat then -1 else 0) * 256 + ub x := by
  revert x
  refine all8 ?_
  decide +kernel
set_option maxHeartbeats 2000000 in
theorem ReadInt_any {b : List (BitVec 8)} {A : Option Addr} {n c : Nat} {w : World} (h : Bs w A n c b) (v : Int) (er : Value) (hv : (tcB b = false ∧ v = 0 ∧ er = err 2) ∨ (tcB b = true ∧ 8 < n ∧ v = 0 ∧ er = err 4) ∨ (tcB b = true ∧ n ≤ 8 ∧ v = tcV b ∧ er = .nilIface)) :
    Calls Tryz.prog 266 #[.slice A n c] w fun e w' => e = .returned (.tuple #[.int .i64 v, er]) ∧ Ext w w' := by
  have hl := h.len
  have hN := isNumber_any h
  rcases hv with ⟨h1, rfl, rfl⟩ | ⟨h1, h2, rfl, rfl⟩ | ⟨h1, h2, rfl, rfl⟩
  · rw [h1] at hN
    clear h h1 hl
    go_enter Tryz.func266, Tryz.ntmps266
    go_wp2_with (go_at_call 197; refine hN.mono ?_; rintro e w1 ⟨rfl, rfl⟩)
    go_ret2
    exact ⟨rfl, (by (repeat (first | assumption | exact Ext.refl _ | apply Ext.drew | apply Ext.drewN | apply Ext.alloc | refine Ext.trans ?_ (by assumption))); first | done | fail)⟩
  · rw [h1] at hN
    have b1 : decide ((8 : Int) < (n : Int)) = true := decide_eq_true (by omega)
    clear h h1 hl h2
    go_enter Tryz.func266, Tryz.ntmps266
    go_wp2_with (go_at_call 197; refine hN.mono ?_; rintro e w1 ⟨rfl, rfl⟩)
    go_ret2
    exact ⟨rfl, (by (repeat (first | assumption | exact Ext.refl _ | apply Ext.drew | apply Ext.drewN | apply Ext.alloc | refine Ext.trans ?_ (by assumption))); first | done | fail)⟩
  · rw [h1] at hN
    have hn : 0 < n := by
      rcases Nat.eq_zero_or_pos n with h0 | h0
      · rw [List.eq_nil_of_length_eq_zero (hl.trans h0)] at h1
        exact absurd h1 (by decide)
      · exact h0
    have b1 : decide ((8 : Int) < (n : Int)) = false := decide_eq_false (by omega)
    have b2 : (0 : Int) < (n : Int) := by omega
    obtain ⟨A', hA', hD⟩ := h.cut 1 (by omega)
    have hcut := run_from (P := Tryz.prog) A n c 39 5 Tryz.underlying39 szB 1 1 rfl (by omega)
    rw [hA'] at hcut
    obtain ⟨g, o, rfl, hc⟩ := h.s.2.2.2 (by omega)
    have c0 := hc 0 (by omega)
    rw [Nat.add_zero] at c0
    have hb0 := int8_of (gb b 0)
    rw [← tcP_zero, ← tcP_succ b 0 (by omega), Nat.zero_add] at hb0
    have hr1 : IntKind.i64.wrap (tcP b 1) = tcP b 1 := by
      rw [← hb0, IntKind.wrap_i64, int8_of]
      have := (gb b 0).isLt
      unfold ub
      split <;> omega
    have hstep : ∀ j, j < n → 1 ≤ j → IntKind.i64.wrap (tcP b j * 256) = tcP b j * 256 ∧ bits .or .i64 (tcP b j * 256) (ub (gb b j)) = tcP b (j + 1) ∧ IntKind.i64.wrap (tcP b (j + 1)) = tcP b (j + 1) ∧ IntKind.i64.wrap (ub (gb b j)) = ub (gb b j) := by
      intro j hj h1
      have hr := tcP_range b j (by omega) (by omega)
      have hx := (gb b j).isLt
      rw [tcP_succ b j (by omega)]
      refine ⟨by rw [IntKind.wrap_i64]; omega, or_byte _ _ hr.1 hr.2, ?_, ?_⟩
      · unfold ub
        rw [IntKind.wrap_i64]
        omega
      · unfold ub
        rw [IntKind.wrap_i64]
        omega
    have HS := Kp.mk hstep
    have HA := Kp.mk (tcP_all b)
    have HD := Kp.mk hD
    have HL := Kp.mk hl
    clear hstep hD hc h hA' h1 hl
    go_enter Tryz.func266, Tryz.ntmps266
    go_wp2_with (go_at_call 197; refine hN.mono ?_; rintro e w1 ⟨rfl, rfl⟩)
    clear c0 hN hcut hb0 hr1
    go_loopw [4, 23] (fun v i wr => ∃ j : Nat, j < n ∧ i = .int .i64 (j : Int) ∧ v = .int .i64 (tcP b (j + 1)) ∧ Ext w1 wr) (fun _ i _ => n - (intOf i).toNat)
    case atStart => exact ⟨0, hn, rfl, rfl, (by (repeat (first | assumption | exact Ext.refl _ | apply Ext.drew | apply Ext.drewN | apply Ext.alloc | refine Ext.trans ?_ (by assumption))); first | done | fail)⟩
    case round =>
      obtain ⟨j, hj, rfl, rfl, hx⟩ := hrel
      have b3 : ((j : Int) < ((n - 1 : Nat) : Int)) ↔ j + 1 < n := by omega
      by_cases hlt : j + 1 < n
      · have b4 : (j : Int) < ((n - 1 : Nat) : Int) := b3.2 hlt
        obtain ⟨s1, s2, s3, s4⟩ := HS.out (j + 1) hlt (by omega)
        obtain ⟨g', o', hg, hc⟩ := (HD.out.ext hx).s.2.2.2 (by omega)
        have c1 := hc j (by omega)
        rw [gb_drop, Nat.add_comm 1 j] at c1
        clear hc b3
        subst hg
        have HX := Kp.mk hx
        clear hx
        go_wp2_with fail
        go_roundw
        case rel => exact ⟨j + 1, hlt, by go_num, rfl, HX.out.trans (by (repeat (first | assumption | exact Ext.refl _ | apply Ext.drew | apply Ext.drewN | apply Ext.alloc | refine Ext.trans ?_ (by assumption))); first | done | fail)⟩
        case measure => simp [intOf]; omega
      · have b4 : ¬ (j : Int) < ((n - 1 : Nat) : Int) := fun e => hlt (b3.1 e)
        have b5 : decide ((j : Int) < ((n - 1 : Nat) : Int)) = false := decide_eq_false b4
        have e : tcP b (j + 1) = tcV b := by rw [← HA.out, HL.out, show j + 1 = n by omega]
        rw [e]
        clear b3 e
        go_wp2_with fail
        go_ret2
        exact ⟨rfl, hx.trans (by (repeat (first | assumption | exact Ext.refl _ | apply Ext.drew | apply Ext.drewN | apply Ext.alloc | refine Ext.trans ?_ (by assumption))); first | done | fail)⟩
end Go.Proofs.YtkdjhklnlnfhfaaGreatDoor
namespace Go.Proofs.YtkdjhklnlnfhfaaGreatDoor
open Go Go.RowKit
set_option maxRecDepth 4000

abbrev bit : TypeId := 97
/-- may bits be? -/
def bitsB (l : List (BitVec 8)) (u : Int) : Bool := if l = [] then decide (u = 0) else decide (0 ≤ u) && (decide (u ≤ 7) && decide ((gb l (l.length - 1)).toNat % 2 ^ u.toNat = 0))
theorem and_low (x : BitVec 8) : bits .and .u8 (ub x) 0 = ((x.toNat % 1 : Nat) : Int) ∧ bits .and .u8 (ub x) 1 = ((x.toNat % 2 : Nat) : Int) ∧ bits .and .u8 (ub x) 3 = ((x.toNat % 4 : Nat) : Int) ∧ bits .and .u8 (ub x) 7 = ((x.toNat % 8 : Nat) : Int) ∧
    bits .and .u8 (ub x) 15 = ((x.toNat % 16 : Nat) : Int) ∧ bits .and .u8 (ub x) 31 = ((x.toNat % 32 : Nat) : Int) ∧ bits .and .u8 (ub x) 63 = ((x.toNat % 64 : Nat) : Int) ∧ bits .and .u8 (ub x) 127 = ((x.toNat % 128 : Nat) : Int) := by
  revert x
  refine all8 ?_
  decide +kernel
theorem eq0_dec (q : Nat) : ((q : Int) == 0) = decide (q = 0) := by rw [Bool.eq_iff_iff]; simp
set_option maxHeartbeats 4000000 in
theorem areBits_any {l : List (BitVec 8)} {A : Option Addr} {n c : Nat} {w : World} (h : Bs w A n c l) (hnm : n ≤ 140737488355328) (u : Int) : Calls Tryz.prog 151 #[.agg #[.slice A n c, .int .i64 u]] w fun e w' => e = .returned (.bool (bitsB l u)) ∧ Ext w w' := by
  have hl := h.len
  by_cases h0 : u < 0
  · have e : bitsB l u = false := by
      unfold bitsB
      rw [decide_eq_false (p := u = 0) (by omega), decide_eq_false (p := 0 ≤ u) (by omega)]
      split <;> rfl
    rw [e]
    have b1 : decide (u < 0) = true := decide_eq_true h0
    clear h hl e h0
    go_enter Tryz.func151, Tryz.ntmps151
    go_wp2_with fail
    go_ret
    exact ⟨rfl, (by (repeat (first | assumption | exact Ext.refl _ | apply Ext.drew | apply Ext.drewN | apply Ext.alloc | refine Ext.trans ?_ (by assumption))); first | done | fail)⟩
  by_cases h7 : 7 < u
  · have e : bitsB l u = false := by
      unfold bitsB
      rw [decide_eq_false (p := u = 0) (by omega), decide_eq_false (p := u ≤ 7) (by omega), Bool.false_and, Bool.and_false]
      split <;> rfl
    rw [e]
    have b1 : decide (u < 0) = false := decide_eq_false h0
    have b2 : decide (7 < u) = true := decide_eq_true h7
    clear h hl e h0 h7
    go_enter Tryz.func151, Tryz.ntmps151
    go_wp2_with fail
    go_ret
    exact ⟨rfl, (by (repeat (first | assumption | exact Ext.refl _ | apply Ext.drew | apply Ext.drewN | apply Ext.alloc | refine Ext.trans ?_ (by assumption))); first | done | fail)⟩
  have b1 : decide (u < 0) = false := decide_eq_false h0
  have b2 : decide (7 < u) = false := decide_eq_false h7
  by_cases hn : n = 0
  · subst hn
    have e : bitsB l u = (u == 0) := by
      unfold bitsB
      rw [if_pos (List.eq_nil_of_length_eq_zero hl), Bool.eq_iff_iff]
      simp
    rw [e]
    clear h hl e h0 h7
    go_enter Tryz.func151, Tryz.ntmps151
    go_wp2_with fail
    go_ret
    exact ⟨rfl, (by (repeat (first | assumption | exact Ext.refl _ | apply Ext.drew | apply Ext.drewN | apply Ext.alloc | refine Ext.trans ?_ (by assumption))); first | done | fail)⟩
  obtain ⟨g, o, rfl, hc⟩ := h.s.2.2.2 (by omega)
  obtain ⟨k, hk⟩ : ∃ k, k = n - 1 := ⟨_, rfl⟩
  have c1 : ∀ w', Ext w w' → w'.cell? ⟨g, o + k, none⟩ = some (.int .u8 (ub (gb l k))) := fun w' hx => by
    obtain ⟨g', o', e, hc'⟩ := (h.ext hx).s.2.2.2 (by omega)
    cases e
    exact hc' k (by omega)
  have hne : l ≠ [] := fun e => by rw [e] at hl; exact hn hl.symm
  have e : bitsB l u = decide ((gb l k).toNat % 2 ^ u.toNat = 0) := by
    unfold bitsB
    rw [if_neg hne, decide_eq_true (p := 0 ≤ u) (by omega), decide_eq_true (p := u ≤ 7) (by omega), hl, ← hk, Bool.true_and, Bool.true_and]
  rw [e]
  have z1 : ((n : Int) == 0) = false := beq_eq_false_iff_ne.2 (by omega)
  have z2 : ¬ n = 0 := hn
  have s1 : IntKind.i64.wrap ((n : Int) - 1) = (k : Int) := by rw [IntKind.wrap_i64]; omega
  have d1 : (k : Int) < (n : Int) := by omega
  have d2 : k < n := by omega
  obtain ⟨a0, a1, a2, a3, a4, a5, a6, a7⟩ := and_low (gb l k)
  clear h hl e hc hne hk hn
  generalize gb l k = x at *
  rcases (by omega : u = 0 ∨ u = 1 ∨ u = 2 ∨ u = 3 ∨ u = 4 ∨ u = 5 ∨ u = 6 ∨ u = 7) with rfl | rfl | rfl | rfl | rfl | rfl | rfl | rfl
  all_goals
    first
      | rw [show x.toNat % 2 ^ (0 : Int).toNat = x.toNat % 1 from rfl, ← eq0_dec, ← a0]
      | rw [show x.toNat % 2 ^ (1 : Int).toNat = x.toNat % 2 from rfl, ← eq0_dec, ← a1]
      | rw [show x.toNat % 2 ^ (2 : Int).toNat = x.toNat % 4 from rfl, ← eq0_dec, ← a2]
      | rw [show x.toNat % 2 ^ (3 : Int).toNat = x.toNat % 8 from rfl, ← eq0_dec, ← a3]
      | rw [show x.toNat % 2 ^ (4 : Int).toNat = x.toNat % 16 from rfl, ← eq0_dec, ← a4]
      | rw [show x.toNat % 2 ^ (5 : Int).toNat = x.toNat % 32 from rfl, ← eq0_dec, ← a5]
      | rw [show x.toNat % 2 ^ (6 : Int).toNat = x.toNat % 64 from rfl, ← eq0_dec, ← a6]
      | rw [show x.toNat % 2 ^ (7 : Int).toNat = x.toNat % 128 from rfl, ← eq0_dec, ← a7]
    clear a0 a1 a2 a3 a4 a5 a6 a7 h0 h7
    go_enter Tryz.func151, Tryz.ntmps151
    go_wp2_with fail
    go_quiet (fail)
    go_wp2_with fail
    go_ret
    exact ⟨rfl, (by (repeat (first | assumption | exact Ext.refl _ | apply Ext.drew | apply Ext.drewN | apply Ext.alloc | refine Ext.trans ?_ (by assumption))); first | done | fail)⟩
end Go.Proofs.YtkdjhklnlnfhfaaGreatDoor
