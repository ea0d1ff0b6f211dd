/-
  A number's body built byte by byte, plain; what the code asks of 64 bits.
  Errors that are codes, asked whether they differ.
  prim: belowZero, isNumber, ReadInt; the reference's Number, Value.
-/
import Derived.Test.YthookcnkmlmgcaaDoorM7
import Derived.Lib.ItoaNum
import Derived.Test.YthookcnkmlmgcaaDoorM5
namespace Go.Proofs.YthookcnkmlmgcaaDoor
open Go Go.RowKit
set_option maxRecDepth 4000

/-- the k lowest bytes of a number, the highest first -/
def intL (n : Int) : Nat → List (BitVec 8)
  | 0 => []
  | k + 1 => BitVec.ofNat 8 ((n / ((256 ^ k : Nat) : Int)) % 256).toNat :: intL n k
theorem intL_len (n : Int) (k : Nat) : (intL n k).length = k := by induction k with
  | zero => rfl
  | succ k ih => rw [intL, List.length_cons, ih]
theorem byt_nat (z : Int) : (BitVec.ofNat 8 (z % 256).toNat).toNat = (z % 256).toNat := by
  rw [BitVec.toNat_ofNat]
  omega
theorem intL_be (n : Int) (k : Nat) : ((beV (intL n k) : Nat) : Int) = n % ((256 ^ k : Nat) : Int) := by
  induction k with
  | zero => simp [intL, beV]
  | succ k ih =>
    rw [intL, beV_cons, byt_nat, intL_len, Int.natCast_add, ih, Int.natCast_mul]
    have hp : 0 < ((256 ^ k : Nat) : Int) := by have := Nat.pow_pos (n := k) (show 0 < 256 by decide); omega
    generalize hP : ((256 ^ k : Nat) : Int) = P at *
    have e : ((256 ^ (k + 1) : Nat) : Int) = P * 256 := by rw [Nat.pow_succ, Int.natCast_mul, hP]; rfl
    rw [e]
    have h1 := Int.mul_ediv_add_emod n P
    have h2 := Int.mul_ediv_add_emod (n / P) 256
    have h3 := Int.emod_nonneg n (show P ≠ 0 by omega)
    have h4 := Int.emod_lt_of_pos n hp
    have h5 := Int.emod_nonneg (n / P) (show (256 : Int) ≠ 0 by decide)
    have h6 := Int.emod_lt_of_pos (n / P) (show (0 : Int) < 256 by decide)
    rw [Int.toNat_of_nonneg h5]
    have key : n = P * 256 * (n / P / 256) + ((n / P % 256) * P + n % P) := by
      have : P * (n / P) = P * (256 * (n / P / 256) + n / P % 256) := by rw [h2]
      rw [Int.mul_add, ← Int.mul_assoc] at this
      rw [Int.mul_comm (n / P % 256) P]
      omega
    have hb : 0 ≤ (n / P % 256) * P + n % P ∧ (n / P % 256) * P + n % P < P * 256 := by
      have a1 : 0 ≤ (n / P % 256) * P := Int.mul_nonneg h5 (by omega)
      have a2 : (n / P % 256) * P ≤ 255 * P := Int.mul_le_mul_of_nonneg_right (by omega) (by omega)
      omega
    generalize (n / P % 256) * P + n % P = r at *
    generalize n / P / 256 = q at *
    rw [key, Int.add_comm, Int.add_mul_emod_self_left, Int.emod_eq_of_lt hb.1 hb.2]
/-- the greater one of a number and what it is with all bits turned -/
def magN (n : Int) : Nat := if 0 ≤ n then n.toNat else (-n - 1).toNat
theorem tcB_one (x : BitVec 8) : tcB [x] = true := rfl
set_option maxHeartbeats 1000000 in
theorem intL_ok (n : Int) (k : Nat) (h1 : magN n < 128 * 256 ^ k) (h2 : 1 ≤ k → 128 * 256 ^ (k - 1) ≤ magN n) : tcB (intL n (k + 1)) = true ∧ tcV (intL n (k + 1)) = n := by
  have hp := Nat.pow_pos (n := k) (show 0 < 256 by decide)
  have hbe := intL_be n (k + 1)
  generalize hP : (256 ^ k : Nat) = P at *
  have e : ((256 ^ (k + 1) : Nat) : Int) = (P : Int) * 256 := by rw [Nat.pow_succ, Int.natCast_mul, hP]; rfl
  rw [e] at hbe
  have hd := Int.mul_ediv_add_emod n (P : Int)
  have hd3 := Int.emod_nonneg n (show (P : Int) ≠ 0 by omega)
  have hd4 := Int.emod_lt_of_pos n (show (0 : Int) < (P : Int) by omega)
  have hq : (0 ≤ n → 0 ≤ n / (P : Int) ∧ n / (P : Int) < 128) ∧ (n < 0 → -128 ≤ n / (P : Int) ∧ n / (P : Int) ≤ -1) := by
    unfold magN at h1
    constructor
    · intro h0
      rw [if_pos h0] at h1
      refine ⟨Int.ediv_nonneg h0 (by omega), Int.ediv_lt_of_lt_mul (by omega) (by omega)⟩
    · intro h0
      rw [if_neg (by omega)] at h1
      refine ⟨Int.le_ediv_of_mul_le (by omega) (by omega), ?_⟩
      have := Int.ediv_lt_of_lt_mul (a := n) (b := 0) (c := (P : Int)) (by omega) (by omega)
      omega
  have hh : (gb (intL n (k + 1)) 0).toNat = ((n / (P : Int)) % 256).toNat := by
    have e0 : gb (intL n (k + 1)) 0 = BitVec.ofNat 8 ((n / (P : Int)) % 256).toNat := by rw [intL, hP]; rfl
    rw [e0, byt_nat]
  constructor
  · match k, hP with
    | 0, _ =>
      unfold intL intL
      exact tcB_one _
    | j + 1, hP =>
      have hpj := Nat.pow_pos (n := j) (show 0 < 256 by decide)
      have h2' := h2 (by omega)
      rw [Nat.add_sub_cancel] at h2'
      rw [Nat.pow_succ] at hP
      unfold intL intL
      rw [Nat.pow_succ, hP]
      unfold tcB
      generalize hR : (256 ^ j : Nat) = R at *
      have hdd : n / (P : Int) = n / (R : Int) / 256 := by
        rw [← hP, Int.natCast_mul, Int.ediv_ediv_of_nonneg (by omega)]
        rfl
      rw [hdd] at hq ⊢
      have hr := Int.mul_ediv_add_emod n (R : Int)
      have hr3 := Int.emod_nonneg n (show (R : Int) ≠ 0 by omega)
      have hr4 := Int.emod_lt_of_pos n (show (0 : Int) < (R : Int) by omega)
      have hq2 : (0 ≤ n → 128 ≤ n / (R : Int)) ∧ (n < 0 → n / (R : Int) < -128) := by
        unfold magN at h2'
        constructor
        · intro h0
          rw [if_pos h0] at h2'
          exact Int.le_ediv_of_mul_le (by omega) (by omega)
        · intro h0
          rw [if_neg (by omega)] at h2'
          exact Int.ediv_lt_of_lt_mul (by omega) (by omega)
      generalize n / (R : Int) = z at *
      have t1 := byt_nat (z / 256)
      have t2 := byt_nat z
      generalize BitVec.ofNat 8 (z / 256 % 256).toNat = x at *
      generalize BitVec.ofNat 8 (z % 256).toNat = y at *
      have n0 : ¬ (x = 0 ∧ y.toNat < 128) := by
        rintro ⟨hx, hy⟩
        rw [hx] at t1
        have : (0 : BitVec 8).toNat = 0 := rfl
        rcases Int.lt_or_le n 0 with hn | hn
        · have := hq.2 hn; have := hq2.2 hn; omega
        · have := hq.1 hn; have := hq2.1 hn; omega
      have n1 : ¬ (x = 255 ∧ 128 ≤ y.toNat) := by
        rintro ⟨hx, hy⟩
        rw [hx] at t1
        have : (255 : BitVec 8).toNat = 255 := rfl
        rcases Int.lt_or_le n 0 with hn | hn
        · have := hq.2 hn; have := hq2.2 hn; omega
        · have := hq.1 hn; have := hq2.1 hn; omega
      simp only [Bool.and_eq_true, Bool.not_eq_true', Bool.and_eq_false_iff, beq_eq_false_iff_ne, decide_eq_false_iff_not]
      constructor
      · by_cases hx : x = 0
        · exact .inr fun h => n0 ⟨hx, h⟩
        · exact .inl hx
      · by_cases hx : x = 255
        · exact .inr fun h => n1 ⟨hx, h⟩
        · exact .inl hx
  · unfold tcV
    rw [beF_eq, intL_len, e, hbe, hh]
    rcases Int.lt_or_le n 0 with hn | hn
    · have ha := hq.2 hn
      rw [if_pos (by omega)]
      have hb : 0 ≤ n + (P : Int) * 256 ∧ n + (P : Int) * 256 < (P : Int) * 256 := by
        unfold magN at h1
        rw [if_neg (by omega)] at h1
        omega
      have : n % ((P : Int) * 256) = n + (P : Int) * 256 := by
        rw [← Int.emod_eq_of_lt hb.1 hb.2, Int.add_emod_right]
      rw [this]
      omega
    · have ha := hq.1 hn
      rw [if_neg (by omega)]
      have : n % ((P : Int) * 256) = n := by
        unfold magN at h1
        rw [if_pos hn] at h1
        exact Int.emod_eq_of_lt hn (by omega)
      rw [this]
      omega
theorem bitLen_pow (x : Nat) (h : x < 2 ^ 64) : x < 2 ^ Lib.bitLen x ∧ (x ≠ 0 → 2 ^ (Lib.bitLen x - 1) ≤ x) := by
  induction x using Nat.strongRecOn with
  | ind x ih =>
    by_cases h0 : x = 0
    · subst h0
      exact ⟨Nat.pow_pos (by decide), fun h => absurd rfl h⟩
    · have h1 := Lib.bitLen_half x h0 h
      obtain ⟨i1, i2⟩ := ih (x / 2) (by omega) (by omega)
      rw [h1, Nat.pow_add, Nat.add_comm 1, Nat.add_sub_cancel]
      refine ⟨by omega, fun _ => ?_⟩
      by_cases h2 : x / 2 = 0
      · rw [h2]
        have : Lib.bitLen 0 = 0 := by unfold Lib.bitLen; exact Lib.bitLenAux_zero _
        rw [this]
        omega
      · have i3 := i2 h2
        have hb : 1 ≤ Lib.bitLen (x / 2) := by
          rcases Nat.eq_zero_or_pos (Lib.bitLen (x / 2)) with hz | hz
          · rw [hz] at i1; omega
          · exact hz
        obtain ⟨b, hb'⟩ : ∃ b, Lib.bitLen (x / 2) = b + 1 := ⟨Lib.bitLen (x / 2) - 1, by omega⟩
        rw [hb', Nat.add_sub_cancel] at i3
        rw [hb', Nat.pow_succ]
        omega
/-- how many bytes a number takes -/
def kN (m : Nat) : Nat := (Lib.bitLen m + 8) / 8
theorem kN_ok (m : Nat) (h : m < 9223372036854775808) : ∃ k, kN m = k + 1 ∧ k ≤ 7 ∧ Lib.bitLen m ≤ 63 ∧ m < 128 * 256 ^ k ∧ (1 ≤ k → 128 * 256 ^ (k - 1) ≤ m) := by
  obtain ⟨h1, h2⟩ := bitLen_pow m (by omega)
  have h3 := Lib.bitLen_le m 63 (by decide) (by omega)
  refine ⟨Lib.bitLen m / 8, by unfold kN; omega, by omega, h3, ?_, ?_⟩
  · have e : 128 * 256 ^ (Lib.bitLen m / 8) = 2 ^ (7 + 8 * (Lib.bitLen m / 8)) := by rw [Nat.pow_add, Nat.pow_mul]
    rw [e]
    exact Nat.lt_of_lt_of_le h1 (Nat.pow_le_pow_right (by decide) (by omega))
  · intro hk
    have e : 128 * 256 ^ (Lib.bitLen m / 8 - 1) = 2 ^ (7 + 8 * (Lib.bitLen m / 8 - 1)) := by rw [Nat.pow_add, Nat.pow_mul]
    rw [e]
    have hm : m ≠ 0 := by
      rintro rfl
      have : Lib.bitLen 0 = 0 := by unfold Lib.bitLen; exact Lib.bitLenAux_zero _
      omega
    exact Nat.le_trans (Nat.pow_le_pow_right (by decide) (by omega)) (h2 hm)
theorem intL_get (n : Int) (k j : Nat) (h : j < k) : gb (intL n k) j = BitVec.ofNat 8 ((n / ((256 ^ (k - 1 - j) : Nat) : Int)) % 256).toNat := by
  induction k generalizing j with
  | zero => omega
  | succ k ih =>
    cases j with
    | zero => rfl
    | succ j =>
      have : gb (intL n (k + 1)) (j + 1) = gb (intL n k) j := rfl
      rw [this, ih j (by omega), show k + 1 - 1 - (j + 1) = k - 1 - j by omega]
/-- the sign's bits over a number's -/
theorem sign_pos (n : Int) (h0 : 0 ≤ n) (h1 : n < 9223372036854775808) : n / 9223372036854775808 = 0 ∧ bits .xor .i64 n 0 = (magN n : Int) := by
  refine ⟨by omega, ?_⟩
  show IntKind.i64.wrap ((BitVec.ofInt 64 n ^^^ BitVec.ofInt 64 0).toNat : Int) = _
  have e : BitVec.ofInt 64 0 = BitVec.ofNat 64 0 := by decide
  rw [e, BitVec.xor_zero, BitVec.toNat_ofInt, IntKind.wrap_i64]
  unfold magN
  rw [if_pos h0]
  omega
theorem sign_neg (n : Int) (h0 : n < 0) (h1 : -9223372036854775808 ≤ n) : n / 9223372036854775808 = -1 ∧ bits .xor .i64 n (-1) = (magN n : Int) := by
  refine ⟨by omega, ?_⟩
  show IntKind.i64.wrap ((BitVec.ofInt 64 n ^^^ BitVec.ofInt 64 (-1)).toNat : Int) = _
  have e : BitVec.ofInt 64 (-1) = BitVec.allOnes 64 := by decide
  rw [e, BitVec.xor_allOnes, BitVec.toNat_not, BitVec.toNat_ofInt, IntKind.wrap_i64]
  unfold magN
  rw [if_neg (by omega)]
  omega
/-- a byte behind a number -/
theorem or_byte (n : Int) (x : BitVec 8) (h0 : -36028797018963968 ≤ n) (h1 : n < 36028797018963968) : bits .or .i64 (n * 256) (ub x) = n * 256 + ub x := by
  show IntKind.i64.wrap ((BitVec.ofInt 64 (n * 256) ||| BitVec.ofInt 64 (ub x)).toNat : Int) = _
  have hx := x.isLt
  unfold ub
  have e1 : (BitVec.ofInt 64 (n * 256)).toNat = 2 ^ 8 * (n % 72057594037927936).toNat := by
    rw [BitVec.toNat_ofInt]
    omega
  have e2 : (BitVec.ofInt 64 (x.toNat : Int)).toNat = x.toNat := by
    rw [BitVec.ofInt_natCast, BitVec.toNat_ofNat]
    omega
  rw [BitVec.toNat_or, e1, e2, ← Nat.two_pow_add_eq_or_of_lt (by omega), IntKind.wrap_i64]
  omega
end Go.Proofs.YthookcnkmlmgcaaDoor
namespace Go.Proofs.YthookcnkmlmgcaaDoor
open Go Go.RowKit
set_option maxRecDepth 4000

theorem code_neq0 {P : Program} (w : World) {u t : TypeId} {ms : Array (String × TypeId)} {i : TypeInfo} {k : IntKind} (x y : Int) (hu : P.underlying u = some (.interface ms)) (ht : P.underlying t = some (.int k)) (hi : P.info? t = some i) (hc : i.comparable = true) :
    (binOp .neq u (.iface t (.int k x)) (.iface t (.int k y))).run P w = .ok (.bool (!(x == y))) w := by
  simp only [binOp]
  simp [Op.equal, Op.maxDepth, code_eqIn w 9998 x y hu ht hi hc]
theorem code_neq (a b : Int) (w : World) : (binOp .neq 27 (.iface 34 (.int .i64 a)) (.iface 34 (.int .i64 b))).run Tryd.prog w = .ok (.bool (!(a == b))) w := by
  have hi : ((Tryd.prog.info? 34).map (·.comparable)) = some true := by kernel_rfl
  have hu : (match Tryd.prog.underlying 27 with | some (.interface _) => true | _ => false) = true := by kernel_rfl
  cases hq : Tryd.prog.info? 34 with
  | none => simp [hq] at hi
  | some i =>
    have hc : i.comparable = true := by simpa [hq] using hi
    cases hd : Tryd.prog.underlying 27 with
    | none => simp [hd] at hu
    | some d =>
      cases d with
      | interface ms => exact code_neq0 w a b hd Tryd.underlying34 hq hc
      | _ => simp [hd] at hu
end Go.Proofs.YthookcnkmlmgcaaDoor
namespace Go.Proofs.YthookcnkmlmgcaaDoor
open Go Go.RowKit
set_option maxRecDepth 4000

/-- a slice cut at its head -/
theorem Bs.cut {w : World} {A : Option Addr} {n c : Nat} {l : List (BitVec 8)} (h : Bs w A n c l) (k : Nat) (hk : k ≤ n) : ∃ A', (if c = k then A else A.map (·.add k)) = A' ∧ Bs w A' (n - k) (c - k) (l.drop k) := by
  have hl := h.len
  have hcap := h.cap
  refine ⟨_, rfl, by rw [List.length_drop, hl], by omega, fun e => ?_, fun hn => ?_⟩
  · have hA : A = none := by
      cases A with
      | none => rfl
      | some a => split at e <;> simp at e
    have := h.s.2.2.1 hA
    omega
  · obtain ⟨g, o, rfl, hc⟩ := h.s.2.2.2 (by omega)
    rw [if_neg (by omega)]
    have hadd : (⟨g, o, none⟩ : Addr).add k = ⟨g, o + k, none⟩ := by unfold Addr.add; split <;> simp_all
    refine ⟨g, o + k, by simp [hadd], fun j hj => ?_⟩
    rw [gb_drop, Nat.add_assoc]
    exact hc (k + j) (by omega)
theorem and128b (x : BitVec 8) : bits .and .u8 (ub x) 128 = if 128 ≤ x.toNat then 128 else 0 := by
  revert x
  refine all8 ?_
  decide +kernel
theorem tcB_cases (b : List (BitVec 8)) (h : 2 ≤ b.length) : (gb b 0 = 0 ∧ tcB b = decide (128 ≤ (gb b 1).toNat)) ∨ (gb b 0 = 255 ∧ tcB b = !decide (128 ≤ (gb b 1).toNat)) ∨ (gb b 0 ≠ 0 ∧ gb b 0 ≠ 255 ∧ tcB b = true) := by
  obtain ⟨x, y, r, rfl⟩ : ∃ x y r, b = x :: y :: r := by
    match b, h with
    | x :: y :: r, _ => exact ⟨x, y, r, rfl⟩
  have e0 : gb (x :: y :: r) 0 = x := rfl
  have e1 : gb (x :: y :: r) 1 = y := rfl
  rw [e0, e1]
  unfold tcB
  by_cases h0 : x = 0
  · subst h0
    refine .inl ⟨rfl, ?_⟩
    by_cases h1 : 128 ≤ y.toNat
    · simp [h1]
    · simp [h1]; omega
  · by_cases h2 : x = 255
    · subst h2
      refine .inr (.inl ⟨rfl, ?_⟩)
      by_cases h1 : 128 ≤ y.toNat
      · simp [h1]
      · simp [h1]
    · refine .inr (.inr ⟨h0, h2, ?_⟩)
      show (!(x == 0 && decide (y.toNat < 128)) && !(x == 255 && decide (128 ≤ y.toNat))) = true
      rw [beq_eq_false_iff_ne.2 h0, beq_eq_false_iff_ne.2 h2]
      rfl
theorem ub_neq {x k : BitVec 8} (h : x ≠ k) (z : Int) (hz : ub k = z) : (ub x == z) = false ∧ ¬ ub x = z := by
  have e : ¬ ub x = z := fun e => h (by rw [← hz] at e; unfold ub at e; exact BitVec.eq_of_toNat_eq (by omega))
  exact ⟨beq_eq_false_iff_ne.2 e, e⟩
/-- the number that the first bytes of a body make -/
def tcP (b : List (BitVec 8)) (j : Nat) : Int := beF (if 128 ≤ (gb b 0).toNat then -1 else 0) (b.take j)
theorem tcP_all (b : List (BitVec 8)) : tcP b b.length = tcV b := by unfold tcP tcV; rw [List.take_length]
theorem tcP_zero (b : List (BitVec 8)) : tcP b 0 = if 128 ≤ (gb b 0).toNat then -1 else 0 := rfl
theorem take_gb (l : List (BitVec 8)) (i : Nat) (h : i < l.length) : l.take (i + 1) = l.take i ++ [gb l i] := by
  rw [List.take_succ_eq_append_getElem h]
  simp [gb, h]
theorem tcP_succ (b : List (BitVec 8)) (j : Nat) (h : j < b.length) : tcP b (j + 1) = tcP b j * 256 + ub (gb b j) := by
  unfold tcP
  rw [take_gb b j h]
  unfold beF
  rw [List.foldl_append]
  rfl
theorem tcP_range (b : List (BitVec 8)) (j : Nat) (hj : j < b.length) (h8 : j ≤ 7) : -36028797018963968 ≤ tcP b j ∧ tcP b j < 36028797018963968 := by
  cases j with
  | zero => rw [tcP_zero]; split <;> omega
  | succ j =>
    have e : tcP b (j + 1) = tcV (b.take (j + 1)) := by
      unfold tcP tcV
      rw [gb_take _ _ _ (by omega)]
    have hlen : (b.take (j + 1)).length = j + 1 := by rw [List.length_take]; omega
    have hr := tcV_range (b.take (j + 1)) (by intro e; rw [e] at hlen; simp at hlen)
    rw [hlen] at hr
    have hm := tcH_mono (j := j + 1) (k := 7) (by omega)
    have h7 : tcH 7 = 36028797018963968 := by decide
    rw [e]
    omega
theorem int8_of (x : BitVec 8) : IntKind.i8.wrap (ub x) = (if 128 ≤ x.toNat then -1 else 0) * 256 + ub x := by
  revert x
  refine all8 ?_
  decide +kernel
end Go.Proofs.YthookcnkmlmgcaaDoor
