/-
  Rows of ints and of limbs that read as digits; the reference's digit, trim, Cmp.
  Numbers in twos' complement, in as few bytes as may be; numbers in groups of seven bits; plain (for layer 8).
  A number's body built byte by byte, plain; what the code asks of 64 bits.
  Errors that are codes, asked whether they differ.
-/
import Derived.Test.YthookcnkmlmgcaaGreatDoorM4
import Derived.Test.YthookcnkmlmgcaaGreatDoorM5
import Derived.Test.YthookcnkmlmgcaaGreatDoorM0
import Derived.Lib.ItoaNum
namespace Go.Proofs.YthookcnkmlmgcaaGreatDoor
open Go Go.RowKit
set_option maxRecDepth 4000

/-- a digit as an int; a limb -/
def vI (d : Nat) : Value := .int .i64 (d : Int)
def vL (d : Nat) : Value := .int .u32 (d : Int)
theorem Rd.dig {e : Nat → Value} {w : World} {g o n c : Nat} {l : List Nat} (h : Rd e w (some ⟨g, o, none⟩) n c l) (j : Nat) (hj : j < n) : w.cell? ⟨g, o + j, none⟩ = some (e (dg l j)) := by
  obtain ⟨g', o', ea, hc⟩ := h.at_ (by omega)
  cases ea
  exact hc j _ (dg_in l j (by rw [h.len]; exact hj))
theorem Rd.some_ {α : Type} {e : α → Value} {w : World} {A : Option Addr} {n c : Nat} {l : List α} (h : Rd e w A n c l) (hn : 0 < n) : ∃ g o, A = some ⟨g, o, none⟩ := by
  obtain ⟨g, o, e1, _⟩ := h.at_ hn
  exact ⟨g, o, e1⟩
/-- how many digits count -/
def tl (l : List Nat) : Nat := (dgs 65536 (vl 65536 l)).length
/-- what Cmp says -/
def cmpI (a b : Nat) : Int := if a < b then -1 else if b < a then 1 else 0
theorem cmpI_lt {a b : Nat} (h : a < b) : cmpI a b = -1 := if_pos h
theorem cmpI_gt {a b : Nat} (h : b < a) : cmpI a b = 1 := by rw [cmpI, if_neg (by omega), if_pos h]
theorem cmpI_eq (a : Nat) : cmpI a a = 0 := by rw [cmpI, if_neg (by omega), if_neg (by omega)]
theorem drop_dg (a b : List Nat) (j : Nat) (hl : a.length = b.length) (hj : j < a.length) (h : a.drop (j + 1) = b.drop (j + 1)) (e : dg a j = dg b j) : a.drop j = b.drop j := by
  have hjb : j < b.length := by omega
  rw [List.drop_eq_getElem_cons hj, List.drop_eq_getElem_cons hjb, h]
  have h1 : dg a j = a[j] := by simp [dg, hj]
  have h2 : dg b j = b[j] := by simp [dg, hjb]
  rw [← h1, ← h2, e]
end Go.Proofs.YthookcnkmlmgcaaGreatDoor
namespace Go.Proofs.YthookcnkmlmgcaaGreatDoor
open Go
set_option maxRecDepth 4000

/-- the number that bytes make, the highest first, from a number on -/
def beF (n : Int) (b : List (BitVec 8)) : Int := b.foldl (fun n x => n * 256 + (x.toNat : Int)) n
def beV (b : List (BitVec 8)) : Nat := b.foldl (fun n x => n * 256 + x.toNat) 0
theorem beV_app (b : List (BitVec 8)) : ∀ n : Nat, b.foldl (fun n x => n * 256 + x.toNat) n = n * 256 ^ b.length + beV b := by
  induction b with
  | nil => intro n; simp [beV]
  | cons x r ih =>
    intro n
    have h0 := ih (0 * 256 + x.toNat)
    have h1 := ih (n * 256 + x.toNat)
    unfold beV at *
    rw [List.foldl_cons, List.foldl_cons, h0, h1, List.length_cons, Nat.pow_succ]
    simp only [Nat.add_mul, Nat.mul_assoc, Nat.mul_comm 256, Nat.zero_mul, Nat.zero_add]
    omega
theorem beV_cons (x : BitVec 8) (r : List (BitVec 8)) : beV (x :: r) = x.toNat * 256 ^ r.length + beV r := by
  have := beV_app r (0 * 256 + x.toNat)
  unfold beV at *
  rw [List.foldl_cons, this]
  simp
theorem beV_lt (b : List (BitVec 8)) : beV b < 256 ^ b.length := by
  induction b with
  | nil => decide
  | cons x r ih =>
    rw [beV_cons, List.length_cons, Nat.pow_succ]
    have hx := x.isLt
    have h1 : x.toNat * 256 ^ r.length ≤ 255 * 256 ^ r.length := Nat.mul_le_mul_right _ (by omega)
    omega
theorem beF_eq (b : List (BitVec 8)) : ∀ n : Int, beF n b = n * ((256 ^ b.length : Nat) : Int) + (beV b : Int) := by
  induction b with
  | nil => intro n; simp [beF, beV]
  | cons x r ih =>
    intro n
    have h1 := ih (n * 256 + (x.toNat : Int))
    unfold beF at *
    rw [List.foldl_cons, h1, beV_cons, List.length_cons, Nat.pow_succ]
    push_cast
    rw [Int.add_mul, Int.mul_assoc, Int.mul_comm (256 : Int)]
    omega
/-- bytes of one length with one number are the same -/
theorem beV_inj : ∀ (a b : List (BitVec 8)), a.length = b.length → beV a = beV b → a = b
  | [], [], _, _ => rfl
  | [], _ :: _, h, _ => by simp at h
  | _ :: _, [], h, _ => by simp at h
  | x :: r, y :: s, h, he => by
    rw [List.length_cons, List.length_cons] at h
    rw [beV_cons, beV_cons, show s.length = r.length by omega] at he
    have h1 := beV_lt r
    have h2 := beV_lt s
    rw [show s.length = r.length by omega] at h2
    have h0 : 0 < 256 ^ r.length := Nat.pow_pos (by decide)
    have hx : x.toNat = y.toNat := by
      have e1 : (x.toNat * 256 ^ r.length + beV r) / 256 ^ r.length = x.toNat := by rw [Nat.mul_comm, Nat.mul_add_div h0, Nat.div_eq_of_lt h1]; rfl
      have e2 : (y.toNat * 256 ^ r.length + beV s) / 256 ^ r.length = y.toNat := by rw [Nat.mul_comm, Nat.mul_add_div h0, Nat.div_eq_of_lt h2]; rfl
      rw [← e1, he, e2]
    rw [hx] at he
    have hr := beV_inj r s (by omega) (by omega)
    rw [hr, BitVec.eq_of_toNat_eq hx]
/-- the number of a body -/
def tcV (b : List (BitVec 8)) : Int := beF (if 128 ≤ (gb b 0).toNat then -1 else 0) b
/-- is it in as few bytes as may be? -/
def tcB (b : List (BitVec 8)) : Bool := match b with
  | [] => false
  | [_] => true
  | x :: y :: _ => !(x == 0 && decide (y.toNat < 128)) && !(x == 255 && decide (128 ≤ y.toNat))
/-- half of what so many bytes can say -/
def tcH (k : Nat) : Nat := 128 * 256 ^ (k - 1)
theorem tcH_two (k : Nat) : 2 * tcH (k + 1) = 256 ^ (k + 1) := by unfold tcH; rw [Nat.add_sub_cancel, Nat.pow_succ]; omega
theorem tcV_range (b : List (BitVec 8)) (h : b ≠ []) : -(tcH b.length : Int) ≤ tcV b ∧ tcV b < (tcH b.length : Int) := by
  cases b with
  | nil => exact absurd rfl h
  | cons x r =>
    have h1 := beV_lt r
    have hx := x.isLt
    have h2 := tcH_two r.length
    unfold tcV
    rw [show gb (x :: r) 0 = x from rfl, beF_eq, beV_cons, List.length_cons]
    have h3 : tcH (r.length + 1) = 128 * 256 ^ r.length := by unfold tcH; rw [Nat.add_sub_cancel]
    have h4 : 256 ^ (r.length + 1) = 256 * 256 ^ r.length := by rw [Nat.pow_succ, Nat.mul_comm]
    rw [h3, h4]
    generalize 256 ^ r.length = P at *
    by_cases hs : 128 ≤ x.toNat
    · rw [if_pos hs]
      have h5 : 128 * P ≤ x.toNat * P := Nat.mul_le_mul_right _ hs
      have h6 : x.toNat * P ≤ 255 * P := Nat.mul_le_mul_right _ (by omega)
      push_cast
      rw [show ((x.toNat : Int) * (P : Int)) = ((x.toNat * P : Nat) : Int) by push_cast; rfl] at *
      generalize x.toNat * P = Q at *
      omega
    · rw [if_neg hs]
      have h6 : x.toNat * P ≤ 127 * P := Nat.mul_le_mul_right _ (by omega)
      push_cast
      rw [show ((x.toNat : Int) * (P : Int)) = ((x.toNat * P : Nat) : Int) by push_cast; rfl] at *
      generalize x.toNat * P = Q at *
      omega
theorem tcH_mono {j k : Nat} (h : j ≤ k) : tcH j ≤ tcH k := Nat.mul_le_mul_left _ (Nat.pow_le_pow_right (by decide) (by omega))
/-- a body as short as may be says what no shorter one can -/
theorem tcV_far (b : List (BitVec 8)) (h : tcB b = true) (h2 : 2 ≤ b.length) : tcV b < -(tcH (b.length - 1) : Int) ∨ (tcH (b.length - 1) : Int) ≤ tcV b := by
  match b, h2 with
  | x :: y :: r, _ =>
    have h1 := beV_lt r
    have hx := x.isLt
    have hy := y.isLt
    have h3 : tcH ((x :: y :: r).length - 1) = 128 * 256 ^ r.length := by unfold tcH; simp
    have e0 : ∀ z : BitVec 8, x = z ↔ x.toNat = z.toNat := fun z => ⟨fun e => by rw [e], BitVec.eq_of_toNat_eq⟩
    unfold tcB at h
    simp only [Bool.and_eq_true, Bool.not_eq_true', Bool.and_eq_false_iff, beq_eq_false_iff_ne, decide_eq_false_iff_not] at h
    obtain ⟨g1, g2⟩ := h
    rw [Ne, e0] at g1 g2
    unfold tcV
    rw [h3, show gb (x :: y :: r) 0 = x from rfl, beF_eq, beV_cons, beV_cons, List.length_cons, List.length_cons, Nat.pow_succ, Nat.pow_succ]
    generalize 256 ^ r.length = P at *
    have k0 : (0 : BitVec 8).toNat = 0 := rfl
    have k1 : (255 : BitVec 8).toNat = 255 := rfl
    rw [k0] at g1
    rw [k1] at g2
    generalize x.toNat = a at *
    generalize y.toNat = c at *
    generalize beV r = v at *
    push_cast
    rw [show ((a : Int) * ((P : Int) * 256)) = ((a * P : Nat) : Int) * 256 by push_cast; rw [Int.mul_assoc], show ((c : Int) * (P : Int)) = ((c * P : Nat) : Int) by push_cast; rfl]
    by_cases hs : 128 ≤ a
    · rw [if_pos hs]
      left
      rcases Nat.lt_or_ge a 255 with ha | ha
      · have q1 : a * P ≤ 254 * P := Nat.mul_le_mul_right _ (by omega)
        have q2 : c * P ≤ 255 * P := Nat.mul_le_mul_right _ (by omega)
        generalize a * P = Q at *
        generalize c * P = R at *
        omega
      · have hc : c ≤ 127 := by omega
        have q1 : a * P ≤ 255 * P := Nat.mul_le_mul_right _ (by omega)
        have q2 : c * P ≤ 127 * P := Nat.mul_le_mul_right _ hc
        generalize a * P = Q at *
        generalize c * P = R at *
        omega
    · rw [if_neg hs]
      right
      rcases Nat.eq_zero_or_pos a with ha | ha
      · have hc : 128 ≤ c := by omega
        have q2 : 128 * P ≤ c * P := Nat.mul_le_mul_right _ hc
        generalize a * P = Q at *
        generalize c * P = R at *
        omega
      · have q1 : 1 * P ≤ a * P := Nat.mul_le_mul_right _ ha
        generalize a * P = Q at *
        generalize c * P = R at *
        omega
/-- each number has one body -/
theorem tcV_inj {a b : List (BitVec 8)} (ha : tcB a = true) (hb : tcB b = true) (h : tcV a = tcV b) : a = b := by
  have na : a ≠ [] := fun e => by rw [e] at ha; cases ha
  have nb : b ≠ [] := fun e => by rw [e] at hb; cases hb
  have ra := tcV_range a na
  have rb := tcV_range b nb
  have la := List.length_pos_iff.2 na
  have lb := List.length_pos_iff.2 nb
  have hl : a.length = b.length := by
    rcases Nat.lt_trichotomy a.length b.length with hl | hl | hl
    · have h1 := tcV_far b hb (by omega)
      have h2 := tcH_mono (show a.length ≤ b.length - 1 by omega)
      omega
    · exact hl
    · have h1 := tcV_far a ha (by omega)
      have h2 := tcH_mono (show b.length ≤ a.length - 1 by omega)
      omega
  refine beV_inj a b hl ?_
  have h1 := beV_lt a
  have h2 := beV_lt b
  have ea := beF_eq a (if 128 ≤ (gb a 0).toNat then -1 else 0)
  have eb := beF_eq b (if 128 ≤ (gb b 0).toNat then -1 else 0)
  unfold tcV at h
  rw [ea, eb, ← hl] at h
  rw [← hl] at h2
  generalize 256 ^ a.length = P at *
  split at h <;> split at h <;> omega
end Go.Proofs.YthookcnkmlmgcaaGreatDoor
namespace Go.Proofs.YthookcnkmlmgcaaGreatDoor
open Go Go.RowKit
set_option maxRecDepth 4000

/-- the k lowest bytes of a number, the highest first -/
def intL (n : Int) : Nat → List (BitVec 8)
  | 0 => []
  | k + 1 => BitVec.ofNat 8 ((n / ((256 ^ k : Nat) : Int)) % 256).toNat :: intL n k
theorem intL_len (n : Int) (k : Nat) : (intL n k).length = k := by induction k with
  | zero => rfl
  | succ k ih => rw [intL, List.length_cons, ih]
theorem byt_nat (z : Int) : (BitVec.ofNat 8 (z % 256).toNat).toNat = (z % 256).toNat := by
  rw [BitVec.toNat_ofNat]
  omega
theorem intL_be (n : Int) (k : Nat) : ((beV (intL n k) : Nat) : Int) = n % ((256 ^ k : Nat) : Int) := by
  induction k with
  | zero => simp [intL, beV]
  | succ k ih =>
    rw [intL, beV_cons, byt_nat, intL_len, Int.natCast_add, ih, Int.natCast_mul]
    have hp : 0 < ((256 ^ k : Nat) : Int) := by have := Nat.pow_pos (n := k) (show 0 < 256 by decide); omega
    generalize hP : ((256 ^ k : Nat) : Int) = P at *
    have e : ((256 ^ (k + 1) : Nat) : Int) = P * 256 := by rw [Nat.pow_succ, Int.natCast_mul, hP]; rfl
    rw [e]
    have h1 := Int.mul_ediv_add_emod n P
    have h2 := Int.mul_ediv_add_emod (n / P) 256
    have h3 := Int.emod_nonneg n (show P ≠ 0 by omega)
    have h4 := Int.emod_lt_of_pos n hp
    have h5 := Int.emod_nonneg (n / P) (show (256 : Int) ≠ 0 by decide)
    have h6 := Int.emod_lt_of_pos (n / P) (show (0 : Int) < 256 by decide)
    rw [Int.toNat_of_nonneg h5]
    have key : n = P * 256 * (n / P / 256) + ((n / P % 256) * P + n % P) := by
      have : P * (n / P) = P * (256 * (n / P / 256) + n / P % 256) := by rw [h2]
      rw [Int.mul_add, ← Int.mul_assoc] at this
      rw [Int.mul_comm (n / P % 256) P]
      omega
    have hb : 0 ≤ (n / P % 256) * P + n % P ∧ (n / P % 256) * P + n % P < P * 256 := by
      have a1 : 0 ≤ (n / P % 256) * P := Int.mul_nonneg h5 (by omega)
      have a2 : (n / P % 256) * P ≤ 255 * P := Int.mul_le_mul_of_nonneg_right (by omega) (by omega)
      omega
    generalize (n / P % 256) * P + n % P = r at *
    generalize n / P / 256 = q at *
    rw [key, Int.add_comm, Int.add_mul_emod_self_left, Int.emod_eq_of_lt hb.1 hb.2]
/-- the greater one of a number and what it is with all bits turned -/
def magN (n : Int) : Nat := if 0 ≤ n then n.toNat else (-n - 1).toNat
theorem tcB_one (x : BitVec 8) : tcB [x] = true := rfl
set_option maxHeartbeats 1000000 in
theorem intL_ok (n : Int) (k : Nat) (h1 : magN n < 128 * 256 ^ k) (h2 : 1 ≤ k → 128 * 256 ^ (k - 1) ≤ magN n) : tcB (intL n (k + 1)) = true ∧ tcV (intL n (k + 1)) = n := by
  have hp := Nat.pow_pos (n := k) (show 0 < 256 by decide)
  have hbe := intL_be n (k + 1)
  generalize hP : (256 ^ k : Nat) = P at *
  have e : ((256 ^ (k + 1) : Nat) : Int) = (P : Int) * 256 := by rw [Nat.pow_succ, Int.natCast_mul, hP]; rfl
  rw [e] at hbe
  have hd := Int.mul_ediv_add_emod n (P : Int)
  have hd3 := Int.emod_nonneg n (show (P : Int) ≠ 0 by omega)
  have hd4 := Int.emod_lt_of_pos n (show (0 : Int) < (P : Int) by omega)
  have hq : (0 ≤ n → 0 ≤ n / (P : Int) ∧ n / (P : Int) < 128) ∧ (n < 0 → -128 ≤ n / (P : Int) ∧ n / (P : Int) ≤ -1) := by
    unfold magN at h1
    constructor
    · intro h0
      rw [if_pos h0] at h1
      refine ⟨Int.ediv_nonneg h0 (by omega), Int.ediv_lt_of_lt_mul (by omega) (by omega)⟩
    · intro h0
      rw [if_neg (by omega)] at h1
      refine ⟨Int.le_ediv_of_mul_le (by omega) (by omega), ?_⟩
      have := Int.ediv_lt_of_lt_mul (a := n) (b := 0) (c := (P : Int)) (by omega) (by omega)
      omega
  have hh : (gb (intL n (k + 1)) 0).toNat = ((n / (P : Int)) % 256).toNat := by
    have e0 : gb (intL n (k + 1)) 0 = BitVec.ofNat 8 ((n / (P : Int)) % 256).toNat := by rw [intL, hP]; rfl
    rw [e0, byt_nat]
  constructor
  · match k, hP with
    | 0, _ =>
      unfold intL intL
      exact tcB_one _
    | j + 1, hP =>
      have hpj := Nat.pow_pos (n := j) (show 0 < 256 by decide)
      have h2' := h2 (by omega)
      rw [Nat.add_sub_cancel] at h2'
      rw [Nat.pow_succ] at hP
      unfold intL intL
      rw [Nat.pow_succ, hP]
      unfold tcB
      generalize hR : (256 ^ j : Nat) = R at *
      have hdd : n / (P : Int) = n / (R : Int) / 256 := by
        rw [← hP, Int.natCast_mul, Int.ediv_ediv_of_nonneg (by omega)]
        rfl
      rw [hdd] at hq ⊢
      have hr := Int.mul_ediv_add_emod n (R : Int)
      have hr3 := Int.emod_nonneg n (show (R : Int) ≠ 0 by omega)
      have hr4 := Int.emod_lt_of_pos n (show (0 : Int) < (R : Int) by omega)
      have hq2 : (0 ≤ n → 128 ≤ n / (R : Int)) ∧ (n < 0 → n / (R : Int) < -128) := by
        unfold magN at h2'
        constructor
        · intro h0
          rw [if_pos h0] at h2'
          exact Int.le_ediv_of_mul_le (by omega) (by omega)
        · intro h0
          rw [if_neg (by omega)] at h2'
          exact Int.ediv_lt_of_lt_mul (by omega) (by omega)
      generalize n / (R : Int) = z at *
      have t1 := byt_nat (z / 256)
      have t2 := byt_nat z
      generalize BitVec.ofNat 8 (z / 256 % 256).toNat = x at *
      generalize BitVec.ofNat 8 (z % 256).toNat = y at *
      have n0 : ¬ (x = 0 ∧ y.toNat < 128) := by
        rintro ⟨hx, hy⟩
        rw [hx] at t1
        have : (0 : BitVec 8).toNat = 0 := rfl
        rcases Int.lt_or_le n 0 with hn | hn
        · have := hq.2 hn; have := hq2.2 hn; omega
        · have := hq.1 hn; have := hq2.1 hn; omega
      have n1 : ¬ (x = 255 ∧ 128 ≤ y.toNat) := by
        rintro ⟨hx, hy⟩
        rw [hx] at t1
        have : (255 : BitVec 8).toNat = 255 := rfl
        rcases Int.lt_or_le n 0 with hn | hn
        · have := hq.2 hn; have := hq2.2 hn; omega
        · have := hq.1 hn; have := hq2.1 hn; omega
      simp only [Bool.and_eq_true, Bool.not_eq_true', Bool.and_eq_false_iff, beq_eq_false_iff_ne, decide_eq_false_iff_not]
      constructor
      · by_cases hx : x = 0
        · exact .inr fun h => n0 ⟨hx, h⟩
        · exact .inl hx
      · by_cases hx : x = 255
        · exact .inr fun h => n1 ⟨hx, h⟩
        · exact .inl hx
  · unfold tcV
    rw [beF_eq, intL_len, e, hbe, hh]
    rcases Int.lt_or_le n 0 with hn | hn
    · have ha := hq.2 hn
      rw [if_pos (by omega)]
      have hb : 0 ≤ n + (P : Int) * 256 ∧ n + (P : Int) * 256 < (P : Int) * 256 := by
        unfold magN at h1
        rw [if_neg (by omega)] at h1
        omega
      have : n % ((P : Int) * 256) = n + (P : Int) * 256 := by
        rw [← Int.emod_eq_of_lt hb.1 hb.2, Int.add_emod_right]
      rw [this]
      omega
    · have ha := hq.1 hn
      rw [if_neg (by omega)]
      have : n % ((P : Int) * 256) = n := by
        unfold magN at h1
        rw [if_pos hn] at h1
        exact Int.emod_eq_of_lt hn (by omega)
      rw [this]
      omega
theorem bitLen_pow (x : Nat) (h : x < 2 ^ 64) : x < 2 ^ Lib.bitLen x ∧ (x ≠ 0 → 2 ^ (Lib.bitLen x - 1) ≤ x) := by
  induction x using Nat.strongRecOn with
  | ind x ih =>
    by_cases h0 : x = 0
    · subst h0
      exact ⟨Nat.pow_pos (by decide), fun h => absurd rfl h⟩
    · have h1 := Lib.bitLen_half x h0 h
      obtain ⟨i1, i2⟩ := ih (x / 2) (by omega) (by omega)
      rw [h1, Nat.pow_add, Nat.add_comm 1, Nat.add_sub_cancel]
      refine ⟨by omega, fun _ => ?_⟩
      by_cases h2 : x / 2 = 0
      · rw [h2]
        have : Lib.bitLen 0 = 0 := by unfold Lib.bitLen; exact Lib.bitLenAux_zero _
        rw [this]
        omega
      · have i3 := i2 h2
        have hb : 1 ≤ Lib.bitLen (x / 2) := by
          rcases Nat.eq_zero_or_pos (Lib.bitLen (x / 2)) with hz | hz
          · rw [hz] at i1; omega
          · exact hz
        obtain ⟨b, hb'⟩ : ∃ b, Lib.bitLen (x / 2) = b + 1 := ⟨Lib.bitLen (x / 2) - 1, by omega⟩
        rw [hb', Nat.add_sub_cancel] at i3
        rw [hb', Nat.pow_succ]
        omega
/-- how many bytes a number takes -/
def kN (m : Nat) : Nat := (Lib.bitLen m + 8) / 8
theorem kN_ok (m : Nat) (h : m < 9223372036854775808) : ∃ k, kN m = k + 1 ∧ k ≤ 7 ∧ Lib.bitLen m ≤ 63 ∧ m < 128 * 256 ^ k ∧ (1 ≤ k → 128 * 256 ^ (k - 1) ≤ m) := by
  obtain ⟨h1, h2⟩ := bitLen_pow m (by omega)
  have h3 := Lib.bitLen_le m 63 (by decide) (by omega)
  refine ⟨Lib.bitLen m / 8, by unfold kN; omega, by omega, h3, ?_, ?_⟩
  · have e : 128 * 256 ^ (Lib.bitLen m / 8) = 2 ^ (7 + 8 * (Lib.bitLen m / 8)) := by rw [Nat.pow_add, Nat.pow_mul]
    rw [e]
    exact Nat.lt_of_lt_of_le h1 (Nat.pow_le_pow_right (by decide) (by omega))
  · intro hk
    have e : 128 * 256 ^ (Lib.bitLen m / 8 - 1) = 2 ^ (7 + 8 * (Lib.bitLen m / 8 - 1)) := by rw [Nat.pow_add, Nat.pow_mul]
    rw [e]
    have hm : m ≠ 0 := by
      rintro rfl
      have : Lib.bitLen 0 = 0 := by unfold Lib.bitLen; exact Lib.bitLenAux_zero _
      omega
    exact Nat.le_trans (Nat.pow_le_pow_right (by decide) (by omega)) (h2 hm)
theorem intL_get (n : Int) (k j : Nat) (h : j < k) : gb (intL n k) j = BitVec.ofNat 8 ((n / ((256 ^ (k - 1 - j) : Nat) : Int)) % 256).toNat := by
  induction k generalizing j with
  | zero => omega
  | succ k ih =>
    cases j with
    | zero => rfl
    | succ j =>
      have : gb (intL n (k + 1)) (j + 1) = gb (intL n k) j := rfl
      rw [this, ih j (by omega), show k + 1 - 1 - (j + 1) = k - 1 - j by omega]
/-- the sign's bits over a number's -/
theorem sign_pos (n : Int) (h0 : 0 ≤ n) (h1 : n < 9223372036854775808) : n / 9223372036854775808 = 0 ∧ bits .xor .i64 n 0 = (magN n : Int) := by
  refine ⟨by omega, ?_⟩
  show IntKind.i64.wrap ((BitVec.ofInt 64 n ^^^ BitVec.ofInt 64 0).toNat : Int) = _
  have e : BitVec.ofInt 64 0 = BitVec.ofNat 64 0 := by decide
  rw [e, BitVec.xor_zero, BitVec.toNat_ofInt, IntKind.wrap_i64]
  unfold magN
  rw [if_pos h0]
  omega
theorem sign_neg (n : Int) (h0 : n < 0) (h1 : -9223372036854775808 ≤ n) : n / 9223372036854775808 = -1 ∧ bits .xor .i64 n (-1) = (magN n : Int) := by
  refine ⟨by omega, ?_⟩
  show IntKind.i64.wrap ((BitVec.ofInt 64 n ^^^ BitVec.ofInt 64 (-1)).toNat : Int) = _
  have e : BitVec.ofInt 64 (-1) = BitVec.allOnes 64 := by decide
  rw [e, BitVec.xor_allOnes, BitVec.toNat_not, BitVec.toNat_ofInt, IntKind.wrap_i64]
  unfold magN
  rw [if_neg (by omega)]
  omega
/-- a byte behind a number -/
theorem or_byte (n : Int) (x : BitVec 8) (h0 : -36028797018963968 ≤ n) (h1 : n < 36028797018963968) : bits .or .i64 (n * 256) (ub x) = n * 256 + ub x := by
  show IntKind.i64.wrap ((BitVec.ofInt 64 (n * 256) ||| BitVec.ofInt 64 (ub x)).toNat : Int) = _
  have hx := x.isLt
  unfold ub
  have e1 : (BitVec.ofInt 64 (n * 256)).toNat = 2 ^ 8 * (n % 72057594037927936).toNat := by
    rw [BitVec.toNat_ofInt]
    omega
  have e2 : (BitVec.ofInt 64 (x.toNat : Int)).toNat = x.toNat := by
    rw [BitVec.ofInt_natCast, BitVec.toNat_ofNat]
    omega
  rw [BitVec.toNat_or, e1, e2, ← Nat.two_pow_add_eq_or_of_lt (by omega), IntKind.wrap_i64]
  omega
end Go.Proofs.YthookcnkmlmgcaaGreatDoor
namespace Go.Proofs.YthookcnkmlmgcaaGreatDoor
open Go Go.RowKit
set_option maxRecDepth 4000

theorem code_neq0 {P : Program} (w : World) {u t : TypeId} {ms : Array (String × TypeId)} {i : TypeInfo} {k : IntKind} (x y : Int) (hu : P.underlying u = some (.interface ms)) (ht : P.underlying t = some (.int k)) (hi : P.info? t = some i) (hc : i.comparable = true) :
    (binOp .neq u (.iface t (.int k x)) (.iface t (.int k y))).run P w = .ok (.bool (!(x == y))) w := by
  simp only [binOp]
  simp [Op.equal, Op.maxDepth, code_eqIn w 9998 x y hu ht hi hc]
theorem code_neq (a b : Int) (w : World) : (binOp .neq 27 (.iface 32 (.int .i64 a)) (.iface 32 (.int .i64 b))).run Tryz.prog w = .ok (.bool (!(a == b))) w := by
  have hi : ((Tryz.prog.info? 32).map (·.comparable)) = some true := by kernel_rfl
  have hu : (match Tryz.prog.underlying 27 with | some (.interface _) => true | _ => false) = true := by kernel_rfl
  cases hq : Tryz.prog.info? 32 with
  | none => simp [hq] at hi
  | some i =>
    have hc : i.comparable = true := by simpa [hq] using hi
    cases hd : Tryz.prog.underlying 27 with
    | none => simp [hd] at hu
    | some d =>
      cases d with
      | interface ms => exact code_neq0 w a b hd Tryz.underlying32 hq hc
      | _ => simp [hd] at hu
end Go.Proofs.YthookcnkmlmgcaaGreatDoor
