/-
  Numbers in twos' complement, in as few bytes as may be; numbers in groups of seven bits; plain (for layer 8).
-/
import Derived.Test.YthookcnkmlmgcaaVBy
namespace Go.Proofs.Ythookcnkmlmgcaa
open Go
set_option maxRecDepth 4000

/-- the number that bytes make, the highest first, from a number on -/
def beF (n : Int) (b : List (BitVec 8)) : Int := b.foldl (fun n x => n * 256 + (x.toNat : Int)) n
def beV (b : List (BitVec 8)) : Nat := b.foldl (fun n x => n * 256 + x.toNat) 0
theorem beV_app (b : List (BitVec 8)) : ∀ n : Nat, b.foldl (fun n x => n * 256 + x.toNat) n = n * 256 ^ b.length + beV b := by
  induction b with
  | nil => intro n; simp [beV]
  | cons x r ih =>
    intro n
    have h0 := ih (0 * 256 + x.toNat)
    have h1 := ih (n * 256 + x.toNat)
    unfold beV at *
    rw [List.foldl_cons, List.foldl_cons, h0, h1, List.length_cons, Nat.pow_succ]
    simp only [Nat.add_mul, Nat.mul_assoc, Nat.mul_comm 256, Nat.zero_mul, Nat.zero_add]
    omega
theorem beV_cons (x : BitVec 8) (r : List (BitVec 8)) : beV (x :: r) = x.toNat * 256 ^ r.length + beV r := by
  have := beV_app r (0 * 256 + x.toNat)
  unfold beV at *
  rw [List.foldl_cons, this]
  simp
theorem beV_lt (b : List (BitVec 8)) : beV b < 256 ^ b.length := by
  induction b with
  | nil => decide
  | cons x r ih =>
    rw [beV_cons, List.length_cons, Nat.pow_succ]
    have hx := x.isLt
    have h1 : x.toNat * 256 ^ r.length ≤ 255 * 256 ^ r.length := Nat.mul_le_mul_right _ (by omega)
    omega
theorem beF_eq (b : List (BitVec 8)) : ∀ n : Int, beF n b = n * ((256 ^ b.length : Nat) : Int) + (beV b : Int) := by
  induction b with
  | nil => intro n; simp [beF, beV]
  | cons x r ih =>
    intro n
    have h1 := ih (n * 256 + (x.toNat : Int))
    unfold beF at *
    rw [List.foldl_cons, h1, beV_cons, List.length_cons, Nat.pow_succ]
    push_cast
    rw [Int.add_mul, Int.mul_assoc, Int.mul_comm (256 : Int)]
    omega
/-- bytes of one length with one number are the same -/
theorem beV_inj : ∀ (a b : List (BitVec 8)), a.length = b.length → beV a = beV b → a = b
  | [], [], _, _ => rfl
  | [], _ :: _, h, _ => by simp at h
  | _ :: _, [], h, _ => by simp at h
  | x :: r, y :: s, h, he => by
    rw [List.length_cons, List.length_cons] at h
    rw [beV_cons, beV_cons, show s.length = r.length by omega] at he
    have h1 := beV_lt r
    have h2 := beV_lt s
    rw [show s.length = r.length by omega] at h2
    have h0 : 0 < 256 ^ r.length := Nat.pow_pos (by decide)
    have hx : x.toNat = y.toNat := by
      have e1 : (x.toNat * 256 ^ r.length + beV r) / 256 ^ r.length = x.toNat := by rw [Nat.mul_comm, Nat.mul_add_div h0, Nat.div_eq_of_lt h1]; rfl
      have e2 : (y.toNat * 256 ^ r.length + beV s) / 256 ^ r.length = y.toNat := by rw [Nat.mul_comm, Nat.mul_add_div h0, Nat.div_eq_of_lt h2]; rfl
      rw [← e1, he, e2]
    rw [hx] at he
    have hr := beV_inj r s (by omega) (by omega)
    rw [hr, BitVec.eq_of_toNat_eq hx]
/-- the number of a body -/
def tcV (b : List (BitVec 8)) : Int := beF (if 128 ≤ (gb b 0).toNat then -1 else 0) b
/-- is it in as few bytes as may be? -/
def tcB (b : List (BitVec 8)) : Bool := match b with
  | [] => false
  | [_] => true
  | x :: y :: _ => !(x == 0 && decide (y.toNat < 128)) && !(x == 255 && decide (128 ≤ y.toNat))
/-- half of what so many bytes can say -/
def tcH (k : Nat) : Nat := 128 * 256 ^ (k - 1)
theorem tcH_two (k : Nat) : 2 * tcH (k + 1) = 256 ^ (k + 1) := by unfold tcH; rw [Nat.add_sub_cancel, Nat.pow_succ]; omega
theorem tcV_range (b : List (BitVec 8)) (h : b ≠ []) : -(tcH b.length : Int) ≤ tcV b ∧ tcV b < (tcH b.length : Int) := by
  cases b with
  | nil => exact absurd rfl h
  | cons x r =>
    have h1 := beV_lt r
    have hx := x.isLt
    have h2 := tcH_two r.length
    unfold tcV
    rw [show gb (x :: r) 0 = x from rfl, beF_eq, beV_cons, List.length_cons]
    have h3 : tcH (r.length + 1) = 128 * 256 ^ r.length := by unfold tcH; rw [Nat.add_sub_cancel]
    have h4 : 256 ^ (r.length + 1) = 256 * 256 ^ r.length := by rw [Nat.pow_succ, Nat.mul_comm]
    rw [h3, h4]
    generalize 256 ^ r.length = P at *
    by_cases hs : 128 ≤ x.toNat
    · rw [if_pos hs]
      have h5 : 128 * P ≤ x.toNat * P := Nat.mul_le_mul_right _ hs
      have h6 : x.toNat * P ≤ 255 * P := Nat.mul_le_mul_right _ (by omega)
      push_cast
      rw [show ((x.toNat : Int) * (P : Int)) = ((x.toNat * P : Nat) : Int) by push_cast; rfl] at *
      generalize x.toNat * P = Q at *
      omega
    · rw [if_neg hs]
      have h6 : x.toNat * P ≤ 127 * P := Nat.mul_le_mul_right _ (by omega)
      push_cast
      rw [show ((x.toNat : Int) * (P : Int)) = ((x.toNat * P : Nat) : Int) by push_cast; rfl] at *
      generalize x.toNat * P = Q at *
      omega
theorem tcH_mono {j k : Nat} (h : j ≤ k) : tcH j ≤ tcH k := Nat.mul_le_mul_left _ (Nat.pow_le_pow_right (by decide) (by omega))
/-- a body as short as may be says what no shorter one can -/
theorem tcV_far (b : List (BitVec 8)) (h : tcB b = true) (h2 : 2 ≤ b.length) : tcV b < -(tcH (b.length - 1) : Int) ∨ (tcH (b.length - 1) : Int) ≤ tcV b := by
  match b, h2 with
  | x :: y :: r, _ =>
    have h1 := beV_lt r
    have hx := x.isLt
    have hy := y.isLt
    have h3 : tcH ((x :: y :: r).length - 1) = 128 * 256 ^ r.length := by unfold tcH; simp
    have e0 : ∀ z : BitVec 8, x = z ↔ x.toNat = z.toNat := fun z => ⟨fun e => by rw [e], BitVec.eq_of_toNat_eq⟩
    unfold tcB at h
    simp only [Bool.and_eq_true, Bool.not_eq_true', Bool.and_eq_false_iff, beq_eq_false_iff_ne, decide_eq_false_iff_not] at h
    obtain ⟨g1, g2⟩ := h
    rw [Ne, e0] at g1 g2
    unfold tcV
    rw [h3, show gb (x :: y :: r) 0 = x from rfl, beF_eq, beV_cons, beV_cons, List.length_cons, List.length_cons, Nat.pow_succ, Nat.pow_succ]
    generalize 256 ^ r.length = P at *
    have k0 : (0 : BitVec 8).toNat = 0 := rfl
    have k1 : (255 : BitVec 8).toNat = 255 := rfl
    rw [k0] at g1
    rw [k1] at g2
    generalize x.toNat = a at *
    generalize y.toNat = c at *
    generalize beV r = v at *
    push_cast
    rw [show ((a : Int) * ((P : Int) * 256)) = ((a * P : Nat) : Int) * 256 by push_cast; rw [Int.mul_assoc], show ((c : Int) * (P : Int)) = ((c * P : Nat) : Int) by push_cast; rfl]
    by_cases hs : 128 ≤ a
    · rw [if_pos hs]
      left
      rcases Nat.lt_or_ge a 255 with ha | ha
      · have q1 : a * P ≤ 254 * P := Nat.mul_le_mul_right _ (by omega)
        have q2 : c * P ≤ 255 * P := Nat.mul_le_mul_right _ (by omega)
        generalize a * P = Q at *
        generalize c * P = R at *
        omega
      · have hc : c ≤ 127 := by omega
        have q1 : a * P ≤ 255 * P := Nat.mul_le_mul_right _ (by omega)
        have q2 : c * P ≤ 127 * P := Nat.mul_le_mul_right _ hc
        generalize a * P = Q at *
        generalize c * P = R at *
        omega
    · rw [if_neg hs]
      right
      rcases Nat.eq_zero_or_pos a with ha | ha
      · have hc : 128 ≤ c := by omega
        have q2 : 128 * P ≤ c * P := Nat.mul_le_mul_right _ hc
        generalize a * P = Q at *
        generalize c * P = R at *
        omega
      · have q1 : 1 * P ≤ a * P := Nat.mul_le_mul_right _ ha
        generalize a * P = Q at *
        generalize c * P = R at *
        omega
/-- each number has one body -/
theorem tcV_inj {a b : List (BitVec 8)} (ha : tcB a = true) (hb : tcB b = true) (h : tcV a = tcV b) : a = b := by
  have na : a ≠ [] := fun e => by rw [e] at ha; cases ha
  have nb : b ≠ [] := fun e => by rw [e] at hb; cases hb
  have ra := tcV_range a na
  have rb := tcV_range b nb
  have la := List.length_pos_iff.2 na
  have lb := List.length_pos_iff.2 nb
  have hl : a.length = b.length := by
    rcases Nat.lt_trichotomy a.length b.length with hl | hl | hl
    · have h1 := tcV_far b hb (by omega)
      have h2 := tcH_mono (show a.length ≤ b.length - 1 by omega)
      omega
    · exact hl
    · have h1 := tcV_far a ha (by omega)
      have h2 := tcH_mono (show b.length ≤ a.length - 1 by omega)
      omega
  refine beV_inj a b hl ?_
  have h1 := beV_lt a
  have h2 := beV_lt b
  have ea := beF_eq a (if 128 ≤ (gb a 0).toNat then -1 else 0)
  have eb := beF_eq b (if 128 ≤ (gb b 0).toNat then -1 else 0)
  unfold tcV at h
  rw [ea, eb, ← hl] at h
  rw [← hl] at h2
  generalize 256 ^ a.length = P at *
  split at h <;> split at h <;> omega
end Go.Proofs.Ythookcnkmlmgcaa
