/-
  Shifts of numbers as digits of 32 bits; Euclid with cofactors; what makes 1. No condition.
-/
import Derived.Test.YtpmoaccaknfodaaDoorNl
namespace Go.Proofs.YtpmoaccaknfodaaDoor
open Go

abbrev BB : Nat := 4294967296
/-- shifted up so many limbs and w bits, behind i limbs: c is what is carried -/
structure ShU (a : List Nat) (k w i : Nat) (out : List Nat) (c : Nat) : Prop where
  len : out.length = a.length + k + 1
  d : Dg BB out
  z : ∀ j, k + i ≤ j → dg out j = 0
  cr : c < 2 ^ w
  v : vl BB out + BB ^ (k + i) * c = BB ^ k * (vl BB (a.take i) * 2 ^ w)
theorem ShU.start (a : List Nat) (k w : Nat) : ShU a k w 0 (List.replicate (a.length + k + 1) 0) 0 :=
  ⟨by simp, fun d hd => by rw [(List.mem_replicate.1 hd).2]; decide, fun j _ => dg_zeros _ _, Nat.pow_pos (by decide), by rw [vl_zeros]; simp [vl]⟩
theorem sh_room {x c w : Nat} (hx : x < BB) (hc : c < 2 ^ w) : (x * 2 ^ w + c) / BB < 2 ^ w := by
  refine (Nat.div_lt_iff_lt_mul (by decide)).2 ?_
  have h : (x + 1) * 2 ^ w ≤ BB * 2 ^ w := Nat.mul_le_mul_right _ hx
  rw [Nat.add_mul, Nat.one_mul] at h
  rw [Nat.mul_comm (2 ^ w)]
  omega
theorem ShU.next {a out : List Nat} {k w i c : Nat} (ha : Dg BB a) (hi : i < a.length) (h : ShU a k w i out c) :
    ShU a k w (i + 1) (out.set (k + i) ((dg a i * 2 ^ w + c) % BB)) ((dg a i * 2 ^ w + c) / BB) := by
  have hl : k + i < out.length := by rw [h.len]; omega
  have h1 := vl_set BB out (k + i) ((dg a i * 2 ^ w + c) % BB) hl
  rw [h.z _ (Nat.le_refl _), Nat.mul_zero, Nat.add_zero] at h1
  refine ⟨by rw [List.length_set]; exact h.len, h.d.set _ _ (Nat.mod_lt _ (by decide)), fun j hj => ?_, sh_room (ha.at (by decide) i) h.cr, ?_⟩
  · rw [dg_set _ _ _ _ hl, if_neg (by omega)]; exact h.z j (by omega)
  · have h2 : BB ^ (k + i) * ((dg a i * 2 ^ w + c) % BB) + BB ^ (k + (i + 1)) * ((dg a i * 2 ^ w + c) / BB) = BB ^ (k + i) * (dg a i * 2 ^ w + c) := by
      rw [← Nat.add_assoc, Nat.pow_succ, Nat.mul_assoc, ← Nat.mul_add, Nat.mod_add_div]
    have h3 : BB ^ k * (vl BB (a.take (i + 1)) * 2 ^ w) = BB ^ k * (vl BB (a.take i) * 2 ^ w) + BB ^ (k + i) * (dg a i * 2 ^ w) := by
      rw [vl_take_succ, Nat.add_mul, Nat.mul_add, Nat.pow_add, Nat.mul_assoc (BB ^ i), Nat.mul_assoc (BB ^ k)]
    have h4 := h.v
    rw [Nat.mul_add] at h2
    rw [h1, h3]
    omega
theorem ShU.done {a out : List Nat} {k w c : Nat} (h : ShU a k w a.length out c) (hw : w < 32) : vl BB (out.set (k + a.length) c) = vl BB a * 2 ^ (32 * k + w) ∧ Dg BB (out.set (k + a.length) c) := by
  have hl : k + a.length < out.length := by rw [h.len]; omega
  have h1 := vl_set BB out (k + a.length) c hl
  rw [h.z _ (Nat.le_refl _), Nat.mul_zero, Nat.add_zero] at h1
  have hc : c < BB := Nat.lt_of_lt_of_le h.cr (by have := Nat.pow_le_pow_right (n := 2) (by decide) (show w ≤ 32 by omega); exact this)
  refine ⟨?_, h.d.set _ _ hc⟩
  have h4 := h.v
  rw [List.take_length] at h4
  rw [h1, h4, Nat.pow_add, Nat.pow_mul, show (2 : Nat) ^ 32 = BB from rfl, Nat.mul_left_comm]
/-- digits that are a number's -/
theorem vl_of_dg {B : Nat} (hB : 2 ≤ B) : ∀ (out : List Nat) (X : Nat), (∀ i, i < out.length → dg out i = X / B ^ i % B) → X < B ^ out.length → vl B out = X
  | [], X, _, h => by have : X < 1 := h; rw [vl]; omega
  | d :: l, X, hd, h => by
    have h0 : d = X % B := by
      have := hd 0 (by simp)
      rw [Nat.pow_zero, Nat.div_one] at this
      exact this
    have hl := vl_of_dg hB l (X / B) (fun i hi => by
      have h1 := hd (i + 1) (by simpa using hi)
      rw [Nat.pow_succ', ← Nat.div_div_eq_div_mul] at h1
      exact h1) (by
      rw [List.length_cons, Nat.pow_succ] at h
      exact (Nat.div_lt_iff_lt_mul (by omega)).2 h)
    rw [vl, hl, h0]
    exact Nat.mod_add_div X B
theorem div_dg {B : Nat} (hB : 2 ≤ B) {a : List Nat} (ha : Dg B a) (i : Nat) : ∃ z, vl B a / B ^ i = dg a i + B * (dg a (i + 1) + B * z) := by
  have hp : 0 < B ^ i := Nat.pow_pos (by omega)
  by_cases h : i < a.length
  · have h1 := vl_split B a i h
    have h2 := vl_lt (by omega) (ha.take i)
    rw [List.length_take, Nat.min_eq_left (by omega)] at h2
    have h3 : vl B a / B ^ i = dg a i + B * vl B (a.drop (i + 1)) := by
      rw [h1, Nat.add_mul_div_left _ _ hp, Nat.div_eq_of_lt h2, Nat.zero_add]
    by_cases h4 : i + 1 < a.length
    · exact ⟨_, by rw [h3, vl_drop _ _ _ h4]⟩
    · exact ⟨0, by rw [h3, List.drop_eq_nil_of_le (by omega), dg_out a (i + 1) (by omega)]; simp [vl]⟩
  · refine ⟨0, ?_⟩
    rw [dg_out a i (by omega), dg_out a (i + 1) (by omega)]
    have h2 := vl_lt (by omega) ha
    have h3 : B ^ a.length ≤ B ^ i := Nat.pow_le_pow_right (by omega) (by omega)
    rw [Nat.div_eq_of_lt (by omega), Nat.mul_zero, Nat.add_zero, Nat.mul_zero]
/-- a limb of a number shifted down -/
theorem shd_dg {a : List Nat} (ha : Dg BB a) (k w i : Nat) (hw : w < 32) : vl BB a / 2 ^ (32 * k + w) / BB ^ i % BB = (dg a (k + i) + BB * dg a (k + i + 1)) / 2 ^ w % BB := by
  obtain ⟨z, hz⟩ := div_dg (by decide) ha (k + i)
  have e1 : vl BB a / 2 ^ (32 * k + w) / BB ^ i = vl BB a / BB ^ (k + i) / 2 ^ w := by
    rw [Nat.pow_add, Nat.pow_mul, show (2 : Nat) ^ 32 = BB from rfl, Nat.div_div_eq_div_mul, Nat.div_div_eq_div_mul, Nat.pow_add]
    congr 1
    simp only [Nat.mul_assoc, Nat.mul_comm]
  have e2 : BB * BB = 2 ^ w * (BB * 2 ^ (32 - w)) := by
    have : (2 : Nat) ^ w * 2 ^ (32 - w) = BB := by rw [← Nat.pow_add, show w + (32 - w) = 32 by omega]
    rw [Nat.mul_left_comm, this]
  have e3 : BB * (dg a (k + i + 1) + BB * z) = BB * dg a (k + i + 1) + 2 ^ w * (BB * (2 ^ (32 - w) * z)) := by
    rw [Nat.mul_add, ← Nat.mul_assoc BB BB, e2]
    simp only [Nat.mul_assoc]
  rw [e1, hz, e3, ← Nat.add_assoc, Nat.add_mul_div_left _ _ (Nat.pow_pos (by decide)), Nat.add_mul_mod_self_left]
theorem shd_lt {a : List Nat} (ha : Dg BB a) (k w : Nat) : vl BB a / 2 ^ (32 * k + w) < BB ^ (a.length - k) := by
  have h := vl_lt (by decide) ha
  have h1 : vl BB a / 2 ^ (32 * k + w) ≤ vl BB a / BB ^ k := by
    rw [Nat.pow_add, Nat.pow_mul, show (2 : Nat) ^ 32 = BB from rfl, ← Nat.div_div_eq_div_mul]
    exact Nat.div_le_self _ _
  have h2 : vl BB a / BB ^ k < BB ^ (a.length - k) := by
    refine (Nat.div_lt_iff_lt_mul (Nat.pow_pos (by decide))).2 ?_
    rw [← Nat.pow_add]
    exact Nat.lt_of_lt_of_le h (Nat.pow_le_pow_right (by decide) (by omega))
  omega
/-- what makes 1 of a modulo m; 0 where there is nothing -/
noncomputable def invN (a m : Nat) : Nat := by
  classical
  exact if h : ∃ v, v < m ∧ v * a % m = 1 then Classical.choose h else 0
theorem inv_unique {a m u v : Nat} (hu : u < m) (hv : v < m) (h1 : u * a % m = 1) (h2 : v * a % m = 1) : u = v := by
  have e1 : u * (v * a) % m = u % m := by rw [← Nat.mul_mod_mod, h2, Nat.mul_one]
  have e2 : u * (v * a) % m = v % m := by rw [Nat.mul_left_comm, ← Nat.mul_mod_mod, h1, Nat.mul_one]
  rw [e1, Nat.mod_eq_of_lt hu, Nat.mod_eq_of_lt hv] at e2
  exact e2
theorem invN_eq {a m v : Nat} (hv : v < m) (h : v * a % m = 1) : v = invN a m := by
  have hh : ∃ v, v < m ∧ v * a % m = 1 := ⟨v, hv, h⟩
  unfold invN
  rw [dif_pos hh]
  exact inv_unique hv (Classical.choose_spec hh).1 h (Classical.choose_spec hh).2
/-- between the rounds of Euclid's way: x and y are what is left, p and q how often a is in them, modulo m, by turns above and below 0 (s: x's is below) -/
structure Eu (a m x y p q : Nat) (s : Bool) : Prop where
  pos : 0 < x
  id : q * x + p * y = m
  le : p ≤ m
  g : Nat.gcd x y = Nat.gcd m a
  mx : if s then (x + p * a) % m = 0 else x % m = p * a % m
  my : if s then y % m = q * a % m else (y + q * a) % m = 0
theorem Eu.start {a m : Nat} (hm : 2 ≤ m) : Eu a m m a 0 1 true := ⟨by omega, by omega, by omega, rfl, by simp, by simp⟩
theorem Eu.next {a m x y p q : Nat} {s : Bool} (h : Eu a m x y p q s) (hy : 0 < y) : Eu a m y (x % y) q (p + x / y * q) (!s) := by
  have hd := Nat.mod_add_div x y
  have hid := h.id
  have hx : x = x % y + x / y * y := by rw [Nat.mul_comm]; omega
  refine ⟨hy, ?_, ?_, ?_, ?_, ?_⟩
  · rw [Nat.add_mul, ← hid]
    have : q * x = q * (x % y) + x / y * q * y := by
      rw [congrArg (q * ·) hx, Nat.mul_add]
      congr 1
      simp only [Nat.mul_comm, Nat.mul_left_comm]
    omega
  · have : q * 1 ≤ q * x := Nat.mul_le_mul_left q h.pos
    omega
  · rw [← h.g, Nat.gcd_comm x y, Nat.gcd_rec y x, Nat.gcd_comm]
  · have := h.my
    cases s <;> simpa using this
  · have h1 := h.mx
    have h2 := h.my
    generalize x / y = t at *
    generalize x % y = r at *
    subst hx
    cases s with
    | true =>
      simp only [if_true, Bool.not_true, Bool.false_eq_true, if_false] at h1 h2 ⊢
      -- r + t y + p a = 0, y = q a: so r + (p + t q) a = 0
      have e : (r + (p + t * q) * a) % m = (r + p * a + t * (q * a)) % m := by congr 1; rw [Nat.add_mul, Nat.mul_assoc]; omega
      rw [e, Nat.add_mod, Nat.mul_mod, ← h2, ← Nat.mul_mod, ← Nat.add_mod, ← h1]
      congr 1
      omega
    | false =>
      simp only [if_true, Bool.not_false, Bool.false_eq_true, if_false] at h1 h2 ⊢
      -- r + t y = p a, y + q a = 0: so r = (p + t q) a
      have e : (r + t * (y + q * a)) % m = r % m := by rw [Nat.add_mod, Nat.mul_mod, h2]; simp
      have e2 : r + t * (y + q * a) = (r + t * y) + t * q * a := by rw [Nat.mul_add, Nat.mul_assoc]; omega
      rw [← e, e2, Nat.add_mod, h1, ← Nat.add_mod, ← Nat.add_mul]
/-- at the end: what is left is the greatest that goes into both; if that is 1, what makes 1 -/
theorem Eu.one {a m p q : Nat} {s : Bool} (h : Eu a m 1 0 p q s) (hm : 2 ≤ m) : (if s then m - p else p) < m ∧ (if s then m - p else p) * a % m = 1 := by
  have h1 := h.mx
  have hle := h.le
  have hpa : p ≠ 0 → p ≠ m → p < m := by omega
  cases s with
  | true =>
    simp only [if_true] at h1 ⊢
    have hp0 : p ≠ 0 := by
      intro e
      subst e
      rw [Nat.zero_mul, Nat.add_zero, Nat.mod_eq_of_lt (by omega)] at h1
      omega
    refine ⟨by omega, ?_⟩
    have e : (m - p) * a + (1 + p * a) = m * a + 1 := by
      rw [Nat.sub_mul]
      have := Nat.mul_le_mul_right a hle
      omega
    have e2 : ((m - p) * a + (1 + p * a)) % m = (m - p) * a % m := by rw [Nat.add_mod, h1]; simp
    rw [← e2, e, Nat.mul_add_mod, Nat.mod_eq_of_lt (by omega)]
  | false =>
    simp only [Bool.false_eq_true, if_false] at h1 ⊢
    rw [Nat.mod_eq_of_lt (by omega)] at h1
    refine ⟨?_, h1.symm⟩
    rcases Nat.lt_or_ge p m with h2 | h2
    · exact h2
    · obtain rfl : p = m := by omega
      rw [Nat.mul_mod_right] at h1
      omega
theorem Eu.last {a m x p q : Nat} {s : Bool} (h : Eu a m x 0 p q s) : x = Nat.gcd m a := by
  have := h.g
  rwa [Nat.gcd_zero_right] at this
/-- where there is one, nothing goes into both -/
theorem gcd_of_inv {a m v : Nat} (h : v * a % m = 1) : Nat.gcd m a = 1 := by
  have h1 : Nat.gcd m a ∣ v * a := Nat.dvd_trans (Nat.gcd_dvd_right m a) (Nat.dvd_mul_left a v)
  have h2 : Nat.gcd m a ∣ m := Nat.gcd_dvd_left m a
  have h3 := (Nat.dvd_mod_iff h2).2 h1
  rw [h] at h3
  exact Nat.dvd_one.1 h3
end Go.Proofs.YtpmoaccaknfodaaDoor
