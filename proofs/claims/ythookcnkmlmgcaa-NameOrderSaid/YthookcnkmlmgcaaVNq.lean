/-
  Sums, differences, products, quotients, powers of numbers as digits: what each round of the known ways leaves. No condition.
-/
import Derived.Test.YthookcnkmlmgcaaVNp
namespace Go.Proofs.Ythookcnkmlmgcaa
open Go
set_option maxRecDepth 4000

/-- a sum, behind i digits -/
structure AddS (B : Nat) (a b : List Nat) (i : Nat) (out : List Nat) (c : Nat) : Prop where
  len : out.length = i
  d : Dg B out
  cr : c ≤ 1
  v : vl B out + B ^ i * c = vl B (a.take i) + vl B (b.take i)
theorem AddS.start (B : Nat) (a b : List Nat) : AddS B a b 0 [] 0 := ⟨rfl, Dg.nil B, by omega, by simp [vl]⟩
theorem AddS.next {B : Nat} (hB : 2 ≤ B) {a b out : List Nat} {i c : Nat} (ha : Dg B a) (hb : Dg B b) (h : AddS B a b i out c) : AddS B a b (i + 1) (out ++ [(c + dg a i + dg b i) % B]) ((c + dg a i + dg b i) / B) := by
  have h1 := ha.at (by omega) i
  have h2 := hb.at (by omega) i
  have h3 := h.cr
  refine ⟨by simp [h.len], h.d.append (Dg.one (Nat.mod_lt _ (by omega))), ?_, ?_⟩
  · have : (c + dg a i + dg b i) / B < 2 := (Nat.div_lt_iff_lt_mul (by omega)).2 (by omega)
    omega
  · rw [vl_snoc, h.len, vl_take_succ, vl_take_succ, Nat.pow_succ, Nat.mul_assoc, Nat.add_assoc, ← Nat.mul_add, Nat.mod_add_div, Nat.mul_add, Nat.mul_add]
    have := h.v
    omega
theorem AddS.done {B : Nat} {a b out : List Nat} {i : Nat} (h : AddS B a b i out 0) (ha : a.length ≤ i) (hb : b.length ≤ i) : vl B out = vl B a + vl B b := by
  have := h.v
  rw [vl_take_all B a i ha, vl_take_all B b i hb] at this
  simpa using this
/-- a difference, behind i digits: c is what was borrowed -/
structure SubS (B : Nat) (a b : List Nat) (i : Nat) (out : List Nat) (c : Nat) : Prop where
  len : out.length = i
  d : Dg B out
  cr : c ≤ 1
  v : vl B (a.take i) + B ^ i * c = vl B out + vl B (b.take i)
theorem SubS.start (B : Nat) (a b : List Nat) : SubS B a b 0 [] 0 := ⟨rfl, Dg.nil B, by omega, by simp [vl]⟩
theorem SubS.keep {B : Nat} {a b out : List Nat} {i c : Nat} (ha : Dg B a) (hB : 2 ≤ B) (h : SubS B a b i out c) (hge : dg b i + c ≤ dg a i) : SubS B a b (i + 1) (out ++ [dg a i - dg b i - c]) 0 := by
  have h1 := ha.at (by omega) i
  refine ⟨by simp [h.len], h.d.append (Dg.one (by omega)), by omega, ?_⟩
  rw [vl_snoc, h.len, vl_take_succ, vl_take_succ]
  have hv := h.v
  obtain ⟨x, hx⟩ : ∃ x, dg a i = x + dg b i + c := ⟨dg a i - dg b i - c, by omega⟩
  rw [hx, show x + dg b i + c - dg b i - c = x by omega, Nat.mul_add, Nat.mul_add]
  omega
theorem SubS.borrow {B : Nat} {a b out : List Nat} {i c : Nat} (hb : Dg B b) (hB : 2 ≤ B) (h : SubS B a b i out c) (hlt : dg a i < dg b i + c) : SubS B a b (i + 1) (out ++ [dg a i + B - dg b i - c]) 1 := by
  have h1 := hb.at (by omega) i
  have h2 := h.cr
  refine ⟨by simp [h.len], h.d.append (Dg.one (by omega)), by omega, ?_⟩
  rw [vl_snoc, h.len, vl_take_succ, vl_take_succ, Nat.pow_succ, Nat.mul_one]
  have hv := h.v
  obtain ⟨x, hx⟩ : ∃ x, dg a i + B = x + dg b i + c := ⟨dg a i + B - dg b i - c, by omega⟩
  have h3 : B ^ i * dg a i + B ^ i * B = B ^ i * x + B ^ i * dg b i + B ^ i * c := by rw [← Nat.mul_add, hx, Nat.mul_add, Nat.mul_add]
  rw [hx, show x + dg b i + c - dg b i - c = x by omega]
  omega
theorem SubS.done {B : Nat} (hB : 0 < B) {a b out : List Nat} {i c : Nat} (h : SubS B a b i out c) (ha : a.length ≤ i) (hb : b.length ≤ i) (hle : vl B b ≤ vl B a) : c = 0 ∧ vl B out = vl B a - vl B b := by
  have hv := h.v
  rw [vl_take_all B a i ha, vl_take_all B b i hb] at hv
  have h1 := vl_lt hB h.d
  rw [h.len] at h1
  have h2 := h.cr
  have h3 : c = 0 := by
    by_cases hc : c = 1
    · subst hc; omega
    · omega
  subst h3
  exact ⟨rfl, by omega⟩
/-- a product, behind i digits of a -/
structure MulS (B : Nat) (a b : List Nat) (i : Nat) (out : List Nat) : Prop where
  len : out.length = a.length + b.length
  d : Dg B out
  z : ∀ j, i + b.length ≤ j → dg out j = 0
  v : vl B out = vl B (a.take i) * vl B b
/-- .. and k digits of b: c is what is carried -/
structure MulT (B : Nat) (a b : List Nat) (i k : Nat) (out : List Nat) (c : Nat) : Prop where
  len : out.length = a.length + b.length
  d : Dg B out
  z : ∀ j, i + b.length ≤ j → dg out j = 0
  cr : c < B
  v : vl B out + B ^ (i + k) * c = vl B (a.take i) * vl B b + B ^ i * (dg a i * vl B (b.take k))
theorem dg_zeros (n j : Nat) : dg (List.replicate n 0) j = 0 := by
  unfold dg
  rw [List.getD_eq_getElem?_getD, List.getElem?_replicate]
  split <;> rfl
theorem MulS.start {B : Nat} (hB : 0 < B) (a b : List Nat) : MulS B a b 0 (List.replicate (a.length + b.length) 0) :=
  ⟨by simp, fun d hd => by rw [(List.mem_replicate.1 hd).2]; exact hB, fun j _ => dg_zeros _ _, by rw [vl_zeros]; simp [vl]⟩
theorem MulS.enter {B : Nat} (hB : 0 < B) {a b out : List Nat} {i : Nat} (h : MulS B a b i out) : MulT B a b i 0 out 0 := ⟨h.len, h.d, h.z, hB, by simp [h.v, vl]⟩
theorem mul_room {B x y c o : Nat} (hx : x < B) (hy : y < B) (hc : c < B) (ho : o < B) : (c + x * y + o) / B < B := by
  refine (Nat.div_lt_iff_lt_mul (by omega)).2 ?_
  obtain ⟨k, rfl⟩ : ∃ k, B = k + 1 := ⟨B - 1, by omega⟩
  have h1 : x * y ≤ k * k := Nat.mul_le_mul (by omega) (by omega)
  have h2 : (k + 1) * (k + 1) = k * k + k + k + 1 := by rw [Nat.add_mul, Nat.mul_add]; omega
  omega
theorem MulT.next {B : Nat} {a b out : List Nat} {i k c : Nat} (ha : Dg B a) (hb : Dg B b) (hB : 2 ≤ B) (hi : i < a.length) (hk : k < b.length) (h : MulT B a b i k out c) :
    MulT B a b i (k + 1) (out.set (i + k) ((c + dg a i * dg b k + dg out (i + k)) % B)) ((c + dg a i * dg b k + dg out (i + k)) / B) := by
  have hl : i + k < out.length := by rw [h.len]; omega
  have h1 := vl_set B out (i + k) ((c + dg a i * dg b k + dg out (i + k)) % B) hl
  have h2 := Nat.mod_add_div (c + dg a i * dg b k + dg out (i + k)) B
  refine ⟨by rw [List.length_set]; exact h.len, h.d.set _ _ (Nat.mod_lt _ (by omega)), fun j hj => ?_, mul_room (ha.at (by omega) i) (hb.at (by omega) k) h.cr (h.d.at (by omega) _), ?_⟩
  · rw [dg_set _ _ _ _ hl, if_neg (by omega)]; exact h.z j hj
  · have hv := h.v
    generalize (c + dg a i * dg b k + dg out (i + k)) % B = r at *
    generalize (c + dg a i * dg b k + dg out (i + k)) / B = q at *
    have h3 : B ^ (i + k) * r + B ^ (i + (k + 1)) * q = B ^ (i + k) * c + B ^ i * (dg a i * (B ^ k * dg b k)) + B ^ (i + k) * dg out (i + k) := by
      rw [← Nat.add_assoc, Nat.pow_succ, Nat.mul_assoc, ← Nat.mul_add, h2, Nat.mul_add, Nat.mul_add]
      congr 2
      rw [Nat.pow_add]
      simp only [Nat.mul_assoc, Nat.mul_left_comm]
    rw [vl_take_succ, Nat.mul_add, Nat.mul_add]
    omega
theorem MulT.leave {B : Nat} {a b out : List Nat} {i c : Nat} (hi : i < a.length) (h : MulT B a b i b.length out c) : MulS B a b (i + 1) (out.set (i + b.length) c) := by
  have hl : i + b.length < out.length := by rw [h.len]; omega
  have h1 := vl_set B out (i + b.length) c hl
  rw [h.z (i + b.length) (Nat.le_refl _), Nat.mul_zero, Nat.add_zero] at h1
  refine ⟨by rw [List.length_set]; exact h.len, h.d.set _ _ h.cr, fun j hj => ?_, ?_⟩
  · rw [dg_set _ _ _ _ hl, if_neg (by omega)]; exact h.z j (by omega)
  · rw [h1, h.v, List.take_length, vl_take_succ, Nat.add_mul, Nat.mul_assoc]
theorem MulS.done {B : Nat} {a b out : List Nat} (h : MulS B a b a.length out) : vl B out = vl B a * vl B b := by rw [h.v, List.take_length]
/-- how often at least: by the first digits -/
theorem fit_le {B b r hi rh d : Nat} (n : Nat) (hb : b < (hi + 1) * B ^ n) (hr : rh * B ^ n ≤ r) (hd : d = rh / (hi + 1)) : d * b ≤ r := by
  subst hd
  have h1 : rh / (hi + 1) * (hi + 1) ≤ rh := Nat.div_mul_le_self _ _
  have h2 : rh / (hi + 1) * b ≤ rh / (hi + 1) * ((hi + 1) * B ^ n) := Nat.mul_le_mul_left _ (Nat.le_of_lt hb)
  rw [← Nat.mul_assoc] at h2
  have h3 := Nat.mul_le_mul_right (B ^ n) h1
  omega
/-- the digits from i on, with the one below -/
theorem vl_drop (B : Nat) (l : List Nat) (i : Nat) (h : i < l.length) : vl B (l.drop i) = dg l i + B * vl B (l.drop (i + 1)) := by
  have e1 : dg l i = l[i] := by simp [dg, h]
  rw [e1, List.drop_eq_getElem_cons h, vl]
/-- a bit of a number, in the digit that holds it -/
theorem bit_dg (s : Nat) (l : List Nat) (hl : Dg (2 ^ s) l) (i : Nat) (hs : 0 < s) : vl (2 ^ s) l / 2 ^ i % 2 = dg l (i / s) / 2 ^ (i % s) % 2 := by
  have hB : 0 < 2 ^ s := Nat.pow_pos (by decide)
  by_cases h : i / s < l.length
  · have h1 := vl_split (2 ^ s) l (i / s) h
    have h2 := vl_lt hB (hl.take (i / s))
    rw [List.length_take, Nat.min_eq_left (by omega)] at h2
    have h3 : 2 ^ i = (2 ^ s) ^ (i / s) * 2 ^ (i % s) := by rw [← Nat.pow_mul, ← Nat.pow_add, Nat.div_add_mod]
    rw [h1, h3, ← Nat.div_div_eq_div_mul, Nat.add_mul_div_left _ _ (Nat.pow_pos hB), Nat.div_eq_of_lt h2, Nat.zero_add]
    have h4 : i % s < s := Nat.mod_lt _ hs
    have h5 : 2 ^ s = 2 ^ (i % s) * (2 * 2 ^ (s - i % s - 1)) := by rw [← Nat.pow_succ', ← Nat.pow_add]; congr 1; omega
    have h6 : ∀ z, (dg l (i / s) + 2 ^ s * z) / 2 ^ (i % s) = dg l (i / s) / 2 ^ (i % s) + 2 * (2 ^ (s - i % s - 1) * z) := fun z => by
      rw [h5, Nat.mul_assoc, Nat.add_mul_div_left _ _ (Nat.pow_pos (by decide)), Nat.mul_assoc]
    rw [h6, Nat.add_mul_mod_self_left]
  · rw [dg_out l _ (by omega), Nat.zero_div]
    have h2 := vl_lt hB hl
    have h3 : (2 ^ s) ^ l.length ≤ 2 ^ i := by
      rw [← Nat.pow_mul]
      refine Nat.pow_le_pow_right (by decide) ?_
      have := Nat.mul_le_mul_left s (show l.length ≤ i / s by omega)
      have h5 := Nat.div_add_mod i s
      omega
    rw [Nat.div_eq_of_lt (by omega)]
/-- a power, bit by bit from above -/
theorem pow_bit (a e m i : Nat) : a ^ (e / 2 ^ i) % m = ((a ^ (e / 2 ^ (i + 1)) % m) * (a ^ (e / 2 ^ (i + 1)) % m) % m * (if e / 2 ^ i % 2 = 1 then a % m else 1)) % m := by
  have h1 : e / 2 ^ i = 2 * (e / 2 ^ (i + 1)) + e / 2 ^ i % 2 := by
    rw [Nat.pow_succ, ← Nat.div_div_eq_div_mul]
    omega
  have h2 : a ^ (2 * (e / 2 ^ (i + 1))) = a ^ (e / 2 ^ (i + 1)) * a ^ (e / 2 ^ (i + 1)) := by rw [Nat.two_mul, Nat.pow_add]
  rw [congrArg (fun z => a ^ z % m) h1]
  rw [Nat.pow_add, h2, ← Nat.mul_mod, Nat.mod_mul_mod]
  rcases Nat.mod_two_eq_zero_or_one (e / 2 ^ i) with h | h
  · rw [h, if_neg (by decide), Nat.pow_zero]
  · rw [h, if_pos rfl, Nat.pow_one, Nat.mul_mod_mod]
end Go.Proofs.Ythookcnkmlmgcaa
