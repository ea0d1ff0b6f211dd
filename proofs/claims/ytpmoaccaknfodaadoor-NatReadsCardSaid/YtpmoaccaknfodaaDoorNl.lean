/-
  Sums and differences in place, shifts, Knuth's digit round by round, Euclid with cofactors: numbers and lists alone. No condition.
-/
import Derived.Test.YtpmoaccaknfodaaDoorNk
namespace Go.Proofs.YtpmoaccaknfodaaDoor
open Go

theorem take_set_succ (l : List Nat) (i x : Nat) (h : i < l.length) : (l.set i x).take (i + 1) = l.take i ++ [x] := by
  rw [take_succ_dg (l.set i x) i (by simpa using h), dg_set _ _ _ _ h, if_pos rfl, List.take_set_of_le (Nat.le_refl _)]
theorem drop_set_succ (l : List Nat) (i x : Nat) : (l.set i x).drop (i + 1) = l.drop (i + 1) := List.drop_set_of_lt (by omega)
theorem drop_succ_of {a b : List Nat} {i : Nat} (h : a.drop i = b.drop i) : a.drop (i + 1) = b.drop (i + 1) := by
  rw [Nat.add_comm i 1, ← List.drop_drop, ← List.drop_drop]
  have e : ∀ l : List Nat, (l.drop 1).drop i = (l.drop i).drop 1 := fun l => by rw [List.drop_drop, List.drop_drop, Nat.add_comm]
  rw [e, e, h]
theorem dg_drop (l : List Nat) (i j : Nat) : dg (l.drop i) j = dg l (i + j) := by
  unfold dg
  rw [List.getD_eq_getElem?_getD, List.getD_eq_getElem?_getD, List.getElem?_drop]
theorem dg_of_drop {a b : List Nat} {i : Nat} (h : a.drop i = b.drop i) : dg a i = dg b i := by
  have e := congrArg (fun l => dg l 0) h
  simpa only [dg_drop, Nat.add_zero] using e
theorem dg_append_l (a b : List Nat) (i : Nat) (h : i < a.length) : dg (a ++ b) i = dg a i := by
  unfold dg
  rw [List.getD_eq_getElem?_getD, List.getD_eq_getElem?_getD, List.getElem?_append_left h]
theorem dg_append_r (a b : List Nat) (i : Nat) : dg (a ++ b) (a.length + i) = dg b i := by
  unfold dg
  rw [List.getD_eq_getElem?_getD, List.getD_eq_getElem?_getD, List.getElem?_append_right (by omega), Nat.add_sub_cancel_left]
theorem dg_take (l : List Nat) (k i : Nat) (h : i < k) : dg (l.take k) i = dg l i := by
  unfold dg
  rw [List.getD_eq_getElem?_getD, List.getD_eq_getElem?_getD, List.getElem?_take, if_pos h]

/-- b put onto a in place, behind i digits -/
structure AddP (B : Nat) (a b : List Nat) (i : Nat) (out : List Nat) (c : Nat) : Prop where
  len : out.length = a.length
  d : Dg B out
  hi : out.drop i = a.drop i
  cr : c ≤ 1
  v : vl B (out.take i) + B ^ i * c = vl B (a.take i) + vl B (b.take i)
theorem AddP.start {B : Nat} {a : List Nat} (ha : Dg B a) (b : List Nat) : AddP B a b 0 a 0 := ⟨rfl, ha, rfl, by omega, by simp [vl]⟩
theorem AddP.next {B : Nat} (hB : 2 ≤ B) {a b out : List Nat} {i c t : Nat} (hb : Dg B b) (hi : i < a.length) (h : AddP B a b i out c) (ht : t = dg out i + c + dg b i) : AddP B a b (i + 1) (out.set i (t % B)) (t / B) := by
  have h1 := h.d.at (by omega) i
  have h2 := hb.at (by omega) i
  have h3 := h.cr
  have hl : i < out.length := by rw [h.len]; exact hi
  refine ⟨by rw [List.length_set]; exact h.len, h.d.set _ _ (Nat.mod_lt _ (by omega)), by rw [drop_set_succ]; exact drop_succ_of h.hi, ?_, ?_⟩
  · have : t / B < 2 := (Nat.div_lt_iff_lt_mul (by omega)).2 (by omega)
    omega
  · rw [take_set_succ _ _ _ hl, vl_snoc, List.length_take, Nat.min_eq_left (by omega), vl_take_succ, vl_take_succ, Nat.pow_succ, Nat.mul_assoc, Nat.add_assoc, ← Nat.mul_add, Nat.mod_add_div, ht, dg_of_drop h.hi, Nat.mul_add, Nat.mul_add]
    have := h.v
    omega
theorem AddP.done {B : Nat} {a b out : List Nat} {c : Nat} (h : AddP B a b a.length out c) (hb : b.length ≤ a.length) : vl B out + B ^ a.length * c = vl B a + vl B b := by
  have := h.v
  rw [vl_take_all B out _ (by rw [h.len]; omega), vl_take_all B a _ (Nat.le_refl _), vl_take_all B b _ hb] at this
  exact this

/-- b, k times, taken from a in place, behind i digits: c is what is owed -/
structure SubP (B : Nat) (a b : List Nat) (k i : Nat) (out : List Nat) (c : Nat) : Prop where
  len : out.length = a.length
  d : Dg B out
  hi : out.drop i = a.drop i
  cr : c < B
  v : vl B (a.take i) + B ^ i * c = vl B (out.take i) + k * vl B (b.take i)
theorem SubP.start {B : Nat} (hB : 0 < B) {a : List Nat} (ha : Dg B a) (b : List Nat) (k : Nat) : SubP B a b k 0 a 0 := ⟨rfl, ha, rfl, hB, by simp [vl]⟩
theorem SubP.next {B : Nat} (hB : 2 ≤ B) {a b out : List Nat} {k i c x c' : Nat} (hb : Dg B b) (hk : k < B) (hi : i < a.length) (h : SubP B a b k i out c) (hx : x < B) (he : dg out i + B * c' = x + k * dg b i + c) : SubP B a b k (i + 1) (out.set i x) c' := by
  have h2 := hb.at (by omega) i
  have h3 := h.cr
  have hl : i < out.length := by rw [h.len]; exact hi
  refine ⟨by rw [List.length_set]; exact h.len, h.d.set _ _ hx, by rw [drop_set_succ]; exact drop_succ_of h.hi, ?_, ?_⟩
  · obtain ⟨m, rfl⟩ : ∃ m, B = m + 1 := ⟨B - 1, by omega⟩
    have e1 : k * dg b i ≤ m * m := Nat.mul_le_mul (by omega) (by omega)
    have e2 : (m + 1) * c' < (m + 1) * (m + 1) := by
      have e3 : (m + 1) * (m + 1) = m * m + m + m + 1 := by rw [Nat.add_mul, Nat.mul_add]; omega
      omega
    exact Nat.lt_of_mul_lt_mul_left e2
  · rw [take_set_succ _ _ _ hl, vl_snoc, List.length_take, Nat.min_eq_left (by omega), vl_take_succ, vl_take_succ, Nat.pow_succ, Nat.mul_assoc, Nat.mul_add k, ← dg_of_drop h.hi]
    have h4 : B ^ i * dg out i + B ^ i * (B * c') = B ^ i * x + k * (B ^ i * dg b i) + B ^ i * c := by
      rw [← Nat.mul_add, he, Nat.mul_add, Nat.mul_add, Nat.mul_left_comm k]
    have := h.v
    omega
theorem SubP.done {B : Nat} {a b out : List Nat} {k c : Nat} (h : SubP B a b k a.length out c) (hb : b.length ≤ a.length) : vl B a + B ^ a.length * c = vl B out + k * vl B b := by
  have := h.v
  rw [vl_take_all B out _ (by rw [h.len]; omega), vl_take_all B a _ (Nat.le_refl _), vl_take_all B b _ hb] at this
  exact this

/-- a digit of a quotient: what is left, if the guess was right; or too great by one -/
theorem red_one {u v t p1 c N : Nat} (hv : 0 < v) (hvN : v ≤ N) (h1 : u / v ≤ t) (h2 : t ≤ u / v + 1) (hp : p1 < N) (he : u + N * c = p1 + t * v) :
    (c = 0 ∧ t = u / v ∧ p1 = u % v) ∨ (0 < c ∧ t = u / v + 1 ∧ ∀ p2 c2, p2 < N → c2 ≤ 1 → p2 + N * c2 = p1 + v → p2 = u % v) := by
  have hq := Nat.div_add_mod u v
  have hm := Nat.mod_lt u hv
  rw [Nat.mul_comm] at hq
  rcases Nat.lt_or_ge t (u / v + 1) with hlt | hge
  · obtain rfl : t = u / v := by omega
    left
    have h0 : c = 0 := by
      rcases Nat.eq_zero_or_pos c with h | h
      · exact h
      · have : N * 1 ≤ N * c := Nat.mul_le_mul_left N h
        omega
    subst h0
    exact ⟨rfl, rfl, by omega⟩
  · obtain rfl : t = u / v + 1 := by omega
    right
    rw [Nat.add_mul, Nat.one_mul] at he
    have h0 : c = 1 := by
      rcases Nat.lt_or_ge c 1 with h | h
      · obtain rfl : c = 0 := by omega
        omega
      · rcases Nat.lt_or_ge c 2 with h3 | h3
        · omega
        · have : N * 2 ≤ N * c := Nat.mul_le_mul_left N h3
          omega
    subst h0
    refine ⟨by omega, rfl, fun p2 c2 hp2 hc2 h3 => ?_⟩
    rcases Nat.lt_or_ge c2 1 with h | h
    · obtain rfl : c2 = 0 := by omega
      omega
    · obtain rfl : c2 = 1 := by omega
      omega
/-- what stands in the rows while b is taken from a, from above, down to digit i -/
structure RedS (B V vb i : Nat) (L T : List Nat) : Prop where
  lt : vl B L < vb * B ^ i
  v : V = vl B L + vb * B ^ i * vl B (T.drop i)
theorem cut3 (L : List Nat) (p n : Nat) : L = L.take p ++ ((L.drop p).take n ++ L.drop (p + n)) := by
  rw [← List.drop_drop, List.take_append_drop, List.take_append_drop]
/-- a round asks of the digits from p on: they're below the base times b; those beyond are 0 -/
theorem RedS.part {B V vb p n : Nat} {L T : List Nat} (hB : 2 ≤ B) (h : RedS B V vb (p + 1) L T) (hn : vb < B ^ n) (hl : p + n + 1 ≤ L.length) :
    vl B ((L.drop p).take (n + 1)) < vb * B ∧ vl B (L.drop (p + (n + 1))) = 0 ∧ vl B L = vl B (L.take p) + B ^ p * vl B ((L.drop p).take (n + 1)) := by
  have e := congrArg (vl B) (cut3 L p (n + 1))
  rw [vl_append, vl_append, List.length_take, Nat.min_eq_left (by omega), List.length_take, List.length_drop, Nat.min_eq_left (by omega), Nat.mul_add] at e
  have h1 := h.lt
  have hp : 0 < B ^ p := Nat.pow_pos (by omega)
  have h0 : vl B (L.drop (p + (n + 1))) = 0 := by
    rcases Nat.eq_zero_or_pos (vl B (L.drop (p + (n + 1)))) with h2 | h2
    · exact h2
    · have h3 : B ^ p * (B ^ (n + 1) * 1) ≤ B ^ p * (B ^ (n + 1) * vl B (L.drop (p + (n + 1)))) := Nat.mul_le_mul_left _ (Nat.mul_le_mul_left _ h2)
      have h4 : vb * B ^ (p + 1) ≤ B ^ n * B ^ (p + 1) := Nat.mul_le_mul_right _ (by omega)
      have h5 : B ^ n * B ^ (p + 1) = B ^ p * (B ^ (n + 1) * 1) := by rw [Nat.mul_one, ← Nat.pow_add, ← Nat.pow_add]; congr 1; omega
      omega
  rw [h0, Nat.mul_zero, Nat.mul_zero, Nat.add_zero] at e
  refine ⟨?_, h0, e⟩
  rw [Nat.pow_succ, ← Nat.mul_assoc, Nat.mul_right_comm] at h1
  have h2 : B ^ p * vl B ((L.drop p).take (n + 1)) < B ^ p * (vb * B) := by rw [Nat.mul_comm (B ^ p) (vb * B)]; omega
  exact Nat.lt_of_mul_lt_mul_left h2
theorem RedS.next {B V vb p n : Nat} {L T l : List Nat} (hB : 2 ≤ B) (h : RedS B V vb (p + 1) L T) (hd : Dg B L) (hn : vb < B ^ n) (hv : 0 < vb) (hl : p + n + 1 ≤ L.length) (hp : p < T.length)
    (hl' : l.length = n + 1) (he : vl B l = vl B ((L.drop p).take (n + 1)) % vb) : RedS B V vb p (L.take p ++ (l ++ L.drop (p + (n + 1)))) (T.set p (vl B ((L.drop p).take (n + 1)) / vb)) := by
  obtain ⟨h1, h2, h3⟩ := h.part hB hn hl
  have hlt := vl_lt (by omega) (hd.take p)
  rw [List.length_take, Nat.min_eq_left (by omega)] at hlt
  have hm := Nat.mod_lt (vl B ((L.drop p).take (n + 1))) hv
  have hq := Nat.mod_add_div (vl B ((L.drop p).take (n + 1))) vb
  have e : vl B (L.take p ++ (l ++ L.drop (p + (n + 1)))) = vl B (L.take p) + B ^ p * vl B l := by
    rw [vl_append, vl_append, h2, List.length_take, Nat.min_eq_left (by omega), Nat.mul_zero, Nat.add_zero]
  have hw := h.v
  generalize vl B ((L.drop p).take (n + 1)) = u at *
  have e2 : vl B ((T.set p (u / vb)).drop p) = u / vb + B * vl B (T.drop (p + 1)) := by
    rw [vl_drop _ _ _ (by simpa using hp), dg_set _ _ _ _ hp, if_pos rfl, drop_set_succ]
  refine ⟨?_, ?_⟩
  · rw [e, he]
    have h5 : B ^ p * (u % vb + 1) ≤ B ^ p * vb := Nat.mul_le_mul_left _ hm
    rw [Nat.mul_add, Nat.mul_one, Nat.mul_comm _ vb] at h5
    omega
  · rw [e, e2, hw, h3, he, Nat.mul_add (vb * B ^ p), Nat.pow_succ]
    have h6 : B ^ p * u = B ^ p * (u % vb) + vb * B ^ p * (u / vb) := by
      rw [Nat.mul_comm vb, Nat.mul_assoc, ← Nat.mul_add, hq]
    have h7 : vb * (B ^ p * B) * vl B (T.drop (p + 1)) = vb * B ^ p * (B * vl B (T.drop (p + 1))) := by simp only [Nat.mul_assoc]
    omega
theorem RedS.done {B V vb : Nat} {L T : List Nat} (h : RedS B V vb 0 L T) : vl B T = V / vb ∧ vl B L = V % vb := by
  have h1 := h.lt
  have h2 := h.v
  rw [Nat.pow_zero, Nat.mul_one] at h1 h2
  rw [List.drop_zero] at h2
  subst h2
  have hv : 0 < vb := by omega
  exact ⟨by rw [Nat.add_mul_div_left _ _ hv, Nat.div_eq_of_lt h1, Nat.zero_add], by rw [Nat.add_mul_mod_self_left, Nat.mod_eq_of_lt h1]⟩
theorem RedS.start {B V vb i : Nat} {L T : List Nat} (hL : vl B L = V) (hT : T.length ≤ i) (h : V < vb * B ^ i) : RedS B V vb i L T := ⟨by rw [hL]; exact h, by rw [hL, List.drop_eq_nil_of_le hT]; simp [vl]⟩

/-- the first digits of a number and of one that is to be taken from it -/
theorem kn_of {B : Nat} (hB : 2 ≤ B) {a b : List Nat} {m : Nat} (ha : Dg B a) (hb : Dg B b) (hla : a.length = m + 3) (hlb : b.length = m + 2) (ht : 1 ≤ dg b (m + 1)) :
    Kn B (B ^ m) (vl B a) (vl B b) (dg a (m + 2) * B + dg a (m + 1)) (dg b (m + 1)) (dg b m) (vl B (b.take m)) (dg a m) (vl B (a.take m)) := by
  have hv := vl_lt (by omega) (hb.take m)
  have hu := vl_lt (by omega) (ha.take m)
  rw [List.length_take, Nat.min_eq_left (by omega)] at hv hu
  refine ⟨?_, hv, ?_, hu, hb.at (by omega) _, ha.at (by omega) _, ht⟩
  · rw [← vl_take_all B b (m + 2) (by omega), show m + 2 = m + 1 + 1 by omega, vl_take_succ, vl_take_succ, Nat.pow_succ, Nat.add_mul, Nat.mul_assoc (B ^ m), Nat.mul_comm (B ^ m) (B * _), Nat.mul_comm B, Nat.mul_comm (B ^ m) (dg b m)]
    omega
  · have q1 : B ^ m * dg a m = dg a m * B ^ m := Nat.mul_comm _ _
    have q2 : B ^ (m + 1) * dg a (m + 1) = dg a (m + 1) * B * B ^ m := by rw [Nat.pow_succ]; simp only [Nat.mul_assoc, Nat.mul_comm, Nat.mul_left_comm]
    have q3 : B ^ (m + 1 + 1) * dg a (m + 1 + 1) = dg a (m + 2) * B * B * B ^ m := by rw [Nat.pow_succ, Nat.pow_succ, show m + 1 + 1 = m + 2 by omega]; simp only [Nat.mul_assoc, Nat.mul_comm, Nat.mul_left_comm]
    rw [← vl_take_all B a (m + 3) (by omega), show m + 3 = m + 1 + 1 + 1 by omega, vl_take_succ, vl_take_succ, vl_take_succ, Nat.add_mul, Nat.add_mul, Nat.add_mul, q1, q2, q3]
    omega
/-- between the rounds of the guess -/
structure Gu (B u v h1 v1 t left : Nat) : Prop where
  eq : t * v1 + left = h1
  lo : u / v ≤ t
  lf : left < B
section
variable {B M u v h1 v1 v2 vr u2 ur t left : Nat}
theorem Gu.start (k : Kn B M u v h1 v1 v2 vr u2 ur) (hv1 : v1 < B) : Gu B u v h1 v1 (h1 / v1) (h1 % v1) :=
  ⟨Nat.div_add_mod' _ _, k.lo, Nat.lt_trans (Nat.mod_lt _ k.h1) hv1⟩
/-- a round: the guess was too great -/
theorem Gu.less (k : Kn B M u v h1 v1 v2 vr u2 ur) (h : Gu B u v h1 v1 t left) (hu : u / v < B) (hc : B ≤ t ∨ left * B + u2 < t * v2) : 1 ≤ t ∧ (t - 1) * v1 + (left + v1) = h1 ∧ u / v ≤ t - 1 := by
  have h1' : u / v < t := by
    rcases hc with hc | hc
    · exact Nat.lt_of_lt_of_le hu hc
    · exact k.over h.eq (by rw [Nat.mul_comm B]; exact hc)
  have h0 : 1 ≤ t := Nat.lt_of_le_of_lt (Nat.zero_le _) h1'
  refine ⟨h0, ?_, Nat.le_sub_one_of_lt h1'⟩
  obtain ⟨s, rfl⟩ : ∃ s, t = s + 1 := ⟨t - 1, by omega⟩
  have := h.eq
  rw [Nat.add_mul, Nat.one_mul] at this
  rw [Nat.add_sub_cancel]
  omega
theorem Gu.fits (k : Kn B M u v h1 v1 v2 vr u2 ur) (h : Gu B u v h1 v1 t left) (ht : t < B) (hc : t * v2 ≤ left * B + u2) : u / v ≤ t ∧ t ≤ u / v + 1 :=
  ⟨h.lo, k.hi h.eq (by rw [Nat.mul_comm B]; exact hc) (by omega)⟩
/-- the rest grew beyond a digit -/
theorem gu_far (k : Kn B M u v h1 v1 v2 vr u2 ur) (he : t * v1 + left = h1) (hlo : u / v ≤ t) (hl : B ≤ left) (hh : h1 < (v1 + 1) * B) : t < B ∧ u / v ≤ t ∧ t ≤ u / v + 1 := by
  have ht : t < B := by
    rcases Nat.lt_or_ge t B with h | h
    · exact h
    · have h2 : B * v1 ≤ t * v1 := Nat.mul_le_mul_right v1 h
      rw [Nat.add_mul, Nat.one_mul, Nat.mul_comm v1] at hh
      omega
  exact ⟨ht, hlo, k.hi he (k.far (by omega) hl) (by omega)⟩
end
/-- the first two digits, by how much they're bounded -/
theorem kn_top {B : Nat} (hB : 2 ≤ B) {a b : List Nat} {m : Nat} (ha : Dg B a) (hb : Dg B b) (hla : a.length = m + 3) (hlb : b.length = m + 2) (h : vl B a < vl B b * B) : dg a (m + 2) * B + dg a (m + 1) < (dg b (m + 1) + 1) * B := by
  have h1 := vl_split B a (m + 2) (by omega)
  have h2 := vl_split B b (m + 1) (by omega)
  have h3 := vl_lt (by omega) (hb.take (m + 1))
  rw [List.length_take, Nat.min_eq_left (by omega)] at h3
  rw [List.drop_eq_nil_of_le (by omega)] at h1 h2
  simp only [vl, Nat.mul_zero, Nat.add_zero] at h1 h2
  have h4 := ha.at (by omega) (m + 1)
  have h5 : B ^ (m + 2) * dg a (m + 2) < B ^ (m + 2) * (dg b (m + 1) + 1) := by
    have e6 : B ^ (m + 1) * (dg b (m + 1) + 1) = B ^ (m + 1) * dg b (m + 1) + B ^ (m + 1) := Nat.mul_succ _ _
    have h6 : vl B b * B < B ^ (m + 1) * (dg b (m + 1) + 1) * B := Nat.mul_lt_mul_of_pos_right (by omega) (by omega)
    have h7 : B ^ (m + 1) * (dg b (m + 1) + 1) * B = B ^ (m + 2) * (dg b (m + 1) + 1) := by rw [Nat.mul_right_comm, ← Nat.pow_succ]
    omega
  have h8 := Nat.lt_of_mul_lt_mul_left h5
  have h9 : dg a (m + 2) * B ≤ dg b (m + 1) * B := Nat.mul_le_mul_right B (by omega)
  rw [Nat.add_mul, Nat.one_mul]
  omega
end Go.Proofs.YtpmoaccaknfodaaDoor
