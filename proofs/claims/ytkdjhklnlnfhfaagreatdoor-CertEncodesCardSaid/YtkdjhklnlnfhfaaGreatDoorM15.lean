/-
  A digit of a quotient, guessed from the first digits (Knuth, D): never too small, at most one too great. No condition.
  Sums and differences in place, shifts, Knuth's digit round by round, Euclid with cofactors: numbers and lists alone. No condition.
  Shifts of numbers as digits of 32 bits; Euclid with cofactors; what makes 1. No condition.
  Rows of limbs that are written in place: blocks known whole, windows in them; worlds in which some blocks alone have turned.
-/
import Derived.Test.YtkdjhklnlnfhfaaGreatDoorM14
import Derived.Test.YtkdjhklnlnfhfaaGreatDoorM5
namespace Go.Proofs.YtkdjhklnlnfhfaaGreatDoor
open Go
set_option maxRecDepth 4000

section
variable {B M u v h1 v1 v2 vr u2 ur qh rh : Nat}
/-- what is asked: v = (v1 B + v2) M + vr, u = (h1 B + u2) M + ur, h1 being u's two first digits; u below B times v -/
structure Kn (B M u v h1 v1 v2 vr u2 ur : Nat) : Prop where
  hv : v = (v1 * B + v2) * M + vr
  hr : vr < M
  hu : u = (h1 * B + u2) * M + ur
  hur : ur < M
  h2 : v2 < B
  hu2 : u2 < B
  h1 : 1 ≤ v1
theorem Kn.pos (k : Kn B M u v h1 v1 v2 vr u2 ur) : 0 < v := by
  have h := k.h1
  have hB : 0 < B := by have := k.h2; omega
  have hM : 0 < M := by have := k.hr; omega
  have h3 : 0 < (v1 * B + v2) * M := Nat.mul_pos (by have := Nat.mul_pos h hB; omega) hM
  rw [k.hv]; omega
/-- the guess by two digits over one is not too small -/
theorem Kn.lo (k : Kn B M u v h1 v1 v2 vr u2 ur) : u / v ≤ h1 / v1 := by
  have hB : 0 < B := by have := k.h2; omega
  have hM : 0 < M := by have := k.hr; omega
  refine (Nat.le_div_iff_mul_le k.h1).2 ?_
  have hq : u / v * v ≤ u := Nat.div_mul_le_self u v
  have a1 : u / v * (v1 * B * M) ≤ u / v * v := Nat.mul_le_mul_left _ (by rw [k.hv, Nat.add_mul]; omega)
  have a2 : u < (h1 + 1) * B * M := by
    have e : (h1 * B + u2 + 1) * M ≤ (h1 + 1) * B * M := Nat.mul_le_mul_right M (by rw [Nat.add_mul, Nat.one_mul]; have := k.hu2; omega)
    rw [Nat.add_mul, Nat.one_mul] at e
    have := k.hur
    rw [k.hu]; omega
  have a3 : u / v * v1 * (B * M) < (h1 + 1) * (B * M) := by
    rw [← Nat.mul_assoc (h1 + 1), Nat.mul_assoc (u / v), ← Nat.mul_assoc v1]
    omega
  have a4 := Nat.lt_of_mul_lt_mul_right a3
  omega
/-- a guess that fails the test is too great -/
theorem Kn.over (k : Kn B M u v h1 v1 v2 vr u2 ur) (hh : qh * v1 + rh = h1) (ht : B * rh + u2 < qh * v2) : u / v < qh := by
  refine (Nat.div_lt_iff_lt_mul k.pos).2 ?_
  have a1 : h1 * B + u2 + 1 ≤ qh * (v1 * B + v2) := by
    rw [← hh, Nat.add_mul, Nat.mul_add, Nat.mul_comm rh B, Nat.mul_assoc]
    omega
  have a2 := Nat.mul_le_mul_right M a1
  rw [Nat.add_mul, Nat.one_mul, Nat.mul_assoc] at a2
  have a3 : qh * ((v1 * B + v2) * M) ≤ qh * v := Nat.mul_le_mul_left qh (by rw [k.hv]; omega)
  have := k.hur
  rw [k.hu]
  omega
/-- a guess that passes it is at most one too great -/
theorem Kn.hi (k : Kn B M u v h1 v1 v2 vr u2 ur) (hh : qh * v1 + rh = h1) (ht : qh * v2 ≤ B * rh + u2) (hq : qh ≤ B) : qh ≤ u / v + 1 := by
  by_cases h0 : qh = 0
  · rw [h0]; exact Nat.zero_le _
  · obtain ⟨p, rfl⟩ : ∃ p, qh = p + 1 := ⟨qh - 1, by omega⟩
    have a1 : (p + 1) * (v1 * B + v2) ≤ h1 * B + u2 := by
      rw [← hh, Nat.add_mul ((p + 1) * v1), Nat.mul_add, Nat.mul_comm rh B, Nat.mul_assoc]
      omega
    have a2 := Nat.mul_le_mul_right M a1
    rw [Nat.add_mul p, Nat.one_mul, Nat.add_mul] at a2
    have a3 : p * vr ≤ (v1 * B + v2) * M := by
      have b1 : p ≤ v1 * B + v2 := by
        have b2 : 1 * B ≤ v1 * B := Nat.mul_le_mul_right B k.h1
        omega
      exact Nat.mul_le_mul b1 (Nat.le_of_lt k.hr)
    have a4 : p ≤ u / v := by
      refine (Nat.le_div_iff_mul_le k.pos).2 ?_
      rw [k.hv, Nat.mul_add, k.hu, ← Nat.mul_assoc]
      omega
    exact Nat.succ_le_succ a4
/-- .. and so is one whose rest has grown beyond a digit -/
theorem Kn.far (k : Kn B M u v h1 v1 v2 vr u2 ur) (hq : qh ≤ B) (hr : B ≤ rh) : qh * v2 ≤ B * rh + u2 := by
  have h := k.h2
  have a1 : qh * v2 ≤ B * B := Nat.mul_le_mul hq (Nat.le_of_lt h)
  have a2 : B * B ≤ B * rh := Nat.mul_le_mul_left B hr
  omega
end
end Go.Proofs.YtkdjhklnlnfhfaaGreatDoor
namespace Go.Proofs.YtkdjhklnlnfhfaaGreatDoor
open Go
set_option maxRecDepth 4000

theorem take_set_succ (l : List Nat) (i x : Nat) (h : i < l.length) : (l.set i x).take (i + 1) = l.take i ++ [x] := by
  rw [take_succ_dg (l.set i x) i (by simpa using h), dg_set _ _ _ _ h, if_pos rfl, List.take_set_of_le (Nat.le_refl _)]
theorem drop_set_succ (l : List Nat) (i x : Nat) : (l.set i x).drop (i + 1) = l.drop (i + 1) := List.drop_set_of_lt (by omega)
theorem drop_succ_of {a b : List Nat} {i : Nat} (h : a.drop i = b.drop i) : a.drop (i + 1) = b.drop (i + 1) := by
  rw [Nat.add_comm i 1, ← List.drop_drop, ← List.drop_drop]
  have e : ∀ l : List Nat, (l.drop 1).drop i = (l.drop i).drop 1 := fun l => by rw [List.drop_drop, List.drop_drop, Nat.add_comm]
  rw [e, e, h]
theorem dg_drop (l : List Nat) (i j : Nat) : dg (l.drop i) j = dg l (i + j) := by
  unfold dg
  rw [List.getD_eq_getElem?_getD, List.getD_eq_getElem?_getD, List.getElem?_drop]
theorem dg_of_drop {a b : List Nat} {i : Nat} (h : a.drop i = b.drop i) : dg a i = dg b i := by
  have e := congrArg (fun l => dg l 0) h
  simpa only [dg_drop, Nat.add_zero] using e
theorem dg_append_l (a b : List Nat) (i : Nat) (h : i < a.length) : dg (a ++ b) i = dg a i := by
  unfold dg
  rw [List.getD_eq_getElem?_getD, List.getD_eq_getElem?_getD, List.getElem?_append_left h]
theorem dg_append_r (a b : List Nat) (i : Nat) : dg (a ++ b) (a.length + i) = dg b i := by
  unfold dg
  rw [List.getD_eq_getElem?_getD, List.getD_eq_getElem?_getD, List.getElem?_append_right (by omega), Nat.add_sub_cancel_left]
theorem dg_take (l : List Nat) (k i : Nat) (h : i < k) : dg (l.take k) i = dg l i := by
  unfold dg
  rw [List.getD_eq_getElem?_getD, List.getD_eq_getElem?_getD, List.getElem?_take, if_pos h]

/-- b put onto a in place, behind i digits -/
structure AddP (B : Nat) (a b : List Nat) (i : Nat) (out : List Nat) (c : Nat) : Prop where
  len : out.length = a.length
  d : Dg B out
  hi : out.drop i = a.drop i
  cr : c ≤ 1
  v : vl B (out.take i) + B ^ i * c = vl B (a.take i) + vl B (b.take i)
theorem AddP.start {B : Nat} {a : List Nat} (ha : Dg B a) (b : List Nat) : AddP B a b 0 a 0 := ⟨rfl, ha, rfl, by omega, by simp [vl]⟩
theorem AddP.next {B : Nat} (hB : 2 ≤ B) {a b out : List Nat} {i c t : Nat} (hb : Dg B b) (hi : i < a.length) (h : AddP B a b i out c) (ht : t = dg out i + c + dg b i) : AddP B a b (i + 1) (out.set i (t % B)) (t / B) := by
  have h1 := h.d.at (by omega) i
  have h2 := hb.at (by omega) i
  have h3 := h.cr
  have hl : i < out.length := by rw [h.len]; exact hi
  refine ⟨by rw [List.length_set]; exact h.len, h.d.set _ _ (Nat.mod_lt _ (by omega)), by rw [drop_set_succ]; exact drop_succ_of h.hi, ?_, ?_⟩
  · have : t / B < 2 := (Nat.div_lt_iff_lt_mul (by omega)).2 (by omega)
    omega
  · rw [take_set_succ _ _ _ hl, vl_snoc, List.length_take, Nat.min_eq_left (by omega), vl_take_succ, vl_take_succ, Nat.pow_succ, Nat.mul_assoc, Nat.add_assoc, ← Nat.mul_add, Nat.mod_add_div, ht, dg_of_drop h.hi, Nat.mul_add, Nat.mul_add]
    have := h.v
    omega
theorem AddP.done {B : Nat} {a b out : List Nat} {c : Nat} (h : AddP B a b a.length out c) (hb : b.length ≤ a.length) : vl B out + B ^ a.length * c = vl B a + vl B b := by
  have := h.v
  rw [vl_take_all B out _ (by rw [h.len]; omega), vl_take_all B a _ (Nat.le_refl _), vl_take_all B b _ hb] at this
  exact this

/-- b, k times, taken from a in place, behind i digits: c is what is owed -/
structure SubP (B : Nat) (a b : List Nat) (k i : Nat) (out : List Nat) (c : Nat) : Prop where
  len : out.length = a.length
  d : Dg B out
  hi : out.drop i = a.drop i
  cr : c < B
  v : vl B (a.take i) + B ^ i * c = vl B (out.take i) + k * vl B (b.take i)
theorem SubP.start {B : Nat} (hB : 0 < B) {a : List Nat} (ha : Dg B a) (b : List Nat) (k : Nat) : SubP B a b k 0 a 0 := ⟨rfl, ha, rfl, hB, by simp [vl]⟩
theorem SubP.next {B : Nat} (hB : 2 ≤ B) {a b out : List Nat} {k i c x c' : Nat} (hb : Dg B b) (hk : k < B) (hi : i < a.length) (h : SubP B a b k i out c) (hx : x < B) (he : dg out i + B * c' = x + k * dg b i + c) : SubP B a b k (i + 1) (out.set i x) c' := by
  have h2 := hb.at (by omega) i
  have h3 := h.cr
  have hl : i < out.length := by rw [h.len]; exact hi
  refine ⟨by rw [List.length_set]; exact h.len, h.d.set _ _ hx, by rw [drop_set_succ]; exact drop_succ_of h.hi, ?_, ?_⟩
  · obtain ⟨m, rfl⟩ : ∃ m, B = m + 1 := ⟨B - 1, by omega⟩
    have e1 : k * dg b i ≤ m * m := Nat.mul_le_mul (by omega) (by omega)
    have e2 : (m + 1) * c' < (m + 1) * (m + 1) := by
      have e3 : (m + 1) * (m + 1) = m * m + m + m + 1 := by rw [Nat.add_mul, Nat.mul_add]; omega
      omega
    exact Nat.lt_of_mul_lt_mul_left e2
  · rw [take_set_succ _ _ _ hl, vl_snoc, List.length_take, Nat.min_eq_left (by omega), vl_take_succ, vl_take_succ, Nat.pow_succ, Nat.mul_assoc, Nat.mul_add k, ← dg_of_drop h.hi]
    have h4 : B ^ i * dg out i + B ^ i * (B * c') = B ^ i * x + k * (B ^ i * dg b i) + B ^ i * c := by
      rw [← Nat.mul_add, he, Nat.mul_add, Nat.mul_add, Nat.mul_left_comm k]
    have := h.v
    omega
theorem SubP.done {B : Nat} {a b out : List Nat} {k c : Nat} (h : SubP B a b k a.length out c) (hb : b.length ≤ a.length) : vl B a + B ^ a.length * c = vl B out + k * vl B b := by
  have := h.v
  rw [vl_take_all B out _ (by rw [h.len]; omega), vl_take_all B a _ (Nat.le_refl _), vl_take_all B b _ hb] at this
  exact this

/-- a digit of a quotient: what is left, if the guess was right; or too great by one -/
theorem red_one {u v t p1 c N : Nat} (hv : 0 < v) (hvN : v ≤ N) (h1 : u / v ≤ t) (h2 : t ≤ u / v + 1) (hp : p1 < N) (he : u + N * c = p1 + t * v) :
    (c = 0 ∧ t = u / v ∧ p1 = u % v) ∨ (0 < c ∧ t = u / v + 1 ∧ ∀ p2 c2, p2 < N → c2 ≤ 1 → p2 + N * c2 = p1 + v → p2 = u % v) := by
  have hq := Nat.div_add_mod u v
  have hm := Nat.mod_lt u hv
  rw [Nat.mul_comm] at hq
  rcases Nat.lt_or_ge t (u / v + 1) with hlt | hge
  · obtain rfl : t = u / v := by omega
    left
    have h0 : c = 0 := by
      rcases Nat.eq_zero_or_pos c with h | h
      · exact h
      · have : N * 1 ≤ N * c := Nat.mul_le_mul_left N h
        omega
    subst h0
    exact ⟨rfl, rfl, by omega⟩
  · obtain rfl : t = u / v + 1 := by omega
    right
    rw [Nat.add_mul, Nat.one_mul] at he
    have h0 : c = 1 := by
      rcases Nat.lt_or_ge c 1 with h | h
      · obtain rfl : c = 0 := by omega
        omega
      · rcases Nat.lt_or_ge c 2 with h3 | h3
        · omega
        · have : N * 2 ≤ N * c := Nat.mul_le_mul_left N h3
          omega
    subst h0
    refine ⟨by omega, rfl, fun p2 c2 hp2 hc2 h3 => ?_⟩
    rcases Nat.lt_or_ge c2 1 with h | h
    · obtain rfl : c2 = 0 := by omega
      omega
    · obtain rfl : c2 = 1 := by omega
      omega
/-- what stands in the rows while b is taken from a, from above, down to digit i -/
structure RedS (B V vb i : Nat) (L T : List Nat) : Prop where
  lt : vl B L < vb * B ^ i
  v : V = vl B L + vb * B ^ i * vl B (T.drop i)
theorem cut3 (L : List Nat) (p n : Nat) : L = L.take p ++ ((L.drop p).take n ++ L.drop (p + n)) := by
  rw [← List.drop_drop, List.take_append_drop, List.take_append_drop]
/-- a round asks of the digits from p on: they're below the base times b; those beyond are 0 -/
theorem RedS.part {B V vb p n : Nat} {L T : List Nat} (hB : 2 ≤ B) (h : RedS B V vb (p + 1) L T) (hn : vb < B ^ n) (hl : p + n + 1 ≤ L.length) :
    vl B ((L.drop p).take (n + 1)) < vb * B ∧ vl B (L.drop (p + (n + 1))) = 0 ∧ vl B L = vl B (L.take p) + B ^ p * vl B ((L.drop p).take (n + 1)) := by
  have e := congrArg (vl B) (cut3 L p (n + 1))
  rw [vl_append, vl_append, List.length_take, Nat.min_eq_left (by omega), List.length_take, List.length_drop, Nat.min_eq_left (by omega), Nat.mul_add] at e
  have h1 := h.lt
  have hp : 0 < B ^ p := Nat.pow_pos (by omega)
  have h0 : vl B (L.drop (p + (n + 1))) = 0 := by
    rcases Nat.eq_zero_or_pos (vl B (L.drop (p + (n + 1)))) with h2 | h2
    · exact h2
    · have h3 : B ^ p * (B ^ (n + 1) * 1) ≤ B ^ p * (B ^ (n + 1) * vl B (L.drop (p + (n + 1)))) := Nat.mul_le_mul_left _ (Nat.mul_le_mul_left _ h2)
      have h4 : vb * B ^ (p + 1) ≤ B ^ n * B ^ (p + 1) := Nat.mul_le_mul_right _ (by omega)
      have h5 : B ^ n * B ^ (p + 1) = B ^ p * (B ^ (n + 1) * 1) := by rw [Nat.mul_one, ← Nat.pow_add, ← Nat.pow_add]; congr 1; omega
      omega
  rw [h0, Nat.mul_zero, Nat.mul_zero, Nat.add_zero] at e
  refine ⟨?_, h0, e⟩
  rw [Nat.pow_succ, ← Nat.mul_assoc, Nat.mul_right_comm] at h1
  have h2 : B ^ p * vl B ((L.drop p).take (n + 1)) < B ^ p * (vb * B) := by rw [Nat.mul_comm (B ^ p) (vb * B)]; omega
  exact Nat.lt_of_mul_lt_mul_left h2
theorem RedS.next {B V vb p n : Nat} {L T l : List Nat} (hB : 2 ≤ B) (h : RedS B V vb (p + 1) L T) (hd : Dg B L) (hn : vb < B ^ n) (hv : 0 < vb) (hl : p + n + 1 ≤ L.length) (hp : p < T.length)
    (hl' : l.length = n + 1) (he : vl B l = vl B ((L.drop p).take (n + 1)) % vb) : RedS B V vb p (L.take p ++ (l ++ L.drop (p + (n + 1)))) (T.set p (vl B ((L.drop p).take (n + 1)) / vb)) := by
  obtain ⟨h1, h2, h3⟩ := h.part hB hn hl
  have hlt := vl_lt (by omega) (hd.take p)
  rw [List.length_take, Nat.min_eq_left (by omega)] at hlt
  have hm := Nat.mod_lt (vl B ((L.drop p).take (n + 1))) hv
  have hq := Nat.mod_add_div (vl B ((L.drop p).take (n + 1))) vb
  have e : vl B (L.take p ++ (l ++ L.drop (p + (n + 1)))) = vl B (L.take p) + B ^ p * vl B l := by
    rw [vl_append, vl_append, h2, List.length_take, Nat.min_eq_left (by omega), Nat.mul_zero, Nat.add_zero]
  have hw := h.v
  generalize vl B ((L.drop p).take (n + 1)) = u at *
  have e2 : vl B ((T.set p (u / vb)).drop p) = u / vb + B * vl B (T.drop (p + 1)) := by
    rw [vl_drop _ _ _ (by simpa using hp), dg_set _ _ _ _ hp, if_pos rfl, drop_set_succ]
  refine ⟨?_, ?_⟩
  · rw [e, he]
    have h5 : B ^ p * (u % vb + 1) ≤ B ^ p * vb := Nat.mul_le_mul_left _ hm
    rw [Nat.mul_add, Nat.mul_one, Nat.mul_comm _ vb] at h5
    omega
  · rw [e, e2, hw, h3, he, Nat.mul_add (vb * B ^ p), Nat.pow_succ]
    have h6 : B ^ p * u = B ^ p * (u % vb) + vb * B ^ p * (u / vb) := by
      rw [Nat.mul_comm vb, Nat.mul_assoc, ← Nat.mul_add, hq]
    have h7 : vb * (B ^ p * B) * vl B (T.drop (p + 1)) = vb * B ^ p * (B * vl B (T.drop (p + 1))) := by simp only [Nat.mul_assoc]
    omega
theorem RedS.done {B V vb : Nat} {L T : List Nat} (h : RedS B V vb 0 L T) : vl B T = V / vb ∧ vl B L = V % vb := by
  have h1 := h.lt
  have h2 := h.v
  rw [Nat.pow_zero, Nat.mul_one] at h1 h2
  rw [List.drop_zero] at h2
  subst h2
  have hv : 0 < vb := by omega
  exact ⟨by rw [Nat.add_mul_div_left _ _ hv, Nat.div_eq_of_lt h1, Nat.zero_add], by rw [Nat.add_mul_mod_self_left, Nat.mod_eq_of_lt h1]⟩
theorem RedS.start {B V vb i : Nat} {L T : List Nat} (hL : vl B L = V) (hT : T.length ≤ i) (h : V < vb * B ^ i) : RedS B V vb i L T := ⟨by rw [hL]; exact h, by rw [hL, List.drop_eq_nil_of_le hT]; simp [vl]⟩

/-- the first digits of a number and of one that is to be taken from it -/
theorem kn_of {B : Nat} (hB : 2 ≤ B) {a b : List Nat} {m : Nat} (ha : Dg B a) (hb : Dg B b) (hla : a.length = m + 3) (hlb : b.length = m + 2) (ht : 1 ≤ dg b (m + 1)) :
    Kn B (B ^ m) (vl B a) (vl B b) (dg a (m + 2) * B + dg a (m + 1)) (dg b (m + 1)) (dg b m) (vl B (b.take m)) (dg a m) (vl B (a.take m)) := by
  have hv := vl_lt (by omega) (hb.take m)
  have hu := vl_lt (by omega) (ha.take m)
  rw [List.length_take, Nat.min_eq_left (by omega)] at hv hu
  refine ⟨?_, hv, ?_, hu, hb.at (by omega) _, ha.at (by omega) _, ht⟩
  · rw [← vl_take_all B b (m + 2) (by omega), show m + 2 = m + 1 + 1 by omega, vl_take_succ, vl_take_succ, Nat.pow_succ, Nat.add_mul, Nat.mul_assoc (B ^ m), Nat.mul_comm (B ^ m) (B * _), Nat.mul_comm B, Nat.mul_comm (B ^ m) (dg b m)]
    omega
  · have q1 : B ^ m * dg a m = dg a m * B ^ m := Nat.mul_comm _ _
    have q2 : B ^ (m + 1) * dg a (m + 1) = dg a (m + 1) * B * B ^ m := by rw [Nat.pow_succ]; simp only [Nat.mul_assoc, Nat.mul_comm, Nat.mul_left_comm]
    have q3 : B ^ (m + 1 + 1) * dg a (m + 1 + 1) = dg a (m + 2) * B * B * B ^ m := by rw [Nat.pow_succ, Nat.pow_succ, show m + 1 + 1 = m + 2 by omega]; simp only [Nat.mul_assoc, Nat.mul_comm, Nat.mul_left_comm]
    rw [← vl_take_all B a (m + 3) (by omega), show m + 3 = m + 1 + 1 + 1 by omega, vl_take_succ, vl_take_succ, vl_take_succ, Nat.add_mul, Nat.add_mul, Nat.add_mul, q1, q2, q3]
    omega
/-- between the rounds of the guess -/
structure Gu (B u v h1 v1 t left : Nat) : Prop where
  eq : t * v1 + left = h1
  lo : u / v ≤ t
  lf : left < B
section
variable {B M u v h1 v1 v2 vr u2 ur t left : Nat}
theorem Gu.start (k : Kn B M u v h1 v1 v2 vr u2 ur) (hv1 : v1 < B) : Gu B u v h1 v1 (h1 / v1) (h1 % v1) :=
  ⟨Nat.div_add_mod' _ _, k.lo, Nat.lt_trans (Nat.mod_lt _ k.h1) hv1⟩
/-- a round: the guess was too great -/
theorem Gu.less (k : Kn B M u v h1 v1 v2 vr u2 ur) (h : Gu B u v h1 v1 t left) (hu : u / v < B) (hc : B ≤ t ∨ left * B + u2 < t * v2) : 1 ≤ t ∧ (t - 1) * v1 + (left + v1) = h1 ∧ u / v ≤ t - 1 := by
  have h1' : u / v < t := by
    rcases hc with hc | hc
    · exact Nat.lt_of_lt_of_le hu hc
    · exact k.over h.eq (by rw [Nat.mul_comm B]; exact hc)
  have h0 : 1 ≤ t := Nat.lt_of_le_of_lt (Nat.zero_le _) h1'
  refine ⟨h0, ?_, Nat.le_sub_one_of_lt h1'⟩
  obtain ⟨s, rfl⟩ : ∃ s, t = s + 1 := ⟨t - 1, by omega⟩
  have := h.eq
  rw [Nat.add_mul, Nat.one_mul] at this
  rw [Nat.add_sub_cancel]
  omega
theorem Gu.fits (k : Kn B M u v h1 v1 v2 vr u2 ur) (h : Gu B u v h1 v1 t left) (ht : t < B) (hc : t * v2 ≤ left * B + u2) : u / v ≤ t ∧ t ≤ u / v + 1 :=
  ⟨h.lo, k.hi h.eq (by rw [Nat.mul_comm B]; exact hc) (by omega)⟩
/-- the rest grew beyond a digit -/
theorem gu_far (k : Kn B M u v h1 v1 v2 vr u2 ur) (he : t * v1 + left = h1) (hlo : u / v ≤ t) (hl : B ≤ left) (hh : h1 < (v1 + 1) * B) : t < B ∧ u / v ≤ t ∧ t ≤ u / v + 1 := by
  have ht : t < B := by
    rcases Nat.lt_or_ge t B with h | h
    · exact h
    · have h2 : B * v1 ≤ t * v1 := Nat.mul_le_mul_right v1 h
      rw [Nat.add_mul, Nat.one_mul, Nat.mul_comm v1] at hh
      omega
  exact ⟨ht, hlo, k.hi he (k.far (by omega) hl) (by omega)⟩
end
/-- the first two digits, by how much they're bounded -/
theorem kn_top {B : Nat} (hB : 2 ≤ B) {a b : List Nat} {m : Nat} (ha : Dg B a) (hb : Dg B b) (hla : a.length = m + 3) (hlb : b.length = m + 2) (h : vl B a < vl B b * B) : dg a (m + 2) * B + dg a (m + 1) < (dg b (m + 1) + 1) * B := by
  have h1 := vl_split B a (m + 2) (by omega)
  have h2 := vl_split B b (m + 1) (by omega)
  have h3 := vl_lt (by omega) (hb.take (m + 1))
  rw [List.length_take, Nat.min_eq_left (by omega)] at h3
  rw [List.drop_eq_nil_of_le (by omega)] at h1 h2
  simp only [vl, Nat.mul_zero, Nat.add_zero] at h1 h2
  have h4 := ha.at (by omega) (m + 1)
  have h5 : B ^ (m + 2) * dg a (m + 2) < B ^ (m + 2) * (dg b (m + 1) + 1) := by
    have e6 : B ^ (m + 1) * (dg b (m + 1) + 1) = B ^ (m + 1) * dg b (m + 1) + B ^ (m + 1) := Nat.mul_succ _ _
    have h6 : vl B b * B < B ^ (m + 1) * (dg b (m + 1) + 1) * B := Nat.mul_lt_mul_of_pos_right (by omega) (by omega)
    have h7 : B ^ (m + 1) * (dg b (m + 1) + 1) * B = B ^ (m + 2) * (dg b (m + 1) + 1) := by rw [Nat.mul_right_comm, ← Nat.pow_succ]
    omega
  have h8 := Nat.lt_of_mul_lt_mul_left h5
  have h9 : dg a (m + 2) * B ≤ dg b (m + 1) * B := Nat.mul_le_mul_right B (by omega)
  rw [Nat.add_mul, Nat.one_mul]
  omega
end Go.Proofs.YtkdjhklnlnfhfaaGreatDoor
namespace Go.Proofs.YtkdjhklnlnfhfaaGreatDoor
open Go
set_option maxRecDepth 4000

abbrev BB : Nat := 4294967296
/-- shifted up so many limbs and w bits, behind i limbs: c is what is carried -/
structure ShU (a : List Nat) (k w i : Nat) (out : List Nat) (c : Nat) : Prop where
  len : out.length = a.length + k + 1
  d : Dg BB out
  z : ∀ j, k + i ≤ j → dg out j = 0
  cr : c < 2 ^ w
  v : vl BB out + BB ^ (k + i) * c = BB ^ k * (vl BB (a.take i) * 2 ^ w)
theorem ShU.start (a : List Nat) (k w : Nat) : ShU a k w 0 (List.replicate (a.length + k + 1) 0) 0 :=
  ⟨by simp, fun d hd => by rw [(List.mem_replicate.1 hd).2]; decide, fun j _ => dg_zeros _ _, Nat.pow_pos (by decide), by rw [vl_zeros]; simp [vl]⟩
theorem sh_room {x c w : Nat} (hx : x < BB) (hc : c < 2 ^ w) : (x * 2 ^ w + c) / BB < 2 ^ w := by
  refine (Nat.div_lt_iff_lt_mul (by decide)).2 ?_
  have h : (x + 1) * 2 ^ w ≤ BB * 2 ^ w := Nat.mul_le_mul_right _ hx
  rw [Nat.add_mul, Nat.one_mul] at h
  rw [Nat.mul_comm (2 ^ w)]
  omega
theorem ShU.next {a out : List Nat} {k w i c : Nat} (ha : Dg BB a) (hi : i < a.length) (h : ShU a k w i out c) :
    ShU a k w (i + 1) (out.set (k + i) ((dg a i * 2 ^ w + c) % BB)) ((dg a i * 2 ^ w + c) / BB) := by
  have hl : k + i < out.length := by rw [h.len]; omega
  have h1 := vl_set BB out (k + i) ((dg a i * 2 ^ w + c) % BB) hl
  rw [h.z _ (Nat.le_refl _), Nat.mul_zero, Nat.add_zero] at h1
  refine ⟨by rw [List.length_set]; exact h.len, h.d.set _ _ (Nat.mod_lt _ (by decide)), fun j hj => ?_, sh_room (ha.at (by decide) i) h.cr, ?_⟩
  · rw [dg_set _ _ _ _ hl, if_neg (by omega)]; exact h.z j (by omega)
  · have h2 : BB ^ (k + i) * ((dg a i * 2 ^ w + c) % BB) + BB ^ (k + (i + 1)) * ((dg a i * 2 ^ w + c) / BB) = BB ^ (k + i) * (dg a i * 2 ^ w + c) := by
      rw [← Nat.add_assoc, Nat.pow_succ, Nat.mul_assoc, ← Nat.mul_add, Nat.mod_add_div]
    have h3 : BB ^ k * (vl BB (a.take (i + 1)) * 2 ^ w) = BB ^ k * (vl BB (a.take i) * 2 ^ w) + BB ^ (k + i) * (dg a i * 2 ^ w) := by
      rw [vl_take_succ, Nat.add_mul, Nat.mul_add, Nat.pow_add, Nat.mul_assoc (BB ^ i), Nat.mul_assoc (BB ^ k)]
    have h4 := h.v
    rw [Nat.mul_add] at h2
    rw [h1, h3]
    omega
theorem ShU.done {a out : List Nat} {k w c : Nat} (h : ShU a k w a.length out c) (hw : w < 32) : vl BB (out.set (k + a.length) c) = vl BB a * 2 ^ (32 * k + w) ∧ Dg BB (out.set (k + a.length) c) := by
  have hl : k + a.length < out.length := by rw [h.len]; omega
  have h1 := vl_set BB out (k + a.length) c hl
  rw [h.z _ (Nat.le_refl _), Nat.mul_zero, Nat.add_zero] at h1
  have hc : c < BB := Nat.lt_of_lt_of_le h.cr (by have := Nat.pow_le_pow_right (n := 2) (by decide) (show w ≤ 32 by omega); exact this)
  refine ⟨?_, h.d.set _ _ hc⟩
  have h4 := h.v
  rw [List.take_length] at h4
  rw [h1, h4, Nat.pow_add, Nat.pow_mul, show (2 : Nat) ^ 32 = BB from rfl, Nat.mul_left_comm]
/-- digits that are a number's -/
theorem vl_of_dg {B : Nat} (hB : 2 ≤ B) : ∀ (out : List Nat) (X : Nat), (∀ i, i < out.length → dg out i = X / B ^ i % B) → X < B ^ out.length → vl B out = X
  | [], X, _, h => by have : X < 1 := h; rw [vl]; omega
  | d :: l, X, hd, h => by
    have h0 : d = X % B := by
      have := hd 0 (by simp)
      rw [Nat.pow_zero, Nat.div_one] at this
      exact this
    have hl := vl_of_dg hB l (X / B) (fun i hi => by
      have h1 := hd (i + 1) (by simpa using hi)
      rw [Nat.pow_succ', ← Nat.div_div_eq_div_mul] at h1
      exact h1) (by
      rw [List.length_cons, Nat.pow_succ] at h
      exact (Nat.div_lt_iff_lt_mul (by omega)).2 h)
    rw [vl, hl, h0]
    exact Nat.mod_add_div X B
theorem div_dg {B : Nat} (hB : 2 ≤ B) {a : List Nat} (ha : Dg B a) (i : Nat) : ∃ z, vl B a / B ^ i = dg a i + B * (dg a (i + 1) + B * z) := by
  have hp : 0 < B ^ i := Nat.pow_pos (by omega)
  by_cases h : i < a.length
  · have h1 := vl_split B a i h
    have h2 := vl_lt (by omega) (ha.take i)
    rw [List.length_take, Nat.min_eq_left (by omega)] at h2
    have h3 : vl B a / B ^ i = dg a i + B * vl B (a.drop (i + 1)) := by
      rw [h1, Nat.add_mul_div_left _ _ hp, Nat.div_eq_of_lt h2, Nat.zero_add]
    by_cases h4 : i + 1 < a.length
    · exact ⟨_, by rw [h3, vl_drop _ _ _ h4]⟩
    · exact ⟨0, by rw [h3, List.drop_eq_nil_of_le (by omega), dg_out a (i + 1) (by omega)]; simp [vl]⟩
  · refine ⟨0, ?_⟩
    rw [dg_out a i (by omega), dg_out a (i + 1) (by omega)]
    have h2 := vl_lt (by omega) ha
    have h3 : B ^ a.length ≤ B ^ i := Nat.pow_le_pow_right (by omega) (by omega)
    rw [Nat.div_eq_of_lt (by omega), Nat.mul_zero, Nat.add_zero, Nat.mul_zero]
/-- a limb of a number shifted down -/
theorem shd_dg {a : List Nat} (ha : Dg BB a) (k w i : Nat) (hw : w < 32) : vl BB a / 2 ^ (32 * k + w) / BB ^ i % BB = (dg a (k + i) + BB * dg a (k + i + 1)) / 2 ^ w % BB := by
  obtain ⟨z, hz⟩ := div_dg (by decide) ha (k + i)
  have e1 : vl BB a / 2 ^ (32 * k + w) / BB ^ i = vl BB a / BB ^ (k + i) / 2 ^ w := by
    rw [Nat.pow_add, Nat.pow_mul, show (2 : Nat) ^ 32 = BB from rfl, Nat.div_div_eq_div_mul, Nat.div_div_eq_div_mul, Nat.pow_add]
    congr 1
    simp only [Nat.mul_assoc, Nat.mul_comm]
  have e2 : BB * BB = 2 ^ w * (BB * 2 ^ (32 - w)) := by
    have : (2 : Nat) ^ w * 2 ^ (32 - w) = BB := by rw [← Nat.pow_add, show w + (32 - w) = 32 by omega]
    rw [Nat.mul_left_comm, this]
  have e3 : BB * (dg a (k + i + 1) + BB * z) = BB * dg a (k + i + 1) + 2 ^ w * (BB * (2 ^ (32 - w) * z)) := by
    rw [Nat.mul_add, ← Nat.mul_assoc BB BB, e2]
    simp only [Nat.mul_assoc]
  rw [e1, hz, e3, ← Nat.add_assoc, Nat.add_mul_div_left _ _ (Nat.pow_pos (by decide)), Nat.add_mul_mod_self_left]
theorem shd_lt {a : List Nat} (ha : Dg BB a) (k w : Nat) : vl BB a / 2 ^ (32 * k + w) < BB ^ (a.length - k) := by
  have h := vl_lt (by decide) ha
  have h1 : vl BB a / 2 ^ (32 * k + w) ≤ vl BB a / BB ^ k := by
    rw [Nat.pow_add, Nat.pow_mul, show (2 : Nat) ^ 32 = BB from rfl, ← Nat.div_div_eq_div_mul]
    exact Nat.div_le_self _ _
  have h2 : vl BB a / BB ^ k < BB ^ (a.length - k) := by
    refine (Nat.div_lt_iff_lt_mul (Nat.pow_pos (by decide))).2 ?_
    rw [← Nat.pow_add]
    exact Nat.lt_of_lt_of_le h (Nat.pow_le_pow_right (by decide) (by omega))
  omega
/-- what makes 1 of a modulo m; 0 where there is nothing -/
noncomputable def invN (a m : Nat) : Nat := by
  classical
  exact if h : ∃ v, v < m ∧ v * a % m = 1 then Classical.choose h else 0
theorem inv_unique {a m u v : Nat} (hu : u < m) (hv : v < m) (h1 : u * a % m = 1) (h2 : v * a % m = 1) : u = v := by
  have e1 : u * (v * a) % m = u % m := by rw [← Nat.mul_mod_mod, h2, Nat.mul_one]
  have e2 : u * (v * a) % m = v % m := by rw [Nat.mul_left_comm, ← Nat.mul_mod_mod, h1, Nat.mul_one]
  rw [e1, Nat.mod_eq_of_lt hu, Nat.mod_eq_of_lt hv] at e2
  exact e2
theorem invN_eq {a m v : Nat} (hv : v < m) (h : v * a % m = 1) : v = invN a m := by
  have hh : ∃ v, v < m ∧ v * a % m = 1 := ⟨v, hv, h⟩
  unfold invN
  rw [dif_pos hh]
  exact inv_unique hv (Classical.choose_spec hh).1 h (Classical.choose_spec hh).2
/-- between the rounds of Euclid's way: x and y are what is left, p and q how often a is in them, modulo m, by turns above and below 0 (s: x's is below) -/
structure Eu (a m x y p q : Nat) (s : Bool) : Prop where
  pos : 0 < x
  id : q * x + p * y = m
  le : p ≤ m
  g : Nat.gcd x y = Nat.gcd m a
  mx : if s then (x + p * a) % m = 0 else x % m = p * a % m
  my : if s then y % m = q * a % m else (y + q * a) % m = 0
theorem Eu.start {a m : Nat} (hm : 2 ≤ m) : Eu a m m a 0 1 true := ⟨by omega, by omega, by omega, rfl, by simp, by simp⟩
theorem Eu.next {a m x y p q : Nat} {s : Bool} (h : Eu a m x y p q s) (hy : 0 < y) : Eu a m y (x % y) q (p + x / y * q) (!s) := by
  have hd := Nat.mod_add_div x y
  have hid := h.id
  have hx : x = x % y + x / y * y := by rw [Nat.mul_comm]; omega
  refine ⟨hy, ?_, ?_, ?_, ?_, ?_⟩
  · rw [Nat.add_mul, ← hid]
    have : q * x = q * (x % y) + x / y * q * y := by
      rw [congrArg (q * ·) hx, Nat.mul_add]
      congr 1
      simp only [Nat.mul_comm, Nat.mul_left_comm]
    omega
  · have : q * 1 ≤ q * x := Nat.mul_le_mul_left q h.pos
    omega
  · rw [← h.g, Nat.gcd_comm x y, Nat.gcd_rec y x, Nat.gcd_comm]
  · have := h.my
    cases s <;> simpa using this
  · have h1 := h.mx
    have h2 := h.my
    generalize x / y = t at *
    generalize x % y = r at *
    subst hx
    cases s with
    | true =>
      simp only [if_true, Bool.not_true, Bool.false_eq_true, if_false] at h1 h2 ⊢
      -- r + t y + p a = 0, y = q a: so r + (p + t q) a = 0
      have e : (r + (p + t * q) * a) % m = (r + p * a + t * (q * a)) % m := by congr 1; rw [Nat.add_mul, Nat.mul_assoc]; omega
      rw [e, Nat.add_mod, Nat.mul_mod, ← h2, ← Nat.mul_mod, ← Nat.add_mod, ← h1]
      congr 1
      omega
    | false =>
      simp only [if_true, Bool.not_false, Bool.false_eq_true, if_false] at h1 h2 ⊢
      -- r + t y = p a, y + q a = 0: so r = (p + t q) a
      have e : (r + t * (y + q * a)) % m = r % m := by rw [Nat.add_mod, Nat.mul_mod, h2]; simp
      have e2 : r + t * (y + q * a) = (r + t * y) + t * q * a := by rw [Nat.mul_add, Nat.mul_assoc]; omega
      rw [← e, e2, Nat.add_mod, h1, ← Nat.add_mod, ← Nat.add_mul]
/-- at the end: what is left is the greatest that goes into both; if that is 1, what makes 1 -/
theorem Eu.one {a m p q : Nat} {s : Bool} (h : Eu a m 1 0 p q s) (hm : 2 ≤ m) : (if s then m - p else p) < m ∧ (if s then m - p else p) * a % m = 1 := by
  have h1 := h.mx
  have hle := h.le
  have hpa : p ≠ 0 → p ≠ m → p < m := by omega
  cases s with
  | true =>
    simp only [if_true] at h1 ⊢
    have hp0 : p ≠ 0 := by
      intro e
      subst e
      rw [Nat.zero_mul, Nat.add_zero, Nat.mod_eq_of_lt (by omega)] at h1
      omega
    refine ⟨by omega, ?_⟩
    have e : (m - p) * a + (1 + p * a) = m * a + 1 := by
      rw [Nat.sub_mul]
      have := Nat.mul_le_mul_right a hle
      omega
    have e2 : ((m - p) * a + (1 + p * a)) % m = (m - p) * a % m := by rw [Nat.add_mod, h1]; simp
    rw [← e2, e, Nat.mul_add_mod, Nat.mod_eq_of_lt (by omega)]
  | false =>
    simp only [Bool.false_eq_true, if_false] at h1 ⊢
    rw [Nat.mod_eq_of_lt (by omega)] at h1
    refine ⟨?_, h1.symm⟩
    rcases Nat.lt_or_ge p m with h2 | h2
    · exact h2
    · obtain rfl : p = m := by omega
      rw [Nat.mul_mod_right] at h1
      omega
theorem Eu.last {a m x p q : Nat} {s : Bool} (h : Eu a m x 0 p q s) : x = Nat.gcd m a := by
  have := h.g
  rwa [Nat.gcd_zero_right] at this
/-- where there is one, nothing goes into both -/
theorem gcd_of_inv {a m v : Nat} (h : v * a % m = 1) : Nat.gcd m a = 1 := by
  have h1 : Nat.gcd m a ∣ v * a := Nat.dvd_trans (Nat.gcd_dvd_right m a) (Nat.dvd_mul_left a v)
  have h2 : Nat.gcd m a ∣ m := Nat.gcd_dvd_left m a
  have h3 := (Nat.dvd_mod_iff h2).2 h1
  rw [h] at h3
  exact Nat.dvd_one.1 h3
end Go.Proofs.YtkdjhklnlnfhfaaGreatDoor
namespace Go.Proofs.YtkdjhklnlnfhfaaGreatDoor
open Go Go.RowKit
set_option maxRecDepth 4000

abbrev ut : TypeId := 89
/-- limbs as cells -/
def lv (l : List Nat) : Array Value := (l.map vL).toArray
theorem lv_size (l : List Nat) : (lv l).size = l.length := by simp [lv]
theorem lv_at (l : List Nat) (i : Nat) (h : i < l.length) : (lv l)[i]? = some (.int .u32 (dg l i : Int)) := by
  have := dg_in l i h
  simp [lv, this, vL]
theorem lv_set (l : List Nat) (i x : Nat) : (lv l).setIfInBounds i (.int .u32 (x : Int)) = lv (l.set i x) := by
  unfold lv
  rw [List.setIfInBounds_toArray, List.map_set]
  rfl
/-- a slice lies in none of these blocks -/
def Out (A : Option Addr) (G : List Nat) : Prop := ∀ ad, A = some ad → ad.block ∉ G
theorem Out.none (G : List Nat) : Out none G := fun _ h => by cases h
theorem Out.some {g o : Nat} {G : List Nat} (h : g ∉ G) : Out (some ⟨g, o, Option.none⟩) G := fun _ e => by cases e; exact h
theorem Out.mono {A : Option Addr} {G G' : List Nat} (h : Out A G) (hG : ∀ k, k ∈ G' → k ∈ G) : Out A G' := fun ad e h1 => h ad e (hG _ h1)
/-- what was there before a block was made lies not in it -/
theorem Rd.lt_ {α : Type} {e : α → Value} {w : World} {A : Option Addr} {n c : Nat} {l : List α} (h : Rd e w A n c l) (hn : 0 < n) (ad : Addr) (ha : A = some ad) : ad.block < w.heap.size := by
  obtain ⟨g, o, e1, hc⟩ := h.at_ hn
  rw [e1] at ha
  cases ha
  have hl := h.len
  obtain ⟨x, hx⟩ : ∃ x, l[0]? = some x := ⟨l[0], by simp⟩
  exact block_lt_of_cell (hc 0 x hx)
theorem Rd.mds {α : Type} {e : α → Value} {w w' : World} {A : Option Addr} {n c : Nat} {l : List α} {G : List Nat} (h : Rd e w A n c l) (hm : Mds G w w') (ho : 0 < n → Out A G) : Rd e w' A n c l := by
  refine ⟨h.len, h.cap, h.nul, fun hn => ?_⟩
  obtain ⟨g, o, rfl, hc⟩ := h.at_ hn
  exact ⟨g, o, rfl, fun j x hj => (World.cell?_of_block (w := w) (a := ⟨g, o + j, none⟩) (hm.block g (block_lt_of_cell (hc j x hj)) (ho hn _ rfl))).trans (hc j x hj)⟩
/-- what was there before these blocks lies in none of them -/
theorem Rd.outs {α : Type} {e : α → Value} {w : World} {A : Option Addr} {n c : Nat} {l : List α} {G : List Nat} (h : Rd e w A n c l) (hG : ∀ k, k ∈ G → w.heap.size ≤ k) : 0 < n → Out A G := fun hn ad ha hk => by
  have h1 := h.lt_ hn ad ha
  have h2 := hG _ hk
  omega
/-- an empty slice: nothing is read of it -/
theorem Rd.out_of {α : Type} {e : α → Value} {w w' : World} {A : Option Addr} {n c : Nat} {l : List α} {G : List Nat} (h : Rd e w A n c l) (hm : Mds G w w') (hG : ∀ k, k ∈ G → w.heap.size ≤ k) : Rd e w' A n c l := by
  refine ⟨h.len, h.cap, h.nul, fun hn => ?_⟩
  obtain ⟨g, o, rfl, hc⟩ := h.at_ hn
  exact ⟨g, o, rfl, fun j x hj => (World.cell?_of_block (w := w) (a := ⟨g, o + j, none⟩) (hm.block g (block_lt_of_cell (hc j x hj)) fun e => by
    have := hG g e
    have h2 : g < w.heap.size := block_lt_of_cell (hc j x hj)
    omega)).trans (hc j x hj)⟩
/-- a block of limbs known whole -/
abbrev Lb (w : World) (g : Nat) (L : List Nat) : Prop := Blk w g ut (lv L)
section
variable {w w' : World} {g : Nat} {L : List Nat}
theorem Lb.cell (h : Lb w g L) (i : Nat) (hi : i < L.length) : w.cell? ⟨g, i, none⟩ = some (.int .u32 (dg L i : Int)) := (h.h.cell i).trans (lv_at L i hi)
theorem Lb.free (h : Lb w g L) (i : Nat) : w.frozen? ⟨g, i, none⟩ = false := h.h.frozen i
theorem Lb.set (h : Lb w g L) (i x : Nat) : Lb (w.setCell ⟨g, i, none⟩ (.int .u32 (x : Int))) g (L.set i x) := by
  have h1 := h.h.set i (.int .u32 (x : Int))
  rw [lv_set] at h1
  exact ⟨h1⟩
theorem Lb.win (h : Lb w g L) (o n c : Nat) (hn : o + n ≤ L.length) (hc : n ≤ c) : Rd vL w (some ⟨g, o, none⟩) n c ((L.drop o).take n) := by
  refine ⟨by rw [List.length_take, List.length_drop]; omega, hc, (fun e => by cases e), fun _ => ⟨g, o, rfl, fun j x hj => ?_⟩⟩
  have hjn : j < n := by have := (List.getElem?_eq_some_iff.1 hj).1; rw [List.length_take] at this; omega
  rw [Lb.cell h (o + j) (by omega)]
  have e2 : dg ((L.drop o).take n) j = x := by simp [dg, hj]
  rw [dg_take _ _ _ hjn, dg_drop] at e2
  rw [e2]
  rfl
theorem Lb.whole (h : Lb w g L) (n c : Nat) (hn : n = L.length) (hc : n ≤ c) : Rd vL w (some ⟨g, 0, none⟩) n c L := by
  have h1 := h.win 0 n c (by omega) hc
  rw [List.drop_zero, List.take_of_length_le (by omega)] at h1
  exact h1
theorem Lb.own (h : Lb w g L) {B n : Nat} (hB : B ≤ g) (hn : L.length = n) (hm : n ≤ maxLen) : Rw ut vL w B (.slice (some ⟨g, 0, none⟩) n n) n L := Rw.has h.h hn hB hm
end
theorem szL : (Tryz.prog.info? ut).map (·.size) = some 1 := by kernel_rfl
def zl (n : Nat) : List Nat := List.replicate n 0
theorem zl_len (n : Nat) : (zl n).length = n := by simp [zl]
theorem zl_dg (n : Nat) : Dg BB (zl n) := fun d hd => by rw [(List.mem_replicate.1 hd).2]; decide
/-- make(api.Nat, n) -/
theorem run_makeL (n : Nat) (S : Int) (hS : S = (n : Int)) (hn : n ≤ 10000000000000) (w : World) :
    (Instr.makeSlice nt (.int .i64 S) (.int .i64 S)).run Tryz.prog w = .ok (.slice (some ⟨w.heap.size, 0, none⟩) n n) (w.alloc (.cells (lv (zl n)) ut)) := by
  subst hS
  obtain ⟨i, hi, hz, hs, hb⟩ := info_parts inL
  have hr := run_make (P := Tryz.prog) w nt ut i (.int .u32 0) Tryz.underlying23 hi hz .i64 .i64 (n : Int) (n : Int) (by omega) (by omega) (by rw [hb]; omega) (by omega)
  rw [hr, hs]
  simp only [Int.toNat_natCast, Nat.mul_one]
  rw [show (Value.int .u32 0).cells = #[Value.int .u32 0] from rfl]
  have e : madeCells #[Value.int .u32 0] n = lv (zl n) := by
    apply Array.ext_getElem?
    intro i
    by_cases h : i < n
    · simp [madeCells, lv, zl, vL, h, Nat.mod_one]
    · simp [madeCells, lv, zl, h]
  rw [e]
theorem Lb.new (w : World) (L : List Nat) : Lb (w.alloc (.cells (lv L) ut)) w.heap.size L := Blk.new w ut (lv L)
/-- what a call leaves that makes a number: its limbs, in new memory -/
def FreshL (w : World) (v : Nat) (e : Ending) (w' : World) : Prop :=
  ∃ A n c, e = .returned (.slice A n c) ∧ Rw ut vL w' w.heap.size (.slice A n c) n (dgs BB v) ∧ Ext w w'
/-- limbs that read as a number's, with nothing of 0 at the end -/
abbrev Rl (w : World) (A : Option Addr) (n c v : Nat) : Prop := Rd vL w A n c (dgs BB v)
end Go.Proofs.YtkdjhklnlnfhfaaGreatDoor
