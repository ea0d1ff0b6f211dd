/-
  Sums, differences, products, quotients, powers of numbers as digits: what each round of the known ways leaves. No condition.
  Rows of ints and of limbs that read as digits; the reference's digit, trim, Cmp.
  Numbers in twos' complement, in as few bytes as may be; numbers in groups of seven bits; plain (for layer 8).
-/
import Derived.Test.YthookcnkmlmgcaaDoorM6
import Derived.Test.YthookcnkmlmgcaaDoorM4
import Derived.Test.YthookcnkmlmgcaaDoorM0
namespace Go.Proofs.YthookcnkmlmgcaaDoor
open Go
set_option maxRecDepth 4000

/-- a sum, behind i digits -/
structure AddS (B : Nat) (a b : List Nat) (i : Nat) (out : List Nat) (c : Nat) : Prop where
  len : out.length = i
  d : Dg B out
  cr : c ≤ 1
  v : vl B out + B ^ i * c = vl B (a.take i) + vl B (b.take i)
theorem AddS.start (B : Nat) (a b : List Nat) : AddS B a b 0 [] 0 := ⟨rfl, Dg.nil B, by omega, by simp [vl]⟩
theorem AddS.next {B : Nat} (hB : 2 ≤ B) {a b out : List Nat} {i c : Nat} (ha : Dg B a) (hb : Dg B b) (h : AddS B a b i out c) : AddS B a b (i + 1) (out ++ [(c + dg a i + dg b i) % B]) ((c + dg a i + dg b i) / B) := by
  have h1 := ha.at (by omega) i
  have h2 := hb.at (by omega) i
  have h3 := h.cr
  refine ⟨by simp [h.len], h.d.append (Dg.one (Nat.mod_lt _ (by omega))), ?_, ?_⟩
  · have : (c + dg a i + dg b i) / B < 2 := (Nat.div_lt_iff_lt_mul (by omega)).2 (by omega)
    omega
  · rw [vl_snoc, h.len, vl_take_succ, vl_take_succ, Nat.pow_succ, Nat.mul_assoc, Nat.add_assoc, ← Nat.mul_add, Nat.mod_add_div, Nat.mul_add, Nat.mul_add]
    have := h.v
    omega
theorem AddS.done {B : Nat} {a b out : List Nat} {i : Nat} (h : AddS B a b i out 0) (ha : a.length ≤ i) (hb : b.length ≤ i) : vl B out = vl B a + vl B b := by
  have := h.v
  rw [vl_take_all B a i ha, vl_take_all B b i hb] at this
  simpa using this
/-- a difference, behind i digits: c is what was borrowed -/
structure SubS (B : Nat) (a b : List Nat) (i : Nat) (out : List Nat) (c : Nat) : Prop where
  len : out.length = i
  d : Dg B out
  cr : c ≤ 1
  v : vl B (a.take i) + B ^ i * c = vl B out + vl B (b.take i)
theorem SubS.start (B : Nat) (a b : List Nat) : SubS B a b 0 [] 0 := ⟨rfl, Dg.nil B, by omega, by simp [vl]⟩
theorem SubS.keep {B : Nat} {a b out : List Nat} {i c : Nat} (ha : Dg B a) (hB : 2 ≤ B) (h : SubS B a b i out c) (hge : dg b i + c ≤ dg a i) : SubS B a b (i + 1) (out ++ [dg a i - dg b i - c]) 0 := by
  have h1 := ha.at (by omega) i
  refine ⟨by simp [h.len], h.d.append (Dg.one (by omega)), by omega, ?_⟩
  rw [vl_snoc, h.len, vl_take_succ, vl_take_succ]
  have hv := h.v
  obtain ⟨x, hx⟩ : ∃ x, dg a i = x + dg b i + c := ⟨dg a i - dg b i - c, by omega⟩
  rw [hx, show x + dg b i + c - dg b i - c = x by omega, Nat.mul_add, Nat.mul_add]
  omega
theorem SubS.borrow {B : Nat} {a b out : List Nat} {i c : Nat} (hb : Dg B b) (hB : 2 ≤ B) (h : SubS B a b i out c) (hlt : dg a i < dg b i + c) : SubS B a b (i + 1) (out ++ [dg a i + B - dg b i - c]) 1 := by
  have h1 := hb.at (by omega) i
  have h2 := h.cr
  refine ⟨by simp [h.len], h.d.append (Dg.one (by omega)), by omega, ?_⟩
  rw [vl_snoc, h.len, vl_take_succ, vl_take_succ, Nat.pow_succ, Nat.mul_one]
  have hv := h.v
  obtain ⟨x, hx⟩ : ∃ x, dg a i + B = x + dg b i + c := ⟨dg a i + B - dg b i - c, by omega⟩
  have h3 : B ^ i * dg a i + B ^ i * B = B ^ i * x + B ^ i * dg b i + B ^ i * c := by rw [← Nat.mul_add, hx, Nat.mul_add, Nat.mul_add]
  rw [hx, show x + dg b i + c - dg b i - c = x by omega]
  omega
theorem SubS.done {B : Nat} (hB : 0 < B) {a b out : List Nat} {i c : Nat} (h : SubS B a b i out c) (ha : a.length ≤ i) (hb : b.length ≤ i) (hle : vl B b ≤ vl B a) : c = 0 ∧ vl B out = vl B a - vl B b := by
  have hv := h.v
  rw [vl_take_all B a i ha, vl_take_all B b i hb] at hv
  have h1 := vl_lt hB h.d
  rw [h.len] at h1
  have h2 := h.cr
  have h3 : c = 0 := by
    by_cases hc : c = 1
    · subst hc; omega
    · omega
  subst h3
  exact ⟨rfl, by omega⟩
/-- a product, behind i digits of a -/
structure MulS (B : Nat) (a b : List Nat) (i : Nat) (out : List Nat) : Prop where
  len : out.length = a.length + b.length
  d : Dg B out
  z : ∀ j, i + b.length ≤ j → dg out j = 0
  v : vl B out = vl B (a.take i) * vl B b
/-- .. and k digits of b: c is what is carried -/
structure MulT (B : Nat) (a b : List Nat) (i k : Nat) (out : List Nat) (c : Nat) : Prop where
  len : out.length = a.length + b.length
  d : Dg B out
  z : ∀ j, i + b.length ≤ j → dg out j = 0
  cr : c < B
  v : vl B out + B ^ (i + k) * c = vl B (a.take i) * vl B b + B ^ i * (dg a i * vl B (b.take k))
theorem dg_zeros (n j : Nat) : dg (List.replicate n 0) j = 0 := by
  unfold dg
  rw [List.getD_eq_getElem?_getD, List.getElem?_replicate]
  split <;> rfl
theorem MulS.start {B : Nat} (hB : 0 < B) (a b : List Nat) : MulS B a b 0 (List.replicate (a.length + b.length) 0) :=
  ⟨by simp, fun d hd => by rw [(List.mem_replicate.1 hd).2]; exact hB, fun j _ => dg_zeros _ _, by rw [vl_zeros]; simp [vl]⟩
theorem MulS.enter {B : Nat} (hB : 0 < B) {a b out : List Nat} {i : Nat} (h : MulS B a b i out) : MulT B a b i 0 out 0 := ⟨h.len, h.d, h.z, hB, by simp [h.v, vl]⟩
theorem mul_room {B x y c o : Nat} (hx : x < B) (hy : y < B) (hc : c < B) (ho : o < B) : (c + x * y + o) / B < B := by
  refine (Nat.div_lt_iff_lt_mul (by omega)).2 ?_
  obtain ⟨k, rfl⟩ : ∃ k, B = k + 1 := ⟨B - 1, by omega⟩
  have h1 : x * y ≤ k * k := Nat.mul_le_mul (by omega) (by omega)
  have h2 : (k + 1) * (k + 1) = k * k + k + k + 1 := by rw [Nat.add_mul, Nat.mul_add]; omega
  omega
theorem MulT.next {B : Nat} {a b out : List Nat} {i k c : Nat} (ha : Dg B a) (hb : Dg B b) (hB : 2 ≤ B) (hi : i < a.length) (hk : k < b.length) (h : MulT B a b i k out c) :
    MulT B a b i (k + 1) (out.set (i + k) ((c + dg a i * dg b k + dg out (i + k)) % B)) ((c + dg a i * dg b k + dg out (i + k)) / B) := by
  have hl : i + k < out.length := by rw [h.len]; omega
  have h1 := vl_set B out (i + k) ((c + dg a i * dg b k + dg out (i + k)) % B) hl
  have h2 := Nat.mod_add_div (c + dg a i * dg b k + dg out (i + k)) B
  refine ⟨by rw [List.length_set]; exact h.len, h.d.set _ _ (Nat.mod_lt _ (by omega)), fun j hj => ?_, mul_room (ha.at (by omega) i) (hb.at (by omega) k) h.cr (h.d.at (by omega) _), ?_⟩
  · rw [dg_set _ _ _ _ hl, if_neg (by omega)]; exact h.z j hj
  · have hv := h.v
    generalize (c + dg a i * dg b k + dg out (i + k)) % B = r at *
    generalize (c + dg a i * dg b k + dg out (i + k)) / B = q at *
    have h3 : B ^ (i + k) * r + B ^ (i + (k + 1)) * q = B ^ (i + k) * c + B ^ i * (dg a i * (B ^ k * dg b k)) + B ^ (i + k) * dg out (i + k) := by
      rw [← Nat.add_assoc, Nat.pow_succ, Nat.mul_assoc, ← Nat.mul_add, h2, Nat.mul_add, Nat.mul_add]
      congr 2
      rw [Nat.pow_add]
      simp only [Nat.mul_assoc, Nat.mul_left_comm]
    rw [vl_take_succ, Nat.mul_add, Nat.mul_add]
    omega
theorem MulT.leave {B : Nat} {a b out : List Nat} {i c : Nat} (hi : i < a.length) (h : MulT B a b i b.length out c) : MulS B a b (i + 1) (out.set (i + b.length) c) := by
  have hl : i + b.length < out.length := by rw [h.len]; omega
  have h1 := vl_set B out (i + b.length) c hl
  rw [h.z (i + b.length) (Nat.le_refl _), Nat.mul_zero, Nat.add_zero] at h1
  refine ⟨by rw [List.length_set]; exact h.len, h.d.set _ _ h.cr, fun j hj => ?_, ?_⟩
  · rw [dg_set _ _ _ _ hl, if_neg (by omega)]; exact h.z j (by omega)
  · rw [h1, h.v, List.take_length, vl_take_succ, Nat.add_mul, Nat.mul_assoc]
theorem MulS.done {B : Nat} {a b out : List Nat} (h : MulS B a b a.length out) : vl B out = vl B a * vl B b := by rw [h.v, List.take_length]
/-- how often at least: by the first digits -/
theorem fit_le {B b r hi rh d : Nat} (n : Nat) (hb : b < (hi + 1) * B ^ n) (hr : rh * B ^ n ≤ r) (hd : d = rh / (hi + 1)) : d * b ≤ r := by
  subst hd
  have h1 : rh / (hi + 1) * (hi + 1) ≤ rh := Nat.div_mul_le_self _ _
  have h2 : rh / (hi + 1) * b ≤ rh / (hi + 1) * ((hi + 1) * B ^ n) := Nat.mul_le_mul_left _ (Nat.le_of_lt hb)
  rw [← Nat.mul_assoc] at h2
  have h3 := Nat.mul_le_mul_right (B ^ n) h1
  omega
/-- the digits from i on, with the one below -/
theorem vl_drop (B : Nat) (l : List Nat) (i : Nat) (h : i < l.length) : vl B (l.drop i) = dg l i + B * vl B (l.drop (i + 1)) := by
  have e1 : dg l i = l[i] := by simp [dg, h]
  rw [e1, List.drop_eq_getElem_cons h, vl]
/-- a bit of a number, in the digit that holds it -/
theorem bit_dg (s : Nat) (l : List Nat) (hl : Dg (2 ^ s) l) (i : Nat) (hs : 0 < s) : vl (2 ^ s) l / 2 ^ i % 2 = dg l (i / s) / 2 ^ (i % s) % 2 := by
  have hB : 0 < 2 ^ s := Nat.pow_pos (by decide)
  by_cases h : i / s < l.length
  · have h1 := vl_split (2 ^ s) l (i / s) h
    have h2 := vl_lt hB (hl.take (i / s))
    rw [List.length_take, Nat.min_eq_left (by omega)] at h2
    have h3 : 2 ^ i = (2 ^ s) ^ (i / s) * 2 ^ (i % s) := by rw [← Nat.pow_mul, ← Nat.pow_add, Nat.div_add_mod]
    rw [h1, h3, ← Nat.div_div_eq_div_mul, Nat.add_mul_div_left _ _ (Nat.pow_pos hB), Nat.div_eq_of_lt h2, Nat.zero_add]
    have h4 : i % s < s := Nat.mod_lt _ hs
    have h5 : 2 ^ s = 2 ^ (i % s) * (2 * 2 ^ (s - i % s - 1)) := by rw [← Nat.pow_succ', ← Nat.pow_add]; congr 1; omega
    have h6 : ∀ z, (dg l (i / s) + 2 ^ s * z) / 2 ^ (i % s) = dg l (i / s) / 2 ^ (i % s) + 2 * (2 ^ (s - i % s - 1) * z) := fun z => by
      rw [h5, Nat.mul_assoc, Nat.add_mul_div_left _ _ (Nat.pow_pos (by decide)), Nat.mul_assoc]
    rw [h6, Nat.add_mul_mod_self_left]
  · rw [dg_out l _ (by omega), Nat.zero_div]
    have h2 := vl_lt hB hl
    have h3 : (2 ^ s) ^ l.length ≤ 2 ^ i := by
      rw [← Nat.pow_mul]
      refine Nat.pow_le_pow_right (by decide) ?_
      have := Nat.mul_le_mul_left s (show l.length ≤ i / s by omega)
      have h5 := Nat.div_add_mod i s
      omega
    rw [Nat.div_eq_of_lt (by omega)]
/-- a power, bit by bit from above -/
theorem pow_bit (a e m i : Nat) : a ^ (e / 2 ^ i) % m = ((a ^ (e / 2 ^ (i + 1)) % m) * (a ^ (e / 2 ^ (i + 1)) % m) % m * (if e / 2 ^ i % 2 = 1 then a % m else 1)) % m := by
  have h1 : e / 2 ^ i = 2 * (e / 2 ^ (i + 1)) + e / 2 ^ i % 2 := by
    rw [Nat.pow_succ, ← Nat.div_div_eq_div_mul]
    omega
  have h2 : a ^ (2 * (e / 2 ^ (i + 1))) = a ^ (e / 2 ^ (i + 1)) * a ^ (e / 2 ^ (i + 1)) := by rw [Nat.two_mul, Nat.pow_add]
  rw [congrArg (fun z => a ^ z % m) h1]
  rw [Nat.pow_add, h2, ← Nat.mul_mod, Nat.mod_mul_mod]
  rcases Nat.mod_two_eq_zero_or_one (e / 2 ^ i) with h | h
  · rw [h, if_neg (by decide), Nat.pow_zero]
  · rw [h, if_pos rfl, Nat.pow_one, Nat.mul_mod_mod]
end Go.Proofs.YthookcnkmlmgcaaDoor
namespace Go.Proofs.YthookcnkmlmgcaaDoor
open Go Go.RowKit
set_option maxRecDepth 4000

/-- a digit as an int; a limb -/
def vI (d : Nat) : Value := .int .i64 (d : Int)
def vL (d : Nat) : Value := .int .u32 (d : Int)
theorem Rd.dig {e : Nat → Value} {w : World} {g o n c : Nat} {l : List Nat} (h : Rd e w (some ⟨g, o, none⟩) n c l) (j : Nat) (hj : j < n) : w.cell? ⟨g, o + j, none⟩ = some (e (dg l j)) := by
  obtain ⟨g', o', ea, hc⟩ := h.at_ (by omega)
  cases ea
  exact hc j _ (dg_in l j (by rw [h.len]; exact hj))
theorem Rd.some_ {α : Type} {e : α → Value} {w : World} {A : Option Addr} {n c : Nat} {l : List α} (h : Rd e w A n c l) (hn : 0 < n) : ∃ g o, A = some ⟨g, o, none⟩ := by
  obtain ⟨g, o, e1, _⟩ := h.at_ hn
  exact ⟨g, o, e1⟩
/-- how many digits count -/
def tl (l : List Nat) : Nat := (dgs 65536 (vl 65536 l)).length
/-- what Cmp says -/
def cmpI (a b : Nat) : Int := if a < b then -1 else if b < a then 1 else 0
theorem cmpI_lt {a b : Nat} (h : a < b) : cmpI a b = -1 := if_pos h
theorem cmpI_gt {a b : Nat} (h : b < a) : cmpI a b = 1 := by rw [cmpI, if_neg (by omega), if_pos h]
theorem cmpI_eq (a : Nat) : cmpI a a = 0 := by rw [cmpI, if_neg (by omega), if_neg (by omega)]
theorem drop_dg (a b : List Nat) (j : Nat) (hl : a.length = b.length) (hj : j < a.length) (h : a.drop (j + 1) = b.drop (j + 1)) (e : dg a j = dg b j) : a.drop j = b.drop j := by
  have hjb : j < b.length := by omega
  rw [List.drop_eq_getElem_cons hj, List.drop_eq_getElem_cons hjb, h]
  have h1 : dg a j = a[j] := by simp [dg, hj]
  have h2 : dg b j = b[j] := by simp [dg, hjb]
  rw [← h1, ← h2, e]
end Go.Proofs.YthookcnkmlmgcaaDoor
namespace Go.Proofs.YthookcnkmlmgcaaDoor
open Go
set_option maxRecDepth 4000

/-- the number that bytes make, the highest first, from a number on -/
def beF (n : Int) (b : List (BitVec 8)) : Int := b.foldl (fun n x => n * 256 + (x.toNat : Int)) n
def beV (b : List (BitVec 8)) : Nat := b.foldl (fun n x => n * 256 + x.toNat) 0
theorem beV_app (b : List (BitVec 8)) : ∀ n : Nat, b.foldl (fun n x => n * 256 + x.toNat) n = n * 256 ^ b.length + beV b := by
  induction b with
  | nil => intro n; simp [beV]
  | cons x r ih =>
    intro n
    have h0 := ih (0 * 256 + x.toNat)
    have h1 := ih (n * 256 + x.toNat)
    unfold beV at *
    rw [List.foldl_cons, List.foldl_cons, h0, h1, List.length_cons, Nat.pow_succ]
    simp only [Nat.add_mul, Nat.mul_assoc, Nat.mul_comm 256, Nat.zero_mul, Nat.zero_add]
    omega
theorem beV_cons (x : BitVec 8) (r : List (BitVec 8)) : beV (x :: r) = x.toNat * 256 ^ r.length + beV r := by
  have := beV_app r (0 * 256 + x.toNat)
  unfold beV at *
  rw [List.foldl_cons, this]
  simp
theorem beV_lt (b : List (BitVec 8)) : beV b < 256 ^ b.length := by
  induction b with
  | nil => decide
  | cons x r ih =>
    rw [beV_cons, List.length_cons, Nat.pow_succ]
    have hx := x.isLt
    have h1 : x.toNat * 256 ^ r.length ≤ 255 * 256 ^ r.length := Nat.mul_le_mul_right _ (by omega)
    omega
theorem beF_eq (b : List (BitVec 8)) : ∀ n : Int, beF n b = n * ((256 ^ b.length : Nat) : Int) + (beV b : Int) := by
  induction b with
  | nil => intro n; simp [beF, beV]
  | cons x r ih =>
    intro n
    have h1 := ih (n * 256 + (x.toNat : Int))
    unfold beF at *
    rw [List.foldl_cons, h1, beV_cons, List.length_cons, Nat.pow_succ]
    push_cast
    rw [Int.add_mul, Int.mul_assoc, Int.mul_comm (256 : Int)]
    omega
/-- bytes of one length with one number are the same -/
theorem beV_inj : ∀ (a b : List (BitVec 8)), a.length = b.length → beV a = beV b → a = b
  | [], [], _, _ => rfl
  | [], _ :: _, h, _ => by simp at h
  | _ :: _, [], h, _ => by simp at h
  | x :: r, y :: s, h, he => by
    rw [List.length_cons, List.length_cons] at h
    rw [beV_cons, beV_cons, show s.length = r.length by omega] at he
    have h1 := beV_lt r
    have h2 := beV_lt s
    rw [show s.length = r.length by omega] at h2
    have h0 : 0 < 256 ^ r.length := Nat.pow_pos (by decide)
    have hx : x.toNat = y.toNat := by
      have e1 : (x.toNat * 256 ^ r.length + beV r) / 256 ^ r.length = x.toNat := by rw [Nat.mul_comm, Nat.mul_add_div h0, Nat.div_eq_of_lt h1]; rfl
      have e2 : (y.toNat * 256 ^ r.length + beV s) / 256 ^ r.length = y.toNat := by rw [Nat.mul_comm, Nat.mul_add_div h0, Nat.div_eq_of_lt h2]; rfl
      rw [← e1, he, e2]
    rw [hx] at he
    have hr := beV_inj r s (by omega) (by omega)
    rw [hr, BitVec.eq_of_toNat_eq hx]
/-- the number of a body -/
def tcV (b : List (BitVec 8)) : Int := beF (if 128 ≤ (gb b 0).toNat then -1 else 0) b
/-- is it in as few bytes as may be? -/
def tcB (b : List (BitVec 8)) : Bool := match b with
  | [] => false
  | [_] => true
  | x :: y :: _ => !(x == 0 && decide (y.toNat < 128)) && !(x == 255 && decide (128 ≤ y.toNat))
/-- half of what so many bytes can say -/
def tcH (k : Nat) : Nat := 128 * 256 ^ (k - 1)
theorem tcH_two (k : Nat) : 2 * tcH (k + 1) = 256 ^ (k + 1) := by unfold tcH; rw [Nat.add_sub_cancel, Nat.pow_succ]; omega
theorem tcV_range (b : List (BitVec 8)) (h : b ≠ []) : -(tcH b.length : Int) ≤ tcV b ∧ tcV b < (tcH b.length : Int) := by
  cases b with
  | nil => exact absurd rfl h
  | cons x r =>
    have h1 := beV_lt r
    have hx := x.isLt
    have h2 := tcH_two r.length
    unfold tcV
    rw [show gb (x :: r) 0 = x from rfl, beF_eq, beV_cons, List.length_cons]
    have h3 : tcH (r.length + 1) = 128 * 256 ^ r.length := by unfold tcH; rw [Nat.add_sub_cancel]
    have h4 : 256 ^ (r.length + 1) = 256 * 256 ^ r.length := by rw [Nat.pow_succ, Nat.mul_comm]
    rw [h3, h4]
    generalize 256 ^ r.length = P at *
    by_cases hs : 128 ≤ x.toNat
    · rw [if_pos hs]
      have h5 : 128 * P ≤ x.toNat * P := Nat.mul_le_mul_right _ hs
      have h6 : x.toNat * P ≤ 255 * P := Nat.mul_le_mul_right _ (by omega)
      push_cast
      rw [show ((x.toNat : Int) * (P : Int)) = ((x.toNat * P : Nat) : Int) by push_cast; rfl] at *
      generalize x.toNat * P = Q at *
      omega
    · rw [if_neg hs]
      have h6 : x.toNat * P ≤ 127 * P := Nat.mul_le_mul_right _ (by omega)
      push_cast
      rw [show ((x.toNat : Int) * (P : Int)) = ((x.toNat * P : Nat) : Int) by push_cast; rfl] at *
      generalize x.toNat * P = Q at *
      omega
theorem tcH_mono {j k : Nat} (h : j ≤ k) : tcH j ≤ tcH k := Nat.mul_le_mul_left _ (Nat.pow_le_pow_right (by decide) (by omega))
/-- a body as short as may be says what no shorter one can -/
theorem tcV_far (b : List (BitVec 8)) (h : tcB b = true) (h2 : 2 ≤ b.length) : tcV b < -(tcH (b.length - 1) : Int) ∨ (tcH (b.length - 1) : Int) ≤ tcV b := by
  match b, h2 with
  | x :: y :: r, _ =>
    have h1 := beV_lt r
    have hx := x.isLt
    have hy := y.isLt
    have h3 : tcH ((x :: y :: r).length - 1) = 128 * 256 ^ r.length := by unfold tcH; simp
    have e0 : ∀ z : BitVec 8, x = z ↔ x.toNat = z.toNat := fun z => ⟨fun e => by rw [e], BitVec.eq_of_toNat_eq⟩
    unfold tcB at h
    simp only [Bool.and_eq_true, Bool.not_eq_true', Bool.and_eq_false_iff, beq_eq_false_iff_ne, decide_eq_false_iff_not] at h
    obtain ⟨g1, g2⟩ := h
    rw [Ne, e0] at g1 g2
    unfold tcV
    rw [h3, show gb (x :: y :: r) 0 = x from rfl, beF_eq, beV_cons, beV_cons, List.length_cons, List.length_cons, Nat.pow_succ, Nat.pow_succ]
    generalize 256 ^ r.length = P at *
    have k0 : (0 : BitVec 8).toNat = 0 := rfl
    have k1 : (255 : BitVec 8).toNat = 255 := rfl
    rw [k0] at g1
    rw [k1] at g2
    generalize x.toNat = a at *
    generalize y.toNat = c at *
    generalize beV r = v at *
    push_cast
    rw [show ((a : Int) * ((P : Int) * 256)) = ((a * P : Nat) : Int) * 256 by push_cast; rw [Int.mul_assoc], show ((c : Int) * (P : Int)) = ((c * P : Nat) : Int) by push_cast; rfl]
    by_cases hs : 128 ≤ a
    · rw [if_pos hs]
      left
      rcases Nat.lt_or_ge a 255 with ha | ha
      · have q1 : a * P ≤ 254 * P := Nat.mul_le_mul_right _ (by omega)
        have q2 : c * P ≤ 255 * P := Nat.mul_le_mul_right _ (by omega)
        generalize a * P = Q at *
        generalize c * P = R at *
        omega
      · have hc : c ≤ 127 := by omega
        have q1 : a * P ≤ 255 * P := Nat.mul_le_mul_right _ (by omega)
        have q2 : c * P ≤ 127 * P := Nat.mul_le_mul_right _ hc
        generalize a * P = Q at *
        generalize c * P = R at *
        omega
    · rw [if_neg hs]
      right
      rcases Nat.eq_zero_or_pos a with ha | ha
      · have hc : 128 ≤ c := by omega
        have q2 : 128 * P ≤ c * P := Nat.mul_le_mul_right _ hc
        generalize a * P = Q at *
        generalize c * P = R at *
        omega
      · have q1 : 1 * P ≤ a * P := Nat.mul_le_mul_right _ ha
        generalize a * P = Q at *
        generalize c * P = R at *
        omega
/-- each number has one body -/
theorem tcV_inj {a b : List (BitVec 8)} (ha : tcB a = true) (hb : tcB b = true) (h : tcV a = tcV b) : a = b := by
  have na : a ≠ [] := fun e => by rw [e] at ha; cases ha
  have nb : b ≠ [] := fun e => by rw [e] at hb; cases hb
  have ra := tcV_range a na
  have rb := tcV_range b nb
  have la := List.length_pos_iff.2 na
  have lb := List.length_pos_iff.2 nb
  have hl : a.length = b.length := by
    rcases Nat.lt_trichotomy a.length b.length with hl | hl | hl
    · have h1 := tcV_far b hb (by omega)
      have h2 := tcH_mono (show a.length ≤ b.length - 1 by omega)
      omega
    · exact hl
    · have h1 := tcV_far a ha (by omega)
      have h2 := tcH_mono (show b.length ≤ a.length - 1 by omega)
      omega
  refine beV_inj a b hl ?_
  have h1 := beV_lt a
  have h2 := beV_lt b
  have ea := beF_eq a (if 128 ≤ (gb a 0).toNat then -1 else 0)
  have eb := beF_eq b (if 128 ≤ (gb b 0).toNat then -1 else 0)
  unfold tcV at h
  rw [ea, eb, ← hl] at h
  rw [← hl] at h2
  generalize 256 ^ a.length = P at *
  split at h <;> split at h <;> omega
end Go.Proofs.YthookcnkmlmgcaaDoor
