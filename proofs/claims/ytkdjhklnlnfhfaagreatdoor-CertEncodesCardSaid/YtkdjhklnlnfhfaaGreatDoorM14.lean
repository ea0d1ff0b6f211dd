/-
  Sums, differences, products, quotients, powers of numbers as digits: what each round of the known ways leaves. No condition.
  Rows of ints and of limbs that read as digits; the reference's digit, trim, Cmp.
  Rows of ints: appended to; the reference's Of.
  The reference's To, Same, May; light.
-/
import Derived.Test.YtkdjhklnlnfhfaaGreatDoorM13
import Derived.Test.YtkdjhklnlnfhfaaGreatDoorM5
namespace Go.Proofs.YtkdjhklnlnfhfaaGreatDoor
open Go
set_option maxRecDepth 4000

/-- a sum, behind i digits -/
structure AddS (B : Nat) (a b : List Nat) (i : Nat) (out : List Nat) (c : Nat) : Prop where
  len : out.length = i
  d : Dg B out
  cr : c ≤ 1
  v : vl B out + B ^ i * c = vl B (a.take i) + vl B (b.take i)
theorem AddS.start (B : Nat) (a b : List Nat) : AddS B a b 0 [] 0 := ⟨rfl, Dg.nil B, by omega, by simp [vl]⟩
theorem AddS.next {B : Nat} (hB : 2 ≤ B) {a b out : List Nat} {i c : Nat} (ha : Dg B a) (hb : Dg B b) (h : AddS B a b i out c) : AddS B a b (i + 1) (out ++ [(c + dg a i + dg b i) % B]) ((c + dg a i + dg b i) / B) := by
  have h1 := ha.at (by omega) i
  have h2 := hb.at (by omega) i
  have h3 := h.cr
  refine ⟨by simp [h.len], h.d.append (Dg.one (Nat.mod_lt _ (by omega))), ?_, ?_⟩
  · have : (c + dg a i + dg b i) / B < 2 := (Nat.div_lt_iff_lt_mul (by omega)).2 (by omega)
    omega
  · rw [vl_snoc, h.len, vl_take_succ, vl_take_succ, Nat.pow_succ, Nat.mul_assoc, Nat.add_assoc, ← Nat.mul_add, Nat.mod_add_div, Nat.mul_add, Nat.mul_add]
    have := h.v
    omega
theorem AddS.done {B : Nat} {a b out : List Nat} {i : Nat} (h : AddS B a b i out 0) (ha : a.length ≤ i) (hb : b.length ≤ i) : vl B out = vl B a + vl B b := by
  have := h.v
  rw [vl_take_all B a i ha, vl_take_all B b i hb] at this
  simpa using this
/-- a difference, behind i digits: c is what was borrowed -/
structure SubS (B : Nat) (a b : List Nat) (i : Nat) (out : List Nat) (c : Nat) : Prop where
  len : out.length = i
  d : Dg B out
  cr : c ≤ 1
  v : vl B (a.take i) + B ^ i * c = vl B out + vl B (b.take i)
theorem SubS.start (B : Nat) (a b : List Nat) : SubS B a b 0 [] 0 := ⟨rfl, Dg.nil B, by omega, by simp [vl]⟩
theorem SubS.keep {B : Nat} {a b out : List Nat} {i c : Nat} (ha : Dg B a) (hB : 2 ≤ B) (h : SubS B a b i out c) (hge : dg b i + c ≤ dg a i) : SubS B a b (i + 1) (out ++ [dg a i - dg b i - c]) 0 := by
  have h1 := ha.at (by omega) i
  refine ⟨by simp [h.len], h.d.append (Dg.one (by omega)), by omega, ?_⟩
  rw [vl_snoc, h.len, vl_take_succ, vl_take_succ]
  have hv := h.v
  obtain ⟨x, hx⟩ : ∃ x, dg a i = x + dg b i + c := ⟨dg a i - dg b i - c, by omega⟩
  rw [hx, show x + dg b i + c - dg b i - c = x by omega, Nat.mul_add, Nat.mul_add]
  omega
theorem SubS.borrow {B : Nat} {a b out : List Nat} {i c : Nat} (hb : Dg B b) (hB : 2 ≤ B) (h : SubS B a b i out c) (hlt : dg a i < dg b i + c) : SubS B a b (i + 1) (out ++ [dg a i + B - dg b i - c]) 1 := by
  have h1 := hb.at (by omega) i
  have h2 := h.cr
  refine ⟨by simp [h.len], h.d.append (Dg.one (by omega)), by omega, ?_⟩
  rw [vl_snoc, h.len, vl_take_succ, vl_take_succ, Nat.pow_succ, Nat.mul_one]
  have hv := h.v
  obtain ⟨x, hx⟩ : ∃ x, dg a i + B = x + dg b i + c := ⟨dg a i + B - dg b i - c, by omega⟩
  have h3 : B ^ i * dg a i + B ^ i * B = B ^ i * x + B ^ i * dg b i + B ^ i * c := by rw [← Nat.mul_add, hx, Nat.mul_add, Nat.mul_add]
  rw [hx, show x + dg b i + c - dg b i - c = x by omega]
  omega
theorem SubS.done {B : Nat} (hB : 0 < B) {a b out : List Nat} {i c : Nat} (h : SubS B a b i out c) (ha : a.length ≤ i) (hb : b.length ≤ i) (hle : vl B b ≤ vl B a) : c = 0 ∧ vl B out = vl B a - vl B b := by
  have hv := h.v
  rw [vl_take_all B a i ha, vl_take_all B b i hb] at hv
  have h1 := vl_lt hB h.d
  rw [h.len] at h1
  have h2 := h.cr
  have h3 : c = 0 := by
    by_cases hc : c = 1
    · subst hc; omega
    · omega
  subst h3
  exact ⟨rfl, by omega⟩
/-- a product, behind i digits of a -/
structure MulS (B : Nat) (a b : List Nat) (i : Nat) (out : List Nat) : Prop where
  len : out.length = a.length + b.length
  d : Dg B out
  z : ∀ j, i + b.length ≤ j → dg out j = 0
  v : vl B out = vl B (a.take i) * vl B b
/-- .. and k digits of b: c is what is carried -/
structure MulT (B : Nat) (a b : List Nat) (i k : Nat) (out : List Nat) (c : Nat) : Prop where
  len : out.length = a.length + b.length
  d : Dg B out
  z : ∀ j, i + b.length ≤ j → dg out j = 0
  cr : c < B
  v : vl B out + B ^ (i + k) * c = vl B (a.take i) * vl B b + B ^ i * (dg a i * vl B (b.take k))
theorem dg_zeros (n j : Nat) : dg (List.replicate n 0) j = 0 := by
  unfold dg
  rw [List.getD_eq_getElem?_getD, List.getElem?_replicate]
  split <;> rfl
theorem MulS.start {B : Nat} (hB : 0 < B) (a b : List Nat) : MulS B a b 0 (List.replicate (a.length + b.length) 0) :=
  ⟨by simp, fun d hd => by rw [(List.mem_replicate.1 hd).2]; exact hB, fun j _ => dg_zeros _ _, by rw [vl_zeros]; simp [vl]⟩
theorem MulS.enter {B : Nat} (hB : 0 < B) {a b out : List Nat} {i : Nat} (h : MulS B a b i out) : MulT B a b i 0 out 0 := ⟨h.len, h.d, h.z, hB, by simp [h.v, vl]⟩
theorem mul_room {B x y c o : Nat} (hx : x < B) (hy : y < B) (hc : c < B) (ho : o < B) : (c + x * y + o) / B < B := by
  refine (Nat.div_lt_iff_lt_mul (by omega)).2 ?_
  obtain ⟨k, rfl⟩ : ∃ k, B = k + 1 := ⟨B - 1, by omega⟩
  have h1 : x * y ≤ k * k := Nat.mul_le_mul (by omega) (by omega)
  have h2 : (k + 1) * (k + 1) = k * k + k + k + 1 := by rw [Nat.add_mul, Nat.mul_add]; omega
  omega
theorem MulT.next {B : Nat} {a b out : List Nat} {i k c : Nat} (ha : Dg B a) (hb : Dg B b) (hB : 2 ≤ B) (hi : i < a.length) (hk : k < b.length) (h : MulT B a b i k out c) :
    MulT B a b i (k + 1) (out.set (i + k) ((c + dg a i * dg b k + dg out (i + k)) % B)) ((c + dg a i * dg b k + dg out (i + k)) / B) := by
  have hl : i + k < out.length := by rw [h.len]; omega
  have h1 := vl_set B out (i + k) ((c + dg a i * dg b k + dg out (i + k)) % B) hl
  have h2 := Nat.mod_add_div (c + dg a i * dg b k + dg out (i + k)) B
  refine ⟨by rw [List.length_set]; exact h.len, h.d.set _ _ (Nat.mod_lt _ (by omega)), fun j hj => ?_, mul_room (ha.at (by omega) i) (hb.at (by omega) k) h.cr (h.d.at (by omega) _), ?_⟩
  · rw [dg_set _ _ _ _ hl, if_neg (by omega)]; exact h.z j hj
  · have hv := h.v
    generalize (c + dg a i * dg b k + dg out (i + k)) % B = r at *
    generalize (c + dg a i * dg b k + dg out (i + k)) / B = q at *
    have h3 : B ^ (i + k) * r + B ^ (i + (k + 1)) * q = B ^ (i + k) * c + B ^ i * (dg a i * (B ^ k * dg b k)) + B ^ (i + k) * dg out (i + k) := by
      rw [← Nat.add_assoc, Nat.pow_succ, Nat.mul_assoc, ← Nat.mul_add, h2, Nat.mul_add, Nat.mul_add]
      congr 2
      rw [Nat.pow_add]
      simp only [Nat.mul_assoc, Nat.mul_left_comm]
    rw [vl_take_succ, Nat.mul_add, Nat.mul_add]
    omega
theorem MulT.leave {B : Nat} {a b out : List Nat} {i c : Nat} (hi : i < a.length) (h : MulT B a b i b.length out c) : MulS B a b (i + 1) (out.set (i + b.length) c) := by
  have hl : i + b.length < out.length := by rw [h.len]; omega
  have h1 := vl_set B out (i + b.length) c hl
  rw [h.z (i + b.length) (Nat.le_refl _), Nat.mul_zero, Nat.add_zero] at h1
  refine ⟨by rw [List.length_set]; exact h.len, h.d.set _ _ h.cr, fun j hj => ?_, ?_⟩
  · rw [dg_set _ _ _ _ hl, if_neg (by omega)]; exact h.z j (by omega)
  · rw [h1, h.v, List.take_length, vl_take_succ, Nat.add_mul, Nat.mul_assoc]
theorem MulS.done {B : Nat} {a b out : List Nat} (h : MulS B a b a.length out) : vl B out = vl B a * vl B b := by rw [h.v, List.take_length]
/-- how often at least: by the first digits -/
theorem fit_le {B b r hi rh d : Nat} (n : Nat) (hb : b < (hi + 1) * B ^ n) (hr : rh * B ^ n ≤ r) (hd : d = rh / (hi + 1)) : d * b ≤ r := by
  subst hd
  have h1 : rh / (hi + 1) * (hi + 1) ≤ rh := Nat.div_mul_le_self _ _
  have h2 : rh / (hi + 1) * b ≤ rh / (hi + 1) * ((hi + 1) * B ^ n) := Nat.mul_le_mul_left _ (Nat.le_of_lt hb)
  rw [← Nat.mul_assoc] at h2
  have h3 := Nat.mul_le_mul_right (B ^ n) h1
  omega
/-- the digits from i on, with the one below -/
theorem vl_drop (B : Nat) (l : List Nat) (i : Nat) (h : i < l.length) : vl B (l.drop i) = dg l i + B * vl B (l.drop (i + 1)) := by
  have e1 : dg l i = l[i] := by simp [dg, h]
  rw [e1, List.drop_eq_getElem_cons h, vl]
/-- a bit of a number, in the digit that holds it -/
theorem bit_dg (s : Nat) (l : List Nat) (hl : Dg (2 ^ s) l) (i : Nat) (hs : 0 < s) : vl (2 ^ s) l / 2 ^ i % 2 = dg l (i / s) / 2 ^ (i % s) % 2 := by
  have hB : 0 < 2 ^ s := Nat.pow_pos (by decide)
  by_cases h : i / s < l.length
  · have h1 := vl_split (2 ^ s) l (i / s) h
    have h2 := vl_lt hB (hl.take (i / s))
    rw [List.length_take, Nat.min_eq_left (by omega)] at h2
    have h3 : 2 ^ i = (2 ^ s) ^ (i / s) * 2 ^ (i % s) := by rw [← Nat.pow_mul, ← Nat.pow_add, Nat.div_add_mod]
    rw [h1, h3, ← Nat.div_div_eq_div_mul, Nat.add_mul_div_left _ _ (Nat.pow_pos hB), Nat.div_eq_of_lt h2, Nat.zero_add]
    have h4 : i % s < s := Nat.mod_lt _ hs
    have h5 : 2 ^ s = 2 ^ (i % s) * (2 * 2 ^ (s - i % s - 1)) := by rw [← Nat.pow_succ', ← Nat.pow_add]; congr 1; omega
    have h6 : ∀ z, (dg l (i / s) + 2 ^ s * z) / 2 ^ (i % s) = dg l (i / s) / 2 ^ (i % s) + 2 * (2 ^ (s - i % s - 1) * z) := fun z => by
      rw [h5, Nat.mul_assoc, Nat.add_mul_div_left _ _ (Nat.pow_pos (by decide)), Nat.mul_assoc]
    rw [h6, Nat.add_mul_mod_self_left]
  · rw [dg_out l _ (by omega), Nat.zero_div]
    have h2 := vl_lt hB hl
    have h3 : (2 ^ s) ^ l.length ≤ 2 ^ i := by
      rw [← Nat.pow_mul]
      refine Nat.pow_le_pow_right (by decide) ?_
      have := Nat.mul_le_mul_left s (show l.length ≤ i / s by omega)
      have h5 := Nat.div_add_mod i s
      omega
    rw [Nat.div_eq_of_lt (by omega)]
/-- a power, bit by bit from above -/
theorem pow_bit (a e m i : Nat) : a ^ (e / 2 ^ i) % m = ((a ^ (e / 2 ^ (i + 1)) % m) * (a ^ (e / 2 ^ (i + 1)) % m) % m * (if e / 2 ^ i % 2 = 1 then a % m else 1)) % m := by
  have h1 : e / 2 ^ i = 2 * (e / 2 ^ (i + 1)) + e / 2 ^ i % 2 := by
    rw [Nat.pow_succ, ← Nat.div_div_eq_div_mul]
    omega
  have h2 : a ^ (2 * (e / 2 ^ (i + 1))) = a ^ (e / 2 ^ (i + 1)) * a ^ (e / 2 ^ (i + 1)) := by rw [Nat.two_mul, Nat.pow_add]
  rw [congrArg (fun z => a ^ z % m) h1]
  rw [Nat.pow_add, h2, ← Nat.mul_mod, Nat.mod_mul_mod]
  rcases Nat.mod_two_eq_zero_or_one (e / 2 ^ i) with h | h
  · rw [h, if_neg (by decide), Nat.pow_zero]
  · rw [h, if_pos rfl, Nat.pow_one, Nat.mul_mod_mod]
end Go.Proofs.YtkdjhklnlnfhfaaGreatDoor
namespace Go.Proofs.YtkdjhklnlnfhfaaGreatDoor
open Go Go.RowKit
set_option maxRecDepth 4000

/-- a digit as an int; a limb -/
def vI (d : Nat) : Value := .int .i64 (d : Int)
def vL (d : Nat) : Value := .int .u32 (d : Int)
theorem Rd.dig {e : Nat → Value} {w : World} {g o n c : Nat} {l : List Nat} (h : Rd e w (some ⟨g, o, none⟩) n c l) (j : Nat) (hj : j < n) : w.cell? ⟨g, o + j, none⟩ = some (e (dg l j)) := by
  obtain ⟨g', o', ea, hc⟩ := h.at_ (by omega)
  cases ea
  exact hc j _ (dg_in l j (by rw [h.len]; exact hj))
theorem Rd.some_ {α : Type} {e : α → Value} {w : World} {A : Option Addr} {n c : Nat} {l : List α} (h : Rd e w A n c l) (hn : 0 < n) : ∃ g o, A = some ⟨g, o, none⟩ := by
  obtain ⟨g, o, e1, _⟩ := h.at_ hn
  exact ⟨g, o, e1⟩
abbrev nm : TypeId := 74
abbrev nt : TypeId := 23

/-- how many digits count -/
def tl (l : List Nat) : Nat := (dgs 65536 (vl 65536 l)).length
theorem trim_any {l : List Nat} {A : Option Addr} {n c : Nat} {w : World} (h : Rd vI w A n c l) (hd : Dg 65536 l) (hn : n ≤ 4611686018427387904) :
    Calls Tryz.prog 89 #[.slice A n c] w fun e w' => ∃ m, m ≤ n ∧ e = .returned (.slice A m c) ∧ l.take m = dgs 65536 (vl 65536 l) ∧ w' = w := by
  have HR := Kp.mk h
  have hlen := h.len
  have hcap := h.cap
  clear h
  go_enter Tryz.func89, Tryz.ntmps89
  go_wp2_with fail
  go_loopw [3] (fun iv wr => ∃ j : Nat, j ≤ n ∧ iv = .int .i64 (j : Int) ∧ (∀ i, j ≤ i → dg l i = 0) ∧ wr = w) (fun i _ => (intOf i).toNat)
  case atStart => exact ⟨n, by omega, rfl, fun i hi => dg_out l i (by omega), rfl⟩
  case round =>
    obtain ⟨j, hj, rfl, hz, rfl⟩ := hrel
    have hfin : ∀ m, m = j → (j = 0 ∨ dg l (j - 1) ≠ 0) → l.take m = dgs 65536 (vl 65536 l) := fun m hm ht => by
      subst hm
      exact cut_cn (by decide) hd m (by omega) hz ht
    have HF := Kp.mk hfin
    have HZ := Kp.mk hz
    clear hfin hz
    by_cases h0 : j = 0
    · subst h0
      have hs := fun W => run_upto (P := Tryz.prog) A n c nm 3 Tryz.underlying74 (by kernel_rfl) 0 0 rfl (by omega) W
      go_wp2_with fail
      go_ret
      exact ⟨0, by omega, rfl, HF.out 0 rfl (by simp), rfl⟩
    · obtain ⟨g, o, rfl⟩ := HR.out.some_ (by omega)
      obtain ⟨k, rfl⟩ : ∃ k, j = k + 1 := ⟨j - 1, by omega⟩
      have c1 := HR.out.dig k (by omega)
      unfold vI at c1
      have e1 : ((k + 1 : Nat) : Int) - 1 = (k : Int) := by omega
      have b0 : (0 : Int) < ((k + 1 : Nat) : Int) := by omega
      have b1 : (k : Int) < (n : Int) := by omega
      have e2 : IntKind.i64.wrap (k : Int) = (k : Int) := by rw [IntKind.wrap_i64]; omega
      by_cases hq : dg l k = 0
      · rw [hq] at c1
        have HQ := Kp.mk hq
        clear hq
        go_wp2_with fail
        go_roundw
        case rel => exact ⟨k, by omega, by go_num, (fun i hi => by
          by_cases he : i = k
          · rw [he]; exact HQ.out
          · exact HZ.out i (by omega)), by trivial⟩
        case measure => first | (simp [intOf]; done) | (simp [intOf]; omega)
      · have hs := fun W => run_upto (P := Tryz.prog) (some ⟨g, o, none⟩) n c nm 3 Tryz.underlying74 (by kernel_rfl) (k + 1) ((k + 1 : Nat) : Int) rfl (by omega) W
        have hq2 : ¬ (dg l k : Int) = 0 := by omega
        have HQ := Kp.mk hq
        clear hq
        go_wp2_with fail
        go_ret
        exact ⟨k + 1, by omega, rfl, HF.out (k + 1) rfl (.inr HQ.out), rfl⟩
/-- what Cmp says -/
def cmpI (a b : Nat) : Int := if a < b then -1 else if b < a then 1 else 0
theorem cmpI_lt {a b : Nat} (h : a < b) : cmpI a b = -1 := if_pos h
theorem cmpI_gt {a b : Nat} (h : b < a) : cmpI a b = 1 := by rw [cmpI, if_neg (by omega), if_pos h]
theorem cmpI_eq (a : Nat) : cmpI a a = 0 := by rw [cmpI, if_neg (by omega), if_neg (by omega)]
theorem drop_dg (a b : List Nat) (j : Nat) (hl : a.length = b.length) (hj : j < a.length) (h : a.drop (j + 1) = b.drop (j + 1)) (e : dg a j = dg b j) : a.drop j = b.drop j := by
  have hjb : j < b.length := by omega
  rw [List.drop_eq_getElem_cons hj, List.drop_eq_getElem_cons hjb, h]
  have h1 : dg a j = a[j] := by simp [dg, hj]
  have h2 : dg b j = b[j] := by simp [dg, hjb]
  rw [← h1, ← h2, e]
set_option maxHeartbeats 1000000 in
theorem cmp_any {a b : List Nat} {A B : Option Addr} {n c m d : Nat} {w : World} (ha : Rd vI w A n c a) (hb : Rd vI w B m d b) (ca : Cn 65536 a) (cb : Cn 65536 b) (hn : n ≤ 4611686018427387904) (hm : m ≤ 4611686018427387904) :
    Calls Tryz.prog 70 #[.slice A n c, .slice B m d] w fun e w' => e = .returned (.int .i64 (cmpI (vl 65536 a) (vl 65536 b))) ∧ Ext w w' := by
  have hla := ha.len
  have hlb := hb.len
  by_cases hnm : n = m
  · subst hnm
    have HA := Kp.mk ha
    have HB := Kp.mk hb
    have CA := Kp.mk ca
    have CB := Kp.mk cb
    clear ha hb ca cb
    go_enter Tryz.func70, Tryz.ntmps70
    have z0 : IntKind.i64.wrap ((n : Int) - 1) = (n : Int) - 1 := by rw [IntKind.wrap_i64]; omega
    go_wp2_with fail
    go_loopw [5] (fun iv wr => ∃ j : Nat, j ≤ n ∧ iv = .int .i64 ((j : Int) - 1) ∧ a.drop j = b.drop j ∧ Ext w wr) (fun i _ => (intOf i + 1).toNat)
    case atStart => exact ⟨n, by omega, by first | rfl | go_num, by rw [List.drop_eq_nil_of_le (by omega), List.drop_eq_nil_of_le (by omega)], Ext.refl _⟩
    case round =>
      obtain ⟨j, hj, rfl, hdr, hx⟩ := hrel
      have HD := Kp.mk hdr
      clear hdr
      by_cases h0 : j = 0
      · subst h0
        go_wp2_with fail
        go_ret
        have h1 := HD.out
        rw [List.drop_zero, List.drop_zero] at h1
        exact ⟨by rw [h1, cmpI_eq]; rfl, hx⟩
      · obtain ⟨k, rfl⟩ : ∃ k, j = k + 1 := ⟨j - 1, by omega⟩
        obtain ⟨g, o, rfl⟩ := HA.out.some_ (by omega)
        obtain ⟨g2, o2, rfl⟩ := HB.out.some_ (by omega)
        have c1 := (HA.out.ext hx).dig k (by omega)
        have c2 := (HB.out.ext hx).dig k (by omega)
        unfold vI at c1 c2
        have e1 : ((k + 1 : Nat) : Int) - 1 = (k : Int) := by omega
        rw [e1]
        have b1 : (k : Int) < (n : Int) := by omega
        rcases Nat.lt_trichotomy (dg a k) (dg b k) with hq | hq | hq
        · have hlt := vl_lt_at (by decide) CA.out.d k (by omega) (by omega) HD.out hq
          have q1 : (dg a k : Int) < (dg b k : Int) := by omega
          have q2 : ¬ (dg a k : Int) = (dg b k : Int) := by omega
          have HL := Kp.mk hlt
          clear hlt hq
          go_wp2_with fail
          go_region
          go_wp2_with fail
          go_region
          go_wp2_with fail
          go_ret
          exact ⟨by rw [cmpI_lt HL.out]; rfl, hx.drew.drew⟩
        · have hdr := drop_dg a b k (by omega) (by omega) HD.out hq
          have HE := Kp.mk hdr
          rw [← hq] at c2
          clear hdr hq
          have e2 : IntKind.i64.wrap ((k : Int) - 1) = (k : Int) - 1 := by rw [IntKind.wrap_i64]; omega
          go_wp2_with fail
          go_region
          go_wp2_with fail
          go_roundw
          case rel => exact ⟨k, by omega, by first | rfl | go_num, HE.out, hx.drew⟩
          case measure => first | (simp [intOf]; done) | (simp [intOf]; omega)
        · have hlt := vl_lt_at (by decide) CB.out.d k (by omega) (by omega) HD.out.symm hq
          have q1 : (dg b k : Int) < (dg a k : Int) := by omega
          have q2 : ¬ (dg a k : Int) = (dg b k : Int) := by omega
          have HL := Kp.mk hlt
          clear hlt hq
          go_wp2_with fail
          go_region
          go_wp2_with fail
          go_region
          go_wp2_with fail
          go_ret
          exact ⟨by rw [cmpI_gt HL.out]; rfl, hx.drew.drew⟩
  · have q2 : ¬ (n : Int) = (m : Int) := by omega
    rcases Nat.lt_or_gt_of_ne hnm with hq | hq
    · have hlt := cn_len_lt (by decide) ca cb (by omega)
      rw [cmpI_lt hlt]
      have q1 : (n : Int) < (m : Int) := by omega
      clear hlt hq hnm ha hb ca cb
      go_enter Tryz.func70, Tryz.ntmps70
      go_wp2_with fail
      go_ret
      exact ⟨rfl, Ext.refl _⟩
    · have hlt := cn_len_lt (by decide) cb ca (by omega)
      rw [cmpI_gt hlt]
      have q1 : (m : Int) < (n : Int) := by omega
      clear hlt hq hnm ha hb ca cb
      go_enter Tryz.func70, Tryz.ntmps70
      go_wp2_with fail
      go_ret
      exact ⟨rfl, Ext.refl _⟩
end Go.Proofs.YtkdjhklnlnfhfaaGreatDoor
namespace Go.Proofs.YtkdjhklnlnfhfaaGreatDoor
open Go Go.RowKit
set_option maxRecDepth 4000

abbrev it : TypeId := 3
theorem inI : (Tryz.prog.info? it).map (fun i => (i.zero, i.size, i.bytes)) = some (some (.int .i64 0), 1, 8) := by kernel_rfl
theorem lit_rd (w : World) (l : List Nat) (cs : Array Value) (h : cs = (l.map vI).toArray) (n : Nat) (hn : l.length = n) (hm : n ≤ maxLen) : Rd vI (w.alloc (.cells cs it)) (some ⟨w.heap.size, 0, none⟩) n n l := by
  subst h
  exact (Rw.has (B := 0) (Has.new w it _ _ rfl) hn (Nat.zero_le _) hm).rd
theorem lit2 (w : World) (x y : Nat) (a b : Int) (ha : a = (x : Int)) (hb : b = (y : Int)) : Rd vI (w.alloc (.cells #[.int .i64 a, .int .i64 b] it)) (some ⟨w.heap.size, 0, none⟩) 2 2 [x, y] := lit_rd w [x, y] _ (by subst ha hb; rfl) 2 rfl (by decide)
theorem lit1 (w : World) (x : Nat) (a : Int) (ha : a = (x : Int)) : Rd vI (w.alloc (.cells #[.int .i64 a] it)) (some ⟨w.heap.size, 0, none⟩) 1 1 [x] := lit_rd w [x] _ (by subst ha; rfl) 1 rfl (by decide)
abbrev Rn (w : World) (B : Nat) (v : Value) (n : Nat) (l : List Nat) : Prop := Rw it vI w B v n l
theorem wp_append_I {w : World} {o : Oper} {a : Act} {K : Act → World → Prop} {Q : Exit → Act → World → Prop} (s x : Operand)
    (ho : o.op = .call { callee := .builtin .append, args := #[s, x], argTypes := #[nm, nm] })
    (B : Nat) (v : Value) (n : Nat) (l1 : List Nat) (hs : a.eval s = v) (hown : Rn w B v n l1)
    (A : Option Addr) (m c : Nat) (l2 : List Nat) (hx : a.eval x = .slice A m c) (hl : Rd vI w A m c l2)
    (h47 : (n + m) * 8 ≤ 140737488355328) (N : Nat) (hN : n + m = N) (L : List Nat) (hL : l1 ++ l2 = L) (w0 : World) (hx0 : Ext w0 w) (hB : w0.heap.size ≤ B) (hBw : B ≤ w.heap.size)
    (h : ∀ A' c' w', Rn w' B (.slice A' N c') N L → Ext w0 w' → Apd w w' v (.slice A' N c') → K (a.put o.dst (.slice A' N c')) w') : o.wp Tryz.prog a w K Q :=
  wp_append_rd nm (.int .i64 0) 8 Tryz.underlying74 inI rfl (by decide) (fun _ => rfl) s x ho B v n l1 hs hown A m c l2 hx hl h47 N hN L hL w0 hx0 hB hBw h
theorem wpList_append_I {w : World} {ops : Array Oper} {rest : List Oper} {o : Oper} {a : Act} {Q : Exit → Act → World → Prop} (hgd : o.guard = none) (s x : Operand)
    (ho : o.op = .call { callee := .builtin .append, args := #[s, x], argTypes := #[nm, nm] })
    (B : Nat) (v : Value) (n : Nat) (l1 : List Nat) (hs : a.eval s = v) (hown : Rn w B v n l1)
    (A : Option Addr) (m c : Nat) (l2 : List Nat) (hx : a.eval x = .slice A m c) (hl : Rd vI w A m c l2)
    (h47 : (n + m) * 8 ≤ 140737488355328) (N : Nat) (hN : n + m = N) (L : List Nat) (hL : l1 ++ l2 = L) (w0 : World) (hx0 : Ext w0 w) (hB : w0.heap.size ≤ B) (hBw : B ≤ w.heap.size)
    (h : ∀ A' c' w', Rn w' B (.slice A' N c') N L → Ext w0 w' → Apd w w' v (.slice A' N c') → wpList Tryz.prog ops Q rest (a.put o.dst (.slice A' N c')) w') : wpList Tryz.prog ops Q (o :: rest) a w :=
  wpList_append_rd nm (.int .i64 0) 8 Tryz.underlying74 inI rfl (by decide) (fun _ => rfl) hgd s x ho B v n l1 hs hown A m c l2 hx hl h47 N hN L hL w0 hx0 hB hBw h
theorem sp_snoc (B : Nat) (l : List Nat) (x : Nat) : sp B (l ++ [x]) = sp B l ++ [x % B, x / B] := by
  induction l with
  | nil => rfl
  | cons y l ih => rw [List.cons_append, sp, sp, ih]; rfl
theorem sp_len (B : Nat) (l : List Nat) : (sp B l).length = 2 * l.length := by
  induction l with
  | nil => rfl
  | cons y l ih => rw [sp]; simp only [List.length_cons, ih]; omega
theorem sp_take (B : Nat) (l : List Nat) (i : Nat) (h : i < l.length) : sp B (l.take (i + 1)) = sp B (l.take i) ++ [dg l i % B, dg l i / B] := by rw [take_succ_dg l i h, sp_snoc]
/-- what a call leaves that makes a number: its digits -/
def FreshN (w : World) (v : Nat) (e : Ending) (w' : World) : Prop :=
  ∃ A n c, e = .returned (.slice A n c) ∧ Rd vI w' A n c (dgs 65536 v) ∧ Rn w' w.heap.size (.slice A n c) n (dgs 65536 v) ∧ Ext w w'
theorem trim_own {l : List Nat} {A : Option Addr} {n c : Nat} {B : Nat} {w : World} (h : Rn w B (.slice A n c) n l) (hd : Dg 65536 l) (hn : n ≤ 4611686018427387904) :
    Calls Tryz.prog 89 #[.slice A n c] w fun e w' => ∃ m, e = .returned (.slice A m c) ∧ Rn w B (.slice A m c) m (dgs 65536 (vl 65536 l)) ∧ w' = w := by
  refine (trim_any h.rd hd hn).mono ?_
  rintro e w' ⟨m, hm, rfl, hr, hw⟩
  refine ⟨m, rfl, ?_, hw⟩
  rw [← hr]
  exact h.take hm
theorem FreshN.of_trim {w w1 : World} {l : List Nat} {A : Option Addr} {n c v : Nat} (h : Rn w1 w.heap.size (.slice A n c) n l) (hd : Dg 65536 l) (hn : n ≤ 4611686018427387904) (hv : vl 65536 l = v) (hx : Ext w w1) :
    Calls Tryz.prog 89 #[.slice A n c] w1 (FreshN w v) := by
  refine (trim_own h hd hn).mono ?_
  rintro e w' ⟨m, rfl, hr, rfl⟩
  rw [hv] at hr
  exact ⟨A, m, c, rfl, hr.rd, hr, hx⟩
theorem w_lo (x : Nat) : IntKind.i64.wrap ((x : Int).tmod 65536) = ((x % 65536 : Nat) : Int) := by
  rw [Int.tmod_eq_emod_of_nonneg (by omega), IntKind.wrap_i64]; omega
theorem w_hi (x : Nat) (h : x < 4294967296) : IntKind.i64.wrap (IntKind.u32.wrap ((x : Int) / 65536)) = ((x / 65536 : Nat) : Int) := by
  rw [IntKind.wrap_u32, IntKind.wrap_i64]; omega
set_option maxHeartbeats 1000000 in
theorem Of_any {l : List Nat} {A : Option Addr} {n c : Nat} {w : World} (h : Rd vL w A n c l) (hd : Dg 4294967296 l) (hn : n ≤ 1000000000000) :
    Calls Tryz.prog 33 #[.slice A n c] w (FreshN w (vl 4294967296 l)) := by
  have hlen := h.len
  have HR := Kp.mk h
  have HD := Kp.mk hd
  clear h hd
  go_enter Tryz.func33, Tryz.ntmps33
  go_wp2_with fail
  go_loopw [3, 4] (fun ov iv wr => ∃ i : Nat, i ≤ n ∧ iv = .int .i64 (i : Int) ∧ (∃ A c, ov = .slice A (2 * i) c) ∧ Rn wr w.heap.size ov (2 * i) (sp 65536 (l.take i)) ∧ Ext w wr) (fun _ i _ => n - (intOf i).toNat)
  case atStart => exact ⟨0, by omega, rfl, ⟨_, _, rfl⟩, Rw.nil _ _, Ext.refl _⟩
  case round =>
    obtain ⟨i, hi, rfl, ⟨Ao, co, rfl⟩, ho, hx⟩ := hrel
    by_cases hlt : i < n
    · have b1 : (i : Int) < (n : Int) := by omega
      obtain ⟨g, o, rfl⟩ := HR.out.some_ (by omega)
      have k1 : ∀ w', Ext w w' → w'.cell? ⟨g, o + i, none⟩ = some (.int .u32 (dg l i : Int)) := fun w' h => (HR.out.ext h).dig i hlt
      have hb := HD.out.at (by decide) i
      have HT := Kp.mk (sp_take 65536 l i (by omega))
      generalize dg l i = x at *
      go_wp2_with fail
      refine wp_region_held_drew (S := fun w' => Ext w w') (by kernel_rfl) hx.drew (fun hHeld => ?_)
      refine wpAnyH_take (i := 0) (oi := ⟨some 11, _, _, _, _, _⟩) (v := ?_) rfl (by kernel_rfl) (by kernel_rfl) (by kernel_rfl) (fun _ _ _ h => h) (Or.inl ⟨by rfl, ?_⟩) (by assumption) ?_
      rotate_left
      · (intro w hSw; (try dsimp only at hSw); go_simp; try with_reducible rfl)
      try simp only [Act.put, List.setIfInBounds_toArray, List.set_cons_zero, List.set_cons_succ]
      refine wpAnyH_take (i := 1) (oi := ⟨some 12, _, _, _, _, _⟩) (v := ?_) rfl (by kernel_rfl) (by kernel_rfl) (by kernel_rfl) (fun _ _ _ h => h) (Or.inl ⟨by rfl, ?_⟩) (by assumption) ?_
      rotate_left
      · (intro w hSw; (try dsimp only at hSw); go_simp; try with_reducible rfl)
      try simp only [Act.put, List.setIfInBounds_toArray, List.set_cons_zero, List.set_cons_succ]
      refine wpAnyH_take (i := 2) (oi := ⟨some 13, _, _, _, _, _⟩) (v := ?_) rfl (by kernel_rfl) (by kernel_rfl) (by kernel_rfl) (fun _ _ _ h => h) (Or.inl ⟨by rfl, ?_⟩) (by assumption) ?_
      rotate_left
      · (intro w hSw; (try dsimp only at hSw); go_simp; try with_reducible rfl)
      try simp only [Act.put, List.setIfInBounds_toArray, List.set_cons_zero, List.set_cons_succ]
      refine wpAnyH_take (i := 3) (oi := ⟨some 14, _, _, _, _, _⟩) (v := ?_) rfl (by kernel_rfl) (by kernel_rfl) (by kernel_rfl) (fun _ _ _ h => h) (Or.inl ⟨by rfl, ?_⟩) (by assumption) ?_
      rotate_left
      · (intro w hSw; (try dsimp only at hSw); go_simp; try with_reducible rfl)
      try simp only [Act.put, List.setIfInBounds_toArray, List.set_cons_zero, List.set_cons_succ]
      refine wpAnyH_take (i := 4) (oi := ⟨some 15, _, _, _, _, _⟩) (v := ?_) rfl (by kernel_rfl) (by kernel_rfl) (by kernel_rfl) (fun _ _ _ h => h) (Or.inl ⟨by rfl, ?_⟩) (by assumption) ?_
      rotate_left
      · (intro w hSw; (try dsimp only at hSw); go_simp; try with_reducible rfl)
      try simp only [Act.put, List.setIfInBounds_toArray, List.set_cons_zero, List.set_cons_succ]
      refine wpAnyH_take (i := 5) (oi := ⟨some 16, _, _, _, _, _⟩) (v := ?_) rfl (by kernel_rfl) (by kernel_rfl) (by kernel_rfl) (fun _ _ _ h => h) (Or.inl ⟨by rfl, ?_⟩) (by assumption) ?_
      rotate_left
      · (intro w hSw; (try dsimp only at hSw); go_simp; try with_reducible rfl)
      try simp only [Act.put, List.setIfInBounds_toArray, List.set_cons_zero, List.set_cons_succ]
      refine wpAnyH_take (i := 6) (oi := ⟨some 17, _, _, _, _, _⟩) (v := ?_) rfl (by kernel_rfl) (by kernel_rfl) (by kernel_rfl) (fun _ _ _ h => h) (Or.inl ⟨by rfl, ?_⟩) (by assumption) ?_
      rotate_left
      · (intro w hSw; (try dsimp only at hSw); go_simp; try with_reducible rfl)
      try simp only [Act.put, List.setIfInBounds_toArray, List.set_cons_zero, List.set_cons_succ]
      refine wpAnyH_take (i := 7) (oi := ⟨some 18, _, _, _, _, _⟩) (v := ?_) rfl (by kernel_rfl) (by kernel_rfl) (by kernel_rfl) (fun _ _ _ h => h) (Or.inl ⟨by rfl, ?_⟩) (by assumption) ?_
      rotate_left
      · (intro w hSw; (try dsimp only at hSw); go_simp; try with_reducible rfl)
      try simp only [Act.put, List.setIfInBounds_toArray, List.set_cons_zero, List.set_cons_succ]
      refine wpAnyH_take (i := 8) (oi := ⟨some 19, _, _, _, _, _⟩) (v := ?_) rfl (by kernel_rfl) (by kernel_rfl) (by kernel_rfl) (fun _ _ _ h => h) (Or.inl ⟨by rfl, ?_⟩) (by assumption) ?_
      rotate_left
      · (intro w hSw; (try dsimp only at hSw); go_simp; try with_reducible rfl)
      try simp only [Act.put, List.setIfInBounds_toArray, List.set_cons_zero, List.set_cons_succ]
      refine wpAnyH_take (i := 9) (oi := ⟨some 20, _, _, _, _, _⟩) (v := ?_) rfl (by kernel_rfl) (by kernel_rfl) (by kernel_rfl) (fun _ _ _ h => h) (Or.inl ⟨by rfl, ?_⟩) (by assumption) ?_
      rotate_left
      · (intro w hSw; (try dsimp only at hSw); go_simp; try with_reducible rfl)
      try simp only [Act.put, List.setIfInBounds_toArray, List.set_cons_zero, List.set_cons_succ]
      refine wpAnyH_take (i := 10) (oi := ⟨some 21, _, _, _, _, _⟩) (v := ?_) rfl (by kernel_rfl) (by kernel_rfl) (by kernel_rfl) (fun _ _ _ h => h) (Or.inl ⟨by rfl, ?_⟩) (by assumption) ?_
      rotate_left
      · (intro w hSw; (try dsimp only at hSw); go_simp; try with_reducible rfl)
      try simp only [Act.put, List.setIfInBounds_toArray, List.set_cons_zero, List.set_cons_succ]
      refine wpAnyH_take (i := 11) (oi := ⟨some 22, _, _, _, _, _⟩) (v := ?_) rfl (by kernel_rfl) (by kernel_rfl) (by kernel_rfl) (fun _ _ _ h => h) (Or.inl ⟨by rfl, ?_⟩) (by assumption) ?_
      rotate_left
      · (intro w hSw; (try dsimp only at hSw); go_simp; try with_reducible rfl)
      try simp only [Act.put, List.setIfInBounds_toArray, List.set_cons_zero, List.set_cons_succ]
      refine wpAnyH_take (i := 12) (oi := ⟨some 23, _, _, _, _, _⟩) (v := ?_) rfl (by kernel_rfl) (by kernel_rfl) (by kernel_rfl) (fun _ _ _ h => h) (Or.inl ⟨by rfl, ?_⟩) (by assumption) ?_
      rotate_left
      · (intro w hSw; (try dsimp only at hSw); go_simp; try with_reducible rfl)
      try simp only [Act.put, List.setIfInBounds_toArray, List.set_cons_zero, List.set_cons_succ]
      refine next_one 13 (by kernel_rfl) rfl (by rfl) fun K' HK' => ?_
      go_simp
      refine held_go HK' (by (repeat (first | assumption | exact Ext.refl _ | apply Ext.drew | apply Ext.drewN | apply Ext.alloc | refine Ext.trans ?_ (by assumption))); first | done | fail) (fun hHeld => ?_)
      clear HK'
      try simp only [Act.put, List.setIfInBounds_toArray, List.set_cons_zero, List.set_cons_succ]
      refine next_one 14 (by kernel_rfl) rfl (by rfl) fun K' HK' => ?_
      refine wp_append_I (o := ⟨some 25, _, _, _, _, _⟩) (.tmp 11) (.tmp 24) rfl w.heap.size (.slice Ao (2 * i) co) (2 * i) (sp 65536 (l.take i)) rfl (ho.ext (by (repeat (first | assumption | exact Ext.refl _ | apply Ext.drew | apply Ext.drewN | apply Ext.alloc | refine Ext.trans ?_ (by assumption))); first | done | fail)) _ 2 2 [x % 65536, x / 65536] rfl (lit2 wr.drew _ _ _ _ (w_lo x) (w_hi x hb)) (by omega) (2 * (i + 1)) (by omega) _ HT.out.symm w (hx.trans (by (repeat (first | assumption | exact Ext.refl _ | apply Ext.drew | apply Ext.drewN | apply Ext.alloc | refine Ext.trans ?_ (by assumption))); first | done | fail)) (Nat.le_refl _) (hx.trans (by (repeat (first | assumption | exact Ext.refl _ | apply Ext.drew | apply Ext.drewN | apply Ext.alloc | refine Ext.trans ?_ (by assumption))); first | done | fail)).size ?_
      intro A5 c5 w5 ho5 hx5 _
      clear hHeld
      refine held_go HK' hx5 (fun hHeld => ?_)
      clear HK'
      try simp only [Act.put, List.setIfInBounds_toArray, List.set_cons_zero, List.set_cons_succ]
      refine wpAnyH_take (i := 15) (oi := ⟨some 3, _, _, _, _, _⟩) (v := ?_) rfl (by kernel_rfl) (by kernel_rfl) (by kernel_rfl) (fun _ _ _ h => h) (Or.inl ⟨by rfl, ?_⟩) (by assumption) ?_
      rotate_left
      · (intro w hSw; (try dsimp only at hSw); go_simp; try with_reducible rfl)
      try simp only [Act.put, List.setIfInBounds_toArray, List.set_cons_zero, List.set_cons_succ]
      refine wpAnyH_done (by kernel_rfl) ?_ _
      go_wp2_with fail
      go_roundw
      case rel => exact ⟨i + 1, by omega, by go_num, ⟨_, _, rfl⟩, ho5, hx5⟩
      case measure => simp [intOf]; omega
    · obtain rfl : i = n := by omega
      rw [List.take_of_length_le (by omega)] at ho
      go_wp2_with fail
      refine (FreshN.of_trim ho (sp_dg (by decide) HD.out) (by omega) (sp_vl 65536 l) hx).mono ?_
      rintro e w2 ⟨A2, n2, c2, rfl, hr2, ho2, hx2⟩
      go_wp2_with fail
      go_ret
      exact ⟨A2, n2, c2, rfl, hr2, ho2, hx2⟩
end Go.Proofs.YtkdjhklnlnfhfaaGreatDoor
namespace Go.Proofs.YtkdjhklnlnfhfaaGreatDoor
open Go Go.RowKit
set_option maxRecDepth 4000

abbrev lt_ : TypeId := 89
theorem inL : (Tryz.prog.info? lt_).map (fun i => (i.zero, i.size, i.bytes)) = some (some (.int .u32 0), 1, 4) := by kernel_rfl
abbrev Rm (w : World) (B : Nat) (v : Value) (n : Nat) (l : List Nat) : Prop := Rw lt_ vL w B v n l
theorem lim1 (w : World) (x : Nat) (a : Int) (ha : a = (x : Int)) : Rd vL (w.alloc (.cells #[.int .u32 a] lt_)) (some ⟨w.heap.size, 0, none⟩) 1 1 [x] := by
  subst ha
  exact (Rw.has (B := 0) (Has.new w lt_ _ _ rfl) (by rfl) (Nat.zero_le _) (by decide) : Rm _ 0 _ 1 [x]).rd
theorem wpList_append_L {w : World} {ops : Array Oper} {rest : List Oper} {o : Oper} {a : Act} {Q : Exit → Act → World → Prop} (hgd : o.guard = none) (s x : Operand)
    (ho : o.op = .call { callee := .builtin .append, args := #[s, x], argTypes := #[nt, nt] })
    (B : Nat) (v : Value) (n : Nat) (l1 : List Nat) (hs : a.eval s = v) (hown : Rm w B v n l1)
    (A : Option Addr) (m c : Nat) (l2 : List Nat) (hx : a.eval x = .slice A m c) (hl : Rd vL w A m c l2)
    (h47 : (n + m) * 4 ≤ 140737488355328) (N : Nat) (hN : n + m = N) (L : List Nat) (hL : l1 ++ l2 = L) (w0 : World) (hx0 : Ext w0 w) (hB : w0.heap.size ≤ B) (hBw : B ≤ w.heap.size)
    (h : ∀ A' c' w', Rm w' B (.slice A' N c') N L → Ext w0 w' → Apd w w' v (.slice A' N c') → wpList Tryz.prog ops Q rest (a.put o.dst (.slice A' N c')) w') : wpList Tryz.prog ops Q (o :: rest) a w :=
  wpList_append_rd nt (.int .u32 0) 4 Tryz.underlying23 inL rfl (by decide) (fun _ => rfl) hgd s x ho B v n l1 hs hown A m c l2 hx hl h47 N hN L hL w0 hx0 hB hBw h
theorem jn_two (B : Nat) : ∀ (l : List Nat) (x y : Nat), l.length % 2 = 0 → jn B (l ++ [x, y]) = jn B l ++ [x + y * B]
  | [], _, _, _ => rfl
  | [a], x, y, h => by simp at h
  | a :: b :: l, x, y, h => by
    rw [List.cons_append, List.cons_append, jn, jn, jn_two B l x y (by simp only [List.length_cons] at h; omega)]; rfl
theorem jn_one (B : Nat) : ∀ (l : List Nat) (x : Nat), l.length % 2 = 0 → jn B (l ++ [x]) = jn B l ++ [x]
  | [], _, _ => rfl
  | [a], x, h => by simp at h
  | a :: b :: l, x, h => by
    rw [List.cons_append, List.cons_append, jn, jn, jn_one B l x (by simp only [List.length_cons] at h; omega)]; rfl
theorem jn_take2 (B : Nat) (l : List Nat) (j : Nat) (h : 2 * j + 1 < l.length) : jn B (l.take (2 * (j + 1))) = jn B (l.take (2 * j)) ++ [dg l (2 * j) + dg l (2 * j + 1) * B] := by
  rw [show 2 * (j + 1) = 2 * j + 1 + 1 by omega, take_succ_dg l _ h, take_succ_dg l _ (by omega), List.append_assoc]
  exact jn_two B _ _ _ (by rw [List.length_take]; omega)
theorem jn_take1 (B : Nat) (l : List Nat) (j : Nat) (h : 2 * j + 1 = l.length) : jn B (l.take (2 * (j + 1))) = jn B (l.take (2 * j)) ++ [dg l (2 * j)] := by
  rw [show l.take (2 * (j + 1)) = l.take (2 * j + 1) by rw [List.take_of_length_le (by omega), List.take_of_length_le (by omega)], take_succ_dg l _ (by omega)]
  exact jn_one B _ _ (by rw [List.length_take]; omega)
end Go.Proofs.YtkdjhklnlnfhfaaGreatDoor
