/-
  The reference's Size, Bytes.
  Slices of bytes that read as digits to the base 256; what each round of reading them leaves. No condition.
  nat: Write, whole: a number in just so many bytes, the highest first.
  rsa: how many bytes a number has; which keys may be; bytes as a number; what is laid out.
-/
import Derived.Test.YtkdjhklnlnfhfaaGreatDoorM14
import Derived.Test.YtkdjhklnlnfhfaaGreatDoorM1
import Derived.Test.YtkdjhklnlnfhfaaGreatDoorM22
import Derived.Test.YtkdjhklnlnfhfaaGreatDoorM21
namespace Go.Proofs.YtkdjhklnlnfhfaaGreatDoor
open Go Go.RowKit
set_option maxRecDepth 4000

/-- how many bytes a number has -/
def sz (l : List Nat) : Nat := if 0 < l.length ∧ dg l (l.length - 1) < 256 then 2 * l.length - 1 else 2 * l.length
set_option maxHeartbeats 1000000 in
theorem Size_any {l : List Nat} {A : Option Addr} {n c : Nat} {w : World} (h : Rd vI w A n c l) (hn : n ≤ 1000000000000) :
    Calls Tryz.prog 35 #[.slice A n c] w fun e w' => e = .returned (.int .i64 (sz l : Int)) ∧ w' = w := by
  have hl := h.len
  by_cases h0 : n = 0
  · subst h0
    have e : sz l = 0 := by rw [sz, hl]; simp
    rw [e]
    clear h
    go_enter Tryz.func35, Tryz.ntmps35
    go_wp2_with fail
    go_ret
    exact ⟨rfl, rfl⟩
  · obtain ⟨g, o, rfl⟩ := h.some_ (by omega)
    obtain ⟨k, hk⟩ : ∃ k, n = k + 1 := ⟨n - 1, by omega⟩
    have k1 := h.dig k (by omega)
    unfold vI at k1
    obtain ⟨N, hN⟩ : ∃ N, N = 2 * n := ⟨_, rfl⟩
    have e1 : (n : Int) - 1 = (k : Int) := by omega
    have e2 : IntKind.i64.wrap (2 * (n : Int)) = (N : Int) := by rw [IntKind.wrap_i64]; omega
    have e3 : 2 * (n : Int) = (N : Int) := by omega
    have b0 : (k : Int) < (n : Int) := by omega
    have b1 : decide ((0 : Int) < (N : Int)) = true := decide_eq_true (by omega)
    have b2 : 0 < N := by omega
    have b3 : (N : Int) < 4611686018427387904 := by omega
    have hk1 : n - 1 = k := by omega
    by_cases hq : dg l k < 256
    · have e : (sz l : Int) = (N : Int) - 1 := by rw [sz, hl, hk1, if_pos ⟨by omega, hq⟩]; omega
      rw [e]
      have q1 : ((dg l k : Nat) : Int) < 256 := by omega
      clear h e hq h0 hk hk1 hl hN hn
      generalize dg l k = x at *
      go_enter Tryz.func35, Tryz.ntmps35
      go_wp2_with fail
      go_ret
      exact ⟨rfl, rfl⟩
    · have e : (sz l : Int) = (N : Int) := by rw [sz, hl, hk1, if_neg (fun h => hq h.2)]; omega
      rw [e]
      have q1 : decide (((dg l k : Nat) : Int) < 256) = false := decide_eq_false (by omega)
      clear h e hq h0 hk hk1 hl hN hn
      generalize dg l k = x at *
      go_enter Tryz.func35, Tryz.ntmps35
      go_wp2_with fail
      go_ret
      exact ⟨rfl, rfl⟩
end Go.Proofs.YtkdjhklnlnfhfaaGreatDoor
namespace Go.Proofs.YtkdjhklnlnfhfaaGreatDoor
open Go Go.RowKit
set_option maxRecDepth 4000

/-- a digit as a byte -/
def vB (d : Nat) : Value := .int .u8 (d : Int)
theorem Rd.of_sl {w : World} {A : Option Addr} {n c : Nat} {l : List (BitVec 8)} (h : Sl w A n c l) : Rd vB w A n c (l.map BitVec.toNat) := by
  obtain ⟨h1, h2, h3, h4⟩ := h
  refine ⟨by rw [List.length_map, h1], h2, h3, fun hn => ?_⟩
  obtain ⟨g, o, e, hc⟩ := h4 hn
  refine ⟨g, o, e, fun j x hj => ?_⟩
  rw [List.getElem?_map] at hj
  have hjl : j < l.length := by
    rcases Nat.lt_or_ge j l.length with h | h
    · exact h
    · rw [List.getElem?_eq_none h] at hj; cases hj
  rw [hc j (by omega)]
  rw [List.getElem?_eq_getElem hjl] at hj
  cases hj
  simp [vB, ub, gb, hjl]
theorem Dg.of_bytes (l : List (BitVec 8)) : Dg 256 (l.map BitVec.toNat) := fun d hd => by
  obtain ⟨x, _, rfl⟩ := List.mem_map.1 hd
  exact x.isLt
theorem Rd.drop {α : Type} {e : α → Value} {w : World} {A : Option Addr} {n c : Nat} {l : List α} (h : Rd e w A n c l) (k : Nat) (hk : k ≤ n) : Rd e w (if c = k then A else A.map (·.add k)) (n - k) (c - k) (l.drop k) := by
  have hl := h.len
  have hc := h.cap
  refine ⟨by rw [List.length_drop, hl], by omega, ?_, fun hn => ?_⟩
  · intro ea
    have hA : A = none := by
      by_cases hck : c = k
      · rwa [if_pos hck] at ea
      · rw [if_neg hck] at ea; cases A with
        | none => rfl
        | some a => cases ea
    have := h.nul hA
    omega
  · obtain ⟨g, o, rfl, hc⟩ := h.at_ (by omega)
    have hck : ¬ c = k := by omega
    refine ⟨g, o + k, ?_, fun j x hj => ?_⟩
    · rw [if_neg hck]
      simp only [Option.map_some, Option.some.injEq]
      unfold Addr.add
      split <;> simp_all
    · rw [List.getElem?_drop] at hj
      rw [Nat.add_assoc]
      exact hc (k + j) x hj
/-- a digit from the end -/
theorem dg_rev (l : List Nat) (i : Nat) (h : i < l.length) : dg l.reverse i = dg l (l.length - 1 - i) := by
  unfold dg
  rw [List.getD_eq_getElem?_getD, List.getD_eq_getElem?_getD, List.getElem?_reverse h]
theorem Dg.rev {B : Nat} {l : List Nat} (h : Dg B l) : Dg B l.reverse := fun d hd => h d (List.mem_reverse.1 hd)
/-- noughts ahead say nothing -/
theorem vl_rev_drop (B : Nat) (l : List Nat) : vl B (l.dropWhile (· == 0)).reverse = vl B l.reverse := by
  induction l with
  | nil => rfl
  | cons x l ih =>
    rw [List.dropWhile_cons]
    split
    · rename_i h
      rw [ih, List.reverse_cons, vl_snoc, eq_of_beq h, Nat.mul_zero, Nat.add_zero]
    · rfl
/-- after i bytes -/
structure RdS (r : List Nat) (K i : Nat) (L : List Nat) : Prop where
  len : L.length = K
  d : Dg BB L
  v : vl BB L = vl 256 (r.take i)
theorem RdS.start (r : List Nat) (K : Nat) : RdS r K 0 (List.replicate K 0) :=
  ⟨by simp, fun d hd => by rw [List.eq_of_mem_replicate hd]; decide, by rw [vl_zeros]; rfl⟩
theorem p256 (q s : Nat) : BB ^ q * 2 ^ (8 * s) = 256 ^ (4 * q + s) := by
  rw [Nat.pow_add, Nat.pow_mul, Nat.pow_mul]
theorem RdS.low {r L : List Nat} {K i q s : Nat} (hr : Dg 256 r) (h : RdS r K i L) (hi : i = 4 * q + s) (hir : i ≤ r.length) (hq : q < K) : dg L q < 2 ^ (8 * s) := by
  have h1 := vl_lt (by decide) (hr.take i)
  rw [← h.v, List.length_take, Nat.min_eq_left hir, hi, ← p256] at h1
  have h2 := vl_split BB L q (by rw [h.len]; exact hq)
  rw [Nat.mul_add] at h2
  have h3 : BB ^ q * dg L q < BB ^ q * 2 ^ (8 * s) := by omega
  exact Nat.lt_of_mul_lt_mul_left h3
theorem RdS.next {r L : List Nat} {K i q s : Nat} (hr : Dg 256 r) (h : RdS r K i L) (hi : i = 4 * q + s) (hs : s < 4) (hir : i < r.length) (hq : q < K) : RdS r K (i + 1) (L.set q (dg r i * 2 ^ (8 * s) + dg L q)) := by
  have h1 := h.low hr hi (by omega) hq
  have h2 := hr.at (by decide) i
  have h5 : dg r i * 2 ^ (8 * s) + dg L q < BB := by
    have h3 : (dg r i + 1) * 2 ^ (8 * s) ≤ 256 * 2 ^ (8 * s) := Nat.mul_le_mul_right _ h2
    rw [Nat.add_mul, Nat.one_mul] at h3
    have h4 : 256 * 2 ^ (8 * s) ≤ 256 * 2 ^ (8 * 3) := Nat.mul_le_mul_left _ (Nat.pow_le_pow_right (by decide) (by omega))
    have h6 : 256 * 2 ^ (8 * 3) = BB := by decide
    omega
  refine ⟨by rw [List.length_set, h.len], h.d.set q _ h5, ?_⟩
  have h3 := vl_set BB L q (dg r i * 2 ^ (8 * s) + dg L q) (by rw [h.len]; exact hq)
  rw [Nat.mul_add, Nat.mul_comm (dg r i), ← Nat.mul_assoc, p256, ← hi] at h3
  rw [vl_take_succ, ← h.v]
  rw [Nat.mul_comm (dg r i)]
  omega
theorem RdS.done {r L : List Nat} {K : Nat} (h : RdS r K r.length L) : vl BB L = vl 256 r := by rw [h.v, List.take_length]
/-- just so many limbs -/
theorem RdS.cn {r L : List Nat} {K : Nat} (h : RdS r K r.length L) (hK : K = (r.length + 3) / 4) (ht : r.length = 0 ∨ dg r (r.length - 1) ≠ 0) (_hr : Dg 256 r) : L = dgs BB (vl 256 r) := by
  have hv := h.done
  have e : L.take K = dgs BB (vl BB L) := by
    refine cut_cn (by decide) h.d K (by rw [h.len]; exact Nat.le_refl _) (fun i hi => dg_out L i (by rw [h.len]; exact hi)) ?_
    rcases ht with ht | ht
    · left; omega
    · by_cases h0 : r.length = 0
      · left; omega
      · right
        intro hz
        have h1 : vl BB L < BB ^ (K - 1) := by
          have h2 := vl_split BB L (K - 1) (by rw [h.len]; omega)
          rw [List.drop_eq_nil_of_le (by rw [h.len]; omega), hz] at h2
          simp only [vl, Nat.mul_zero, Nat.add_zero] at h2
          have h3 := vl_lt (by decide) (h.d.take (K - 1))
          rw [List.length_take, h.len, Nat.min_eq_left (by omega)] at h3
          omega
        have h4 : 256 ^ (r.length - 1) ≤ vl 256 r := by
          have h5 := vl_split 256 r (r.length - 1) (by omega)
          have h6 : 256 ^ (r.length - 1) * 1 ≤ 256 ^ (r.length - 1) * (dg r (r.length - 1) + 256 * vl 256 (r.drop (r.length - 1 + 1))) := Nat.mul_le_mul_left _ (by omega)
          omega
        have h7 : BB ^ (K - 1) ≤ 256 ^ (r.length - 1) := by
          rw [show BB = 256 ^ 4 by decide, ← Nat.pow_mul]
          exact Nat.pow_le_pow_right (by decide) (by omega)
        omega
  rw [List.take_of_length_le (by rw [h.len]; exact Nat.le_refl _), hv] at e
  exact e
/-- more than so many bytes -/
theorem long_iff {r : List Nat} (hr : Dg 256 r) (ht : r.length = 0 ∨ dg r (r.length - 1) ≠ 0) : r.length ≤ 256 ↔ vl 256 r < 256 ^ 256 := by
  constructor
  · intro h
    exact Nat.lt_of_lt_of_le (vl_lt (by decide) hr) (Nat.pow_le_pow_right (by decide) h)
  · intro h
    rcases Nat.lt_or_ge 256 r.length with h1 | h1
    · rcases ht with ht | ht
      · omega
      · have h5 := vl_split 256 r (r.length - 1) (by omega)
        have h6 : 256 ^ (r.length - 1) * 1 ≤ 256 ^ (r.length - 1) * (dg r (r.length - 1) + 256 * vl 256 (r.drop (r.length - 1 + 1))) := Nat.mul_le_mul_left _ (by omega)
        have h7 := Nat.pow_le_pow_right (n := 256) (by decide) (show 256 ≤ r.length - 1 by omega)
        omega
    · exact h1
theorem sz_iff (v : Nat) : sz (dgs 65536 v) ≤ 256 ↔ v < 256 ^ 256 := by
  have h := len_iff (B := 65536) (by decide) v 128
  rw [show (65536 : Nat) = 256 ^ 2 by decide, ← Nat.pow_mul, show 2 * 128 = 256 by decide] at h
  rw [← h, ← show (65536 : Nat) = 256 ^ 2 by decide]
  unfold sz
  split <;> omega
end Go.Proofs.YtkdjhklnlnfhfaaGreatDoor
namespace Go.Proofs.YtkdjhklnlnfhfaaGreatDoor
open Go Go.RowKit
set_option maxRecDepth 4000

/-- a number in k bytes, the highest first -/
def toB (v k : Nat) : List (BitVec 8) := (List.range k).map fun j => BitVec.ofNat 8 (v / 256 ^ (k - 1 - j))
theorem toB_len (v k : Nat) : (toB v k).length = k := by simp [toB]
theorem toB_at (v k j : Nat) (h : j < k) : gb (toB v k) j = BitVec.ofNat 8 (v / 256 ^ (k - 1 - j)) := gb_map_range _ k j h
/-- how many bytes a number has -/
def nb (v : Nat) : Nat := (dgs 256 v).length
theorem nb_iff (v k : Nat) : nb v ≤ k ↔ v < 256 ^ k := len_iff (by decide) v k
theorem nb_bits {v k : Nat} (h1 : v < 2 ^ k) (h2 : v ≠ 0 → 2 ^ (k - 1) ≤ v) (h3 : v = 0 → k = 0) : nb v = (k + 7) / 8 := by
  have e : ∀ j, 256 ^ j = 2 ^ (8 * j) := fun j => by rw [Nat.pow_mul]
  refine Nat.le_antisymm ((nb_iff v _).2 ?_) ?_
  · rw [e]
    exact Nat.lt_of_lt_of_le h1 (Nat.pow_le_pow_right (by decide) (by omega))
  · by_cases h0 : v = 0
    · have := h3 h0; omega
    · have h4 := (nb_iff v (nb v)).1 (Nat.le_refl _)
      rw [e] at h4
      have h5 := h2 h0
      have h6 : k - 1 < 8 * nb v := by
        rcases Nat.lt_or_ge (k - 1) (8 * nb v) with h | h
        · exact h
        · have := Nat.pow_le_pow_right (n := 2) (by decide) h; omega
      omega
theorem bitLen_lo (x : Nat) (hx : x < 4294967296) (h0 : x ≠ 0) : 2 ^ (Lib.bitLen x - 1) ≤ x ∧ 0 < Lib.bitLen x := by
  unfold Lib.bitLen
  obtain ⟨h1, h2, h3⟩ := Lib.bitLenAux_bounds 64 x (by omega) h0
  exact ⟨h2, h1⟩
theorem bitsOf_exact {l : List Nat} {A : Option Addr} {n c : Nat} {w : World} (h : Rd vL w A n c l) (hc : Cn BB l) (hn : n ≤ 1000000) :
    Calls Tryz.prog 171 #[.slice A n c] w fun e w' => ∃ k : Nat, e = .returned (.int .i64 (k : Int)) ∧ nb (vl BB l) = (k + 7) / 8 ∧ k ≤ 32 * n ∧ w' = w := by
  have hl := h.len
  by_cases h0 : n = 0
  · subst h0
    have e : l = [] := List.eq_nil_of_length_eq_zero hl
    subst e
    clear h hc
    go_enter Tryz.func171, Tryz.ntmps171
    go_wp2_with fail
    go_ret
    exact ⟨0, rfl, rfl, by omega, rfl⟩
  · obtain ⟨q, rfl⟩ : ∃ q, n = q + 1 := ⟨n - 1, by omega⟩
    obtain ⟨g, o, rfl⟩ := h.some_ (by omega)
    have k1 := h.dig q (by omega)
    unfold vL at k1
    have h1 := hc.d.at32 q
    have hb := bitLen_hi (dg l q) h1
    have htop : dg l q ≠ 0 := by
      have h9 := top_dgs (V := vl BB l) (fun e => by
        have := cn_zero (B := BB) (by decide) hc e
        rw [this] at hl
        cases hl)
      unfold nl at h9
      rwa [dgs_vl (by decide) hc, hl, Nat.add_sub_cancel] at h9
    have hlo := bitLen_lo (dg l q) h1 htop
    have hs := vl_split BB l q (by omega)
    rw [List.drop_eq_nil_of_le (by omega)] at hs
    simp only [vl, Nat.mul_zero, Nat.add_zero] at hs
    have hv : nb (vl BB l) = (32 * q + Lib.bitLen (dg l q) + 7) / 8 := by
      refine nb_bits ?_ (fun _ => ?_) (fun e0 => ?_)
      · have h3 := vl_lt (by decide) (hc.d.take q)
        rw [List.length_take, Nat.min_eq_left (by omega)] at h3
        have h4 : BB ^ q * (dg l q + 1) ≤ BB ^ q * 2 ^ Lib.bitLen (dg l q) := Nat.mul_le_mul_left _ hb.1
        rw [Nat.mul_succ] at h4
        rw [Nat.pow_add, Nat.pow_mul, show (2 : Nat) ^ 32 = BB from rfl, hs]
        omega
      · rw [show 32 * q + Lib.bitLen (dg l q) - 1 = 32 * q + (Lib.bitLen (dg l q) - 1) by have := hlo.2; omega, Nat.pow_add, Nat.pow_mul, show (2 : Nat) ^ 32 = BB from rfl]
        have h4 : BB ^ q * 2 ^ (Lib.bitLen (dg l q) - 1) ≤ BB ^ q * dg l q := Nat.mul_le_mul_left _ hlo.1
        rw [hs]
        omega
      · exfalso
        have h4 : BB ^ q * 1 ≤ BB ^ q * dg l q := Nat.mul_le_mul_left _ (Nat.pos_of_ne_zero htop)
        have h5 : 0 < BB ^ q := Nat.pow_pos (by decide)
        omega
    have hL := Len32_any (dg l q) h1
    have e1 : ((q + 1 : Nat) : Int) - 1 = (q : Int) := by omega
    have b1 : (q : Int) < ((q + 1 : Nat) : Int) := by omega
    have b2 : ¬ ((q + 1 : Nat) : Int) = 0 := by omega
    have hb2 := hb.2
    have HV := Kp.mk hv
    clear h hc hv hb hlo hs htop
    generalize dg l q = y at *
    generalize Lib.bitLen y = B at *
    go_enter Tryz.func171, Tryz.ntmps171
    go_wp2_with fail
    refine (hL _).mono ?_
    rintro e w1 ⟨rfl, rfl⟩
    go_wp2_with fail
    go_ret
    exact ⟨32 * q + B, by first | rfl | go_num, HV.out, by omega, rfl⟩
/-- a byte of a number, out of its limb -/
theorem limb_byte {v q s : Nat} (hs : s < 4) : dg (dgs BB v) q / 256 ^ s % 256 = v / 256 ^ (4 * q + s) % 256 := by
  have h := div_dg (B := BB) (by decide) (cn_dgs (by decide) v).d q
  obtain ⟨z, hz⟩ := h
  rw [vl_dgs (by decide)] at hz
  have e1 : v / 256 ^ (4 * q + s) = v / BB ^ q / 256 ^ s := by
    rw [Nat.pow_add, Nat.pow_mul, show (256 : Nat) ^ 4 = BB from rfl, Nat.div_div_eq_div_mul]
  rw [e1, hz]
  generalize dg (dgs BB v) q = x
  generalize dg (dgs BB v) (q + 1) + BB * z = y
  have e2 : BB = 256 ^ s * (256 ^ (3 - s) * 256) := by
    rw [← Nat.pow_succ, ← Nat.pow_add, show s + (3 - s).succ = 4 by omega]
  have e3 : x + BB * y = x + 256 ^ s * (256 * (256 ^ (3 - s) * y)) := by
    rw [congrArg (· * y) e2]
    simp only [Nat.mul_left_comm, Nat.mul_comm]
  rw [e3, Nat.add_mul_div_left _ _ (Nat.pow_pos (by decide)), Nat.add_mul_mod_self_left]
/-- after i bytes -/
def wrS (v size i : Nat) : List (BitVec 8) := (List.range size).map fun j => if size - 1 - j < i then BitVec.ofNat 8 (v / 256 ^ (size - 1 - j)) else 0
theorem wrS_zero (v size : Nat) : wrS v size 0 = zb size := by
  refine ext_gb _ _ (by simp [wrS, zb]) fun j hj => ?_
  have hj' : j < size := by simpa [wrS] using hj
  unfold wrS
  rw [gb_map_range _ _ _ hj', gb_zb, if_neg (by omega)]
theorem wrS_set (v size i : Nat) (h : i < size) : (wrS v size i).set (size - 1 - i) (BitVec.ofNat 8 (v / 256 ^ i)) = wrS v size (i + 1) := by
  refine ext_gb _ _ (by simp [wrS]) fun j hj => ?_
  have hj' : j < size := by simpa [wrS] using hj
  rw [gb_set _ _ _ _ (by simp [wrS]; omega)]
  unfold wrS
  rw [gb_map_range _ _ _ hj', gb_map_range _ _ _ hj']
  by_cases h1 : j = size - 1 - i
  · rw [if_pos h1, if_pos (by omega), show size - 1 - j = i by omega]
  · rw [if_neg h1]
    by_cases h2 : size - 1 - j < i
    · rw [if_pos h2, if_pos (by omega)]
    · rw [if_neg h2, if_neg (by omega)]
theorem wrS_all (v size n : Nat) (h : v < 256 ^ n) (_hn : n ≤ size) : wrS v size n = toB v size := by
  refine ext_gb _ _ (by simp [wrS, toB]) fun j hj => ?_
  have hj' : j < size := by simpa [wrS] using hj
  unfold wrS toB
  rw [gb_map_range _ _ _ hj', gb_map_range _ _ _ hj']
  by_cases h2 : size - 1 - j < n
  · rw [if_pos h2]
  · rw [if_neg h2, Nat.div_eq_of_lt (Nat.lt_of_lt_of_le h (Nat.pow_le_pow_right (by decide) (by omega)))]
    rfl
/-- what Write tells: the bytes in new memory -/
def WriteR (w : World) (v k : Nat) (e : Ending) (w' : World) : Prop :=
  ∃ A c, e = .returned (.tuple #[.slice A k c, .nilIface]) ∧ Own w' w.heap.size (.slice A k c) k (toB v k) ∧ Ext w w'
section
variable {w : World} {A : Option Addr} {n c : Nat} {a : List Nat}
theorem Write_long (ha : In1 w A n c a) (h1 : lng (vl BB a)) (k : Int) : Calls Tryz.prog 124 #[.slice A n c, .int .i64 k] w (Bad1 w 4) := by
  have C := Kp.mk (anyLong_at w nt [⟨A, n, c, a⟩] #[.slice A n c] rfl 1 rfl (by omega) (by simp [ha.ok]) true (by simp [h1]))
  have HX := Kp.mk (show Ext w (w.alloc (.cells #[.slice A n c] nt)) from (by (repeat (first | assumption | exact Ext.refl _ | apply Ext.drew | apply Ext.drewN | apply Ext.alloc | refine Ext.trans ?_ (by assumption))); first | done | fail))
  clear ha h1
  go_enter Tryz.func124, Tryz.ntmps124
  go_wp2_with fail
  refine C.out.mono ?_
  rintro e w1 ⟨rfl, rfl⟩
  go_wp2_with fail
  go_ret2
  exact ⟨rfl, HX.out⟩
theorem Write_bad (ha : In1 w A n c a) (h1 : ¬ lng (vl BB a)) (k : Int) (hk : k < (nb (vl BB a) : Int) ∨ 256 < k) : Calls Tryz.prog 124 #[.slice A n c, .int .i64 k] w (Bad1 w 1) := by
  have C := Kp.mk (anyLong_at w nt [⟨A, n, c, a⟩] #[.slice A n c] rfl 1 rfl (by omega) (by simp [ha.ok]) false (by simp [h1]))
  have hx : Ext w (w.alloc (.cells #[.slice A n c] nt)) := (by (repeat (first | assumption | exact Ext.refl _ | apply Ext.drew | apply Ext.drewN | apply Ext.alloc | refine Ext.trans ?_ (by assumption))); first | done | fail)
  have C1 := Kp.mk (ha.ext hx).counted
  have HL := Kp.mk (show nl (vl BB a) ≤ 64 from Nat.le_of_not_lt h1)
  have HX := Kp.mk hx
  generalize vl BB a = va at *
  clear ha h1 hx
  go_enter Tryz.func124, Tryz.ntmps124
  go_wp2_with fail
  refine C.out.mono ?_
  rintro e w1 ⟨rfl, hw1⟩
  rw [← hw1] at C1 HX
  clear hw1
  go_wp2_with fail
  refine C1.out.mono ?_
  rintro e w2 ⟨rfl, _, r1, rfl⟩
  have C2 := Kp.mk (bitsOf_exact r1 (cn_dgs (by decide) va) (by have := HL.out; omega))
  rw [vl_dgs (B := BB) (by decide)] at C2
  clear r1 C1
  go_wp2_with fail
  refine C2.out.mono ?_
  rintro e w3 ⟨j, rfl, hj, hj2, rfl⟩
  obtain ⟨N, hN⟩ : ∃ N, nb va = N := ⟨_, rfl⟩
  rw [hN] at hj hk
  have b1 : ((j : Int) + 7) / 8 = (N : Int) := by omega
  have b2 : (j : Int) < 100000 := by have := HL.out; omega
  clear hj hj2 hN
  by_cases hlt : k < (N : Int)
  · clear hk
    go_wp2_with fail
    go_ret2
    exact ⟨rfl, HX.out⟩
  · have b3 : decide (k < (N : Int)) = false := decide_eq_false hlt
    have b4 : 256 < k := by omega
    clear hk hlt
    go_wp2_with fail
    go_ret2
    exact ⟨rfl, HX.out⟩
set_option maxHeartbeats 2000000 in
theorem Write_ok (ha : In1 w A n c a) (h1 : ¬ lng (vl BB a)) (k : Nat) (hk : nb (vl BB a) ≤ k) (hk2 : k ≤ 256) : Calls Tryz.prog 124 #[.slice A n c, .int .i64 (k : Int)] w (WriteR w (vl BB a) k) := by
  have C := Kp.mk (anyLong_at w nt [⟨A, n, c, a⟩] #[.slice A n c] rfl 1 rfl (by omega) (by simp [ha.ok]) false (by simp [h1]))
  have hx : Ext w (w.alloc (.cells #[.slice A n c] nt)) := (by (repeat (first | assumption | exact Ext.refl _ | apply Ext.drew | apply Ext.drewN | apply Ext.alloc | refine Ext.trans ?_ (by assumption))); first | done | fail)
  have C1 := Kp.mk (ha.ext hx).counted
  have HL := Kp.mk (show nl (vl BB a) ≤ 64 from Nat.le_of_not_lt h1)
  have HX := Kp.mk hx
  generalize vl BB a = va at *
  clear ha h1 hx
  have hmk := run_makeN k (k : Int) rfl (by omega)
  go_enter Tryz.func124, Tryz.ntmps124
  go_wp2_with fail
  refine C.out.mono ?_
  rintro e w1 ⟨rfl, hw1⟩
  rw [← hw1] at C1 HX
  clear hw1
  go_wp2_with fail
  refine C1.out.mono ?_
  rintro e w2 ⟨rfl, _, r1, rfl⟩
  have C2 := Kp.mk (bitsOf_exact r1 (cn_dgs (by decide) va) (by have := HL.out; omega))
  rw [vl_dgs (B := BB) (by decide)] at C2
  have HR := Kp.mk r1
  clear r1 C1
  go_wp2_with fail
  refine C2.out.mono ?_
  rintro e w3 ⟨j, rfl, hj, hj2, rfl⟩
  obtain ⟨N, hN⟩ : ∃ N, nb va = N := ⟨_, rfl⟩
  have HV := Kp.mk ((nb_iff va N).1 (by omega))
  have hNL : N ≤ 4 * nl va := by
    have h2 := (len_iff (B := BB) (by decide) va (nl va)).1 (Nat.le_refl _)
    rw [show BB = 256 ^ 4 by decide, ← Nat.pow_mul] at h2
    rw [← hN]
    exact (nb_iff va _).2 h2
  rw [hN] at hj hk
  have b1 : ((j : Int) + 7) / 8 = (N : Int) := by omega
  have b2 : (j : Int) < 100000 := by have := HL.out; omega
  have b3 : decide ((k : Int) < (N : Int)) = false := decide_eq_false (by omega)
  have b4 : decide ((256 : Int) < (k : Int)) = false := decide_eq_false (by omega)
  have b5 : decide (k < N) = false := decide_eq_false (by omega)
  have b6 : decide (256 < k) = false := decide_eq_false (by omega)
  obtain ⟨m, hm⟩ : ∃ m, nl va = m := ⟨_, rfl⟩
  rw [hm] at HR HL hNL ⊢
  have HB0 := Kp.mk (Blk.new w3 5 (bv (zb k)))
  rw [← wrS_zero va k] at HB0 hmk
  have HLm := HL.out
  clear hj hj2 hN hm C2 C
  go_wp2_with fail
  go_loopw [30] (fun iv wr => ∃ i : Nat, i ≤ N ∧ iv = .int .i64 (i : Int) ∧ Blk wr w3.heap.size 5 (bv (wrS va k i)) ∧ Ext w3 wr) (fun iv _ => N - (intOf iv).toNat)
  case atStart => exact ⟨0, by omega, rfl, HB0.out, (by (repeat (first | assumption | exact Ext.refl _ | apply Ext.drew | apply Ext.drewN | apply Ext.alloc | refine Ext.trans ?_ (by assumption))); first | done | fail)⟩
  case round =>
    obtain ⟨i, hi, rfl, hb, hx⟩ := hrel
    by_cases hlt : i < N
    · obtain ⟨g, o, rfl⟩ := HR.out.some_ (by omega)
      obtain ⟨q, hq⟩ : ∃ q, i / 4 = q := ⟨_, rfl⟩
      obtain ⟨s, hs⟩ : ∃ s, i % 4 = s := ⟨_, rfl⟩
      have hiq : i = 4 * q + s := by omega
      have hs4 : s < 4 := by omega
      have k1 := (HR.out.ext hx).dig q (by omega)
      unfold vL at k1
      have hy := (cn_dgs (B := BB) (by decide) va).d.at32 q
      have hlb := limb_byte (v := va) (q := q) hs4
      rw [← hiq] at hlb
      obtain ⟨P, hP⟩ : ∃ P, k - 1 - i = P := ⟨_, rfl⟩
      have k4 := hb.h.frozen P
      have k3 := (hb.h.cell P).trans (bv_at _ P (by simp [wrS]; omega))
      have hset := hb.setB P (BitVec.ofNat 8 (va / 256 ^ i))
      rw [← hP, wrS_set va k i (by omega), hP, ub_ofNat] at hset
      obtain ⟨E, hE⟩ : ∃ E, 8 * s = E := ⟨_, rfl⟩
      have e256 : 256 ^ s = 2 ^ E := by rw [← hE, Nat.pow_mul]
      rw [e256] at hlb
      generalize dg (dgs BB va) q = y at *
      have hz : y / 2 ^ E < 4294967296 := Nat.lt_of_le_of_lt (Nat.div_le_self _ _) hy
      have c1 : (y : Int) / 2 ^ E = ((y / 2 ^ E : Nat) : Int) := by simp
      obtain ⟨z, hzz⟩ : ∃ z, y / 2 ^ E = z := ⟨_, rfl⟩
      rw [hzz] at hz c1 hlb
      have c2 : ((va / 256 ^ i : Nat) : Int) % 256 = (z : Int) % 256 := by omega
      rw [c2] at hset
      have HS := Kp.mk hset
      have HX2 := Kp.mk (hx.setCell (p := ⟨w3.heap.size, P, none⟩) (Nat.le_refl _) (.int .u8 ((z : Int) % 256)))
      have c3 : IntKind.u8.wrap (z : Int) = (z : Int) % 256 := by rw [IntKind.wrap_u8]
      have d0 : (i : Int) < (N : Int) := by omega
      have d1 : (i : Int) / 4 = (q : Int) := by omega
      have d2 : (i : Int) % 4 = (s : Int) := by omega
      have d3 : (k : Int) - 1 - (i : Int) = (P : Int) := by omega
      have d4 : (s : Int) * 8 = (E : Int) := by omega
      have d5 : (q : Int) < (m : Int) := by omega
      have d6 : (P : Int) < (k : Int) := by omega
      have d7 : (i : Int) < 300 := by omega
      have d8 : (E : Int) < 32 := by omega
      clear hb hx hq hs hiq hP hE e256 hzz hlb c2 hset hk hNL HLm
      go_wp2_with fail
      go_roundw
      case rel => exact ⟨i + 1, by omega, by go_num, HS.out, HX2.out⟩
      case measure => simp [intOf]; omega
    · obtain rfl : i = N := by omega
      have hall := wrS_all va k i HV.out hk
      rw [hall] at hb
      have HF := Kp.mk (show WriteR w va k (.returned (.tuple #[.slice (some ⟨w3.heap.size, 0, none⟩) k k, .nilIface])) wr from
        ⟨_, _, rfl, Own.has hb.h (toB_len _ _) HX.out.size (by unfold maxLen; omega), HX.out.trans hx⟩)
      clear hb hx hall
      go_wp2_with fail
      go_ret2
      exact HF.out
end
end Go.Proofs.YtkdjhklnlnfhfaaGreatDoor
namespace Go.Proofs.YtkdjhklnlnfhfaaGreatDoor
open Go Go.RowKit
set_option maxRecDepth 4000

theorem sz_le (v k : Nat) : sz (dgs 65536 v) ≤ k ↔ v < 256 ^ k := by
  have hc := cn_dgs (B := 65536) (by decide) v
  have hv := vl_dgs (B := 65536) (by decide) v
  have hlen := fun j => len_iff (B := 65536) (by decide) v j
  have hs : sz (dgs 65536 v) = 2 * (dgs 65536 v).length ∨ (0 < (dgs 65536 v).length ∧ sz (dgs 65536 v) = 2 * (dgs 65536 v).length - 1) := by
    unfold sz
    split
    · exact .inr ⟨by omega, rfl⟩
    · exact .inl rfl
  have htop : ∀ j, (dgs 65536 v).length = j + 1 → (sz (dgs 65536 v) = 2 * (j + 1) - 1 ↔ v < 256 ^ (2 * j + 1)) := by
    intro j hj
    have h1 := vl_split 65536 (dgs 65536 v) j (by omega)
    rw [List.drop_eq_nil_of_le (by omega), hv] at h1
    simp only [vl, Nat.mul_zero, Nat.add_zero] at h1
    have h2 := vl_lt (by decide) (hc.d.take j)
    rw [List.length_take, Nat.min_eq_left (by omega)] at h2
    have e : 256 ^ (2 * j + 1) = 65536 ^ j * 256 := by rw [Nat.pow_succ, Nat.pow_mul]
    rw [e]
    unfold sz
    rw [hj, Nat.add_sub_cancel]
    generalize dg (dgs 65536 v) j = x at *
    generalize vl 65536 ((dgs 65536 v).take j) = y at *
    by_cases hx : x < 256
    · rw [if_pos ⟨by omega, hx⟩]
      have h3 : 65536 ^ j * (x + 1) ≤ 65536 ^ j * 256 := Nat.mul_le_mul_left _ (by omega)
      rw [Nat.mul_succ] at h3
      exact ⟨fun _ => by omega, fun _ => rfl⟩
    · rw [if_neg (fun h => hx h.2)]
      have h3 : 65536 ^ j * 256 ≤ 65536 ^ j * x := Nat.mul_le_mul_left _ (by omega)
      exact ⟨fun h => by omega, fun h => by omega⟩
  obtain ⟨j, hj⟩ : ∃ j, k = 2 * j ∨ k = 2 * j + 1 := ⟨k / 2, by omega⟩
  rcases hj with rfl | rfl
  · rw [Nat.pow_mul]
    show _ ↔ v < 65536 ^ j
    rw [← hlen j]
    omega
  · have h1 := hlen j
    have h2 := hlen (j + 1)
    have e1 : (65536 : Nat) ^ j ≤ 256 ^ (2 * j + 1) := by rw [Nat.pow_succ, Nat.pow_mul]; exact Nat.le_mul_of_pos_right _ (by decide)
    have e2 : 256 ^ (2 * j + 1) ≤ (65536 : Nat) ^ (j + 1) := by rw [Nat.pow_succ, Nat.pow_mul, Nat.pow_succ]; exact Nat.mul_le_mul_left _ (by decide)
    have ht := htop j
    rcases Nat.lt_trichotomy (dgs 65536 v).length (j + 1) with hlt | heq | hgt
    · have h3 : v < 65536 ^ j := h1.1 (by omega)
      exact ⟨fun _ => by omega, fun _ => by omega⟩
    · have ht2 := ht heq
      constructor
      · intro h
        exact ht2.1 (by omega)
      · intro h
        have := ht2.2 h
        omega
    · have h3 : ¬ v < 65536 ^ (j + 1) := fun h => by have := h2.2 h; omega
      exact ⟨fun h => by omega, fun h => by omega⟩
theorem sz_nb (v : Nat) : sz (dgs 65536 v) = nb v :=
  Nat.le_antisymm ((sz_le v _).2 ((nb_iff v _).1 (Nat.le_refl _))) ((nb_iff v _).2 ((sz_le v _).1 (Nat.le_refl _)))
/-- the keys that may be -/
def PubOk (vn ve : Nat) : Prop := 62 ≤ nb vn ∧ nb vn ≤ 128 ∧ vn % 2 = 1 ∧ ve % 2 = 1 ∧ 3 ≤ ve ∧ ve < vn
def SecOk (vn ve vd : Nat) : Prop := PubOk vn ve ∧ 1 ≤ vd ∧ vd < vn
theorem nb_bb {v : Nat} (h : nb v ≤ 128) : v < BB ^ 32 := by
  have h1 := (nb_iff v 128).1 h
  rwa [show (256 : Nat) ^ 128 = BB ^ 32 by rw [show (128 : Nat) = 4 * 32 by rfl, Nat.pow_mul]] at h1
theorem PubOk.n {vn ve : Nat} (h : PubOk vn ve) : vn < BB ^ 32 := nb_bb h.2.1
theorem PubOk.e {vn ve : Nat} (h : PubOk vn ve) : ve < BB ^ 32 := Nat.lt_trans h.2.2.2.2.2 h.n
theorem SecOk.d {vn ve vd : Nat} (h : SecOk vn ve vd) : vd < BB ^ 32 := Nat.lt_trans h.2.2 h.1.n
theorem sh32 {v : Nat} (h : v < BB ^ 32) : ¬ lng v := short_of h (by decide)
theorem PubOk.n0 {vn ve : Nat} (h : PubOk vn ve) : vn ≠ 0 := by have := h.2.2.1; omega
/-- bytes as a number, the highest first -/
def bnum (l : List (BitVec 8)) : Nat := vl 256 (l.map BitVec.toNat).reverse
theorem bnum_lt (l : List (BitVec 8)) : bnum l < 256 ^ l.length := by
  have h := vl_lt (by decide) (Dg.of_bytes l).rev
  rwa [List.length_reverse, List.length_map] at h
theorem bnum_append (a b : List (BitVec 8)) : bnum (a ++ b) = bnum a * 256 ^ b.length + bnum b := by
  unfold bnum
  rw [List.map_append, List.reverse_append, vl_append, List.length_reverse, List.length_map, Nat.mul_comm, Nat.add_comm]
theorem bnum_zero (l : List (BitVec 8)) : bnum (0 :: l) < 256 ^ l.length := by
  have h := bnum_append [0] l
  rw [List.singleton_append] at h
  rw [h, show bnum [0] = 0 by rfl, Nat.zero_mul, Nat.zero_add]
  exact bnum_lt l
/-- a number of so many bytes -/
theorem nb_lo {v k : Nat} (h : nb v = k + 1) : 256 ^ k ≤ v := by
  rcases Nat.lt_or_ge v (256 ^ k) with h1 | h1
  · have := (nb_iff v k).2 h1
    omega
  · exact h1
/-- bytes so often multiplied: none, where they aren't just so many or no number below it -/
def rs (l : List (BitVec 8)) (vt vn : Nat) : Option (List (BitVec 8)) := if l.length = nb vn ∧ bnum l < vn then some (toB (bnum l ^ vt % vn) (nb vn)) else none
theorem rs_len {l : List (BitVec 8)} {vt vn : Nat} (h : l.length ≠ nb vn) : rs l vt vn = none := if_neg fun e => h e.1
theorem rs_some {l r : List (BitVec 8)} {vt vn : Nat} (h : rs l vt vn = some r) : l.length = nb vn ∧ bnum l < vn ∧ r = toB (bnum l ^ vt % vn) (nb vn) := by
  unfold rs at h
  split at h
  · next h1 => exact ⟨h1.1, h1.2, by injection h with h2; exact h2.symm⟩
  · cases h
theorem rs_out {l r : List (BitVec 8)} {vt vn : Nat} (h : rs l vt vn = some r) : r.length = nb vn := by rw [(rs_some h).2.2, toB_len]
/-- what begins with a byte 00 is below it -/
theorem rs_laid {l : List (BitVec 8)} {vn : Nat} (vt : Nat) (h : l.length = nb vn) (h0 : l.head? = some 0) : ∃ r, rs l vt vn = some r := by
  cases l with
  | nil => cases h0
  | cons x r =>
    obtain rfl : x = 0 := by simpa using h0
    refine ⟨_, if_pos ⟨h, ?_⟩⟩
    have h1 := bnum_zero r
    have h2 := nb_lo (v := vn) (k := r.length) (by rw [← h]; rfl)
    omega
/-- laid out to be signed -/
def aheadL : List (BitVec 8) := [0x30, 0x31, 0x30, 0x0d, 0x06, 0x09, 0x60, 0x86, 0x48, 0x01, 0x65, 0x03, 0x04, 0x02, 0x01, 0x05, 0x00, 0x04, 0x20]
def sgL (d : List (BitVec 8)) (size : Nat) : List (BitVec 8) := [0, 1] ++ List.replicate (size - 54) 255 ++ [0] ++ (aheadL ++ d)
theorem sgL_len (d : List (BitVec 8)) (size : Nat) (hd : d.length = 32) (hs : 54 ≤ size) : (sgL d size).length = size := by
  unfold sgL aheadL
  simp only [List.length_append, List.length_replicate, List.length_cons, List.length_nil, hd]
  omega
theorem sgL_head (d : List (BitVec 8)) (size : Nat) : (sgL d size).head? = some 0 := rfl
/-- laid out to be hidden -/
def hdL (fill text : List (BitVec 8)) : List (BitVec 8) := [0, 2] ++ fill ++ [0] ++ text
theorem hdL_len (fill text : List (BitVec 8)) : (hdL fill text).length = fill.length + text.length + 3 := by
  unfold hdL
  simp only [List.length_append, List.length_cons, List.length_nil]
  omega
theorem hdL_head (fill text : List (BitVec 8)) : (hdL fill text).head? = some 0 := rfl
end Go.Proofs.YtkdjhklnlnfhfaaGreatDoor
