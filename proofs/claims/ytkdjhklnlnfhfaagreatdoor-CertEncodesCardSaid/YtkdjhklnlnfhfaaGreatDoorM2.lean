/-
  AES in plain: bytes as polynomials, blocks, keys of rounds; decrypting is the way back. No condition.
  Chained blocks in plain: filled texts, codes, and back. No condition.
  Filled texts told by their last byte; the chain told by the blocks that have come; a byte of the beginning turned. No condition.
-/
import Derived.Test.YtkdjhklnlnfhfaaGreatDoorM1
namespace Go.Proofs.YtkdjhklnlnfhfaaGreatDoor
open Go
set_option maxRecDepth 4000

/-- the substitutes, as package aes lays them; whose substitute a byte is -/
def SB : List (BitVec 8) := [
  0x63, 0x7c, 0x77, 0x7b, 0xf2, 0x6b, 0x6f, 0xc5, 0x30, 0x01, 0x67, 0x2b, 0xfe, 0xd7, 0xab, 0x76,
  0xca, 0x82, 0xc9, 0x7d, 0xfa, 0x59, 0x47, 0xf0, 0xad, 0xd4, 0xa2, 0xaf, 0x9c, 0xa4, 0x72, 0xc0,
  0xb7, 0xfd, 0x93, 0x26, 0x36, 0x3f, 0xf7, 0xcc, 0x34, 0xa5, 0xe5, 0xf1, 0x71, 0xd8, 0x31, 0x15,
  0x04, 0xc7, 0x23, 0xc3, 0x18, 0x96, 0x05, 0x9a, 0x07, 0x12, 0x80, 0xe2, 0xeb, 0x27, 0xb2, 0x75,
  0x09, 0x83, 0x2c, 0x1a, 0x1b, 0x6e, 0x5a, 0xa0, 0x52, 0x3b, 0xd6, 0xb3, 0x29, 0xe3, 0x2f, 0x84,
  0x53, 0xd1, 0x00, 0xed, 0x20, 0xfc, 0xb1, 0x5b, 0x6a, 0xcb, 0xbe, 0x39, 0x4a, 0x4c, 0x58, 0xcf,
  0xd0, 0xef, 0xaa, 0xfb, 0x43, 0x4d, 0x33, 0x85, 0x45, 0xf9, 0x02, 0x7f, 0x50, 0x3c, 0x9f, 0xa8,
  0x51, 0xa3, 0x40, 0x8f, 0x92, 0x9d, 0x38, 0xf5, 0xbc, 0xb6, 0xda, 0x21, 0x10, 0xff, 0xf3, 0xd2,
  0xcd, 0x0c, 0x13, 0xec, 0x5f, 0x97, 0x44, 0x17, 0xc4, 0xa7, 0x7e, 0x3d, 0x64, 0x5d, 0x19, 0x73,
  0x60, 0x81, 0x4f, 0xdc, 0x22, 0x2a, 0x90, 0x88, 0x46, 0xee, 0xb8, 0x14, 0xde, 0x5e, 0x0b, 0xdb,
  0xe0, 0x32, 0x3a, 0x0a, 0x49, 0x06, 0x24, 0x5c, 0xc2, 0xd3, 0xac, 0x62, 0x91, 0x95, 0xe4, 0x79,
  0xe7, 0xc8, 0x37, 0x6d, 0x8d, 0xd5, 0x4e, 0xa9, 0x6c, 0x56, 0xf4, 0xea, 0x65, 0x7a, 0xae, 0x08,
  0xba, 0x78, 0x25, 0x2e, 0x1c, 0xa6, 0xb4, 0xc6, 0xe8, 0xdd, 0x74, 0x1f, 0x4b, 0xbd, 0x8b, 0x8a,
  0x70, 0x3e, 0xb5, 0x66, 0x48, 0x03, 0xf6, 0x0e, 0x61, 0x35, 0x57, 0xb9, 0x86, 0xc1, 0x1d, 0x9e,
  0xe1, 0xf8, 0x98, 0x11, 0x69, 0xd9, 0x8e, 0x94, 0x9b, 0x1e, 0x87, 0xe9, 0xce, 0x55, 0x28, 0xdf,
  0x8c, 0xa1, 0x89, 0x0d, 0xbf, 0xe6, 0x42, 0x68, 0x41, 0x99, 0x2d, 0x0f, 0xb0, 0x54, 0xbb, 0x16]
def IB : List (BitVec 8) := [
  0x52, 0x09, 0x6a, 0xd5, 0x30, 0x36, 0xa5, 0x38, 0xbf, 0x40, 0xa3, 0x9e, 0x81, 0xf3, 0xd7, 0xfb,
  0x7c, 0xe3, 0x39, 0x82, 0x9b, 0x2f, 0xff, 0x87, 0x34, 0x8e, 0x43, 0x44, 0xc4, 0xde, 0xe9, 0xcb,
  0x54, 0x7b, 0x94, 0x32, 0xa6, 0xc2, 0x23, 0x3d, 0xee, 0x4c, 0x95, 0x0b, 0x42, 0xfa, 0xc3, 0x4e,
  0x08, 0x2e, 0xa1, 0x66, 0x28, 0xd9, 0x24, 0xb2, 0x76, 0x5b, 0xa2, 0x49, 0x6d, 0x8b, 0xd1, 0x25,
  0x72, 0xf8, 0xf6, 0x64, 0x86, 0x68, 0x98, 0x16, 0xd4, 0xa4, 0x5c, 0xcc, 0x5d, 0x65, 0xb6, 0x92,
  0x6c, 0x70, 0x48, 0x50, 0xfd, 0xed, 0xb9, 0xda, 0x5e, 0x15, 0x46, 0x57, 0xa7, 0x8d, 0x9d, 0x84,
  0x90, 0xd8, 0xab, 0x00, 0x8c, 0xbc, 0xd3, 0x0a, 0xf7, 0xe4, 0x58, 0x05, 0xb8, 0xb3, 0x45, 0x06,
  0xd0, 0x2c, 0x1e, 0x8f, 0xca, 0x3f, 0x0f, 0x02, 0xc1, 0xaf, 0xbd, 0x03, 0x01, 0x13, 0x8a, 0x6b,
  0x3a, 0x91, 0x11, 0x41, 0x4f, 0x67, 0xdc, 0xea, 0x97, 0xf2, 0xcf, 0xce, 0xf0, 0xb4, 0xe6, 0x73,
  0x96, 0xac, 0x74, 0x22, 0xe7, 0xad, 0x35, 0x85, 0xe2, 0xf9, 0x37, 0xe8, 0x1c, 0x75, 0xdf, 0x6e,
  0x47, 0xf1, 0x1a, 0x71, 0x1d, 0x29, 0xc5, 0x89, 0x6f, 0xb7, 0x62, 0x0e, 0xaa, 0x18, 0xbe, 0x1b,
  0xfc, 0x56, 0x3e, 0x4b, 0xc6, 0xd2, 0x79, 0x20, 0x9a, 0xdb, 0xc0, 0xfe, 0x78, 0xcd, 0x5a, 0xf4,
  0x1f, 0xdd, 0xa8, 0x33, 0x88, 0x07, 0xc7, 0x31, 0xb1, 0x12, 0x10, 0x59, 0x27, 0x80, 0xec, 0x5f,
  0x60, 0x51, 0x7f, 0xa9, 0x19, 0xb5, 0x4a, 0x0d, 0x2d, 0xe5, 0x7a, 0x9f, 0x93, 0xc9, 0x9c, 0xef,
  0xa0, 0xe0, 0x3b, 0x4d, 0xae, 0x2a, 0xf5, 0xb0, 0xc8, 0xeb, 0xbb, 0x3c, 0x83, 0x53, 0x99, 0x61,
  0x17, 0x2b, 0x04, 0x7e, 0xba, 0x77, 0xd6, 0x26, 0xe1, 0x69, 0x14, 0x63, 0x55, 0x21, 0x0c, 0x7d]
set_option maxRecDepth 100000 in
theorem SB_len : SB.length = 256 := rfl
set_option maxRecDepth 100000 in
theorem IB_len : IB.length = 256 := rfl
def sb (x : BitVec 8) : BitVec 8 := gb SB x.toNat
def ib (x : BitVec 8) : BitVec 8 := gb IB x.toNat
set_option maxRecDepth 100000 in
theorem ib_sb (x : BitVec 8) : ib (sb x) = x := all8 (p := fun x => ib (sb x) = x) (by decide +kernel) x
set_option maxRecDepth 100000 in
theorem sb_ib (x : BitVec 8) : sb (ib x) = x := all8 (p := fun x => sb (ib x) = x) (by decide +kernel) x
theorem sb_inj {x y : BitVec 8} (h : sb x = sb y) : x = y := by rw [← ib_sb x, h, ib_sb]
/-- whose substitute each byte is, as it is reckoned -/
def orig : Nat → List (BitVec 8)
  | 0 => zb 256
  | k + 1 => (orig k).set (gb SB k).toNat (BitVec.ofNat 8 k)
theorem orig_len (k : Nat) : (orig k).length = 256 := by
  induction k with
  | zero => exact zb_len 256
  | succ k ih => simp [orig, ih]
set_option maxRecDepth 100000 in
theorem orig_end : orig 256 = IB := by decide +kernel

/-- a byte, as a polynomial, times x -/
def tw (x : BitVec 8) : BitVec 8 := x <<< 1 ^^^ (if x.getLsbD 7 then 0x1b else 0)
theorem tw_xor (x y : BitVec 8) : tw (x ^^^ y) = tw x ^^^ tw y := by
  have e : ∀ a b c d : BitVec 8, (a ^^^ b) ^^^ (c ^^^ d) = (a ^^^ c) ^^^ (b ^^^ d) := fun a b c d => by ac_rfl
  unfold tw
  rw [BitVec.shiftLeft_xor_distrib, BitVec.getLsbD_xor, e]
  congr 1
  cases x.getLsbD 7 <;> cases y.getLsbD 7 <;> rfl

/-- blocks -/
def xorL (a b : List (BitVec 8)) : List (BitVec 8) := li 16 fun i => gb a i ^^^ gb b i
def subL (b : List (BitVec 8)) : List (BitVec 8) := li 16 fun i => sb (gb b i)
def ibL (b : List (BitVec 8)) : List (BitVec 8) := li 16 fun i => ib (gb b i)
def shL (t : Nat) (b : List (BitVec 8)) : List (BitVec 8) := li 16 fun i => gb b ((i + 4 * (t * (i % 4))) % 16)
def mc (a b c d : BitVec 8) : BitVec 8 := tw (a ^^^ b) ^^^ b ^^^ c ^^^ d
def mulF (b : List (BitVec 8)) (i : Nat) : BitVec 8 := mc (gb b i) (gb b (i / 4 * 4 + (i + 1) % 4)) (gb b (i / 4 * 4 + (i + 2) % 4)) (gb b (i / 4 * 4 + (i + 3) % 4))
def mulL (b : List (BitVec 8)) : List (BitVec 8) := li 16 (mulF b)
theorem xorL_len (a b : List (BitVec 8)) : (xorL a b).length = 16 := li_len _ _
theorem subL_len (b : List (BitVec 8)) : (subL b).length = 16 := li_len _ _
theorem ibL_len (b : List (BitVec 8)) : (ibL b).length = 16 := li_len _ _
theorem shL_len (t : Nat) (b : List (BitVec 8)) : (shL t b).length = 16 := li_len _ _
theorem mulL_len (b : List (BitVec 8)) : (mulL b).length = 16 := li_len _ _
theorem xor_back (b k : List (BitVec 8)) (h : b.length = 16) : xorL (xorL b k) k = b := by
  refine Eq.trans (li_congr fun j hj => ?_) (li_self b 16 h)
  unfold xorL
  rw [li_gb _ _ _ hj, BitVec.xor_assoc, BitVec.xor_self, BitVec.xor_zero]
theorem ib_sub (b : List (BitVec 8)) (h : b.length = 16) : ibL (subL b) = b := by
  refine Eq.trans (li_congr fun j hj => ?_) (li_self b 16 h)
  unfold subL
  rw [li_gb _ _ _ hj, ib_sb]
theorem sub_ib (b : List (BitVec 8)) (h : b.length = 16) : subL (ibL b) = b := by
  refine Eq.trans (li_congr fun j hj => ?_) (li_self b 16 h)
  unfold ibL
  rw [li_gb _ _ _ hj, sb_ib]
theorem sh_sh (s t : Nat) (b : List (BitVec 8)) (h : b.length = 16) (hst : s + t = 4) : shL s (shL t b) = b := by
  refine Eq.trans (li_congr fun j hj => ?_) (li_self b 16 h)
  unfold shL
  rw [li_gb _ _ _ (Nat.mod_lt _ (by decide))]
  congr 1
  obtain rfl : t = 4 - s := by omega
  have hs : s ≤ 4 := by omega
  have : ∀ s : Nat, s < 5 → ∀ j : Nat, j < 16 → ((j + 4 * (s * (j % 4))) % 16 + 4 * ((4 - s) * ((j + 4 * (s * (j % 4))) % 16 % 4))) % 16 = j := by decide
  exact this s (by omega) j hj
theorem xor_lc (x y z : BitVec 8) : x ^^^ (y ^^^ z) = y ^^^ (x ^^^ z) := by ac_rfl
theorem xor_cancel (x y : BitVec 8) : x ^^^ (x ^^^ y) = y := by rw [← BitVec.xor_assoc, BitVec.xor_self, BitVec.zero_xor]
def m2 (a c : BitVec 8) : BitVec 8 := tw (tw a) ^^^ (tw (tw c) ^^^ a)
theorem mc2 (a b c d : BitVec 8) : mc (mc a b c d) (mc b c d a) (mc c d a b) (mc d a b c) = m2 a c := by
  simp only [mc, m2, tw_xor]
  simp only [BitVec.xor_assoc, BitVec.xor_comm, xor_lc, xor_cancel]
theorem m2_m2 (a c : BitVec 8) : m2 (m2 a c) (m2 c a) = a := by
  simp only [m2, tw_xor]
  simp only [BitVec.xor_assoc, BitVec.xor_comm, xor_lc, BitVec.xor_self, BitVec.xor_zero, BitVec.zero_xor, xor_cancel]
theorem mul_gb (b : List (BitVec 8)) (i : Nat) (h : i < 16) : gb (mulL b) i = mulF b i := li_gb _ _ _ h
theorem mul2 (b : List (BitVec 8)) : mulL (mulL b) = li 16 fun i => m2 (gb b i) (gb b (i / 4 * 4 + (i + 2) % 4)) := by
  refine li_congr fun i hi => ?_
  unfold mulF
  rw [mul_gb b i hi, mul_gb b _ (by omega), mul_gb b _ (by omega), mul_gb b _ (by omega)]
  unfold mulF
  rw [show (i / 4 * 4 + (i + 1) % 4) / 4 * 4 = i / 4 * 4 by omega, show (i / 4 * 4 + (i + 2) % 4) / 4 * 4 = i / 4 * 4 by omega, show (i / 4 * 4 + (i + 3) % 4) / 4 * 4 = i / 4 * 4 by omega,
    show (i / 4 * 4 + (i + 1) % 4 + 1) % 4 = (i + 2) % 4 by omega, show (i / 4 * 4 + (i + 1) % 4 + 2) % 4 = (i + 3) % 4 by omega, show i / 4 * 4 + (i / 4 * 4 + (i + 1) % 4 + 3) % 4 = i by omega,
    show (i / 4 * 4 + (i + 2) % 4 + 1) % 4 = (i + 3) % 4 by omega, show i / 4 * 4 + (i / 4 * 4 + (i + 2) % 4 + 2) % 4 = i by omega, show (i / 4 * 4 + (i + 2) % 4 + 3) % 4 = (i + 1) % 4 by omega,
    show i / 4 * 4 + (i / 4 * 4 + (i + 3) % 4 + 1) % 4 = i by omega, show (i / 4 * 4 + (i + 3) % 4 + 2) % 4 = (i + 1) % 4 by omega, show (i / 4 * 4 + (i + 3) % 4 + 3) % 4 = (i + 2) % 4 by omega]
  exact mc2 _ _ _ _
theorem mul4 (b : List (BitVec 8)) (h : b.length = 16) : mulL (mulL (mulL (mulL b))) = b := by
  rw [mul2 (mulL (mulL b)), mul2 b]
  refine Eq.trans (li_congr fun i hi => ?_) (li_self b 16 h)
  rw [li_gb _ _ _ hi, li_gb _ _ _ (by omega), show (i / 4 * 4 + (i + 2) % 4) / 4 * 4 = i / 4 * 4 by omega, show i / 4 * 4 + (i / 4 * 4 + (i + 2) % 4 + 2) % 4 = i by omega]
  exact m2_m2 _ _

/-- a step of encrypting, and back; k: the round's key, m: whether it multiplies -/
def mf (m : Bool) (b : List (BitVec 8)) : List (BitVec 8) := if m then mulL b else b
def step (k : List (BitVec 8)) (m : Bool) (b : List (BitVec 8)) : List (BitVec 8) := xorL (mf m (shL 1 (subL b))) k
def unmf (m : Bool) (b : List (BitVec 8)) : List (BitVec 8) := if m then mulL (mulL (mulL b)) else b
def unstep (k : List (BitVec 8)) (m : Bool) (b : List (BitVec 8)) : List (BitVec 8) := ibL (shL 3 (unmf m (xorL b k)))
theorem mf_len (m : Bool) (b : List (BitVec 8)) (h : b.length = 16) : (mf m b).length = 16 := by
  cases m
  · exact h
  · exact mulL_len b
theorem unmf_len (m : Bool) (b : List (BitVec 8)) (h : b.length = 16) : (unmf m b).length = 16 := by
  cases m
  · exact h
  · exact mulL_len _
theorem unmf_mf (m : Bool) (b : List (BitVec 8)) (h : b.length = 16) : unmf m (mf m b) = b := by
  cases m
  · rfl
  · exact mul4 b h
theorem mf_unmf (m : Bool) (b : List (BitVec 8)) (h : b.length = 16) : mf m (unmf m b) = b := by
  cases m
  · rfl
  · exact mul4 b h
theorem step_len (k : List (BitVec 8)) (m : Bool) (b : List (BitVec 8)) : (step k m b).length = 16 := xorL_len _ _
theorem unstep_len (k : List (BitVec 8)) (m : Bool) (b : List (BitVec 8)) : (unstep k m b).length = 16 := ibL_len _
theorem unstep_step (k : List (BitVec 8)) (m : Bool) (b : List (BitVec 8)) (h : b.length = 16) : unstep k m (step k m b) = b := by
  unfold unstep step
  rw [xor_back _ _ (mf_len _ _ (shL_len _ _)), unmf_mf _ _ (shL_len _ _), sh_sh 3 1 _ (subL_len _) rfl, ib_sub _ h]
theorem step_unstep (k : List (BitVec 8)) (m : Bool) (b : List (BitVec 8)) (h : b.length = 16) : step k m (unstep k m b) = b := by
  unfold unstep step
  rw [sub_ib _ (shL_len _ _), sh_sh 1 3 _ (unmf_len _ _ (xorL_len _ _)) rfl, mf_unmf _ _ (xorL_len _ _), xor_back _ _ h]
/-- encrypting by the rounds' keys, so many steps; and back -/
def enc (K : Nat → List (BitVec 8)) (b : List (BitVec 8)) : Nat → List (BitVec 8)
  | 0 => xorL b (K 0)
  | i + 1 => step (K (i + 1)) (decide (i + 1 < 10)) (enc K b i)
def dec (K : Nat → List (BitVec 8)) (b : List (BitVec 8)) : Nat → List (BitVec 8)
  | 0 => b
  | t + 1 => unstep (K (10 - t)) (decide (10 - t < 10)) (dec K b t)
def encL (K : Nat → List (BitVec 8)) (b : List (BitVec 8)) : List (BitVec 8) := enc K b 10
def decL (K : Nat → List (BitVec 8)) (b : List (BitVec 8)) : List (BitVec 8) := xorL (dec K b 10) (K 0)
theorem enc_len (K : Nat → List (BitVec 8)) (b : List (BitVec 8)) (i : Nat) : (enc K b i).length = 16 := by
  cases i with
  | zero => exact xorL_len _ _
  | succ i => exact step_len _ _ _
theorem dec_len (K : Nat → List (BitVec 8)) (b : List (BitVec 8)) (h : b.length = 16) (i : Nat) : (dec K b i).length = 16 := by
  cases i with
  | zero => exact h
  | succ i => exact unstep_len _ _ _
theorem encL_len (K : Nat → List (BitVec 8)) (b : List (BitVec 8)) : (encL K b).length = 16 := enc_len K b 10
theorem decL_len (K : Nat → List (BitVec 8)) (b : List (BitVec 8)) : (decL K b).length = 16 := xorL_len _ _
theorem dec_enc (K : Nat → List (BitVec 8)) (b : List (BitVec 8)) (h : b.length = 16) : decL K (encL K b) = b := by
  have e : ∀ t, t ≤ 10 → dec K (encL K b) t = enc K b (10 - t) := by
    intro t
    induction t with
    | zero => intro _; rfl
    | succ t ih =>
      intro ht
      obtain ⟨i, hi⟩ : ∃ i, 10 - t = i + 1 := ⟨9 - t, by omega⟩
      rw [dec, ih (by omega), hi, enc, unstep_step _ _ _ (enc_len _ _ _), show 10 - (t + 1) = i by omega]
  unfold decL
  rw [e 10 (by omega)]
  exact xor_back _ _ h
theorem enc_dec (K : Nat → List (BitVec 8)) (b : List (BitVec 8)) (h : b.length = 16) : encL K (decL K b) = b := by
  have e : ∀ i, i ≤ 10 → enc K (decL K b) i = dec K b (10 - i) := by
    intro i
    induction i with
    | zero => intro _; exact xor_back _ _ (dec_len _ _ h _)
    | succ i ih =>
      intro hi
      obtain ⟨t, ht⟩ : ∃ t, 10 - i = t + 1 := ⟨9 - i, by omega⟩
      rw [enc, ih (by omega), ht, dec, show 10 - t = i + 1 by omega, step_unstep _ _ _ (dec_len _ _ h _), show 10 - (i + 1) = t by omega]
  exact e 10 (by omega)
theorem encL_inj (K : Nat → List (BitVec 8)) {a b : List (BitVec 8)} (ha : a.length = 16) (hb : b.length = 16) (h : encL K a = encL K b) : a = b := by
  rw [← dec_enc K a ha, h, dec_enc K b hb]

/-- the keys of rounds -/
def nkF (l : List (BitVec 8)) (r : BitVec 8) : Nat → BitVec 8
  | 0 => gb l 0 ^^^ (sb (gb l 13) ^^^ r)
  | 1 => gb l 1 ^^^ sb (gb l 14)
  | 2 => gb l 2 ^^^ sb (gb l 15)
  | 3 => gb l 3 ^^^ sb (gb l 12)
  | j + 4 => gb l (j + 4) ^^^ nkF l r j
theorem nkF_step (l : List (BitVec 8)) (r : BitVec 8) (i : Nat) (h : 4 ≤ i) : nkF l r i = gb l i ^^^ nkF l r (i - 4) := by
  obtain ⟨j, rfl⟩ : ∃ j, i = j + 4 := ⟨i - 4, by omega⟩
  rw [Nat.add_sub_cancel]
  rfl
def nk (l : List (BitVec 8)) (r : BitVec 8) : List (BitVec 8) := li 16 (nkF l r)
def num : Nat → BitVec 8
  | 0 => 1
  | i + 1 => tw (num i)
def ks (key : List (BitVec 8)) : Nat → List (BitVec 8)
  | 0 => key
  | i + 1 => nk (ks key i) (num i)
theorem nk_len (l : List (BitVec 8)) (r : BitVec 8) : (nk l r).length = 16 := li_len _ _
theorem ks_len (key : List (BitVec 8)) (h : key.length = 16) (i : Nat) : (ks key i).length = 16 := by
  cases i with
  | zero => exact h
  | succ i => exact nk_len _ _
end Go.Proofs.YtkdjhklnlnfhfaaGreatDoor
namespace Go.Proofs.YtkdjhklnlnfhfaaGreatDoor
open Go
set_option maxRecDepth 4000

/-- how many bytes fill a text of n bytes; the filled text -/
def fn (n : Nat) : Nat := 16 - n % 16
def fillL (b : List (BitVec 8)) : List (BitVec 8) := b ++ List.replicate (fn b.length) (BitVec.ofNat 8 (fn b.length))
theorem fn_lo (n : Nat) : 1 ≤ fn n := by unfold fn; omega
theorem fn_hi (n : Nat) : fn n ≤ 16 := by unfold fn; omega
theorem fill_len (b : List (BitVec 8)) : (fillL b).length = b.length + fn b.length := by simp [fillL]
theorem fill_mod (b : List (BitVec 8)) : (fillL b).length = 16 * (b.length / 16 + 1) := by rw [fill_len]; unfold fn; omega
theorem fill_last (b : List (BitVec 8)) : (fillL b).getLast? = some (BitVec.ofNat 8 (fn b.length)) := by
  obtain ⟨m, hm⟩ : ∃ m, fn b.length = m + 1 := ⟨fn b.length - 1, by have := fn_lo b.length; omega⟩
  unfold fillL
  rw [hm, List.replicate_succ', ← List.append_assoc, List.getLast?_concat]
theorem fn_inj {m n : Nat} (h : BitVec.ofNat 8 (fn m) = BitVec.ofNat 8 (fn n)) : fn m = fn n := by
  have h1 := congrArg BitVec.toNat h
  rw [BitVec.toNat_ofNat, BitVec.toNat_ofNat] at h1
  have := fn_hi m
  have := fn_hi n
  omega
theorem fill_inj {a b : List (BitVec 8)} (h : fillL a = fillL b) : a = b := by
  have h1 := fill_last a
  rw [h, fill_last b] at h1
  have h2 := fn_inj (Option.some.inj h1)
  have h3 : a.length + fn a.length = b.length + fn b.length := by rw [← fill_len, ← fill_len, h]
  exact (List.append_inj h (by omega)).1
theorem fill_take (b : List (BitVec 8)) : (fillL b).take ((fillL b).length - fn b.length) = b := by
  rw [fill_len, Nat.add_sub_cancel]
  unfold fillL
  rw [List.take_left']
  rfl
/-- of which text bytes are the filled one: by trying the lengths from 1 on -/
def em (b : List (BitVec 8)) : Nat → Option (List (BitVec 8))
  | 0 => none
  | k + 1 => match em b k with
    | some t => some t
    | none => if k + 1 ≤ b.length ∧ fillL (b.take (b.length - (k + 1))) = b then some (b.take (b.length - (k + 1))) else none
def emptyL (b : List (BitVec 8)) : Option (List (BitVec 8)) := em b 16
theorem em_some {b t : List (BitVec 8)} : ∀ {k : Nat}, em b k = some t → fillL t = b
  | 0, h => by cases h
  | k + 1, h => by
    rw [em] at h
    cases hk : em b k with
    | some t' =>
      rw [hk] at h
      obtain rfl : t' = t := Option.some.inj h
      exact em_some hk
    | none =>
      rw [hk] at h
      simp only at h
      split at h
      · rename_i hc
        rw [← Option.some.inj h]; exact hc.2
      · cases h
theorem em_fill (t : List (BitVec 8)) : ∀ k, fn t.length ≤ k → em (fillL t) k = some t
  | 0, h => by have := fn_lo t.length; omega
  | k + 1, h => by
    rw [em]
    cases hk : em (fillL t) k with
    | some t' => rw [fill_inj (em_some hk)]
    | none =>
      have hlt : ¬ fn t.length ≤ k := fun h2 => by rw [em_fill t k h2] at hk; cases hk
      have e : fn t.length = k + 1 := by omega
      have h1 := fill_take t
      rw [e] at h1
      simp only
      rw [h1, if_pos ⟨by rw [fill_len]; omega, rfl⟩]
theorem empty_iff (b t : List (BitVec 8)) : emptyL b = some t ↔ fillL t = b := by
  constructor
  · exact em_some
  · intro h
    rw [← h]
    exact em_fill t 16 (fn_hi _)
theorem empty_none (b : List (BitVec 8)) : emptyL b = none ↔ ∀ t, fillL t ≠ b := by
  constructor
  · intro h t ht
    rw [(empty_iff b t).2 ht] at h
    cases h
  · intro h
    cases he : emptyL b with
    | none => rfl
    | some t => exact absurd ((empty_iff b t).1 he) (h t)

/-- blocks of 16 bytes -/
def b16 (l : List (BitVec 8)) (i : Nat) : List (BitVec 8) := (l.drop (16 * i)).take 16
def cat (f : Nat → List (BitVec 8)) : Nat → List (BitVec 8)
  | 0 => []
  | i + 1 => cat f i ++ f i
theorem b16_len (l : List (BitVec 8)) (i : Nat) (h : 16 * i + 16 ≤ l.length) : (b16 l i).length = 16 := by
  unfold b16; rw [List.length_take, List.length_drop]; omega
theorem b16_gb (l : List (BitVec 8)) (i j : Nat) (h : j < 16) : gb (b16 l i) j = gb l (16 * i + j) := by
  unfold b16; rw [gb_take', if_pos h, gb_drop']
theorem cat_len (f : Nat → List (BitVec 8)) (h : ∀ i, (f i).length = 16) (n : Nat) : (cat f n).length = 16 * n := by
  induction n with
  | zero => rfl
  | succ n ih => rw [cat, List.length_append, ih, h]; omega
theorem cat_congr {f g : Nat → List (BitVec 8)} {n : Nat} (h : ∀ i, i < n → f i = g i) : cat f n = cat g n := by
  induction n with
  | zero => rfl
  | succ n ih => rw [cat, cat, ih (fun i hi => h i (by omega)), h n (by omega)]
theorem b16_cat (f : Nat → List (BitVec 8)) (h : ∀ i, (f i).length = 16) (n i : Nat) (hi : i < n) : b16 (cat f n) i = f i := by
  induction n with
  | zero => omega
  | succ n ih =>
    have hl := cat_len f h n
    rw [cat]
    unfold b16 at ih ⊢
    by_cases hin : i < n
    · rw [List.drop_append_of_le_length (by omega), List.take_append_of_le_length (by rw [List.length_drop]; omega)]
      exact ih hin
    · obtain rfl : i = n := by omega
      rw [← hl, List.drop_left, List.take_of_length_le (by rw [h]; omega)]
theorem cat_b16 (b : List (BitVec 8)) : ∀ n, 16 * n ≤ b.length → cat (b16 b) n = b.take (16 * n)
  | 0, _ => rfl
  | n + 1, h => by
    rw [cat, cat_b16 b n (by omega)]
    unfold b16
    rw [show 16 * (n + 1) = 16 * n + 16 by omega, List.take_add]
theorem cat_all (b : List (BitVec 8)) (n : Nat) (h : b.length = 16 * n) : cat (b16 b) n = b := by
  rw [cat_b16 b n (by omega), List.take_of_length_le (by omega)]
/-- the code of the block ahead, from the beginning on -/
def chn (K : Nat → List (BitVec 8)) (b g : List (BitVec 8)) : Nat → List (BitVec 8)
  | 0 => g
  | i + 1 => encL K (xorL (b16 b i) (chn K b g i))
def sealN (K : Nat → List (BitVec 8)) (b g : List (BitVec 8)) (n : Nat) : List (BitVec 8) := cat (fun i => chn K b g (i + 1)) n
def sealL (K : Nat → List (BitVec 8)) (g t : List (BitVec 8)) : List (BitVec 8) := sealN K (fillL t) g (t.length / 16 + 1)
def pv (c g : List (BitVec 8)) : Nat → List (BitVec 8)
  | 0 => g
  | i + 1 => b16 c i
def opn (K : Nat → List (BitVec 8)) (c g : List (BitVec 8)) (i : Nat) : List (BitVec 8) := xorL (decL K (b16 c i)) (pv c g i)
def openN (K : Nat → List (BitVec 8)) (c g : List (BitVec 8)) (n : Nat) : List (BitVec 8) := cat (opn K c g) n
theorem chn_len (K : Nat → List (BitVec 8)) (b g : List (BitVec 8)) (hg : g.length = 16) (i : Nat) : (chn K b g i).length = 16 := by
  cases i with
  | zero => exact hg
  | succ i => exact encL_len _ _
theorem opn_len (K : Nat → List (BitVec 8)) (c g : List (BitVec 8)) (i : Nat) : (opn K c g i).length = 16 := xorL_len _ _
theorem sealN_len (K : Nat → List (BitVec 8)) (b g : List (BitVec 8)) (n : Nat) : (sealN K b g n).length = 16 * n := cat_len _ (fun _ => encL_len _ _) n
theorem openN_len (K : Nat → List (BitVec 8)) (c g : List (BitVec 8)) (n : Nat) : (openN K c g n).length = 16 * n := cat_len _ (opn_len K c g) n
theorem sealL_len (K : Nat → List (BitVec 8)) (g t : List (BitVec 8)) : (sealL K g t).length = 16 * (t.length / 16 + 1) := sealN_len _ _ _ _
theorem open_seal (K : Nat → List (BitVec 8)) (b g : List (BitVec 8)) (n : Nat) (hb : b.length = 16 * n) : openN K (sealN K b g n) g n = b := by
  have hc : ∀ i, i < n → b16 (sealN K b g n) i = chn K b g (i + 1) := fun i hi => b16_cat _ (fun i => encL_len _ _) n i hi
  refine Eq.trans (cat_congr fun i hi => ?_) (cat_all b n hb)
  unfold opn
  rw [hc i hi, chn, dec_enc _ _ (xorL_len _ _)]
  have hp : pv (sealN K b g n) g i = chn K b g i := by
    cases i with
    | zero => rfl
    | succ i => exact hc i (by omega)
  rw [hp]
  exact xor_back _ _ (b16_len b i (by omega))
theorem seal_open (K : Nat → List (BitVec 8)) (c g : List (BitVec 8)) (n : Nat) (hc : c.length = 16 * n) : sealN K (openN K c g n) g n = c := by
  have hb : ∀ i, i < n → b16 (openN K c g n) i = opn K c g i := fun i hi => b16_cat _ (opn_len K c g) n i hi
  have hch : ∀ i, i ≤ n → chn K (openN K c g n) g i = pv c g i := by
    intro i
    induction i with
    | zero => intro _; rfl
    | succ i ih =>
      intro hi
      rw [chn, ih (by omega), hb i (by omega)]
      unfold opn
      rw [xor_back _ _ (decL_len _ _), enc_dec _ _ (b16_len c i (by omega))]
      rfl
  refine Eq.trans (cat_congr fun i hi => ?_) (cat_all c n hc)
  exact hch (i + 1) (by omega)
theorem sealL_inj (K : Nat → List (BitVec 8)) (g : List (BitVec 8)) {a b : List (BitVec 8)} (h : sealL K g a = sealL K g b) : a = b := by
  have h1 : a.length / 16 + 1 = b.length / 16 + 1 := by
    have e := congrArg List.length h
    rw [sealL_len, sealL_len] at e
    omega
  have h2 := open_seal K (fillL a) g (a.length / 16 + 1) (fill_mod a)
  have h3 := open_seal K (fillL b) g (b.length / 16 + 1) (fill_mod b)
  unfold sealL at h
  rw [h, h1] at h2
  exact fill_inj (h2.symm.trans h3)
/-- with a byte of the beginning turned -/
theorem xorL_turn (X g : List (BitVec 8)) (at_ : Nat) (y : BitVec 8) (hg : g.length = 16) (h : at_ < 16) : xorL X (g.set at_ (gb g at_ ^^^ y)) = (xorL X g).set at_ (gb (xorL X g) at_ ^^^ y) := by
  apply ext_gb
  · rw [List.length_set, xorL_len, xorL_len]
  · intro i hi
    rw [xorL_len] at hi
    rw [gb_set _ _ _ _ (by rw [xorL_len]; exact h)]
    unfold xorL
    rw [li_gb _ _ _ hi, li_gb _ _ _ hi, li_gb _ _ _ h, gb_set _ _ _ _ (by rw [hg]; exact h)]
    by_cases e : i = at_
    · subst e
      rw [if_pos rfl, if_pos rfl, BitVec.xor_assoc]
    · rw [if_neg e, if_neg e]
end Go.Proofs.YtkdjhklnlnfhfaaGreatDoor
namespace Go.Proofs.YtkdjhklnlnfhfaaGreatDoor
open Go
set_option maxRecDepth 4000

theorem gb_rep (n : Nat) (x : BitVec 8) (i : Nat) (h : i < n) : gb (List.replicate n x) i = x := by simp [gb, h]
theorem fill_gb (t : List (BitVec 8)) (j : Nat) (h1 : t.length ≤ j) (h2 : j < (fillL t).length) : gb (fillL t) j = BitVec.ofNat 8 (fn t.length) := by
  rw [fill_len] at h2
  unfold fillL
  rw [gb_app, if_neg (by omega), gb_rep _ _ _ (by omega)]
theorem fn_nat (n : Nat) : (BitVec.ofNat 8 (fn n)).toNat = fn n := by rw [BitVec.toNat_ofNat]; have := fn_hi n; omega
/-- what the last byte says -/
def lb (b : List (BitVec 8)) : Nat := (gb b (b.length - 1)).toNat
theorem lb_fill (t : List (BitVec 8)) : lb (fillL t) = fn t.length := by
  have := fn_lo t.length
  unfold lb
  rw [fill_gb t _ (by rw [fill_len]; omega) (by rw [fill_len]; omega), fn_nat]
theorem empty_whole (b : List (BitVec 8)) (h : b.length = 0 ∨ b.length % 16 ≠ 0) : emptyL b = none := (empty_none b).2 fun t ht => by
  have := fill_mod t
  rw [ht] at this
  omega
theorem empty_last (b : List (BitVec 8)) (h : lb b < 1 ∨ 16 < lb b) : emptyL b = none := (empty_none b).2 fun t ht => by
  rw [← ht, lb_fill] at h
  have := fn_lo t.length
  have := fn_hi t.length
  omega
theorem empty_byte (b : List (BitVec 8)) (j : Nat) (hj : b.length - lb b ≤ j) (hl : j < b.length) (h : gb b j ≠ BitVec.ofNat 8 (lb b)) : emptyL b = none := (empty_none b).2 fun t ht => by
  subst ht
  rw [lb_fill] at hj h
  have e := fill_len t
  exact h (fill_gb t j (by omega) hl)
theorem empty_yes (b : List (BitVec 8)) (h1 : b.length % 16 = 0) (h0 : 0 < b.length) (h2 : 1 ≤ lb b) (h3 : lb b ≤ 16) (h4 : ∀ j, b.length - lb b ≤ j → j < b.length → gb b j = BitVec.ofNat 8 (lb b)) : emptyL b = some (b.take (b.length - lb b)) := by
  refine (empty_iff _ _).2 ?_
  have hl : (b.take (b.length - lb b)).length = b.length - lb b := by rw [List.length_take]; omega
  have hf : fn (b.take (b.length - lb b)).length = lb b := by rw [hl]; unfold fn; omega
  apply ext_gb
  · rw [fill_len, hf, hl]; omega
  · intro i hi
    rw [fill_len, hf, hl] at hi
    unfold fillL
    rw [gb_app, hf, hl]
    by_cases h : i < b.length - lb b
    · rw [if_pos h, gb_take', if_pos h]
    · rw [if_neg h, h4 i (by omega) (by omega), gb_rep _ _ _ (by omega)]
/-- whether bytes are filled hangs on the last block alone -/
theorem empty_tail (P B : List (BitVec 8)) (hP : P.length % 16 = 0) (h : emptyL (P ++ B) = none) : emptyL B = none := (empty_none B).2 fun s hs => (empty_none _).1 h (P ++ s) (by
  have e : fn (P ++ s).length = fn s.length := by rw [List.length_append]; unfold fn; omega
  unfold fillL at hs ⊢
  rw [e, List.append_assoc, hs])

/-- blocks of 16 bytes that come one behind the other -/
abbrev B16 := { x : List (BitVec 8) // x.length = 16 }
def vs (pre : List B16) : List (List (BitVec 8)) := pre.map (·.1)
theorem vs_snoc (pre : List B16) (x : B16) : vs (pre ++ [x]) = vs pre ++ [x.1] := by simp [vs]
theorem vs_len (pre : List B16) : (vs pre).length = pre.length := by simp [vs]
def bls (b : List (BitVec 8)) (n : Nat) : List (List (BitVec 8)) := (List.range n).map (b16 b)
theorem bls_succ (b : List (BitVec 8)) (n : Nat) : bls b (n + 1) = bls b n ++ [b16 b n] := by simp [bls, List.range_succ]
theorem bls_len (b : List (BitVec 8)) (n : Nat) : (bls b n).length = n := by simp [bls]
/-- sealing: the codes so far, the last one -/
def sst (K : Nat → List (BitVec 8)) (g : List (BitVec 8)) (l : List (List (BitVec 8))) : List (BitVec 8) × List (BitVec 8) :=
  l.foldl (fun s x => (s.1 ++ encL K (xorL x s.2), encL K (xorL x s.2))) ([], g)
theorem sst_snoc (K : Nat → List (BitVec 8)) (g : List (BitVec 8)) (l : List (List (BitVec 8))) (x : List (BitVec 8)) : sst K g (l ++ [x]) = ((sst K g l).1 ++ encL K (xorL x (sst K g l).2), encL K (xorL x (sst K g l).2)) := by simp [sst]
theorem sst_all (K : Nat → List (BitVec 8)) (b g : List (BitVec 8)) (n : Nat) : sst K g (bls b n) = (sealN K b g n, chn K b g n) := by
  induction n with
  | zero => rfl
  | succ n ih => rw [bls_succ, sst_snoc, ih]; rfl
theorem snoc_ind {α : Type} {p : List α → Prop} (h0 : p []) (h : ∀ l x, p l → p (l ++ [x])) (l : List α) : p l := by
  rw [← List.reverse_reverse l]
  induction l.reverse with
  | nil => exact h0
  | cons x r ih => rw [List.reverse_cons]; exact h _ _ ih
theorem sst_len (K : Nat → List (BitVec 8)) (g : List (BitVec 8)) (l : List (List (BitVec 8))) : (sst K g l).1.length = 16 * l.length := by
  induction l using snoc_ind with
  | h0 => rfl
  | h l x ih => rw [sst_snoc]; simp only [List.length_append, ih, encL_len, List.length_cons, List.length_nil]; omega
theorem sst_last (K : Nat → List (BitVec 8)) (g : List (BitVec 8)) (hg : g.length = 16) (l : List (List (BitVec 8))) : (sst K g l).2.length = 16 := by
  induction l using snoc_ind with
  | h0 => exact hg
  | h l x ih => rw [sst_snoc]; exact encL_len _ _
/-- opening: what came out so far, the code ahead -/
def ost (K : Nat → List (BitVec 8)) (g : List (BitVec 8)) (l : List (List (BitVec 8))) : List (BitVec 8) × List (BitVec 8) :=
  l.foldl (fun s x => (s.1 ++ xorL (decL K x) s.2, x)) ([], g)
theorem ost_snoc (K : Nat → List (BitVec 8)) (g : List (BitVec 8)) (l : List (List (BitVec 8))) (x : List (BitVec 8)) : ost K g (l ++ [x]) = ((ost K g l).1 ++ xorL (decL K x) (ost K g l).2, x) := by simp [ost]
theorem ost_all (K : Nat → List (BitVec 8)) (c g : List (BitVec 8)) (n : Nat) : ost K g (bls c n) = (openN K c g n, pv c g n) := by
  induction n with
  | zero => rfl
  | succ n ih => rw [bls_succ, ost_snoc, ih]; rfl
theorem ost_len (K : Nat → List (BitVec 8)) (g : List (BitVec 8)) (l : List (List (BitVec 8))) : (ost K g l).1.length = 16 * l.length := by
  induction l using snoc_ind with
  | h0 => rfl
  | h l x ih => rw [ost_snoc]; simp only [List.length_append, ih, xorL_len, List.length_cons, List.length_nil]; omega
theorem ost_last (K : Nat → List (BitVec 8)) (g : List (BitVec 8)) (hg : g.length = 16) (pre : List B16) : (ost K g (vs pre)).2.length = 16 := by
  induction pre using snoc_ind with
  | h0 => exact hg
  | h l x ih => rw [vs_snoc, ost_snoc]; exact x.2
/-- with a byte of the beginning turned, the first block's byte is -/
theorem open_turn (K : Nat → List (BitVec 8)) (c g : List (BitVec 8)) (at_ : Nat) (y : BitVec 8) (hg : g.length = 16) (h : at_ < 16) (n : Nat) :
    openN K c (g.set at_ (gb g at_ ^^^ y)) (n + 1) = (openN K c g (n + 1)).set at_ (gb (openN K c g (n + 1)) at_ ^^^ y) := by
  have e0 : opn K c (g.set at_ (gb g at_ ^^^ y)) 0 = (opn K c g 0).set at_ (gb (opn K c g 0) at_ ^^^ y) := xorL_turn _ _ _ _ hg h
  have es : ∀ i, opn K c (g.set at_ (gb g at_ ^^^ y)) (i + 1) = opn K c g (i + 1) := fun _ => rfl
  induction n with
  | zero =>
    unfold openN
    rw [cat, cat, cat, cat, e0, List.nil_append, List.nil_append]
  | succ n ih =>
    have hl : (openN K c g (n + 1)).length = 16 * (n + 1) := openN_len _ _ _ _
    have h2 : ∀ g', openN K c g' (n + 1 + 1) = openN K c g' (n + 1) ++ opn K c g' (n + 1) := fun _ => rfl
    rw [h2, h2, ih, es, gb_app, if_pos (by omega), List.set_append, if_pos (by omega)]
theorem fill_set (a : List (BitVec 8)) (i : Nat) (v : BitVec 8) (h : i < a.length) : fillL (a.set i v) = (fillL a).set i v := by
  unfold fillL
  rw [List.length_set, List.set_append, if_pos h]
theorem fill_at (a : List (BitVec 8)) (i : Nat) (h : i < a.length) : gb (fillL a) i = gb a i := by
  unfold fillL
  rw [gb_app, if_pos h]
end Go.Proofs.YtkdjhklnlnfhfaaGreatDoor
