/-
  Words of 32 bits as plain bit vectors, and what the model's integer operations do to them. No condition.
  Lists of bytes: elements, pieces; rows that are filled in place, one after another; xor of bytes. No condition.
  Plain texts: blanks ahead and behind left out, of blanks side by side one left, letters made small; it is its own plain text. Plain.
  Names, plain: attributes, steps and names that are alike; a name within another one.
-/
import Derived.WalkKit
import Derived.Laws.BitsAllLaws
namespace Go.Proofs.YthookcnkmlmgcaaGreatDoor
open Go
set_option maxRecDepth 4000

/-- a word of 32 bits, a byte, as the model's number (no abbreviation: the walk must not open it) -/
def un (x : BitVec 32) : Int := (x.toNat : Int)
def ub (x : BitVec 8) : Int := (x.toNat : Int)
abbrev vu (x : BitVec 32) : Value := .int .u32 (un x)
abbrev vb (x : BitVec 8) : Value := .int .u8 (ub x)

theorem un_lo (x : BitVec 32) : 0 ≤ un x := Int.natCast_nonneg _
theorem un_hi (x : BitVec 32) : un x < 4294967296 := by have := x.isLt; unfold un; omega
theorem ub_lo (x : BitVec 8) : 0 ≤ ub x := Int.natCast_nonneg _
theorem ub_hi (x : BitVec 8) : ub x < 256 := by have := x.isLt; unfold ub; omega
theorem un_ofNat (n : Nat) (h : n < 4294967296) : un (BitVec.ofNat 32 n) = (n : Int) := by
  unfold un; rw [BitVec.toNat_ofNat, Nat.mod_eq_of_lt (by omega)]
theorem un_inj {x y : BitVec 32} (h : un x = un y) : x = y := by
  unfold un at h; exact BitVec.eq_of_toNat_eq (by omega)
theorem un_beq (x y : BitVec 32) : (un x == un y) = (x == y) := by
  by_cases h : x = y
  · subst h; simp
  · rw [beq_eq_false_iff_ne.2 h, beq_eq_false_iff_ne.2 (fun e => h (un_inj e))]

theorem wrap32_nat (n : Nat) : IntKind.u32.wrap (n : Int) = ((n % 4294967296 : Nat) : Int) := by
  rw [IntKind.wrap_u32]; omega
theorem ofInt32 (x : BitVec 32) : BitVec.ofInt 32 (un x) = x := by
  unfold un; rw [BitVec.ofInt_natCast]; simp
theorem b_back (x : BitVec 32) : IntKind.u32.wrap (x.toNat : Int) = un x := by
  rw [wrap32_nat, Nat.mod_eq_of_lt (BitVec.isLt _)]; rfl
@[go_sem] theorem b_xor (x y : BitVec 32) : bits .xor .u32 (un x) (un y) = un (x ^^^ y) := by
  show IntKind.u32.wrap ((BitVec.ofInt 32 (un x) ^^^ BitVec.ofInt 32 (un y)).toNat : Int) = _
  rw [ofInt32, ofInt32, b_back]
@[go_sem] theorem b_and (x y : BitVec 32) : bits .and .u32 (un x) (un y) = un (x &&& y) := by
  show IntKind.u32.wrap ((BitVec.ofInt 32 (un x) &&& BitVec.ofInt 32 (un y)).toNat : Int) = _
  rw [ofInt32, ofInt32, b_back]
@[go_sem] theorem b_or (x y : BitVec 32) : bits .or .u32 (un x) (un y) = un (x ||| y) := by
  show IntKind.u32.wrap ((BitVec.ofInt 32 (un x) ||| BitVec.ofInt 32 (un y)).toNat : Int) = _
  rw [ofInt32, ofInt32, b_back]
@[go_sem] theorem u32_signed : IntKind.u32.signed = false := rfl
@[go_sem] theorem b_not (x : BitVec 32) : bits .xor .u32 (IntKind.max .u32) (un x) = un (~~~x) := by
  show IntKind.u32.wrap ((BitVec.ofInt 32 (IntKind.max .u32) ^^^ BitVec.ofInt 32 (un x)).toNat : Int) = _
  rw [ofInt32, show BitVec.ofInt 32 (IntKind.max .u32) = BitVec.allOnes 32 by decide, b_back, BitVec.allOnes_xor]
@[go_sem] theorem b_add (x y : BitVec 32) : IntKind.u32.wrap (un x + un y) = un (x + y) := by
  unfold un; rw [← Int.natCast_add, wrap32_nat, BitVec.toNat_add]
@[go_sem] theorem b_add' (x y : BitVec 32) : (un x + un y) % (4294967296 : Int) = un (x + y) := by
  rw [← b_add, IntKind.wrap_u32]
theorem b_shl (x : BitVec 32) (k : Nat) : IntKind.u32.wrap (un x * 2 ^ k) = un (x <<< k) := by
  unfold un; rw [BitVec.toNat_shiftLeft, Nat.shiftLeft_eq, ← wrap32_nat]; simp
theorem b_shl' (x : BitVec 32) (k : Nat) : un x * 2 ^ k % 4294967296 = un (x <<< k) := by
  rw [← b_shl, IntKind.wrap_u32]
theorem b_shr (x : BitVec 32) (k : Nat) : un x / 2 ^ k = un (x >>> k) := by
  unfold un; rw [BitVec.toNat_ushiftRight, Nat.shiftRight_eq_div_pow]; simp

@[go_sem] theorem un_shr3 (x : BitVec 32) : un x / (8 : Int) = un (x >>> 3) := by have := b_shr x 3; simpa using this
@[go_sem] theorem un_shr10 (x : BitVec 32) : un x / (1024 : Int) = un (x >>> 10) := by have := b_shr x 10; simpa using this
@[go_sem] theorem un_shr8 (x : BitVec 32) : un x / (256 : Int) = un (x >>> 8) := by have := b_shr x 8; simpa using this
@[go_sem] theorem un_shr16 (x : BitVec 32) : un x / (65536 : Int) = un (x >>> 16) := by have := b_shr x 16; simpa using this
@[go_sem] theorem un_shr24 (x : BitVec 32) : un x / (16777216 : Int) = un (x >>> 24) := by have := b_shr x 24; simpa using this

/-- words and bytes as an array's cells -/
def wv (l : List (BitVec 32)) : Array Value := (l.map vu).toArray
def bv (l : List (BitVec 8)) : Array Value := (l.map vb).toArray
theorem wv_size (l : List (BitVec 32)) : (wv l).size = l.length := by simp [wv]
theorem bv_size (l : List (BitVec 8)) : (bv l).size = l.length := by simp [bv]
/-- an element, 0 where there is none (no abbreviation) -/
def gw (l : List (BitVec 32)) (j : Nat) : BitVec 32 := l.getD j 0
def gb (l : List (BitVec 8)) (j : Nat) : BitVec 8 := l.getD j 0
theorem wv_at (l : List (BitVec 32)) (j : Nat) (h : j < l.length) : (wv l)[j]? = some (.int .u32 (un (gw l j))) := by
  simp [wv, gw, h]
theorem bv_at (l : List (BitVec 8)) (j : Nat) (h : j < l.length) : (bv l)[j]? = some (.int .u8 (ub (gb l j))) := by
  simp [bv, gb, h]
theorem wv_set (l : List (BitVec 32)) (j : Nat) (x : BitVec 32) : (wv l).setIfInBounds j (.int .u32 (un x)) = wv (l.set j x) := by
  simp [wv, List.map_set]
theorem wv_one (l : List (BitVec 32)) : (wv l).all (·.oneCell') = true := by
  simp [wv, Value.oneCell']
theorem bv_one (l : List (BitVec 8)) : (bv l).all (·.oneCell') = true := by
  simp [bv, Value.oneCell']
/-- four bytes as a word -/
def e8 (x : BitVec 8) : BitVec 32 := x.setWidth 32
def wd (a b c d : BitVec 8) : BitVec 32 := e8 a <<< 24 ||| e8 b <<< 16 ||| e8 c <<< 8 ||| e8 d
def word (l : List (BitVec 8)) (i : Nat) : BitVec 32 := wd (gb l i) (gb l (i + 1)) (gb l (i + 2)) (gb l (i + 3))
@[go_sem] theorem ub_e8 (x : BitVec 8) : ub x % 4294967296 = un (e8 x) := by
  have := x.isLt
  unfold ub un e8
  rw [BitVec.toNat_setWidth]; omega
theorem un_shl24 (x : BitVec 32) : un x * (16777216 : Int) % (4294967296 : Int) = un (x <<< 24) := by have := b_shl' x 24; simpa using this
theorem un_shl16 (x : BitVec 32) : un x * (65536 : Int) % (4294967296 : Int) = un (x <<< 16) := by have := b_shl' x 16; simpa using this
theorem un_shl8 (x : BitVec 32) : un x * (256 : Int) % (4294967296 : Int) = un (x <<< 8) := by have := b_shl' x 8; simpa using this

/-- rolled to the right -/
def rr (x : BitVec 32) (k : Nat) : BitVec 32 := x <<< (32 - k) ||| x >>> k
def s0 (x : BitVec 32) : BitVec 32 := rr x 7 ^^^ rr x 18 ^^^ x >>> 3
def s1 (x : BitVec 32) : BitVec 32 := rr x 17 ^^^ rr x 19 ^^^ x >>> 10
def S0 (x : BitVec 32) : BitVec 32 := rr x 2 ^^^ rr x 13 ^^^ rr x 22
def S1 (x : BitVec 32) : BitVec 32 := rr x 6 ^^^ rr x 11 ^^^ rr x 25
def ch (e f g : BitVec 32) : BitVec 32 := (e &&& f) ||| (~~~e &&& g)
def maj (a b c : BitVec 32) : BitVec 32 := (a &&& b) ||| (a &&& c) ||| (b &&& c)
def t1 (e f g h n : BitVec 32) : BitVec 32 := h + S1 e + ch e f g + n
/-- a round -/
def rT (l : List (BitVec 32)) (n : BitVec 32) : BitVec 32 := t1 (gw l 4) (gw l 5) (gw l 6) (gw l 7) n
def rA (l : List (BitVec 32)) (n : BitVec 32) : BitVec 32 := rT l n + S0 (gw l 0) + maj (gw l 0) (gw l 1) (gw l 2)
def round (l : List (BitVec 32)) (n : BitVec 32) : List (BitVec 32) := [rA l n, gw l 0, gw l 1, gw l 2, gw l 3 + rT l n, gw l 4, gw l 5, gw l 6]
theorem round_len (l : List (BitVec 32)) (n : BitVec 32) : (round l n).length = 8 := rfl
/-- what a round adds, and its first word, out of words; h is the last one with the round's number -/
def tT (e f g h : BitVec 32) : BitVec 32 := h + S1 e + ch e f g
def tA (a b c e f g h : BitVec 32) : BitVec 32 := tT e f g h + S0 a + maj a b c
theorem t1_tT (e f g h n : BitVec 32) : t1 e f g h n = tT e f g (h + n) := by
  unfold t1 tT
  ac_rfl
theorem round_tA (l : List (BitVec 32)) (n : BitVec 32) : round l n = [tA (gw l 0) (gw l 1) (gw l 2) (gw l 4) (gw l 5) (gw l 6) (gw l 7 + n), gw l 0, gw l 1, gw l 2, gw l 3 + tT (gw l 4) (gw l 5) (gw l 6) (gw l 7 + n), gw l 4, gw l 5, gw l 6] := by
  unfold round rA rT tA
  rw [t1_tT]

/-- the schedule, as it grows in place -/
def nextW (b : List (BitVec 8)) (s : List (BitVec 32)) (k : Nat) : BitVec 32 :=
  if k < 16 then word b (4 * k) else gw s (k - 16) + s0 (gw s (k - 15)) + gw s (k - 7) + s1 (gw s (k - 2))
def sched (b : List (BitVec 8)) : Nat → List (BitVec 32)
  | 0 => List.replicate 64 0
  | k + 1 => (sched b k).set k (nextW b (sched b k) k)
theorem sched_len (b : List (BitVec 8)) (k : Nat) : (sched b k).length = 64 := by
  induction k with
  | zero => rfl
  | succ k ih => simp [sched, ih]

/-- pressing a block in -/
def pr (K : List (BitVec 32)) (b : List (BitVec 8)) (v : List (BitVec 32)) : Nat → List (BitVec 32)
  | 0 => v
  | k + 1 => round (pr K b v k) (gw (sched b 64) k + gw K k)
def addL (p v : List (BitVec 32)) : Nat → List (BitVec 32)
  | 0 => p
  | k + 1 => (addL p v k).set k (gw (addL p v k) k + gw v k)
def press (K : List (BitVec 32)) (b : List (BitVec 8)) (v : List (BitVec 32)) : List (BitVec 32) := addL (pr K b v 64) v 8
theorem press_def (K : List (BitVec 32)) (b : List (BitVec 8)) (v : List (BitVec 32)) : press K b v = addL (pr K b v 64) v 8 := rfl
theorem pr_len (K : List (BitVec 32)) (b : List (BitVec 8)) (v : List (BitVec 32)) (h : v.length = 8) (k : Nat) : (pr K b v k).length = 8 := by
  cases k with
  | zero => exact h
  | succ k => rfl
theorem addL_len (p v : List (BitVec 32)) (h : p.length = 8) (k : Nat) : (addL p v k).length = 8 := by
  induction k with
  | zero => exact h
  | succ k ih => simp [addL, ih]
theorem addL_eight (p v : List (BitVec 32)) (h : p.length = 8) : addL p v 8 = [gw v 0 + gw p 0, gw v 1 + gw p 1, gw v 2 + gw p 2, gw v 3 + gw p 3, gw v 4 + gw p 4, gw v 5 + gw p 5, gw v 6 + gw p 6, gw v 7 + gw p 7] := by
  match p, h with
  | [a, b, c, d, e, f, g, i], _ =>
    simp only [addL, gw, List.getD_cons_zero, List.getD_cons_succ, List.set_cons_zero, List.set_cons_succ, BitVec.add_comm]
theorem press_len (K : List (BitVec 32)) (b : List (BitVec 8)) (v : List (BitVec 32)) (h : v.length = 8) : (press K b v).length = 8 := addL_len _ _ (pr_len _ _ _ h _) _

/-- the tables as package sha lays them -/
def KK : List (BitVec 32) := [
  0x428a2f98, 0x71374491, 0xb5c0fbcf, 0xe9b5dba5, 0x3956c25b, 0x59f111f1, 0x923f82a4, 0xab1c5ed5,
  0xd807aa98, 0x12835b01, 0x243185be, 0x550c7dc3, 0x72be5d74, 0x80deb1fe, 0x9bdc06a7, 0xc19bf174,
  0xe49b69c1, 0xefbe4786, 0x0fc19dc6, 0x240ca1cc, 0x2de92c6f, 0x4a7484aa, 0x5cb0a9dc, 0x76f988da,
  0x983e5152, 0xa831c66d, 0xb00327c8, 0xbf597fc7, 0xc6e00bf3, 0xd5a79147, 0x06ca6351, 0x14292967,
  0x27b70a85, 0x2e1b2138, 0x4d2c6dfc, 0x53380d13, 0x650a7354, 0x766a0abb, 0x81c2c92e, 0x92722c85,
  0xa2bfe8a1, 0xa81a664b, 0xc24b8b70, 0xc76c51a3, 0xd192e819, 0xd6990624, 0xf40e3585, 0x106aa070,
  0x19a4c116, 0x1e376c08, 0x2748774c, 0x34b0bcb5, 0x391c0cb3, 0x4ed8aa4a, 0x5b9cca4f, 0x682e6ff3,
  0x748f82ee, 0x78a5636f, 0x84c87814, 0x8cc70208, 0x90befffa, 0xa4506ceb, 0xbef9a3f7, 0xc67178f2]
def HH : List (BitVec 32) := [0x6a09e667, 0xbb67ae85, 0x3c6ef372, 0xa54ff53a, 0x510e527f, 0x9b05688c, 0x1f83d9ab, 0x5be0cd19]
theorem KK_len : KK.length = 64 := rfl
theorem HH_len : HH.length = 8 := rfl
/-- whole blocks pressed in -/
def blk (l : List (BitVec 8)) (k : Nat) : List (BitVec 8) := (l.drop (64 * k)).take 64
def pa (K : List (BitVec 32)) (l : List (BitVec 8)) (v : List (BitVec 32)) : Nat → List (BitVec 32)
  | 0 => v
  | k + 1 => press K (blk l k) (pa K l v k)
theorem pa_len (K : List (BitVec 32)) (l : List (BitVec 8)) (v : List (BitVec 32)) (h : v.length = 8) (k : Nat) : (pa K l v k).length = 8 := by
  induction k with
  | zero => exact h
  | succ k ih => exact press_len _ _ _ ih
theorem blk_len (l : List (BitVec 8)) (k : Nat) (h : 64 * k + 64 ≤ l.length) : (blk l k).length = 64 := by
  simp [blk]; omega
theorem ub_ofNat (n : Nat) : ub (BitVec.ofNat 8 n) = (n : Int) % 256 := by
  unfold ub; rw [BitVec.toNat_ofNat]; omega
theorem bv_set (l : List (BitVec 8)) (j : Nat) (x : BitVec 8) : (bv l).setIfInBounds j (.int .u8 (ub x)) = bv (l.set j x) := by
  simp [bv, List.map_set]
/-- the tail, as it grows in place -/
def tailLen (n : Nat) : Nat := 72 - (n % 64 + 8) % 64
def zb (n : Nat) : List (BitVec 8) := List.replicate n 0
theorem zb_len (n : Nat) : (zb n).length = n := by simp [zb]
def tailTo (n : Nat) : Nat → List (BitVec 8)
  | 0 => (zb (tailLen n)).set 0 128
  | i + 1 => (tailTo n i).set (tailLen n - 1 - i) (BitVec.ofNat 8 (8 * n / 2 ^ (8 * i)))
theorem tail_byte (n k : Nat) : 8 * (n : Int) / 2 ^ (8 * k) % 256 = ub (BitVec.ofNat 8 (8 * n / 2 ^ (8 * k))) := by
  rw [ub_ofNat]; simp
theorem tail_head (n : Nat) : (bv (zb (tailLen n))).setIfInBounds 0 (Value.int .u8 128) = bv (tailTo n 0) := by
  rw [show (Value.int .u8 128) = Value.int .u8 (ub 128) from rfl, bv_set]; rfl
theorem tail_next (n k : Nat) : (bv (tailTo n k)).setIfInBounds (tailLen n - 1 - k) (Value.int .u8 (8 * (n : Int) / 2 ^ (8 * k) % 256)) = bv (tailTo n (k + 1)) := by
  rw [tail_byte, bv_set]; rfl
theorem tailTo_len (n i : Nat) : (tailTo n i).length = tailLen n := by
  induction i with
  | zero => simp [tailTo, zb_len]
  | succ i ih => simp [tailTo, ih]
theorem tailLen_lo (n : Nat) : 9 ≤ tailLen n := by unfold tailLen; omega
theorem tailLen_hi (n : Nat) : tailLen n ≤ 72 := by unfold tailLen; omega

end Go.Proofs.YthookcnkmlmgcaaGreatDoor
namespace Go.Proofs.YthookcnkmlmgcaaGreatDoor
open Go
set_option maxRecDepth 4000

theorem ofInt8 (x : BitVec 8) : BitVec.ofInt 8 (ub x) = x := by
  unfold ub; rw [BitVec.ofInt_natCast]; simp
theorem wrap8_ub (x : BitVec 8) : IntKind.u8.wrap (x.toNat : Int) = ub x := by
  have := x.isLt
  unfold ub
  rw [IntKind.wrap_u8]; omega
@[go_sem] theorem b_xor8 (x y : BitVec 8) : bits .xor .u8 (ub x) (ub y) = ub (x ^^^ y) := by
  show IntKind.u8.wrap ((BitVec.ofInt 8 (ub x) ^^^ BitVec.ofInt 8 (ub y)).toNat : Int) = _
  rw [ofInt8, ofInt8, wrap8_ub]

theorem gbv (l : List (BitVec 8)) (i : Nat) (h : i < l.length) : gb l i = l[i] := by simp [gb, h]
theorem gb_out (l : List (BitVec 8)) (i : Nat) (h : l.length ≤ i) : gb l i = 0 := by simp [gb, h]
theorem ext_gb (x y : List (BitVec 8)) (h : x.length = y.length) (h2 : ∀ i, i < x.length → gb x i = gb y i) : x = y := by
  apply List.ext_getElem h
  intro i h1 h3
  rw [← gbv x i h1, ← gbv y i h3]
  exact h2 i h1
theorem gb_app (x y : List (BitVec 8)) (i : Nat) : gb (x ++ y) i = if i < x.length then gb x i else gb y (i - x.length) := by
  unfold gb
  rw [List.getD_eq_getElem?_getD, List.getD_eq_getElem?_getD, List.getD_eq_getElem?_getD, List.getElem?_append]
  split <;> rfl
theorem gb_set (l : List (BitVec 8)) (j i : Nat) (x : BitVec 8) (hj : j < l.length) : gb (l.set j x) i = if i = j then x else gb l i := by
  unfold gb
  rw [List.getD_eq_getElem?_getD, List.getD_eq_getElem?_getD, List.getElem?_set]
  by_cases h : i = j
  · subst h; simp [hj]
  · rw [if_neg h, if_neg (fun e => h e.symm)]
theorem gb_map_range (f : Nat → BitVec 8) (n i : Nat) (h : i < n) : gb ((List.range n).map f) i = f i := by
  simp [gb, h]
theorem gb_zb (n i : Nat) : gb (zb n) i = 0 := by
  unfold gb zb
  rw [List.getD_eq_getElem?_getD, List.getElem?_replicate]
  split <;> rfl
theorem gb_drop' (l : List (BitVec 8)) (k j : Nat) : gb (l.drop k) j = gb l (k + j) := by
  simp [gb, List.getElem?_drop]
theorem gb_take' (l : List (BitVec 8)) (k j : Nat) : gb (l.take k) j = if j < k then gb l j else 0 := by
  unfold gb
  rw [List.getD_eq_getElem?_getD, List.getD_eq_getElem?_getD, List.getElem?_take]
  split <;> rfl

/-- a row that is filled in place: the first k elements are f's -/
def li (n : Nat) (f : Nat → BitVec 8) : List (BitVec 8) := (List.range n).map f
theorem li_len (n : Nat) (f : Nat → BitVec 8) : (li n f).length = n := by simp [li]
theorem li_gb (n : Nat) (f : Nat → BitVec 8) (j : Nat) (h : j < n) : gb (li n f) j = f j := gb_map_range f n j h
theorem li_congr {n : Nat} {f g : Nat → BitVec 8} (h : ∀ j, j < n → f j = g j) : li n f = li n g := List.map_congr_left fun j hj => h j (by simpa using hj)
theorem li_succ (n : Nat) (f : Nat → BitVec 8) : li (n + 1) f = li n f ++ [f n] := by unfold li; rw [List.range_succ, List.map_append]; rfl
theorem li_self (l : List (BitVec 8)) (n : Nat) (h : l.length = n) : li n (gb l) = l := by
  apply ext_gb
  · rw [li_len, h]
  · intro i hi
    rw [li_gb _ _ _ (by rwa [li_len] at hi)]
def fl (n : Nat) (f : Nat → BitVec 8) (z : List (BitVec 8)) (k : Nat) : List (BitVec 8) := li n fun j => if j < k then f j else gb z j
theorem fl_len (n : Nat) (f : Nat → BitVec 8) (z : List (BitVec 8)) (k : Nat) : (fl n f z k).length = n := li_len _ _
theorem fl_gb (n : Nat) (f : Nat → BitVec 8) (z : List (BitVec 8)) (k j : Nat) (h : j < n) : gb (fl n f z k) j = if j < k then f j else gb z j := li_gb _ _ _ h
theorem fl_zero (n : Nat) (f : Nat → BitVec 8) (z : List (BitVec 8)) (h : z.length = n) : fl n f z 0 = z := by
  have e : fl n f z 0 = li n (gb z) := li_congr fun j _ => by rw [if_neg (Nat.not_lt_zero j)]
  rw [e, li_self z n h]
theorem fl_end (n : Nat) (f : Nat → BitVec 8) (z : List (BitVec 8)) : fl n f z n = li n f := li_congr fun j hj => by rw [if_pos hj]
theorem fl_succ (n : Nat) (f : Nat → BitVec 8) (z : List (BitVec 8)) (k : Nat) (h : k < n) : (fl n f z k).set k (f k) = fl n f z (k + 1) := by
  apply ext_gb
  · rw [List.length_set, fl_len, fl_len]
  · intro i hi
    rw [List.length_set, fl_len] at hi
    rw [gb_set _ _ _ _ (by rwa [fl_len]), fl_gb _ _ _ _ _ hi, fl_gb _ _ _ _ _ hi]
    by_cases h1 : i = k
    · subst h1; simp
    · rw [if_neg h1]
      by_cases h2 : i < k
      · rw [if_pos h2, if_pos (by omega)]
      · rw [if_neg h2, if_neg (by omega)]
/-- each byte, by its number -/
theorem all8 {p : BitVec 8 → Prop} (h : ∀ n, n < 256 → p (BitVec.ofNat 8 n)) (x : BitVec 8) : p x := by
  have := h x.toNat x.isLt
  rwa [BitVec.ofNat_toNat, BitVec.setWidth_eq] at this
end Go.Proofs.YthookcnkmlmgcaaGreatDoor
namespace Go.Proofs.YthookcnkmlmgcaaGreatDoor
open Go
set_option maxRecDepth 4000

/-- a letter made small -/
def lowB (x : BitVec 8) : BitVec 8 := if 65 ≤ x.toNat ∧ x.toNat ≤ 90 then x + 32 else x
theorem low_low (x : BitVec 8) : lowB (lowB x) = lowB x := by
  revert x
  refine all8 ?_
  decide +kernel
theorem low_blank (x : BitVec 8) (h : x ≠ 32) : lowB x ≠ 32 := by
  revert x
  refine all8 ?_
  decide +kernel
/-- behind a letter, or (true) behind a blank that stands behind a letter -/
def plF (p : Bool) : List (BitVec 8) → List (BitVec 8)
  | [] => []
  | x :: t => if x = 32 then plF true t else if p = true then 32 :: lowB x :: plF false t else lowB x :: plF false t
/-- behind a letter -/
def plS (t : List (BitVec 8)) : List (BitVec 8) := plF false t
/-- behind a blank that stands behind a letter -/
def plP (t : List (BitVec 8)) : List (BitVec 8) := plF true t
theorem plS_nil : plS [] = [] := rfl
theorem plP_nil : plP [] = [] := rfl
theorem plS_cons (x : BitVec 8) (t : List (BitVec 8)) : plS (x :: t) = if x = 32 then plP t else lowB x :: plS t := by
  show (if x = 32 then plF true t else if false = true then 32 :: lowB x :: plF false t else lowB x :: plF false t) = _
  rw [if_neg (by decide : ¬(false = true))]
  rfl
theorem plP_cons (x : BitVec 8) (t : List (BitVec 8)) : plP (x :: t) = if x = 32 then plP t else 32 :: lowB x :: plS t := by
  show (if x = 32 then plF true t else if true = true then 32 :: lowB x :: plF false t else lowB x :: plF false t) = _
  rw [if_pos (rfl : true = true)]
  rfl
/-- the plain text -/
def plainL : List (BitVec 8) → List (BitVec 8)
  | [] => []
  | x :: t => if x = 32 then plainL t else lowB x :: plS t
theorem plS_plS : ∀ t : List (BitVec 8), plS (plS t) = plS t ∧ plS (plP t) = plP t
  | [] => ⟨rfl, rfl⟩
  | x :: t => by
    obtain ⟨h1, h2⟩ := plS_plS t
    by_cases hx : x = 32
    · subst hx
      simp only [plS, plP_cons, if_pos]
      exact ⟨h2, h2⟩
    · have hl := low_blank x hx
      have h32 : (32 : BitVec 8) = 32 := rfl
      constructor
      · rw [plS_cons, if_neg hx, plS_cons, if_neg hl, low_low, h1]
      · rw [plP_cons, if_neg hx, plS_cons, if_pos h32, plP_cons, if_neg hl, low_low, h1]
/-- a plain text is its own plain text -/
theorem plain_plain : ∀ t : List (BitVec 8), plainL (plainL t) = plainL t
  | [] => rfl
  | x :: t => by
    by_cases hx : x = 32
    · rw [plainL, if_pos hx]
      exact plain_plain t
    · rw [plainL, if_neg hx, plainL, if_neg (low_blank x hx), low_low, (plS_plS t).1]
/-- step by step, as the reference goes: what is told so far, and whether a blank stands ahead -/
def plGo (out : List (BitVec 8)) (p : Bool) : List (BitVec 8) → List (BitVec 8)
  | [] => out
  | x :: t => if x = 32 then plGo out true t else plGo ((if out ≠ [] ∧ p = true then out ++ [32] else out) ++ [lowB x]) false t
theorem plGo_eq : ∀ (t out : List (BitVec 8)) (p : Bool), plGo out p t = out ++ (if out = [] then plainL t else if p then plP t else plS t)
  | [], out, p => by
    rw [plP_nil, plS_nil]
    unfold plGo plainL
    split
    · simp
    · split <;> simp
  | x :: t, out, p => by
    have ih := plGo_eq t
    unfold plGo
    by_cases hx : x = 32
    · rw [if_pos hx, ih]
      by_cases ho : out = []
      · rw [if_pos ho, if_pos ho, plainL, if_pos hx]
      · rw [if_neg ho, if_neg ho, if_pos rfl]
        cases p
        · simp only [Bool.false_eq_true, if_false]
          rw [plS_cons, if_pos hx]
        · simp only [if_true]
          rw [plP_cons, if_pos hx]
    · rw [if_neg hx, ih]
      by_cases ho : out = []
      · subst ho
        simp only [ne_eq, not_true_eq_false, false_and, if_false, List.nil_append, if_true]
        rw [if_neg (by simp), plainL, if_neg hx]
        simp
      · rw [if_neg ho]
        cases p
        · rw [if_neg (by simp), if_neg (by simp)]
          simp only [Bool.false_eq_true, if_false]
          rw [plS_cons, if_neg hx]
          simp
        · rw [if_pos ⟨ho, rfl⟩, if_neg (by simp)]
          simp only [if_true, Bool.false_eq_true, if_false]
          rw [plP_cons, if_neg hx]
          simp
theorem plGo_all (t : List (BitVec 8)) : plGo [] false t = plainL t := by rw [plGo_eq, if_pos rfl, List.nil_append]
theorem pl_len : ∀ t : List (BitVec 8), (plS t).length ≤ t.length ∧ (plP t).length ≤ t.length + 1
  | [] => ⟨Nat.le_refl _, Nat.zero_le _⟩
  | x :: t => by
    obtain ⟨h1, h2⟩ := pl_len t
    rw [plS_cons, plP_cons]
    constructor
    · split
      · simp; omega
      · simp; omega
    · split
      · simp; omega
      · simp; omega
theorem plS_len (t : List (BitVec 8)) : (plS t).length ≤ t.length := (pl_len t).1
theorem plP_len (t : List (BitVec 8)) : (plP t).length ≤ t.length + 1 := (pl_len t).2
end Go.Proofs.YthookcnkmlmgcaaGreatDoor
namespace Go.Proofs.YthookcnkmlmgcaaGreatDoor
open Go
set_option maxRecDepth 4000

/-- an attribute: its type, its mark, its text -/
structure Atr where
  ty : List Nat
  mark : BitVec 8
  tx : List (BitVec 8)
/-- are two attributes alike? -/
def alA (a b : Atr) : Bool := decide (a.ty = b.ty) && decide (plainL a.tx = plainL b.tx)
theorem alA_refl (a : Atr) : alA a a = true := by simp [alA]
theorem alA_symm (a b : Atr) : alA a b = alA b a := by
  unfold alA
  rw [Bool.eq_iff_iff]
  simp only [Bool.and_eq_true, decide_eq_true_eq]
  exact ⟨fun h => ⟨h.1.symm, h.2.symm⟩, fun h => ⟨h.1.symm, h.2.symm⟩⟩
theorem alA_trans {a b c : Atr} (h1 : alA a b = true) (h2 : alA b c = true) : alA a c = true := by
  unfold alA at *
  simp only [Bool.and_eq_true, decide_eq_true_eq] at *
  exact ⟨h1.1.trans h2.1, h1.2.trans h2.2⟩
/-- is an attribute alike to one of a step's? -/
def hasA (l : List Atr) (a : Atr) : Bool := l.any fun b => alA b a
def alS (s t : List Atr) : Bool := s.all (hasA t) && t.all (hasA s)
theorem hasA_iff {l : List Atr} {a : Atr} : hasA l a = true ↔ ∃ b ∈ l, alA b a = true := by simp [hasA]
theorem alS_iff {s t : List Atr} : alS s t = true ↔ (∀ a ∈ s, ∃ b ∈ t, alA b a = true) ∧ ∀ b ∈ t, ∃ a ∈ s, alA a b = true := by
  unfold alS
  rw [Bool.and_eq_true, List.all_eq_true, List.all_eq_true]
  simp only [hasA_iff]
theorem alS_refl (s : List Atr) : alS s s = true := alS_iff.2 ⟨fun a h => ⟨a, h, alA_refl a⟩, fun a h => ⟨a, h, alA_refl a⟩⟩
theorem alS_symm (s t : List Atr) : alS s t = alS t s := by unfold alS; rw [Bool.and_comm]
theorem alS_trans {s t u : List Atr} (h1 : alS s t = true) (h2 : alS t u = true) : alS s u = true := by
  obtain ⟨a1, a2⟩ := alS_iff.1 h1
  obtain ⟨b1, b2⟩ := alS_iff.1 h2
  refine alS_iff.2 ⟨fun a ha => ?_, fun c hc => ?_⟩
  · obtain ⟨b, hb, e1⟩ := a1 a ha
    obtain ⟨c, hc, e2⟩ := b1 b hb
    exact ⟨c, hc, alA_trans e2 e1⟩
  · obtain ⟨b, hb, e1⟩ := b2 c hc
    obtain ⟨a, ha, e2⟩ := a2 b hb
    exact ⟨a, ha, alA_trans e2 e1⟩
/-- two names -/
def alN : List (List Atr) → List (List Atr) → Bool
  | [], [] => true
  | s :: a, t :: b => alS s t && alN a b
  | _, _ => false
theorem alN_len : ∀ {a b : List (List Atr)}, alN a b = true → a.length = b.length
  | [], [], _ => rfl
  | s :: a, t :: b, h => by
    unfold alN at h
    rw [Bool.and_eq_true] at h
    simp [alN_len h.2]
  | [], t :: b, h => by cases h
  | s :: a, [], h => by cases h
theorem alN_refl : ∀ a : List (List Atr), alN a a = true
  | [] => rfl
  | s :: a => by unfold alN; rw [alS_refl, alN_refl a]; rfl
theorem alN_symm : ∀ a b : List (List Atr), alN a b = alN b a
  | [], [] => rfl
  | s :: a, t :: b => by unfold alN; rw [alS_symm, alN_symm a b]
  | [], t :: b => rfl
  | s :: a, [] => rfl
theorem alN_trans : ∀ {a b c : List (List Atr)}, alN a b = true → alN b c = true → alN a c = true
  | [], [], c, _, h => h
  | s :: a, t :: b, [], _, h => by cases h
  | s :: a, t :: b, u :: c, h1, h2 => by
    unfold alN at *
    rw [Bool.and_eq_true] at *
    exact ⟨alS_trans h1.1 h2.1, alN_trans h1.2 h2.2⟩
  | [], t :: b, c, h, _ => by cases h
  | s :: a, [], c, h, _ => by cases h
/-- step by step -/
theorem alN_iff {a b : List (List Atr)} : alN a b = true ↔ a.length = b.length ∧ ∀ i, i < a.length → alS (a.getD i []) (b.getD i []) = true := by
  induction a generalizing b with
  | nil =>
    cases b with
    | nil => simp [alN]
    | cons t b => simp [alN]
  | cons s a ih =>
    cases b with
    | nil => simp [alN]
    | cons t b =>
      unfold alN
      rw [Bool.and_eq_true, ih]
      constructor
      · rintro ⟨h1, h2, h3⟩
        refine ⟨by simp [h2], fun i hi => ?_⟩
        cases i with
        | zero => exact h1
        | succ i => exact h3 i (by simpa using hi)
      · rintro ⟨h1, h2⟩
        exact ⟨h2 0 (by simp), by simpa using h1, fun i hi => h2 (i + 1) (by simpa using hi)⟩
/-- a name within another one -/
def wiN (a b : List (List Atr)) : Bool := decide (b.length ≤ a.length) && alN (a.take b.length) b
theorem wiN_refl (a : List (List Atr)) : wiN a a = true := by simp [wiN, alN_refl]
theorem alN_take : ∀ {a b : List (List Atr)} (k : Nat), alN a b = true → alN (a.take k) (b.take k) = true
  | a, b, 0, _ => by simp [alN]
  | [], [], k + 1, _ => by simp [alN]
  | s :: a, t :: b, k + 1, h => by
    unfold alN at h
    rw [Bool.and_eq_true] at h
    rw [List.take_succ_cons, List.take_succ_cons]
    unfold alN
    rw [h.1, alN_take k h.2]
    rfl
  | [], t :: b, k + 1, h => by cases h
  | s :: a, [], k + 1, h => by cases h
theorem wiN_trans {a b c : List (List Atr)} (h1 : wiN a b = true) (h2 : wiN b c = true) : wiN a c = true := by
  unfold wiN at *
  rw [Bool.and_eq_true, decide_eq_true_eq] at *
  refine ⟨by omega, ?_⟩
  have h3 := alN_take c.length h1.2
  rw [List.take_take, Nat.min_eq_left h2.1] at h3
  exact alN_trans h3 h2.2
theorem wiN_both (a b : List (List Atr)) : (wiN a b && wiN b a) = alN a b := by
  rw [Bool.eq_iff_iff]
  constructor
  · intro h
    rw [Bool.and_eq_true] at h
    have h1 := h.1
    have h2 := h.2
    unfold wiN at h1 h2
    rw [Bool.and_eq_true, decide_eq_true_eq] at h1 h2
    have e : b.length = a.length := by omega
    have h3 := h1.2
    rwa [e, List.take_length] at h3
  · intro h
    have e := alN_len h
    rw [Bool.and_eq_true]
    unfold wiN
    rw [Bool.and_eq_true, Bool.and_eq_true, decide_eq_true_eq, decide_eq_true_eq]
    refine ⟨⟨by omega, ?_⟩, by omega, ?_⟩
    · rw [← e, List.take_length]; exact h
    · rw [e, List.take_length, alN_symm]; exact h
end Go.Proofs.YthookcnkmlmgcaaGreatDoor
