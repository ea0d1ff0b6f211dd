/-
  Words of 32 bits as plain bit vectors, and what the model's integer operations do to them. No condition.
  Lists of bytes: elements, pieces; rows that are filled in place, one after another; xor of bytes. No condition.
  Elements of bytes: marks, lengths, what a writer holds; plain.
  What a block of the call's own holds, whole; kept over draws, new blocks, stores elsewhere.
-/
import Derived.WalkKit
import Derived.Laws.BitsAllLaws
import Derived.Deep.Draws
import Derived.ChangeKeysEq
import Derived.StillTailTactics
namespace Go.Proofs.Ytadndhenfoppiaa
open Go
set_option maxRecDepth 4000

/-- a word of 32 bits, a byte, as the model's number (no abbreviation: the walk must not open it) -/
def un (x : BitVec 32) : Int := (x.toNat : Int)
def ub (x : BitVec 8) : Int := (x.toNat : Int)
abbrev vu (x : BitVec 32) : Value := .int .u32 (un x)
abbrev vb (x : BitVec 8) : Value := .int .u8 (ub x)

theorem un_lo (x : BitVec 32) : 0 ≤ un x := Int.natCast_nonneg _
theorem un_hi (x : BitVec 32) : un x < 4294967296 := by have := x.isLt; unfold un; omega
theorem ub_lo (x : BitVec 8) : 0 ≤ ub x := Int.natCast_nonneg _
theorem ub_hi (x : BitVec 8) : ub x < 256 := by have := x.isLt; unfold ub; omega
theorem un_ofNat (n : Nat) (h : n < 4294967296) : un (BitVec.ofNat 32 n) = (n : Int) := by
  unfold un; rw [BitVec.toNat_ofNat, Nat.mod_eq_of_lt (by omega)]
theorem un_inj {x y : BitVec 32} (h : un x = un y) : x = y := by
  unfold un at h; exact BitVec.eq_of_toNat_eq (by omega)
theorem un_beq (x y : BitVec 32) : (un x == un y) = (x == y) := by
  by_cases h : x = y
  · subst h; simp
  · rw [beq_eq_false_iff_ne.2 h, beq_eq_false_iff_ne.2 (fun e => h (un_inj e))]

theorem wrap32_nat (n : Nat) : IntKind.u32.wrap (n : Int) = ((n % 4294967296 : Nat) : Int) := by
  rw [IntKind.wrap_u32]; omega
theorem ofInt32 (x : BitVec 32) : BitVec.ofInt 32 (un x) = x := by
  unfold un; rw [BitVec.ofInt_natCast]; simp
theorem b_back (x : BitVec 32) : IntKind.u32.wrap (x.toNat : Int) = un x := by
  rw [wrap32_nat, Nat.mod_eq_of_lt (BitVec.isLt _)]; rfl
@[go_sem] theorem b_xor (x y : BitVec 32) : bits .xor .u32 (un x) (un y) = un (x ^^^ y) := by
  show IntKind.u32.wrap ((BitVec.ofInt 32 (un x) ^^^ BitVec.ofInt 32 (un y)).toNat : Int) = _
  rw [ofInt32, ofInt32, b_back]
@[go_sem] theorem b_and (x y : BitVec 32) : bits .and .u32 (un x) (un y) = un (x &&& y) := by
  show IntKind.u32.wrap ((BitVec.ofInt 32 (un x) &&& BitVec.ofInt 32 (un y)).toNat : Int) = _
  rw [ofInt32, ofInt32, b_back]
@[go_sem] theorem b_or (x y : BitVec 32) : bits .or .u32 (un x) (un y) = un (x ||| y) := by
  show IntKind.u32.wrap ((BitVec.ofInt 32 (un x) ||| BitVec.ofInt 32 (un y)).toNat : Int) = _
  rw [ofInt32, ofInt32, b_back]
@[go_sem] theorem u32_signed : IntKind.u32.signed = false := rfl
@[go_sem] theorem b_not (x : BitVec 32) : bits .xor .u32 (IntKind.max .u32) (un x) = un (~~~x) := by
  show IntKind.u32.wrap ((BitVec.ofInt 32 (IntKind.max .u32) ^^^ BitVec.ofInt 32 (un x)).toNat : Int) = _
  rw [ofInt32, show BitVec.ofInt 32 (IntKind.max .u32) = BitVec.allOnes 32 by decide, b_back, BitVec.allOnes_xor]
@[go_sem] theorem b_add (x y : BitVec 32) : IntKind.u32.wrap (un x + un y) = un (x + y) := by
  unfold un; rw [← Int.natCast_add, wrap32_nat, BitVec.toNat_add]
@[go_sem] theorem b_add' (x y : BitVec 32) : (un x + un y) % (4294967296 : Int) = un (x + y) := by
  rw [← b_add, IntKind.wrap_u32]
theorem b_shl (x : BitVec 32) (k : Nat) : IntKind.u32.wrap (un x * 2 ^ k) = un (x <<< k) := by
  unfold un; rw [BitVec.toNat_shiftLeft, Nat.shiftLeft_eq, ← wrap32_nat]; simp
theorem b_shl' (x : BitVec 32) (k : Nat) : un x * 2 ^ k % 4294967296 = un (x <<< k) := by
  rw [← b_shl, IntKind.wrap_u32]
theorem b_shr (x : BitVec 32) (k : Nat) : un x / 2 ^ k = un (x >>> k) := by
  unfold un; rw [BitVec.toNat_ushiftRight, Nat.shiftRight_eq_div_pow]; simp

@[go_sem] theorem un_shr3 (x : BitVec 32) : un x / (8 : Int) = un (x >>> 3) := by have := b_shr x 3; simpa using this
@[go_sem] theorem un_shr10 (x : BitVec 32) : un x / (1024 : Int) = un (x >>> 10) := by have := b_shr x 10; simpa using this
@[go_sem] theorem un_shr8 (x : BitVec 32) : un x / (256 : Int) = un (x >>> 8) := by have := b_shr x 8; simpa using this
@[go_sem] theorem un_shr16 (x : BitVec 32) : un x / (65536 : Int) = un (x >>> 16) := by have := b_shr x 16; simpa using this
@[go_sem] theorem un_shr24 (x : BitVec 32) : un x / (16777216 : Int) = un (x >>> 24) := by have := b_shr x 24; simpa using this

/-- words and bytes as an array's cells -/
def wv (l : List (BitVec 32)) : Array Value := (l.map vu).toArray
def bv (l : List (BitVec 8)) : Array Value := (l.map vb).toArray
theorem wv_size (l : List (BitVec 32)) : (wv l).size = l.length := by simp [wv]
theorem bv_size (l : List (BitVec 8)) : (bv l).size = l.length := by simp [bv]
/-- an element, 0 where there is none (no abbreviation) -/
def gw (l : List (BitVec 32)) (j : Nat) : BitVec 32 := l.getD j 0
def gb (l : List (BitVec 8)) (j : Nat) : BitVec 8 := l.getD j 0
theorem wv_at (l : List (BitVec 32)) (j : Nat) (h : j < l.length) : (wv l)[j]? = some (.int .u32 (un (gw l j))) := by
  simp [wv, gw, h]
theorem bv_at (l : List (BitVec 8)) (j : Nat) (h : j < l.length) : (bv l)[j]? = some (.int .u8 (ub (gb l j))) := by
  simp [bv, gb, h]
theorem wv_set (l : List (BitVec 32)) (j : Nat) (x : BitVec 32) : (wv l).setIfInBounds j (.int .u32 (un x)) = wv (l.set j x) := by
  simp [wv, List.map_set]
theorem wv_one (l : List (BitVec 32)) : (wv l).all (·.oneCell') = true := by
  simp [wv, Value.oneCell']
theorem bv_one (l : List (BitVec 8)) : (bv l).all (·.oneCell') = true := by
  simp [bv, Value.oneCell']
/-- four bytes as a word -/
def e8 (x : BitVec 8) : BitVec 32 := x.setWidth 32
def wd (a b c d : BitVec 8) : BitVec 32 := e8 a <<< 24 ||| e8 b <<< 16 ||| e8 c <<< 8 ||| e8 d
def word (l : List (BitVec 8)) (i : Nat) : BitVec 32 := wd (gb l i) (gb l (i + 1)) (gb l (i + 2)) (gb l (i + 3))
@[go_sem] theorem ub_e8 (x : BitVec 8) : ub x % 4294967296 = un (e8 x) := by
  have := x.isLt
  unfold ub un e8
  rw [BitVec.toNat_setWidth]; omega
theorem un_shl24 (x : BitVec 32) : un x * (16777216 : Int) % (4294967296 : Int) = un (x <<< 24) := by have := b_shl' x 24; simpa using this
theorem un_shl16 (x : BitVec 32) : un x * (65536 : Int) % (4294967296 : Int) = un (x <<< 16) := by have := b_shl' x 16; simpa using this
theorem un_shl8 (x : BitVec 32) : un x * (256 : Int) % (4294967296 : Int) = un (x <<< 8) := by have := b_shl' x 8; simpa using this

/-- rolled to the right -/
def rr (x : BitVec 32) (k : Nat) : BitVec 32 := x <<< (32 - k) ||| x >>> k
def s0 (x : BitVec 32) : BitVec 32 := rr x 7 ^^^ rr x 18 ^^^ x >>> 3
def s1 (x : BitVec 32) : BitVec 32 := rr x 17 ^^^ rr x 19 ^^^ x >>> 10
def S0 (x : BitVec 32) : BitVec 32 := rr x 2 ^^^ rr x 13 ^^^ rr x 22
def S1 (x : BitVec 32) : BitVec 32 := rr x 6 ^^^ rr x 11 ^^^ rr x 25
def ch (e f g : BitVec 32) : BitVec 32 := (e &&& f) ||| (~~~e &&& g)
def maj (a b c : BitVec 32) : BitVec 32 := (a &&& b) ||| (a &&& c) ||| (b &&& c)
def t1 (e f g h n : BitVec 32) : BitVec 32 := h + S1 e + ch e f g + n
/-- a round -/
def rT (l : List (BitVec 32)) (n : BitVec 32) : BitVec 32 := t1 (gw l 4) (gw l 5) (gw l 6) (gw l 7) n
def rA (l : List (BitVec 32)) (n : BitVec 32) : BitVec 32 := rT l n + S0 (gw l 0) + maj (gw l 0) (gw l 1) (gw l 2)
def round (l : List (BitVec 32)) (n : BitVec 32) : List (BitVec 32) := [rA l n, gw l 0, gw l 1, gw l 2, gw l 3 + rT l n, gw l 4, gw l 5, gw l 6]
theorem round_len (l : List (BitVec 32)) (n : BitVec 32) : (round l n).length = 8 := rfl
/-- what a round adds, and its first word, out of words; h is the last one with the round's number -/
def tT (e f g h : BitVec 32) : BitVec 32 := h + S1 e + ch e f g
def tA (a b c e f g h : BitVec 32) : BitVec 32 := tT e f g h + S0 a + maj a b c
theorem t1_tT (e f g h n : BitVec 32) : t1 e f g h n = tT e f g (h + n) := by
  unfold t1 tT
  ac_rfl
theorem round_tA (l : List (BitVec 32)) (n : BitVec 32) : round l n = [tA (gw l 0) (gw l 1) (gw l 2) (gw l 4) (gw l 5) (gw l 6) (gw l 7 + n), gw l 0, gw l 1, gw l 2, gw l 3 + tT (gw l 4) (gw l 5) (gw l 6) (gw l 7 + n), gw l 4, gw l 5, gw l 6] := by
  unfold round rA rT tA
  rw [t1_tT]

/-- the schedule, as it grows in place -/
def nextW (b : List (BitVec 8)) (s : List (BitVec 32)) (k : Nat) : BitVec 32 :=
  if k < 16 then word b (4 * k) else gw s (k - 16) + s0 (gw s (k - 15)) + gw s (k - 7) + s1 (gw s (k - 2))
def sched (b : List (BitVec 8)) : Nat → List (BitVec 32)
  | 0 => List.replicate 64 0
  | k + 1 => (sched b k).set k (nextW b (sched b k) k)
theorem sched_len (b : List (BitVec 8)) (k : Nat) : (sched b k).length = 64 := by
  induction k with
  | zero => rfl
  | succ k ih => simp [sched, ih]

/-- pressing a block in -/
def pr (K : List (BitVec 32)) (b : List (BitVec 8)) (v : List (BitVec 32)) : Nat → List (BitVec 32)
  | 0 => v
  | k + 1 => round (pr K b v k) (gw (sched b 64) k + gw K k)
def addL (p v : List (BitVec 32)) : Nat → List (BitVec 32)
  | 0 => p
  | k + 1 => (addL p v k).set k (gw (addL p v k) k + gw v k)
def press (K : List (BitVec 32)) (b : List (BitVec 8)) (v : List (BitVec 32)) : List (BitVec 32) := addL (pr K b v 64) v 8
theorem press_def (K : List (BitVec 32)) (b : List (BitVec 8)) (v : List (BitVec 32)) : press K b v = addL (pr K b v 64) v 8 := rfl
theorem pr_len (K : List (BitVec 32)) (b : List (BitVec 8)) (v : List (BitVec 32)) (h : v.length = 8) (k : Nat) : (pr K b v k).length = 8 := by
  cases k with
  | zero => exact h
  | succ k => rfl
theorem addL_len (p v : List (BitVec 32)) (h : p.length = 8) (k : Nat) : (addL p v k).length = 8 := by
  induction k with
  | zero => exact h
  | succ k ih => simp [addL, ih]
theorem addL_eight (p v : List (BitVec 32)) (h : p.length = 8) : addL p v 8 = [gw v 0 + gw p 0, gw v 1 + gw p 1, gw v 2 + gw p 2, gw v 3 + gw p 3, gw v 4 + gw p 4, gw v 5 + gw p 5, gw v 6 + gw p 6, gw v 7 + gw p 7] := by
  match p, h with
  | [a, b, c, d, e, f, g, i], _ =>
    simp only [addL, gw, List.getD_cons_zero, List.getD_cons_succ, List.set_cons_zero, List.set_cons_succ, BitVec.add_comm]
theorem press_len (K : List (BitVec 32)) (b : List (BitVec 8)) (v : List (BitVec 32)) (h : v.length = 8) : (press K b v).length = 8 := addL_len _ _ (pr_len _ _ _ h _) _

/-- the tables as package sha lays them -/
def KK : List (BitVec 32) := [
  0x428a2f98, 0x71374491, 0xb5c0fbcf, 0xe9b5dba5, 0x3956c25b, 0x59f111f1, 0x923f82a4, 0xab1c5ed5,
  0xd807aa98, 0x12835b01, 0x243185be, 0x550c7dc3, 0x72be5d74, 0x80deb1fe, 0x9bdc06a7, 0xc19bf174,
  0xe49b69c1, 0xefbe4786, 0x0fc19dc6, 0x240ca1cc, 0x2de92c6f, 0x4a7484aa, 0x5cb0a9dc, 0x76f988da,
  0x983e5152, 0xa831c66d, 0xb00327c8, 0xbf597fc7, 0xc6e00bf3, 0xd5a79147, 0x06ca6351, 0x14292967,
  0x27b70a85, 0x2e1b2138, 0x4d2c6dfc, 0x53380d13, 0x650a7354, 0x766a0abb, 0x81c2c92e, 0x92722c85,
  0xa2bfe8a1, 0xa81a664b, 0xc24b8b70, 0xc76c51a3, 0xd192e819, 0xd6990624, 0xf40e3585, 0x106aa070,
  0x19a4c116, 0x1e376c08, 0x2748774c, 0x34b0bcb5, 0x391c0cb3, 0x4ed8aa4a, 0x5b9cca4f, 0x682e6ff3,
  0x748f82ee, 0x78a5636f, 0x84c87814, 0x8cc70208, 0x90befffa, 0xa4506ceb, 0xbef9a3f7, 0xc67178f2]
def HH : List (BitVec 32) := [0x6a09e667, 0xbb67ae85, 0x3c6ef372, 0xa54ff53a, 0x510e527f, 0x9b05688c, 0x1f83d9ab, 0x5be0cd19]
theorem KK_len : KK.length = 64 := rfl
theorem HH_len : HH.length = 8 := rfl
/-- whole blocks pressed in -/
def blk (l : List (BitVec 8)) (k : Nat) : List (BitVec 8) := (l.drop (64 * k)).take 64
def pa (K : List (BitVec 32)) (l : List (BitVec 8)) (v : List (BitVec 32)) : Nat → List (BitVec 32)
  | 0 => v
  | k + 1 => press K (blk l k) (pa K l v k)
theorem pa_len (K : List (BitVec 32)) (l : List (BitVec 8)) (v : List (BitVec 32)) (h : v.length = 8) (k : Nat) : (pa K l v k).length = 8 := by
  induction k with
  | zero => exact h
  | succ k ih => exact press_len _ _ _ ih
theorem blk_len (l : List (BitVec 8)) (k : Nat) (h : 64 * k + 64 ≤ l.length) : (blk l k).length = 64 := by
  simp [blk]; omega
theorem ub_ofNat (n : Nat) : ub (BitVec.ofNat 8 n) = (n : Int) % 256 := by
  unfold ub; rw [BitVec.toNat_ofNat]; omega
theorem bv_set (l : List (BitVec 8)) (j : Nat) (x : BitVec 8) : (bv l).setIfInBounds j (.int .u8 (ub x)) = bv (l.set j x) := by
  simp [bv, List.map_set]
/-- the tail, as it grows in place -/
def tailLen (n : Nat) : Nat := 72 - (n % 64 + 8) % 64
def zb (n : Nat) : List (BitVec 8) := List.replicate n 0
theorem zb_len (n : Nat) : (zb n).length = n := by simp [zb]
def tailTo (n : Nat) : Nat → List (BitVec 8)
  | 0 => (zb (tailLen n)).set 0 128
  | i + 1 => (tailTo n i).set (tailLen n - 1 - i) (BitVec.ofNat 8 (8 * n / 2 ^ (8 * i)))
theorem tail_byte (n k : Nat) : 8 * (n : Int) / 2 ^ (8 * k) % 256 = ub (BitVec.ofNat 8 (8 * n / 2 ^ (8 * k))) := by
  rw [ub_ofNat]; simp
theorem tail_head (n : Nat) : (bv (zb (tailLen n))).setIfInBounds 0 (Value.int .u8 128) = bv (tailTo n 0) := by
  rw [show (Value.int .u8 128) = Value.int .u8 (ub 128) from rfl, bv_set]; rfl
theorem tail_next (n k : Nat) : (bv (tailTo n k)).setIfInBounds (tailLen n - 1 - k) (Value.int .u8 (8 * (n : Int) / 2 ^ (8 * k) % 256)) = bv (tailTo n (k + 1)) := by
  rw [tail_byte, bv_set]; rfl
theorem tailTo_len (n i : Nat) : (tailTo n i).length = tailLen n := by
  induction i with
  | zero => simp [tailTo, zb_len]
  | succ i ih => simp [tailTo, ih]
theorem tailLen_lo (n : Nat) : 9 ≤ tailLen n := by unfold tailLen; omega
theorem tailLen_hi (n : Nat) : tailLen n ≤ 72 := by unfold tailLen; omega

end Go.Proofs.Ytadndhenfoppiaa
namespace Go.Proofs.Ytadndhenfoppiaa
open Go
set_option maxRecDepth 4000

theorem ofInt8 (x : BitVec 8) : BitVec.ofInt 8 (ub x) = x := by
  unfold ub; rw [BitVec.ofInt_natCast]; simp
theorem wrap8_ub (x : BitVec 8) : IntKind.u8.wrap (x.toNat : Int) = ub x := by
  have := x.isLt
  unfold ub
  rw [IntKind.wrap_u8]; omega
@[go_sem] theorem b_xor8 (x y : BitVec 8) : bits .xor .u8 (ub x) (ub y) = ub (x ^^^ y) := by
  show IntKind.u8.wrap ((BitVec.ofInt 8 (ub x) ^^^ BitVec.ofInt 8 (ub y)).toNat : Int) = _
  rw [ofInt8, ofInt8, wrap8_ub]

theorem gbv (l : List (BitVec 8)) (i : Nat) (h : i < l.length) : gb l i = l[i] := by simp [gb, h]
theorem gb_out (l : List (BitVec 8)) (i : Nat) (h : l.length ≤ i) : gb l i = 0 := by simp [gb, h]
theorem ext_gb (x y : List (BitVec 8)) (h : x.length = y.length) (h2 : ∀ i, i < x.length → gb x i = gb y i) : x = y := by
  apply List.ext_getElem h
  intro i h1 h3
  rw [← gbv x i h1, ← gbv y i h3]
  exact h2 i h1
theorem gb_app (x y : List (BitVec 8)) (i : Nat) : gb (x ++ y) i = if i < x.length then gb x i else gb y (i - x.length) := by
  unfold gb
  rw [List.getD_eq_getElem?_getD, List.getD_eq_getElem?_getD, List.getD_eq_getElem?_getD, List.getElem?_append]
  split <;> rfl
theorem gb_set (l : List (BitVec 8)) (j i : Nat) (x : BitVec 8) (hj : j < l.length) : gb (l.set j x) i = if i = j then x else gb l i := by
  unfold gb
  rw [List.getD_eq_getElem?_getD, List.getD_eq_getElem?_getD, List.getElem?_set]
  by_cases h : i = j
  · subst h; simp [hj]
  · rw [if_neg h, if_neg (fun e => h e.symm)]
theorem gb_map_range (f : Nat → BitVec 8) (n i : Nat) (h : i < n) : gb ((List.range n).map f) i = f i := by
  simp [gb, h]
theorem gb_zb (n i : Nat) : gb (zb n) i = 0 := by
  unfold gb zb
  rw [List.getD_eq_getElem?_getD, List.getElem?_replicate]
  split <;> rfl
theorem gb_drop' (l : List (BitVec 8)) (k j : Nat) : gb (l.drop k) j = gb l (k + j) := by
  simp [gb, List.getElem?_drop]
theorem gb_take' (l : List (BitVec 8)) (k j : Nat) : gb (l.take k) j = if j < k then gb l j else 0 := by
  unfold gb
  rw [List.getD_eq_getElem?_getD, List.getD_eq_getElem?_getD, List.getElem?_take]
  split <;> rfl

/-- a row that is filled in place: the first k elements are f's -/
def li (n : Nat) (f : Nat → BitVec 8) : List (BitVec 8) := (List.range n).map f
theorem li_len (n : Nat) (f : Nat → BitVec 8) : (li n f).length = n := by simp [li]
theorem li_gb (n : Nat) (f : Nat → BitVec 8) (j : Nat) (h : j < n) : gb (li n f) j = f j := gb_map_range f n j h
theorem li_congr {n : Nat} {f g : Nat → BitVec 8} (h : ∀ j, j < n → f j = g j) : li n f = li n g := List.map_congr_left fun j hj => h j (by simpa using hj)
theorem li_succ (n : Nat) (f : Nat → BitVec 8) : li (n + 1) f = li n f ++ [f n] := by unfold li; rw [List.range_succ, List.map_append]; rfl
theorem li_self (l : List (BitVec 8)) (n : Nat) (h : l.length = n) : li n (gb l) = l := by
  apply ext_gb
  · rw [li_len, h]
  · intro i hi
    rw [li_gb _ _ _ (by rwa [li_len] at hi)]
def fl (n : Nat) (f : Nat → BitVec 8) (z : List (BitVec 8)) (k : Nat) : List (BitVec 8) := li n fun j => if j < k then f j else gb z j
theorem fl_len (n : Nat) (f : Nat → BitVec 8) (z : List (BitVec 8)) (k : Nat) : (fl n f z k).length = n := li_len _ _
theorem fl_gb (n : Nat) (f : Nat → BitVec 8) (z : List (BitVec 8)) (k j : Nat) (h : j < n) : gb (fl n f z k) j = if j < k then f j else gb z j := li_gb _ _ _ h
theorem fl_zero (n : Nat) (f : Nat → BitVec 8) (z : List (BitVec 8)) (h : z.length = n) : fl n f z 0 = z := by
  have e : fl n f z 0 = li n (gb z) := li_congr fun j _ => by rw [if_neg (Nat.not_lt_zero j)]
  rw [e, li_self z n h]
theorem fl_end (n : Nat) (f : Nat → BitVec 8) (z : List (BitVec 8)) : fl n f z n = li n f := li_congr fun j hj => by rw [if_pos hj]
theorem fl_succ (n : Nat) (f : Nat → BitVec 8) (z : List (BitVec 8)) (k : Nat) (h : k < n) : (fl n f z k).set k (f k) = fl n f z (k + 1) := by
  apply ext_gb
  · rw [List.length_set, fl_len, fl_len]
  · intro i hi
    rw [List.length_set, fl_len] at hi
    rw [gb_set _ _ _ _ (by rwa [fl_len]), fl_gb _ _ _ _ _ hi, fl_gb _ _ _ _ _ hi]
    by_cases h1 : i = k
    · subst h1; simp
    · rw [if_neg h1]
      by_cases h2 : i < k
      · rw [if_pos h2, if_pos (by omega)]
      · rw [if_neg h2, if_neg (by omega)]
/-- each byte, by its number -/
theorem all8 {p : BitVec 8 → Prop} (h : ∀ n, n < 256 → p (BitVec.ofNat 8 n)) (x : BitVec 8) : p x := by
  have := h x.toNat x.isLt
  rwa [BitVec.ofNat_toNat, BitVec.setWidth_eq] at this
end Go.Proofs.Ytadndhenfoppiaa
namespace Go.Proofs.Ytadndhenfoppiaa
open Go
set_option maxRecDepth 4000

/-- is a byte a mark; one of a whole; one of a part -/
def mkB (m : BitVec 8) : Bool := m.toNat % 32 != 31
def whB (m : BitVec 8) : Bool := m.toNat / 32 % 2 == 1
def isW (m : BitVec 8) : Bool := mkB m && whB m
def isP (m : BitVec 8) : Bool := mkB m && !whB m
/-- how long a mark and a length are; they themselves; an element -/
def hdn (n : Nat) : Nat := if n < 128 then 2 else if n < 256 then 3 else 4
def hdr (m : BitVec 8) (n : Nat) : List (BitVec 8) := if n < 128 then [m, BitVec.ofNat 8 n] else if n < 256 then [m, 129, BitVec.ofNat 8 n] else [m, 130, BitVec.ofNat 8 (n / 256), BitVec.ofNat 8 (n % 256)]
def elm (m : BitVec 8) (b : List (BitVec 8)) : List (BitVec 8) := hdr m b.length ++ b
theorem hdr_len (m : BitVec 8) (n : Nat) : (hdr m n).length = hdn n := by unfold hdr hdn; split; rfl; split <;> rfl
theorem hdn_lo (n : Nat) : 2 ≤ hdn n := by unfold hdn; split; omega; split <;> omega
theorem hdn_hi (n : Nat) : hdn n ≤ 4 := by unfold hdn; split; omega; split <;> omega
theorem elm_len (m : BitVec 8) (b : List (BitVec 8)) : (elm m b).length = hdn b.length + b.length := by unfold elm; rw [List.length_append, hdr_len]
theorem hdr_cons (m : BitVec 8) (n : Nat) : ∃ r, hdr m n = m :: r ∧ r.length = hdn n - 1 := by
  unfold hdr hdn; split
  · exact ⟨_, rfl, rfl⟩
  · split
    · exact ⟨_, rfl, rfl⟩
    · exact ⟨_, rfl, rfl⟩
theorem hdr_gb0 (m : BitVec 8) (n : Nat) (r : List (BitVec 8)) : gb (hdr m n ++ r) 0 = m := by
  obtain ⟨t, e, _⟩ := hdr_cons m n
  rw [e]; rfl
/-- what a writer holds: the innermost whole's body, ahead of it the marks and the bodies of those that it is in; or what was amiss -/
inductive TWs where
  | ok (cur : List (BitVec 8)) (st : List (BitVec 8 × List (BitVec 8)))
  | bad (c : Nat)
def putS (m : BitVec 8) (b : List (BitVec 8)) : TWs → TWs
  | .bad c => .bad c
  | .ok cur st => if isP m = true then (if b.length ≤ 65535 then .ok (cur ++ elm m b) st else .bad 4) else .bad 1
def openS (m : BitVec 8) : TWs → TWs
  | .bad c => .bad c
  | .ok cur st => if isW m = true then (if st.length < 24 then .ok [] ((m, cur) :: st) else .bad 5) else .bad 1
def closeS : TWs → TWs
  | .bad c => .bad c
  | .ok _ [] => .bad 17
  | .ok cur ((m, out) :: st) => if cur.length ≤ 65535 then .ok (out ++ elm m cur) st else .bad 4
def doneL : TWs → List (BitVec 8)
  | .ok cur [] => cur
  | _ => []
def doneC : TWs → Nat
  | .bad c => c
  | .ok _ [] => 0
  | .ok _ (_ :: _) => 17
/-- all that is written, the lengths of the open ones aside; where the marks of the open ones stand; their number -/
def flatT (cur : List (BitVec 8)) : List (BitVec 8 × List (BitVec 8)) → List (BitVec 8)
  | [] => cur
  | (m, out) :: st => flatT out st ++ (m :: cur)
def ahead : List (BitVec 8 × List (BitVec 8)) → List (BitVec 8)
  | [] => []
  | (m, out) :: st => ahead st ++ out ++ [m]
theorem flatT_eq (cur : List (BitVec 8)) : ∀ st, flatT cur st = ahead st ++ cur
  | [] => rfl
  | (m, out) :: st => by rw [flatT, flatT_eq out st, ahead]; simp
theorem flatT_app (cur x : List (BitVec 8)) (st : List (BitVec 8 × List (BitVec 8))) : flatT (cur ++ x) st = flatT cur st ++ x := by
  rw [flatT_eq, flatT_eq, List.append_assoc]
theorem flatT_open (m : BitVec 8) (cur : List (BitVec 8)) (st : List (BitVec 8 × List (BitVec 8))) : flatT [] ((m, cur) :: st) = flatT cur st ++ [m] := rfl
def posT : List (BitVec 8 × List (BitVec 8)) → List Nat
  | [] => []
  | (_, out) :: st => posT st ++ [(flatT out st).length]
theorem posT_len : ∀ st, (posT st).length = st.length
  | [] => rfl
  | (m, out) :: st => by rw [posT, List.length_append, posT_len st]; rfl
theorem posT_last (m : BitVec 8) (out : List (BitVec 8)) (st : List (BitVec 8 × List (BitVec 8))) : (posT ((m, out) :: st))[st.length]? = some (flatT out st).length := by
  rw [posT, List.getElem?_append_right (by rw [posT_len]; exact Nat.le_refl _), posT_len, Nat.sub_self]; rfl
theorem posT_take (m : BitVec 8) (out : List (BitVec 8)) (st : List (BitVec 8 × List (BitVec 8))) : (posT ((m, out) :: st)).take st.length = posT st := by
  rw [posT, List.take_append_of_le_length (by rw [posT_len]; exact Nat.le_refl _), ← posT_len, List.take_length]
theorem flatT_at (m : BitVec 8) (cur out : List (BitVec 8)) (st : List (BitVec 8 × List (BitVec 8))) : gb (flatT cur ((m, out) :: st)) (flatT out st).length = m := by
  rw [flatT, gb_app, if_neg (Nat.lt_irrefl _), Nat.sub_self]; rfl
/-- a whole is closed: its mark becomes mark and length -/
theorem flatT_close (m : BitVec 8) (cur out : List (BitVec 8)) (st : List (BitVec 8 × List (BitVec 8))) :
    flatT (out ++ elm m cur) st = flatT out st ++ hdr m cur.length ++ cur := by
  rw [flatT_app, elm, List.append_assoc]
theorem flatT_cut (m : BitVec 8) (cur out : List (BitVec 8)) (st : List (BitVec 8 × List (BitVec 8))) : (flatT cur ((m, out) :: st)).take (flatT out st).length = flatT out st ∧ (flatT cur ((m, out) :: st)).drop ((flatT out st).length + 1) = cur := by
  constructor
  · rw [flatT, List.take_left']
    rfl
  · rw [flatT, List.drop_append, List.drop_of_length_le (by omega)]
    simp
theorem flatT_len (m : BitVec 8) (cur out : List (BitVec 8)) (st : List (BitVec 8 × List (BitVec 8))) : (flatT cur ((m, out) :: st)).length = (flatT out st).length + 1 + cur.length := by
  rw [flatT]; simp; omega
/-- the reference's: marks and bodies from the outermost on -/
def mks : List (BitVec 8 × List (BitVec 8)) → List (BitVec 8)
  | [] => []
  | (m, _) :: st => mks st ++ [m]
def bods (cur : List (BitVec 8)) : List (BitVec 8 × List (BitVec 8)) → List (List (BitVec 8))
  | [] => [cur]
  | (_, out) :: st => bods out st ++ [cur]
theorem mks_len : ∀ st, (mks st).length = st.length
  | [] => rfl
  | (m, out) :: st => by rw [mks, List.length_append, mks_len st]; rfl
theorem bods_len (cur : List (BitVec 8)) : ∀ st, (bods cur st).length = st.length + 1
  | [] => rfl
  | (m, out) :: st => by rw [bods, List.length_append, bods_len out st]; rfl
theorem bods_last (cur : List (BitVec 8)) : ∀ st, (bods cur st)[st.length]? = some cur
  | [] => rfl
  | (m, out) :: st => by rw [bods, List.getElem?_append_right (by rw [bods_len, List.length_cons]; exact Nat.le_refl _), bods_len, List.length_cons, Nat.sub_self]; rfl
theorem bods_set (cur new : List (BitVec 8)) : ∀ st, (bods cur st).set st.length new = bods new st
  | [] => rfl
  | (m, out) :: st => by rw [bods, bods, List.set_append_right _ _ (by rw [bods_len, List.length_cons]; exact Nat.le_refl _), bods_len, List.length_cons, Nat.sub_self]; rfl
theorem bods_take (m : BitVec 8) (cur out : List (BitVec 8)) (st : List (BitVec 8 × List (BitVec 8))) : (bods cur ((m, out) :: st)).take (st.length + 1) = bods out st := by
  rw [bods, List.take_append_of_le_length (by rw [bods_len]; exact Nat.le_refl _), ← bods_len out st, List.take_length]
theorem mks_last (m : BitVec 8) (out : List (BitVec 8)) (st : List (BitVec 8 × List (BitVec 8))) : (mks ((m, out) :: st))[st.length]? = some m := by
  rw [mks, List.getElem?_append_right (by rw [mks_len]; exact Nat.le_refl _), mks_len, Nat.sub_self]; rfl
theorem mks_take (m : BitVec 8) (out : List (BitVec 8)) (st : List (BitVec 8 × List (BitVec 8))) : (mks ((m, out) :: st)).take st.length = mks st := by
  rw [mks, List.take_append_of_le_length (by rw [mks_len]; exact Nat.le_refl _), ← mks_len, List.take_length]
/-- how much is held in all -/
def szW : TWs → Nat
  | .ok cur st => (flatT cur st).length
  | .bad _ => 0
theorem szW_put (m : BitVec 8) (b : List (BitVec 8)) (s : TWs) : szW (putS m b s) ≤ szW s + b.length + 4 := by
  cases s with
  | bad c => simp [putS, szW]
  | ok cur st =>
    simp only [putS]
    split
    · split
      · have := hdn_hi b.length
        simp only [szW, flatT_app, List.length_append, elm_len]; omega
      · simp [szW]
    · simp [szW]
theorem szW_open (m : BitVec 8) (s : TWs) : szW (openS m s) ≤ szW s + 1 := by
  cases s with
  | bad c => simp [openS, szW]
  | ok cur st =>
    simp only [openS]
    split
    · split
      · simp [szW, flatT_open]
      · simp [szW]
    · simp [szW]
theorem szW_close (s : TWs) : szW (closeS s) ≤ szW s + 3 := by
  cases s with
  | bad c => simp [closeS, szW]
  | ok cur st =>
    cases st with
    | nil => simp [closeS, szW]
    | cons p st =>
      obtain ⟨m, out⟩ := p
      simp only [closeS]
      split
      · have := hdn_hi cur.length
        simp only [szW, flatT_close, List.length_append, hdr_len, flatT_len]; omega
      · simp [szW]
/-- what stands ahead of a byte's end: the first element -/
def lnOf (b : List (BitVec 8)) : Nat :=
  if 3 < b.length ∧ gb b 1 = 130 then (gb b 2).toNat * 256 + (gb b 3).toNat
  else if 2 < b.length ∧ gb b 1 = 129 then (gb b 2).toNat
  else if 1 < b.length then (gb b 1).toNat else 0
/-- an element stands there -/
def El (b : List (BitVec 8)) (m : BitVec 8) (x r : List (BitVec 8)) : Prop := mkB m = true ∧ x.length ≤ 65535 ∧ b = elm m x ++ r
theorem lnOf_el {b x r : List (BitVec 8)} {m : BitVec 8} (h : El b m x r) : lnOf b = x.length := by
  obtain ⟨_, h2, rfl⟩ := h
  unfold elm hdr
  by_cases h3 : x.length < 128
  · rw [if_pos h3]
    have e1 : gb ([m, BitVec.ofNat 8 x.length] ++ x ++ r) 1 = BitVec.ofNat 8 x.length := rfl
    have e2 : BitVec.ofNat 8 x.length ≠ 130 := fun e => by have := congrArg BitVec.toNat e; simp at this; omega
    have e3 : BitVec.ofNat 8 x.length ≠ 129 := fun e => by have := congrArg BitVec.toNat e; simp at this; omega
    unfold lnOf
    rw [e1, if_neg (fun h => e2 h.2), if_neg (fun h => e3 h.2), if_pos (by simp)]
    simp; omega
  · rw [if_neg h3]
    by_cases h4 : x.length < 256
    · rw [if_pos h4]
      have e1 : gb ([m, 129, BitVec.ofNat 8 x.length] ++ x ++ r) 1 = 129 := rfl
      have e2 : gb ([m, 129, BitVec.ofNat 8 x.length] ++ x ++ r) 2 = BitVec.ofNat 8 x.length := rfl
      unfold lnOf
      rw [e1, if_neg (fun h => absurd h.2 (by decide)), if_pos ⟨by simp, rfl⟩, e2]
      simp; omega
    · rw [if_neg h4]
      unfold lnOf
      rw [if_pos ⟨by simp, rfl⟩]
      show (BitVec.ofNat 8 (x.length / 256)).toNat * 256 + (BitVec.ofNat 8 (x.length % 256)).toNat = x.length
      simp; omega
/-- where the length that stands there makes the head that stands there, an element does -/
theorem el_of {b : List (BitVec 8)} (hm : mkB (gb b 0) = true) (hn : lnOf b ≤ 65535) (hp : b.take (hdn (lnOf b)) = hdr (gb b 0) (lnOf b)) (hr : hdn (lnOf b) + lnOf b ≤ b.length) :
    El b (gb b 0) ((b.drop (hdn (lnOf b))).take (lnOf b)) (b.drop (hdn (lnOf b) + lnOf b)) := by
  have e1 : ((b.drop (hdn (lnOf b))).take (lnOf b)).length = lnOf b := by rw [List.length_take, List.length_drop]; omega
  refine ⟨hm, by omega, ?_⟩
  unfold elm
  rw [e1, ← hp, List.append_assoc, ← List.drop_drop, List.take_append_drop, List.take_append_drop]
theorem el_parts {b x r : List (BitVec 8)} {m : BitVec 8} (h : El b m x r) : gb b 0 = m ∧ b.take (hdn x.length) = hdr m x.length ∧ hdn x.length + x.length + r.length = b.length ∧ b.take (hdn x.length + x.length) = elm m x ∧ (b.drop (hdn x.length)).take x.length = x ∧ b.drop (hdn x.length + x.length) = r := by
  obtain ⟨_, h2, rfl⟩ := h
  refine ⟨?_, ?_, ?_, ?_, ?_, ?_⟩
  · unfold elm; rw [List.append_assoc, hdr_gb0]
  · unfold elm; rw [List.append_assoc, List.take_left' (hdr_len _ _)]
  · rw [List.length_append, elm_len]
  · rw [List.take_left' (elm_len _ _)]
  · unfold elm; rw [List.append_assoc, List.drop_left' (hdr_len _ _), List.take_left' rfl]
  · rw [List.drop_left' (elm_len _ _)]
theorem lnOf_hi (b : List (BitVec 8)) : lnOf b ≤ 65535 := by
  have h1 := (gb b 1).isLt
  have h2 := (gb b 2).isLt
  have h3 := (gb b 3).isLt
  unfold lnOf
  split
  · omega
  · split
    · omega
    · split <;> omega
/-- what a writer can hold -/
def VW : TWs → Prop
  | .ok _ st => st.length ≤ 24 ∧ ∀ x ∈ st, isW x.1 = true
  | .bad c => 0 < c ∧ c < 100
theorem VW.put {s : TWs} (h : VW s) (m : BitVec 8) (b : List (BitVec 8)) : VW (putS m b s) := by
  cases s with
  | bad c => exact h
  | ok cur st =>
    simp only [putS]
    split
    · split
      · exact h
      · exact ⟨by decide, by decide⟩
    · exact ⟨by decide, by decide⟩
theorem VW.open_ {s : TWs} (h : VW s) (m : BitVec 8) : VW (openS m s) := by
  cases s with
  | bad c => exact h
  | ok cur st =>
    simp only [openS]
    split
    · next hm =>
      split
      · next hl =>
        refine ⟨by rw [List.length_cons]; omega, fun x hx => ?_⟩
        rcases List.mem_cons.1 hx with rfl | hx
        · exact hm
        · exact h.2 x hx
      · exact ⟨by decide, by decide⟩
    · exact ⟨by decide, by decide⟩
theorem VW.close {s : TWs} (h : VW s) : VW (closeS s) := by
  cases s with
  | bad c => exact h
  | ok cur st =>
    cases st with
    | nil => exact ⟨by decide, by decide⟩
    | cons x st =>
      obtain ⟨m, out⟩ := x
      simp only [closeS]
      split
      · exact ⟨by have := h.1; rw [List.length_cons] at this; omega, fun y hy => h.2 y (List.mem_cons_of_mem _ hy)⟩
      · exact ⟨by decide, by decide⟩
end Go.Proofs.Ytadndhenfoppiaa
namespace Go.Proofs.Ytadndhenfoppiaa
open Go Go.RowKit
set_option maxRecDepth 4000

/-- block g holds just these cells, none of them frozen -/
def Has (w : World) (g : Nat) (t : TypeId) (cs : Array Value) : Prop := w.heap[g]? = some (.cells cs t (0, 0))

section
variable {w w' : World} {g : Nat} {t : TypeId} {cs : Array Value}
theorem Has.lt (h : Has w g t cs) : g < w.heap.size := by
  rcases Nat.lt_or_ge g w.heap.size with hlt | hge
  · exact hlt
  · unfold Has at h; rw [Array.getElem?_eq_none hge] at h; cases h
theorem Has.cell (h : Has w g t cs) (i : Nat) : w.cell? ⟨g, i, none⟩ = cs[i]? := cell_of_row w g i cs t (0, 0) h
theorem Has.frozen (h : Has w g t cs) (i : Nat) : w.frozen? ⟨g, i, none⟩ = false := frozen_of_row w g i cs t h
theorem Has.new (w : World) (t : TypeId) (cs : Array Value) (g : Nat) (hg : g = w.heap.size) : Has (w.alloc (.cells cs t)) g t cs := by
  subst hg; exact heap_alloc_new w _
theorem Has.drew (h : Has w g t cs) : Has w.drew g t cs := h
theorem Has.drewN (h : Has w g t cs) (n : Nat) : Has (w.drewN n) g t cs := h
theorem Has.alloc (h : Has w g t cs) (o : Obj) : Has (w.alloc o) g t cs := (Below.heap_alloc w o g h.lt).trans h
theorem Has.set (h : Has w g t cs) (i : Nat) (u : Value) : Has (w.setCell ⟨g, i, none⟩ u) g t (cs.setIfInBounds i u) := heap_setCell_same w g i cs t u h
theorem Has.far (h : Has w g t cs) {p : Addr} (hp : g ≠ p.block) (u : Value) : Has (w.setCell p u) g t cs := (Below.heap_setCell w p u g hp).trans h
theorem Has.below {B : Nat} (h : Has w g t cs) (hb : Below B w w') (hg : g < B) : Has w' g t cs := (hb.block g hg).trans h
theorem Has.row (h : Has w g t cs) (cs' : Array Value) : Has (w.setRow g cs') g t cs' := setRow_heap w g cs cs' t _ h
theorem Has.rowfar (h : Has w g t cs) {g' : Nat} (hg : g ≠ g') (cs' : Array Value) : Has (w.setRow g' cs') g t cs := (setRow_other w g' g cs' hg).trans h
theorem Has.grown (h : Has w g t cs) {row : Option Nat} (hb : w.grownBy w' row) (hg : some g ≠ row) : Has w' g t cs := (hb.block g h.lt hg).trans h
end
/-- an element of an array by value -/
theorem run_index_arr {P : Program} (w : World) (t e n : Nat) (cs : Array Value) (k : Nat) (v : Value) (h : P.underlying t = some (.array n e)) (he : P.plainKey e = true)
    (hs : (P.info? e).map (·.size) = some 1) (hk : k < n) (hv : cs[k]? = some v) : (Instr.index t (.agg cs) (.int .i64 (k : Int))).run P w = .ok v w := by
  cases hq : P.info? e with
  | none => simp [hq] at hs
  | some i =>
    have hs1 : i.size = 1 := by simpa [hq] using hs
    have hp := run_part_plain (P := P) (w := w) he hv
    simp [Instr.index, run_underlying h, asIntOf, sizeOf, typeInfo, hq, hs1, go_sem]
    rw [if_pos hk]
    simpa [part, go_sem, sizeOf, typeInfo, hq, hs1] using hp
/-- a whole array out of cells -/
theorem run_load_at {P : Program} (w : World) (t e n g o : Nat) (cs : Array Value) (h : P.underlying t = some (.array n e)) (hi : (P.info? t).map (·.size) = some cs.size)
    (hc : ∀ j v, cs[j]? = some v → w.cell? ⟨g, o + j, none⟩ = some v) : (Instr.loadAt t (.pointer (some ⟨g, o, none⟩))).run P w = .ok (.agg cs) w := by
  have hl : (loadCells ⟨g, o, none⟩ cs.toList.length).run P w = .ok cs.toList.toArray w :=
    run_loadCells_list (P := P) w ⟨g, o, none⟩ cs.toList (fun j v hv => by
      have hadd : (⟨g, o, none⟩ : Addr).add j = ⟨g, o + j, none⟩ := by unfold Addr.add; split <;> simp_all
      rw [hadd]
      exact hc j v (by simpa using hv))
  cases hq : P.info? t with
  | none => simp [hq] at hi
  | some i =>
    have hs : i.size = cs.size := by simpa [hq] using hi
    have hagg : (isAgg t).run P w = .ok true w := by
      unfold isAgg
      rw [Sem.run_bind, run_underlying h w]
      rfl
    simp only [Array.length_toList, Array.toArray_toList] at hl
    simp [Instr.loadAt, Instr.sureAddr, loadVar, Sem.run_bind, hagg, sizeOf, typeInfo, hq, hs, hl]
theorem run_load_arr {P : Program} (w : World) (t e n g : Nat) (cs : Array Value) (h : P.underlying t = some (.array n e)) (hi : (P.info? t).map (·.size) = some cs.size)
    (hc : ∀ j v, cs[j]? = some v → w.cell? ⟨g, j, none⟩ = some v) : (Instr.loadAt t (.pointer (some ⟨g, 0, none⟩))).run P w = .ok (.agg cs) w :=
  run_load_at w t e n g 0 cs h hi (fun j v hv => by rw [Nat.zero_add]; exact hc j v hv)
/-- a whole array read, in a region that draws its order -/
theorem wpStill_load_row {P : Program} {ops : Array Oper} {rest : List Oper} {o : Oper} {a : Act} {w : World} {Q : Act → Prop} (hgd : o.guard = none) (t : TypeId) (x : Operand) (ho : o.op = .load t x)
    (ad : Addr) (hx : a.eval x = .pointer (some ad)) (cs : Array Value) (hr : (Instr.loadAt t (.pointer (some ad))).run P w = .ok (.agg cs) w)
    (h : wpStill P ops w Q rest (a.put o.dst (.agg cs))) : wpStill P ops w Q (o :: rest) a := by
  refine wpStill_step fun K hK => ?_
  simp only [Region.wanted, hgd, if_true]
  unfold Oper.still execOp
  simp only [ho, hx, Sem.run_bind, hr, Result.andThen_ok, Sem.run_pure]
  exact ⟨rfl, hK _ h⟩
/-- the same where the operation is guarded -/
theorem wpStill_load_if {P : Program} {ops : Array Oper} {rest : List Oper} {o : Oper} {a : Act} {w : World} {Q : Act → Prop} (hw : Region.wanted o (yielded ops a.tmps) = true) (t : TypeId) (x : Operand) (ho : o.op = .load t x)
    (ad : Addr) (hx : a.eval x = .pointer (some ad)) (cs : Array Value) (hr : (Instr.loadAt t (.pointer (some ad))).run P w = .ok (.agg cs) w)
    (h : wpStill P ops w Q rest (a.put o.dst (.agg cs))) : wpStill P ops w Q (o :: rest) a := by
  refine wpStill_step fun K hK => ?_
  rw [if_pos hw]
  unfold Oper.still execOp
  simp only [ho, hx, Sem.run_bind, hr, Result.andThen_ok, Sem.run_pure]
  exact ⟨rfl, hK _ h⟩
/-- single operations of a region that draws its order -/
theorem exec_load {P : Program} {o : Oper} {a : Act} {w : World} (t : TypeId) (x : Operand) (ho : o.op = .load t x) (ad : Addr) (hx : a.eval x = .pointer (some ad)) (v : Value)
    (hr : (Instr.loadAt t (.pointer (some ad))).run P w = .ok v w) : (execOp a.eval o).run P w = .ok (.value v) w := by
  unfold execOp
  simp only [ho, hx, Sem.run_bind, hr, Result.andThen_ok, Sem.run_pure]
theorem exec_move {P : Program} {o : Oper} {a : Act} {w : World} (x : Operand) (ho : o.op = .move x) (v : Value) (hx : a.eval x = v) : (execOp a.eval o).run P w = .ok (.value v) w := by
  unfold execOp
  simp only [ho, hx, Sem.run_pure]
theorem exec_slice {P : Program} {o : Oper} {a : Act} {w : World} (t : TypeId) (x : Operand) (lo hi : Option Operand) (ho : o.op = .slice t x lo hi none) (v vx : Value) (l h : Option Value) (hx : a.eval x = vx) (hl : lo.map a.eval = l) (hh : hi.map a.eval = h)
    (hr : (Instr.sliceAt t vx l h none).run P w = .ok v w) : (execOp a.eval o).run P w = .ok (.value v) w := by
  subst hx hl hh
  unfold execOp
  simp only [ho, Sem.run_bind, Option.map_none, hr, Result.andThen_ok, Sem.run_pure]
theorem exec_conv {P : Program} {o : Oper} {a : Act} {w : World} (t u : TypeId) (x : Operand) (ho : o.op = .convert t u x) (v vx : Value) (hx : a.eval x = vx)
    (hr : (convert t u vx).run P w = .ok v w) : (execOp a.eval o).run P w = .ok (.value v) w := by
  subst hx
  unfold execOp
  simp only [ho, Sem.run_bind, hr, Result.andThen_ok, Sem.run_pure]
theorem wpOp_step {P : Program} {ops : Array Oper} {Q : Exit → Act → World → Prop} {i : Nat} {o : Oper} {K : Act → World → Prop} {a : Act} {w : World} (hi : ops[i]? = some o) (hg : o.guard = none)
    (h : ∀ K' : Act → World → Prop, (∀ a w, K a w → K' a w) → o.wp P a w K' Q) : wpOp P ops Q i K a w := by
  unfold wpOp
  simp only [hi, Region.wanted, hg, if_true]
  exact .inl (h K fun _ _ h => h)
theorem below_row {B : Nat} {a w : World} (h : Below B a w) {g : Nat} (hg : B ≤ g) (cs : Array Value) : Below B a (w.setRow g cs) :=
  h.trans ⟨rfl, rfl, rfl, by simp, fun k hk => setRow_other w g k cs (by omega)⟩
theorem size_below {B : Nat} {a w : World} (h : Below B a w) : a.heap.size ≤ w.heap.size := h.size
end Go.Proofs.Ytadndhenfoppiaa
