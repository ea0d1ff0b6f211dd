/-
  Words of 32 bits as plain bit vectors, and what the model's integer operations do to them. No condition.
  What a block of the call's own holds, whole; kept over draws, new blocks, stores elsewhere.
  A slice of bytes that reads as a list, nil let in; cut; handed to append.
  A slice of bytes turned into a string.
-/
import Derived.WalkKit
import Derived.Laws.BitsAllLaws
import Derived.Deep.Draws
import Derived.ChangeKeysEq
import Derived.StillTailTactics
import Derived.Laws.AppendOwnNone
import Derived.Laws.BytesString
namespace Go.Proofs.YtkdjhklnlnfhfaaGreatDoor
open Go
set_option maxRecDepth 4000

/-- a word of 32 bits, a byte, as the model's number (no abbreviation: the walk must not open it) -/
def un (x : BitVec 32) : Int := (x.toNat : Int)
def ub (x : BitVec 8) : Int := (x.toNat : Int)
abbrev vu (x : BitVec 32) : Value := .int .u32 (un x)
abbrev vb (x : BitVec 8) : Value := .int .u8 (ub x)

theorem un_lo (x : BitVec 32) : 0 ≤ un x := Int.natCast_nonneg _
theorem un_hi (x : BitVec 32) : un x < 4294967296 := by have := x.isLt; unfold un; omega
theorem ub_lo (x : BitVec 8) : 0 ≤ ub x := Int.natCast_nonneg _
theorem ub_hi (x : BitVec 8) : ub x < 256 := by have := x.isLt; unfold ub; omega
theorem un_ofNat (n : Nat) (h : n < 4294967296) : un (BitVec.ofNat 32 n) = (n : Int) := by
  unfold un; rw [BitVec.toNat_ofNat, Nat.mod_eq_of_lt (by omega)]
theorem un_inj {x y : BitVec 32} (h : un x = un y) : x = y := by
  unfold un at h; exact BitVec.eq_of_toNat_eq (by omega)
theorem un_beq (x y : BitVec 32) : (un x == un y) = (x == y) := by
  by_cases h : x = y
  · subst h; simp
  · rw [beq_eq_false_iff_ne.2 h, beq_eq_false_iff_ne.2 (fun e => h (un_inj e))]

theorem wrap32_nat (n : Nat) : IntKind.u32.wrap (n : Int) = ((n % 4294967296 : Nat) : Int) := by
  rw [IntKind.wrap_u32]; omega
theorem ofInt32 (x : BitVec 32) : BitVec.ofInt 32 (un x) = x := by
  unfold un; rw [BitVec.ofInt_natCast]; simp
theorem b_back (x : BitVec 32) : IntKind.u32.wrap (x.toNat : Int) = un x := by
  rw [wrap32_nat, Nat.mod_eq_of_lt (BitVec.isLt _)]; rfl
@[go_sem] theorem b_xor (x y : BitVec 32) : bits .xor .u32 (un x) (un y) = un (x ^^^ y) := by
  show IntKind.u32.wrap ((BitVec.ofInt 32 (un x) ^^^ BitVec.ofInt 32 (un y)).toNat : Int) = _
  rw [ofInt32, ofInt32, b_back]
@[go_sem] theorem b_and (x y : BitVec 32) : bits .and .u32 (un x) (un y) = un (x &&& y) := by
  show IntKind.u32.wrap ((BitVec.ofInt 32 (un x) &&& BitVec.ofInt 32 (un y)).toNat : Int) = _
  rw [ofInt32, ofInt32, b_back]
@[go_sem] theorem b_or (x y : BitVec 32) : bits .or .u32 (un x) (un y) = un (x ||| y) := by
  show IntKind.u32.wrap ((BitVec.ofInt 32 (un x) ||| BitVec.ofInt 32 (un y)).toNat : Int) = _
  rw [ofInt32, ofInt32, b_back]
@[go_sem] theorem u32_signed : IntKind.u32.signed = false := rfl
@[go_sem] theorem b_not (x : BitVec 32) : bits .xor .u32 (IntKind.max .u32) (un x) = un (~~~x) := by
  show IntKind.u32.wrap ((BitVec.ofInt 32 (IntKind.max .u32) ^^^ BitVec.ofInt 32 (un x)).toNat : Int) = _
  rw [ofInt32, show BitVec.ofInt 32 (IntKind.max .u32) = BitVec.allOnes 32 by decide, b_back, BitVec.allOnes_xor]
@[go_sem] theorem b_add (x y : BitVec 32) : IntKind.u32.wrap (un x + un y) = un (x + y) := by
  unfold un; rw [← Int.natCast_add, wrap32_nat, BitVec.toNat_add]
@[go_sem] theorem b_add' (x y : BitVec 32) : (un x + un y) % (4294967296 : Int) = un (x + y) := by
  rw [← b_add, IntKind.wrap_u32]
theorem b_shl (x : BitVec 32) (k : Nat) : IntKind.u32.wrap (un x * 2 ^ k) = un (x <<< k) := by
  unfold un; rw [BitVec.toNat_shiftLeft, Nat.shiftLeft_eq, ← wrap32_nat]; simp
theorem b_shl' (x : BitVec 32) (k : Nat) : un x * 2 ^ k % 4294967296 = un (x <<< k) := by
  rw [← b_shl, IntKind.wrap_u32]
theorem b_shr (x : BitVec 32) (k : Nat) : un x / 2 ^ k = un (x >>> k) := by
  unfold un; rw [BitVec.toNat_ushiftRight, Nat.shiftRight_eq_div_pow]; simp

@[go_sem] theorem un_shr3 (x : BitVec 32) : un x / (8 : Int) = un (x >>> 3) := by have := b_shr x 3; simpa using this
@[go_sem] theorem un_shr10 (x : BitVec 32) : un x / (1024 : Int) = un (x >>> 10) := by have := b_shr x 10; simpa using this
@[go_sem] theorem un_shr8 (x : BitVec 32) : un x / (256 : Int) = un (x >>> 8) := by have := b_shr x 8; simpa using this
@[go_sem] theorem un_shr16 (x : BitVec 32) : un x / (65536 : Int) = un (x >>> 16) := by have := b_shr x 16; simpa using this
@[go_sem] theorem un_shr24 (x : BitVec 32) : un x / (16777216 : Int) = un (x >>> 24) := by have := b_shr x 24; simpa using this

/-- words and bytes as an array's cells -/
def wv (l : List (BitVec 32)) : Array Value := (l.map vu).toArray
def bv (l : List (BitVec 8)) : Array Value := (l.map vb).toArray
theorem wv_size (l : List (BitVec 32)) : (wv l).size = l.length := by simp [wv]
theorem bv_size (l : List (BitVec 8)) : (bv l).size = l.length := by simp [bv]
/-- an element, 0 where there is none (no abbreviation) -/
def gw (l : List (BitVec 32)) (j : Nat) : BitVec 32 := l.getD j 0
def gb (l : List (BitVec 8)) (j : Nat) : BitVec 8 := l.getD j 0
theorem wv_at (l : List (BitVec 32)) (j : Nat) (h : j < l.length) : (wv l)[j]? = some (.int .u32 (un (gw l j))) := by
  simp [wv, gw, h]
theorem bv_at (l : List (BitVec 8)) (j : Nat) (h : j < l.length) : (bv l)[j]? = some (.int .u8 (ub (gb l j))) := by
  simp [bv, gb, h]
theorem wv_set (l : List (BitVec 32)) (j : Nat) (x : BitVec 32) : (wv l).setIfInBounds j (.int .u32 (un x)) = wv (l.set j x) := by
  simp [wv, List.map_set]
theorem wv_one (l : List (BitVec 32)) : (wv l).all (·.oneCell') = true := by
  simp [wv, Value.oneCell']
theorem bv_one (l : List (BitVec 8)) : (bv l).all (·.oneCell') = true := by
  simp [bv, Value.oneCell']
/-- four bytes as a word -/
def e8 (x : BitVec 8) : BitVec 32 := x.setWidth 32
def wd (a b c d : BitVec 8) : BitVec 32 := e8 a <<< 24 ||| e8 b <<< 16 ||| e8 c <<< 8 ||| e8 d
def word (l : List (BitVec 8)) (i : Nat) : BitVec 32 := wd (gb l i) (gb l (i + 1)) (gb l (i + 2)) (gb l (i + 3))
@[go_sem] theorem ub_e8 (x : BitVec 8) : ub x % 4294967296 = un (e8 x) := by
  have := x.isLt
  unfold ub un e8
  rw [BitVec.toNat_setWidth]; omega
theorem un_shl24 (x : BitVec 32) : un x * (16777216 : Int) % (4294967296 : Int) = un (x <<< 24) := by have := b_shl' x 24; simpa using this
theorem un_shl16 (x : BitVec 32) : un x * (65536 : Int) % (4294967296 : Int) = un (x <<< 16) := by have := b_shl' x 16; simpa using this
theorem un_shl8 (x : BitVec 32) : un x * (256 : Int) % (4294967296 : Int) = un (x <<< 8) := by have := b_shl' x 8; simpa using this

/-- rolled to the right -/
def rr (x : BitVec 32) (k : Nat) : BitVec 32 := x <<< (32 - k) ||| x >>> k
def s0 (x : BitVec 32) : BitVec 32 := rr x 7 ^^^ rr x 18 ^^^ x >>> 3
def s1 (x : BitVec 32) : BitVec 32 := rr x 17 ^^^ rr x 19 ^^^ x >>> 10
def S0 (x : BitVec 32) : BitVec 32 := rr x 2 ^^^ rr x 13 ^^^ rr x 22
def S1 (x : BitVec 32) : BitVec 32 := rr x 6 ^^^ rr x 11 ^^^ rr x 25
def ch (e f g : BitVec 32) : BitVec 32 := (e &&& f) ||| (~~~e &&& g)
def maj (a b c : BitVec 32) : BitVec 32 := (a &&& b) ||| (a &&& c) ||| (b &&& c)
def t1 (e f g h n : BitVec 32) : BitVec 32 := h + S1 e + ch e f g + n
/-- a round -/
def rT (l : List (BitVec 32)) (n : BitVec 32) : BitVec 32 := t1 (gw l 4) (gw l 5) (gw l 6) (gw l 7) n
def rA (l : List (BitVec 32)) (n : BitVec 32) : BitVec 32 := rT l n + S0 (gw l 0) + maj (gw l 0) (gw l 1) (gw l 2)
def round (l : List (BitVec 32)) (n : BitVec 32) : List (BitVec 32) := [rA l n, gw l 0, gw l 1, gw l 2, gw l 3 + rT l n, gw l 4, gw l 5, gw l 6]
theorem round_len (l : List (BitVec 32)) (n : BitVec 32) : (round l n).length = 8 := rfl
/-- what a round adds, and its first word, out of words; h is the last one with the round's number -/
def tT (e f g h : BitVec 32) : BitVec 32 := h + S1 e + ch e f g
def tA (a b c e f g h : BitVec 32) : BitVec 32 := tT e f g h + S0 a + maj a b c
theorem t1_tT (e f g h n : BitVec 32) : t1 e f g h n = tT e f g (h + n) := by
  unfold t1 tT
  ac_rfl
theorem round_tA (l : List (BitVec 32)) (n : BitVec 32) : round l n = [tA (gw l 0) (gw l 1) (gw l 2) (gw l 4) (gw l 5) (gw l 6) (gw l 7 + n), gw l 0, gw l 1, gw l 2, gw l 3 + tT (gw l 4) (gw l 5) (gw l 6) (gw l 7 + n), gw l 4, gw l 5, gw l 6] := by
  unfold round rA rT tA
  rw [t1_tT]

/-- the schedule, as it grows in place -/
def nextW (b : List (BitVec 8)) (s : List (BitVec 32)) (k : Nat) : BitVec 32 :=
  if k < 16 then word b (4 * k) else gw s (k - 16) + s0 (gw s (k - 15)) + gw s (k - 7) + s1 (gw s (k - 2))
def sched (b : List (BitVec 8)) : Nat → List (BitVec 32)
  | 0 => List.replicate 64 0
  | k + 1 => (sched b k).set k (nextW b (sched b k) k)
theorem sched_len (b : List (BitVec 8)) (k : Nat) : (sched b k).length = 64 := by
  induction k with
  | zero => rfl
  | succ k ih => simp [sched, ih]

/-- pressing a block in -/
def pr (K : List (BitVec 32)) (b : List (BitVec 8)) (v : List (BitVec 32)) : Nat → List (BitVec 32)
  | 0 => v
  | k + 1 => round (pr K b v k) (gw (sched b 64) k + gw K k)
def addL (p v : List (BitVec 32)) : Nat → List (BitVec 32)
  | 0 => p
  | k + 1 => (addL p v k).set k (gw (addL p v k) k + gw v k)
def press (K : List (BitVec 32)) (b : List (BitVec 8)) (v : List (BitVec 32)) : List (BitVec 32) := addL (pr K b v 64) v 8
theorem press_def (K : List (BitVec 32)) (b : List (BitVec 8)) (v : List (BitVec 32)) : press K b v = addL (pr K b v 64) v 8 := rfl
theorem pr_len (K : List (BitVec 32)) (b : List (BitVec 8)) (v : List (BitVec 32)) (h : v.length = 8) (k : Nat) : (pr K b v k).length = 8 := by
  cases k with
  | zero => exact h
  | succ k => rfl
theorem addL_len (p v : List (BitVec 32)) (h : p.length = 8) (k : Nat) : (addL p v k).length = 8 := by
  induction k with
  | zero => exact h
  | succ k ih => simp [addL, ih]
theorem addL_eight (p v : List (BitVec 32)) (h : p.length = 8) : addL p v 8 = [gw v 0 + gw p 0, gw v 1 + gw p 1, gw v 2 + gw p 2, gw v 3 + gw p 3, gw v 4 + gw p 4, gw v 5 + gw p 5, gw v 6 + gw p 6, gw v 7 + gw p 7] := by
  match p, h with
  | [a, b, c, d, e, f, g, i], _ =>
    simp only [addL, gw, List.getD_cons_zero, List.getD_cons_succ, List.set_cons_zero, List.set_cons_succ, BitVec.add_comm]
theorem press_len (K : List (BitVec 32)) (b : List (BitVec 8)) (v : List (BitVec 32)) (h : v.length = 8) : (press K b v).length = 8 := addL_len _ _ (pr_len _ _ _ h _) _

/-- the tables as package sha lays them -/
def KK : List (BitVec 32) := [
  0x428a2f98, 0x71374491, 0xb5c0fbcf, 0xe9b5dba5, 0x3956c25b, 0x59f111f1, 0x923f82a4, 0xab1c5ed5,
  0xd807aa98, 0x12835b01, 0x243185be, 0x550c7dc3, 0x72be5d74, 0x80deb1fe, 0x9bdc06a7, 0xc19bf174,
  0xe49b69c1, 0xefbe4786, 0x0fc19dc6, 0x240ca1cc, 0x2de92c6f, 0x4a7484aa, 0x5cb0a9dc, 0x76f988da,
  0x983e5152, 0xa831c66d, 0xb00327c8, 0xbf597fc7, 0xc6e00bf3, 0xd5a79147, 0x06ca6351, 0x14292967,
  0x27b70a85, 0x2e1b2138, 0x4d2c6dfc, 0x53380d13, 0x650a7354, 0x766a0abb, 0x81c2c92e, 0x92722c85,
  0xa2bfe8a1, 0xa81a664b, 0xc24b8b70, 0xc76c51a3, 0xd192e819, 0xd6990624, 0xf40e3585, 0x106aa070,
  0x19a4c116, 0x1e376c08, 0x2748774c, 0x34b0bcb5, 0x391c0cb3, 0x4ed8aa4a, 0x5b9cca4f, 0x682e6ff3,
  0x748f82ee, 0x78a5636f, 0x84c87814, 0x8cc70208, 0x90befffa, 0xa4506ceb, 0xbef9a3f7, 0xc67178f2]
def HH : List (BitVec 32) := [0x6a09e667, 0xbb67ae85, 0x3c6ef372, 0xa54ff53a, 0x510e527f, 0x9b05688c, 0x1f83d9ab, 0x5be0cd19]
theorem KK_len : KK.length = 64 := rfl
theorem HH_len : HH.length = 8 := rfl
/-- whole blocks pressed in -/
def blk (l : List (BitVec 8)) (k : Nat) : List (BitVec 8) := (l.drop (64 * k)).take 64
def pa (K : List (BitVec 32)) (l : List (BitVec 8)) (v : List (BitVec 32)) : Nat → List (BitVec 32)
  | 0 => v
  | k + 1 => press K (blk l k) (pa K l v k)
theorem pa_len (K : List (BitVec 32)) (l : List (BitVec 8)) (v : List (BitVec 32)) (h : v.length = 8) (k : Nat) : (pa K l v k).length = 8 := by
  induction k with
  | zero => exact h
  | succ k ih => exact press_len _ _ _ ih
theorem blk_len (l : List (BitVec 8)) (k : Nat) (h : 64 * k + 64 ≤ l.length) : (blk l k).length = 64 := by
  simp [blk]; omega
theorem ub_ofNat (n : Nat) : ub (BitVec.ofNat 8 n) = (n : Int) % 256 := by
  unfold ub; rw [BitVec.toNat_ofNat]; omega
theorem bv_set (l : List (BitVec 8)) (j : Nat) (x : BitVec 8) : (bv l).setIfInBounds j (.int .u8 (ub x)) = bv (l.set j x) := by
  simp [bv, List.map_set]
/-- the tail, as it grows in place -/
def tailLen (n : Nat) : Nat := 72 - (n % 64 + 8) % 64
def zb (n : Nat) : List (BitVec 8) := List.replicate n 0
theorem zb_len (n : Nat) : (zb n).length = n := by simp [zb]
def tailTo (n : Nat) : Nat → List (BitVec 8)
  | 0 => (zb (tailLen n)).set 0 128
  | i + 1 => (tailTo n i).set (tailLen n - 1 - i) (BitVec.ofNat 8 (8 * n / 2 ^ (8 * i)))
theorem tail_byte (n k : Nat) : 8 * (n : Int) / 2 ^ (8 * k) % 256 = ub (BitVec.ofNat 8 (8 * n / 2 ^ (8 * k))) := by
  rw [ub_ofNat]; simp
theorem tail_head (n : Nat) : (bv (zb (tailLen n))).setIfInBounds 0 (Value.int .u8 128) = bv (tailTo n 0) := by
  rw [show (Value.int .u8 128) = Value.int .u8 (ub 128) from rfl, bv_set]; rfl
theorem tail_next (n k : Nat) : (bv (tailTo n k)).setIfInBounds (tailLen n - 1 - k) (Value.int .u8 (8 * (n : Int) / 2 ^ (8 * k) % 256)) = bv (tailTo n (k + 1)) := by
  rw [tail_byte, bv_set]; rfl
theorem tailTo_len (n i : Nat) : (tailTo n i).length = tailLen n := by
  induction i with
  | zero => simp [tailTo, zb_len]
  | succ i ih => simp [tailTo, ih]
theorem tailLen_lo (n : Nat) : 9 ≤ tailLen n := by unfold tailLen; omega
theorem tailLen_hi (n : Nat) : tailLen n ≤ 72 := by unfold tailLen; omega

end Go.Proofs.YtkdjhklnlnfhfaaGreatDoor
namespace Go.Proofs.YtkdjhklnlnfhfaaGreatDoor
open Go Go.RowKit
set_option maxRecDepth 4000

/-- block g holds just these cells, none of them frozen -/
def Has (w : World) (g : Nat) (t : TypeId) (cs : Array Value) : Prop := w.heap[g]? = some (.cells cs t (0, 0))

section
variable {w w' : World} {g : Nat} {t : TypeId} {cs : Array Value}
theorem Has.lt (h : Has w g t cs) : g < w.heap.size := by
  rcases Nat.lt_or_ge g w.heap.size with hlt | hge
  · exact hlt
  · unfold Has at h; rw [Array.getElem?_eq_none hge] at h; cases h
theorem Has.cell (h : Has w g t cs) (i : Nat) : w.cell? ⟨g, i, none⟩ = cs[i]? := cell_of_row w g i cs t (0, 0) h
theorem Has.frozen (h : Has w g t cs) (i : Nat) : w.frozen? ⟨g, i, none⟩ = false := frozen_of_row w g i cs t h
theorem Has.new (w : World) (t : TypeId) (cs : Array Value) (g : Nat) (hg : g = w.heap.size) : Has (w.alloc (.cells cs t)) g t cs := by
  subst hg; exact heap_alloc_new w _
theorem Has.drew (h : Has w g t cs) : Has w.drew g t cs := h
theorem Has.drewN (h : Has w g t cs) (n : Nat) : Has (w.drewN n) g t cs := h
theorem Has.alloc (h : Has w g t cs) (o : Obj) : Has (w.alloc o) g t cs := (Below.heap_alloc w o g h.lt).trans h
theorem Has.set (h : Has w g t cs) (i : Nat) (u : Value) : Has (w.setCell ⟨g, i, none⟩ u) g t (cs.setIfInBounds i u) := heap_setCell_same w g i cs t u h
theorem Has.far (h : Has w g t cs) {p : Addr} (hp : g ≠ p.block) (u : Value) : Has (w.setCell p u) g t cs := (Below.heap_setCell w p u g hp).trans h
theorem Has.below {B : Nat} (h : Has w g t cs) (hb : Below B w w') (hg : g < B) : Has w' g t cs := (hb.block g hg).trans h
theorem Has.row (h : Has w g t cs) (cs' : Array Value) : Has (w.setRow g cs') g t cs' := setRow_heap w g cs cs' t _ h
theorem Has.rowfar (h : Has w g t cs) {g' : Nat} (hg : g ≠ g') (cs' : Array Value) : Has (w.setRow g' cs') g t cs := (setRow_other w g' g cs' hg).trans h
theorem Has.grown (h : Has w g t cs) {row : Option Nat} (hb : w.grownBy w' row) (hg : some g ≠ row) : Has w' g t cs := (hb.block g h.lt hg).trans h
end
/-- an element of an array by value -/
theorem run_index_arr {P : Program} (w : World) (t e n : Nat) (cs : Array Value) (k : Nat) (v : Value) (h : P.underlying t = some (.array n e)) (he : P.plainKey e = true)
    (hs : (P.info? e).map (·.size) = some 1) (hk : k < n) (hv : cs[k]? = some v) : (Instr.index t (.agg cs) (.int .i64 (k : Int))).run P w = .ok v w := by
  cases hq : P.info? e with
  | none => simp [hq] at hs
  | some i =>
    have hs1 : i.size = 1 := by simpa [hq] using hs
    have hp := run_part_plain (P := P) (w := w) he hv
    simp [Instr.index, run_underlying h, asIntOf, sizeOf, typeInfo, hq, hs1, go_sem]
    rw [if_pos hk]
    simpa [part, go_sem, sizeOf, typeInfo, hq, hs1] using hp
/-- a whole array out of cells -/
theorem run_load_at {P : Program} (w : World) (t e n g o : Nat) (cs : Array Value) (h : P.underlying t = some (.array n e)) (hi : (P.info? t).map (·.size) = some cs.size)
    (hc : ∀ j v, cs[j]? = some v → w.cell? ⟨g, o + j, none⟩ = some v) : (Instr.loadAt t (.pointer (some ⟨g, o, none⟩))).run P w = .ok (.agg cs) w := by
  have hl : (loadCells ⟨g, o, none⟩ cs.toList.length).run P w = .ok cs.toList.toArray w :=
    run_loadCells_list (P := P) w ⟨g, o, none⟩ cs.toList (fun j v hv => by
      have hadd : (⟨g, o, none⟩ : Addr).add j = ⟨g, o + j, none⟩ := by unfold Addr.add; split <;> simp_all
      rw [hadd]
      exact hc j v (by simpa using hv))
  cases hq : P.info? t with
  | none => simp [hq] at hi
  | some i =>
    have hs : i.size = cs.size := by simpa [hq] using hi
    have hagg : (isAgg t).run P w = .ok true w := by
      unfold isAgg
      rw [Sem.run_bind, run_underlying h w]
      rfl
    simp only [Array.length_toList, Array.toArray_toList] at hl
    simp [Instr.loadAt, Instr.sureAddr, loadVar, Sem.run_bind, hagg, sizeOf, typeInfo, hq, hs, hl]
theorem run_load_arr {P : Program} (w : World) (t e n g : Nat) (cs : Array Value) (h : P.underlying t = some (.array n e)) (hi : (P.info? t).map (·.size) = some cs.size)
    (hc : ∀ j v, cs[j]? = some v → w.cell? ⟨g, j, none⟩ = some v) : (Instr.loadAt t (.pointer (some ⟨g, 0, none⟩))).run P w = .ok (.agg cs) w :=
  run_load_at w t e n g 0 cs h hi (fun j v hv => by rw [Nat.zero_add]; exact hc j v hv)
/-- a whole array read, in a region that draws its order -/
theorem wpStill_load_row {P : Program} {ops : Array Oper} {rest : List Oper} {o : Oper} {a : Act} {w : World} {Q : Act → Prop} (hgd : o.guard = none) (t : TypeId) (x : Operand) (ho : o.op = .load t x)
    (ad : Addr) (hx : a.eval x = .pointer (some ad)) (cs : Array Value) (hr : (Instr.loadAt t (.pointer (some ad))).run P w = .ok (.agg cs) w)
    (h : wpStill P ops w Q rest (a.put o.dst (.agg cs))) : wpStill P ops w Q (o :: rest) a := by
  refine wpStill_step fun K hK => ?_
  simp only [Region.wanted, hgd, if_true]
  unfold Oper.still execOp
  simp only [ho, hx, Sem.run_bind, hr, Result.andThen_ok, Sem.run_pure]
  exact ⟨rfl, hK _ h⟩
/-- the same where the operation is guarded -/
theorem wpStill_load_if {P : Program} {ops : Array Oper} {rest : List Oper} {o : Oper} {a : Act} {w : World} {Q : Act → Prop} (hw : Region.wanted o (yielded ops a.tmps) = true) (t : TypeId) (x : Operand) (ho : o.op = .load t x)
    (ad : Addr) (hx : a.eval x = .pointer (some ad)) (cs : Array Value) (hr : (Instr.loadAt t (.pointer (some ad))).run P w = .ok (.agg cs) w)
    (h : wpStill P ops w Q rest (a.put o.dst (.agg cs))) : wpStill P ops w Q (o :: rest) a := by
  refine wpStill_step fun K hK => ?_
  rw [if_pos hw]
  unfold Oper.still execOp
  simp only [ho, hx, Sem.run_bind, hr, Result.andThen_ok, Sem.run_pure]
  exact ⟨rfl, hK _ h⟩
/-- single operations of a region that draws its order -/
theorem exec_load {P : Program} {o : Oper} {a : Act} {w : World} (t : TypeId) (x : Operand) (ho : o.op = .load t x) (ad : Addr) (hx : a.eval x = .pointer (some ad)) (v : Value)
    (hr : (Instr.loadAt t (.pointer (some ad))).run P w = .ok v w) : (execOp a.eval o).run P w = .ok (.value v) w := by
  unfold execOp
  simp only [ho, hx, Sem.run_bind, hr, Result.andThen_ok, Sem.run_pure]
theorem exec_move {P : Program} {o : Oper} {a : Act} {w : World} (x : Operand) (ho : o.op = .move x) (v : Value) (hx : a.eval x = v) : (execOp a.eval o).run P w = .ok (.value v) w := by
  unfold execOp
  simp only [ho, hx, Sem.run_pure]
theorem exec_slice {P : Program} {o : Oper} {a : Act} {w : World} (t : TypeId) (x : Operand) (lo hi : Option Operand) (ho : o.op = .slice t x lo hi none) (v vx : Value) (l h : Option Value) (hx : a.eval x = vx) (hl : lo.map a.eval = l) (hh : hi.map a.eval = h)
    (hr : (Instr.sliceAt t vx l h none).run P w = .ok v w) : (execOp a.eval o).run P w = .ok (.value v) w := by
  subst hx hl hh
  unfold execOp
  simp only [ho, Sem.run_bind, Option.map_none, hr, Result.andThen_ok, Sem.run_pure]
theorem exec_conv {P : Program} {o : Oper} {a : Act} {w : World} (t u : TypeId) (x : Operand) (ho : o.op = .convert t u x) (v vx : Value) (hx : a.eval x = vx)
    (hr : (convert t u vx).run P w = .ok v w) : (execOp a.eval o).run P w = .ok (.value v) w := by
  subst hx
  unfold execOp
  simp only [ho, Sem.run_bind, hr, Result.andThen_ok, Sem.run_pure]
theorem wpOp_step {P : Program} {ops : Array Oper} {Q : Exit → Act → World → Prop} {i : Nat} {o : Oper} {K : Act → World → Prop} {a : Act} {w : World} (hi : ops[i]? = some o) (hg : o.guard = none)
    (h : ∀ K' : Act → World → Prop, (∀ a w, K a w → K' a w) → o.wp P a w K' Q) : wpOp P ops Q i K a w := by
  unfold wpOp
  simp only [hi, Region.wanted, hg, if_true]
  exact .inl (h K fun _ _ h => h)
theorem below_row {B : Nat} {a w : World} (h : Below B a w) {g : Nat} (hg : B ≤ g) (cs : Array Value) : Below B a (w.setRow g cs) :=
  h.trans ⟨rfl, rfl, rfl, by simp, fun k hk => setRow_other w g k cs (by omega)⟩
theorem size_below {B : Nat} {a w : World} (h : Below B a w) : a.heap.size ≤ w.heap.size := h.size
end Go.Proofs.YtkdjhklnlnfhfaaGreatDoor
namespace Go.Proofs.YtkdjhklnlnfhfaaGreatDoor
open Go Go.RowKit
set_option maxRecDepth 4000

/-- a slice of bytes that reads as a list -/
def Sl (w : World) (A : Option Addr) (n c : Nat) (l : List (BitVec 8)) : Prop :=
  l.length = n ∧ n ≤ c ∧ (A = none → n = 0 ∧ c = 0) ∧ (0 < n → ∃ g o, A = some ⟨g, o, none⟩ ∧ ∀ j, j < n → w.cell? ⟨g, o + j, none⟩ = some (.int .u8 (ub (gb l j))))
theorem Sl.keep {w w' : World} {A : Option Addr} {n c : Nat} {l : List (BitVec 8)} (h : Sl w A n c l) (hb : Below w.heap.size w w') : Sl w' A n c l := by
  obtain ⟨h1, h2, h3, h4⟩ := h
  refine ⟨h1, h2, h3, fun hn => ?_⟩
  obtain ⟨g, o, e, hc⟩ := h4 hn
  exact ⟨g, o, e, fun j hj => (hb.cell (p := ⟨g, o + j, none⟩) (block_lt_of_cell (hc j hj))).trans (hc j hj)⟩
theorem Sl.some_ {w : World} {A : Option Addr} {n c : Nat} {l : List (BitVec 8)} (h : Sl w A n c l) (hn : 0 < n) : ∃ g o, A = some ⟨g, o, none⟩ ∧ ∀ j, j < n → w.cell? ⟨g, o + j, none⟩ = some (.int .u8 (ub (gb l j))) := h.2.2.2 hn
theorem Sl.of_has {w : World} {g t c : Nat} {l : List (BitVec 8)} (h : Has w g t (bv l)) (hc : l.length ≤ c) : Sl w (some ⟨g, 0, none⟩) l.length c l :=
  ⟨rfl, hc, (fun e => by cases e), fun _ => ⟨g, 0, rfl, fun j hj => by rw [Nat.zero_add]; exact (h.cell j).trans (bv_at l j hj)⟩⟩
theorem Sl.nil (w : World) : Sl w none 0 0 [] := ⟨rfl, Nat.le_refl _, fun _ => ⟨rfl, rfl⟩, fun h => absurd h (Nat.lt_irrefl 0)⟩
theorem gb_drop (l : List (BitVec 8)) (k j : Nat) : gb (l.drop k) j = gb l (k + j) := by
  simp [gb, List.getElem?_drop]
theorem gb_take (l : List (BitVec 8)) (k j : Nat) (h : j < k) : gb (l.take k) j = gb l j := by
  simp [gb, h]
theorem Sl.drop {w : World} {A : Option Addr} {n c : Nat} {l : List (BitVec 8)} (h : Sl w A n c l) (k : Nat) (hk : k ≤ n) :
    Sl w (if c = k then A else A.map (·.add k)) (n - k) (c - k) (l.drop k) := by
  obtain ⟨h1, h2, h3, h4⟩ := h
  refine ⟨by rw [List.length_drop, h1], by omega, ?_, fun hn => ?_⟩
  · intro e
    have hA : A = none := by
      by_cases hck : c = k
      · rwa [if_pos hck] at e
      · rw [if_neg hck] at e; cases A with
        | none => rfl
        | some a => cases e
    have := h3 hA
    omega
  · obtain ⟨g, o, rfl, hc⟩ := h4 (by omega)
    have hck : ¬ c = k := by omega
    refine ⟨g, o + k, ?_, fun j hj => ?_⟩
    · rw [if_neg hck]
      simp only [Option.map_some, Option.some.injEq]
      unfold Addr.add
      split <;> simp_all
    · rw [gb_drop, Nat.add_assoc]
      exact hc (k + j) (by omega)
theorem Sl.take {w : World} {A : Option Addr} {n c : Nat} {l : List (BitVec 8)} (h : Sl w A n c l) (k : Nat) (hk : k ≤ n) : Sl w A k c (l.take k) := by
  obtain ⟨h1, h2, h3, h4⟩ := h
  refine ⟨by rw [List.length_take]; omega, by omega, fun e => by have := h3 e; omega, fun hn => ?_⟩
  obtain ⟨g, o, rfl, hc⟩ := h4 (by omega)
  exact ⟨g, o, rfl, fun j hj => by rw [gb_take _ _ _ hj]; exact hc j (by omega)⟩
/-- cut at its head -/
theorem run_from {P : Program} (A : Option Addr) (n c t e : Nat) (ht : P.underlying t = some (.slice e)) (hs : (P.info? e).map (·.size) = some 1) (k : Nat) (x : Int) (hx : x = (k : Int)) (hk : k ≤ n) (w : World) :
    (Instr.sliceAt t (.slice A n c) (some (.int .i64 x)) none none).run P w = .ok (.slice (if c = k then A else A.map (·.add k)) (n - k) (c - k)) w := by
  subst hx
  cases hq : P.info? e with
  | none => simp [hq] at hs
  | some i =>
    have hs1 : i.size = 1 := by simpa [hq] using hs
    simp [Instr.sliceAt, Instr.slice, run_underlying ht, Instr.sliceBounds, Instr.sliceBound, asIntOf, sizeOf, typeInfo, hq, hs1, hk]
/-- cut at its end -/
theorem run_upto {P : Program} (A : Option Addr) (n c t e : Nat) (ht : P.underlying t = some (.slice e)) (hs : (P.info? e).map (·.size) = some 1) (k : Nat) (x : Int) (hx : x = (k : Int)) (hk : k ≤ c) (w : World) :
    (Instr.sliceAt t (.slice A n c) none (some (.int .i64 x)) none).run P w = .ok (.slice A k c) w := by
  subst hx
  cases hq : P.info? e with
  | none => simp [hq] at hs
  | some i =>
    simp [Instr.sliceAt, Instr.slice, run_underlying ht, Instr.sliceBounds, Instr.sliceBound, asIntOf, sizeOf, typeInfo, hq, hk]
    intro _; cases A <;> simp [Addr.add]
/-- append a slice that reads as a list, nil let in, onto a row of the call's own -/
theorem wpList_append_sl {P : Program} {w : World} {ops : Array Oper} {rest : List Oper} {o : Oper} {a : Act} {Q : Exit → Act → World → Prop} (hgd : o.guard = none) (s x : Operand) (t : TypeId)
    (ho : o.op = .call { callee := .builtin .append, args := #[s, x], argTypes := #[t, t] })
    (base : Nat) (e : TypeId) (ht : P.underlying t = some (.slice e)) (hi : (P.info? e).map (fun i => (i.zero, i.size, i.bytes)) = some (some (.int .u8 0), 1, 1))
    (v : Value) (n : Nat) (xs : List Value) (hs : a.eval s = v) (hown : w.ownsRow base e 1 v n xs)
    (A : Option Addr) (m c : Nat) (l : List (BitVec 8)) (hx : a.eval x = .slice A m c) (hl : Sl w A m c l)
    (h47 : n + m ≤ 140737488355328) (hbase : base ≤ w.heap.size)
    (h : ∀ v' w', w'.ownsRow base e 1 v' (n + m) (xs ++ l.map vb) → w.grownBy w' v.ownBlock → wpList P ops Q rest (a.put o.dst v') w') : wpList P ops Q (o :: rest) a w := by
  obtain ⟨i, hi0, hz, hs1, hb⟩ := info_parts hi
  cases A with
  | none =>
    obtain ⟨rfl, rfl⟩ := hl.2.2.1 rfl
    have hl0 : l = [] := List.eq_nil_of_length_eq_zero hl.1
    subst hl0
    exact wpList_append_own_none hgd s x t ho base e i 1 ht hi0 v n xs hs hown hx (h v w (by simpa using hown) (World.grownBy.refl w _))
  | some ad =>
    refine wpList_append_own w hgd s x t ho base e i (.int .u8 0) 1 1 ht hi0 hz hs1 hb rfl (by decide) v n xs hs hown ad m c (l.map vb) hx (by simp [hl.1]) ?_ ?_ (by unfold maxLen; omega) (by omega) hbase (fun v' w' h1 h2 _ => h v' w' h1 h2)
    · intro j u hu
      have hj : j < m := by
        have := (List.getElem?_eq_some_iff.1 hu).1
        simpa [hl.1] using this
      obtain ⟨g, o', e1, hc⟩ := hl.2.2.2 (by omega)
      obtain rfl := Option.some.inj e1
      have hadd : (⟨g, o', none⟩ : Addr).add j = ⟨g, o' + j, none⟩ := by unfold Addr.add; split <;> simp_all
      rw [hadd, hc j hj]
      rw [List.getElem?_map] at hu
      have hjl : j < l.length := by rw [hl.1]; exact hj
      rw [List.getElem?_eq_getElem hjl] at hu
      simpa [gb, hjl] using hu
    · intro u hu
      obtain ⟨b, _, rfl⟩ := List.mem_map.1 hu
      rfl
/-- a row of the call's own reads as a list -/
theorem Sl.of_own {w : World} {base e n : Nat} {v : Value} {l : List (BitVec 8)} (h : w.ownsRow base e 1 v n (l.map vb)) : ∃ A c, v = .slice A n c ∧ Sl w A n c l := by
  have hn : l.length = n := by have := h.1; simpa using this
  rcases h.2 with ⟨rfl, rfl⟩ | ⟨g, cap, cur, rfl, _, hh, hc, _, _, ht⟩
  · exact ⟨none, 0, rfl, hn, Nat.le_refl _, fun _ => ⟨rfl, rfl⟩, fun h0 => absurd h0 (Nat.lt_irrefl 0)⟩
  · refine ⟨some ⟨g, 0, none⟩, cap, rfl, hn, hc, (fun e1 => by cases e1), fun _ => ⟨g, 0, rfl, fun j hj => ?_⟩⟩
    have hjl : j < l.length := by omega
    have e1 : cur[j]? = (l.map vb)[j]? := by
      rw [← ht, List.getElem?_take_of_lt (by omega)]; simp
    have hcell : w.cell? ⟨g, 0 + j, none⟩ = cur[j]? := by rw [Nat.zero_add]; exact cell_of_row w g j cur e (0, 0) hh
    rw [hcell, e1, List.getElem?_map, List.getElem?_eq_getElem hjl]
    simp [gb, hjl]
end Go.Proofs.YtkdjhklnlnfhfaaGreatDoor
namespace Go.Proofs.YtkdjhklnlnfhfaaGreatDoor
open Go Go.RowKit
set_option maxRecDepth 4000

/-- the string of these bytes -/
def strOf (l : List (BitVec 8)) : ByteArray := ⟨(l.map UInt8.ofBitVec).toArray⟩
theorem fold_push (l : List (BitVec 8)) : ∀ s : ByteArray, (l.map ub).foldl (fun r n => r.push (UInt8.ofNat n.toNat)) s = ⟨s.data ++ (l.map UInt8.ofBitVec).toArray⟩ := by
  induction l with
  | nil => intro s; simp
  | cons b l ih =>
    intro s
    simp only [List.map_cons, List.foldl_cons]
    rw [ih]
    have e : UInt8.ofNat (ub b).toNat = UInt8.ofBitVec b := by
      unfold ub; rw [Int.toNat_natCast]
      apply UInt8.toNat_inj.1
      have := b.isLt
      simp
    rw [e]
    congr 1
    apply Array.ext'
    simp [ByteArray.push]
theorem run_str {P : Program} {w : World} {A : Option Addr} {n c : Nat} {l : List (BitVec 8)} (h : Sl w A n c l) (src dst e : TypeId)
    (hs : P.underlying src = some (.slice e)) (he : P.underlying e = some (.int .u8)) (hd : P.underlying dst = some .string) :
    (convert src dst (.slice A n c)).run P w = .ok (.string (strOf l)) w := by
  rw [run_convert_bytes_string w src dst e A n c hs he hd]
  cases A with
  | none =>
    obtain ⟨rfl, rfl⟩ := h.2.2.1 rfl
    have hl0 : l = [] := List.eq_nil_of_length_eq_zero h.1
    subst hl0
    rfl
  | some ad =>
    have hl : (loadCells ad n).run P w = .ok ((l.map ub).map (Value.int .u8)).toArray w := by
      have hlen : ((l.map ub).map (Value.int .u8)).length = n := by simp [h.1]
      have := run_loadCells_list (P := P) w ad ((l.map ub).map (Value.int .u8)) (fun j v hv => by
        have hj : j < n := by have := (List.getElem?_eq_some_iff.1 hv).1; rwa [hlen] at this
        obtain ⟨g, o, e1, hc⟩ := h.2.2.2 (by omega)
        obtain rfl := Option.some.inj e1
        have hadd : (⟨g, o, none⟩ : Addr).add j = ⟨g, o + j, none⟩ := by unfold Addr.add; split <;> simp_all
        rw [hadd, hc j hj, ← hv]
        have hjl : j < l.length := by rw [h.1]; exact hj
        simp [gb, hjl])
      rwa [hlen] at this
    rw [run_bytesToString w _ n c (l.map ub) hl, fold_push, show ByteArray.empty.data = #[] from rfl, Array.empty_append]
    rfl
end Go.Proofs.YtkdjhklnlnfhfaaGreatDoor
