/-
  The digest as plain lists.
-/
import Derived.Test.YticggkllfojgkaaDoorM0
namespace Go.Proofs.YticggkllfojgkaaDoor
open Go
set_option maxRecDepth 4000

def b8 (x : BitVec 32) : BitVec 8 := x.setWidth 8
def bytes4 (x : BitVec 32) : List (BitVec 8) := [b8 (x >>> 24), b8 (x >>> 16), b8 (x >>> 8), b8 x]
def digTo (ws : List (BitVec 32)) : Nat → List (BitVec 8)
  | 0 => []
  | k + 1 => digTo ws k ++ bytes4 (gw ws k)
theorem digTo_len (ws : List (BitVec 32)) (k : Nat) : (digTo ws k).length = 4 * k := by
  induction k with
  | zero => rfl
  | succ k ih => simp [digTo, bytes4, ih]; omega
/-- what stands behind the whole blocks, and the tail -/
def endL (l : List (BitVec 8)) : List (BitVec 8) := l.drop (64 * (l.length / 64)) ++ tailTo l.length 8
theorem endL_len (l : List (BitVec 8)) : (endL l).length = l.length - 64 * (l.length / 64) + tailLen l.length := by
  simp [endL, tailTo_len]
def digW (K H : List (BitVec 32)) (l : List (BitVec 8)) : List (BitVec 32) :=
  pa K (endL l) (pa K (l.take (64 * (l.length / 64))) H (64 * (l.length / 64) / 64)) ((endL l).length / 64)
def dig (K H : List (BitVec 32)) (l : List (BitVec 8)) : List (BitVec 8) := digTo (digW K H l) 8
theorem digW_len (K H : List (BitVec 32)) (l : List (BitVec 8)) (h : H.length = 8) : (digW K H l).length = 8 := pa_len _ _ _ (pa_len _ _ _ h _) _
theorem dig_len (K H : List (BitVec 32)) (l : List (BitVec 8)) : (dig K H l).length = 32 := digTo_len _ 8
@[go_sem] theorem un_b8 (x : BitVec 32) : un x % (256 : Int) = ub (b8 x) := by
  unfold un ub b8; rw [BitVec.toNat_setWidth]; omega
theorem wv8 (q : List (BitVec 32)) (h : q.length = 8) : wv q = #[.int .u32 (un (gw q 0)), .int .u32 (un (gw q 1)), .int .u32 (un (gw q 2)), .int .u32 (un (gw q 3)), .int .u32 (un (gw q 4)), .int .u32 (un (gw q 5)), .int .u32 (un (gw q 6)), .int .u32 (un (gw q 7))] := by
  match q, h with
  | [a, b, c, d, e, f, g, i], _ => rfl
end Go.Proofs.YticggkllfojgkaaDoor
