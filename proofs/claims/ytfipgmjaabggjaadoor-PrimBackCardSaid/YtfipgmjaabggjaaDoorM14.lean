/-
  The reference's Div, Rest.
  The reference's Exp, Gcd.
  rsa: secretMay, Check; the reference's odd, Public, Secret, Size; the laws' light, public, cut.
  The walk of the law NatDivs.
-/
import Derived.Test.YtfipgmjaabggjaaDoorM13
namespace Go.Proofs.YtfipgmjaabggjaaDoor
open Go Go.RowKit
set_option maxRecDepth 4000

theorem cons_dgs {x R : Nat} (hx : x < 65536) : vl 65536 ([x] ++ dgs 65536 R) = x + 65536 * R ∧ Dg 65536 ([x] ++ dgs 65536 R) :=
  ⟨by rw [List.singleton_append]; show x + 65536 * vl 65536 (dgs 65536 R) = _; rw [vl_dgs (by decide)], (Dg.one hx).append (cn_dgs (by decide) R).d⟩
theorem one_dgs {d : Nat} (h0 : d ≠ 0) (hd : d < 65536) : [d] = dgs 65536 d := dgs_of (by decide) ⟨Dg.one hd, by simpa using h0⟩ (by simp [vl])
theorem len_mul {r vb m : Nat} (h : r < 65536 * vb) (hb : (dgs 65536 vb).length = m) : (dgs 65536 r).length ≤ m + 1 := by
  refine (len_iff (by decide) r (m + 1)).2 ?_
  have h1 := (len_iff (B := 65536) (by decide) vb m).1 (by omega)
  rw [Nat.pow_succ]
  omega
theorem cmpI_ge {a b : Nat} (h : b ≤ a) : ¬ cmpI a b < 0 := by
  rcases Nat.lt_or_ge b a with h1 | h1
  · rw [cmpI_gt h1]; decide
  · rw [show a = b by omega, cmpI_eq]; decide
theorem litI_own (w : World) (x : Nat) (a : Int) (B : Nat) (ha : a = (x : Int)) (hB : B ≤ w.heap.size) : Rn (w.alloc (.cells #[.int .i64 a] it)) B (.slice (some ⟨w.heap.size, 0, none⟩) 1 1) 1 [x] := by
  subst ha
  exact Rw.has (Has.new w it _ _ rfl) (by rfl) hB (by decide)
/-- between the rounds -/
structure DvW (w : World) (a : List Nat) (vb n i R : Nat) (qs : List Nat) (A2 : Option Addr) (n2 c2 : Nat) (wr : World) : Prop where
  s : DivS 65536 a vb i qs R
  q : Rn wr w.heap.size (.slice (some ⟨w.heap.size, 0, none⟩) n n) n qs
  r : Rn wr (w.heap.size + 1) (.slice A2 n2 c2) n2 (dgs 65536 R)
  x : Ext w wr
  sz : w.heap.size + 1 ≤ wr.heap.size
structure DtW (w : World) (a : List Nat) (vb n k r d : Nat) (qs : List Nat) (A2 : Option Addr) (n2 c2 : Nat) (wr : World) : Prop where
  s : DivT 65536 a vb k qs r d
  q : Rn wr w.heap.size (.slice (some ⟨w.heap.size, 0, none⟩) n n) n qs
  r : Rn wr (w.heap.size + 1) (.slice A2 n2 c2) n2 (dgs 65536 r)
  x : Ext w wr
  sz : w.heap.size + 1 ≤ wr.heap.size
def DivR (w : World) (va vb : Nat) (e : Ending) (w' : World) : Prop :=
  ∃ A1 n1 c1 A2 n2 c2, e = .returned (.tuple #[.slice A1 n1 c1, .slice A2 n2 c2]) ∧ Rn w' w.heap.size (.slice A1 n1 c1) n1 (dgs 65536 (va / vb)) ∧ Rn w' w.heap.size (.slice A2 n2 c2) n2 (dgs 65536 (va % vb)) ∧ Ext w w'
end Go.Proofs.YtfipgmjaabggjaaDoor
namespace Go.Proofs.YtfipgmjaabggjaaDoor
open Go Go.RowKit
set_option maxRecDepth 4000

theorem lt_len {v m : Nat} (h : v < 65536 ^ m) : (dgs 65536 v).length ≤ m := (len_iff (by decide) v m).2 h
theorem lt16_mul {x y j k : Nat} (hx : x < 65536 ^ j) (hy : y < 65536 ^ k) : x * y < 65536 ^ (j + k) := by
  rw [Nat.pow_add]
  exact Nat.mul_lt_mul_of_lt_of_le hx (Nat.le_of_lt hy) (Nat.pow_pos (by decide))
theorem rd_ni {w : World} {A : Option Addr} {n c v m : Nat} (h : Rd vI w A n c (dgs 65536 v)) (hv : v < 65536 ^ m) (hm : m ≤ 1000000) : Ni w A n c v := ⟨h, by have := lt_len hv; have := h.len; omega⟩
theorem and1i (y : Nat) (hy : y < 4294967296) : bits .and .i64 (y : Int) 1 = ((y % 2 : Nat) : Int) := by
  show IntKind.i64.wrap ((BitVec.ofInt 64 (y : Int) &&& BitVec.ofInt 64 1).toNat : Int) = _
  rw [BitVec.ofInt_natCast, show BitVec.ofInt 64 1 = BitVec.ofNat 64 1 by decide, BitVec.toNat_and, BitVec.toNat_ofNat, BitVec.toNat_ofNat, Nat.mod_eq_of_lt (by omega), show 1 % 2 ^ 64 = 1 by decide, Nat.and_one_is_mod, IntKind.wrap_i64]
  omega
end Go.Proofs.YtfipgmjaabggjaaDoor
namespace Go.Proofs.YtfipgmjaabggjaaDoor
open Go Go.RowKit
set_option maxRecDepth 4000

theorem sec_cases (vn ve vd : Nat) : (SecOk vn ve vd ∧ PubOk vn ve ∧ 1 ≤ vd ∧ vd < vn) ∨ (¬ SecOk vn ve vd ∧ ¬ PubOk vn ve) ∨ (¬ SecOk vn ve vd ∧ PubOk vn ve ∧ vd < 1) ∨ (¬ SecOk vn ve vd ∧ PubOk vn ve ∧ 1 ≤ vd ∧ vn ≤ vd) := by
  unfold SecOk
  by_cases h : PubOk vn ve
  · simp only [h, true_and, not_true, false_and, false_or]
    omega
  · simp [h]
section
variable {A B D : Option Addr} {n c m d k f vn ve vd : Nat} {w : World}
theorem ref_cases (vn ve : Nat) : (PubOk vn ve ∧ 62 ≤ nb vn ∧ nb vn ≤ 128 ∧ vn % 2 = 1 ∧ ve % 2 = 1 ∧ 3 ≤ ve ∧ ve < vn) ∨ (¬ PubOk vn ve ∧ nb vn < 62) ∨ (¬ PubOk vn ve ∧ 62 ≤ nb vn ∧ 128 < nb vn) ∨ (¬ PubOk vn ve ∧ 62 ≤ nb vn ∧ nb vn ≤ 128 ∧ vn % 2 ≠ 1) ∨
    (¬ PubOk vn ve ∧ 62 ≤ nb vn ∧ nb vn ≤ 128 ∧ vn % 2 = 1 ∧ ve % 2 ≠ 1) ∨ (¬ PubOk vn ve ∧ 62 ≤ nb vn ∧ nb vn ≤ 128 ∧ vn % 2 = 1 ∧ ve % 2 = 1 ∧ ve < 3) ∨ (¬ PubOk vn ve ∧ 62 ≤ nb vn ∧ nb vn ≤ 128 ∧ vn % 2 = 1 ∧ ve % 2 = 1 ∧ 3 ≤ ve ∧ vn ≤ ve) := by
  unfold PubOk
  omega
end
end Go.Proofs.YtfipgmjaabggjaaDoor
namespace Go.Proofs.YtfipgmjaabggjaaDoor
open Go Go.RowKit
set_option maxRecDepth 4000

section
variable {w : World} {A B E : Option Addr} {n c m d k f va vb ve : Nat}
theorem rd_n {v k : Nat} (h : Rd vI w A n c (dgs 65536 v)) (hv : v < BB ^ k) : n ≤ 2 * k := by have h1 := len16 hv; have h2 := h.len; omega
end
end Go.Proofs.YtfipgmjaabggjaaDoor
