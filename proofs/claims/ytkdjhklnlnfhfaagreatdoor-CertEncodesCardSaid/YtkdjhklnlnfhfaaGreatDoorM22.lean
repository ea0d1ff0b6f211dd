/-
  The reference's Add, Sub.
  The reference's Same (where it holds), May.
  The reference's Mul.
  The reference by values; the walks of the laws NatCmps, NatMuls.
-/
import Derived.Test.YtkdjhklnlnfhfaaGreatDoorM14
import Derived.Laws.MakeOwn
import Derived.Test.YtkdjhklnlnfhfaaGreatDoorM21
namespace Go.Proofs.YtkdjhklnlnfhfaaGreatDoor
open Go Go.RowKit
set_option maxRecDepth 4000

theorem t_mod (x : Nat) : (x : Int).tmod 65536 = ((x % 65536 : Nat) : Int) := by
  rw [Int.tmod_eq_emod_of_nonneg (by omega)]; omega
end Go.Proofs.YtkdjhklnlnfhfaaGreatDoor
namespace Go.Proofs.YtkdjhklnlnfhfaaGreatDoor
open Go Go.RowKit
set_option maxRecDepth 4000

end Go.Proofs.YtkdjhklnlnfhfaaGreatDoor
namespace Go.Proofs.YtkdjhklnlnfhfaaGreatDoor
open Go Go.RowKit
set_option maxRecDepth 4000

def zI (n : Nat) : Array Value := ((List.replicate n 0).map vI).toArray
/-- make(Num, n) -/
theorem run_makeI (n : Nat) (S : Int) (hS : S = (n : Int)) (hn : n ≤ 10000000000000) (w : World) :
    (Instr.makeSlice nm (.int .i64 S) (.int .i64 S)).run Tryz.prog w = .ok (.slice (some ⟨w.heap.size, 0, none⟩) n n) (w.alloc (.cells (zI n) it)) := by
  subst hS
  obtain ⟨i, hi, hz, hs, hb⟩ := info_parts inI
  have hr := run_make (P := Tryz.prog) w nm it i (.int .i64 0) Tryz.underlying74 hi hz .i64 .i64 (n : Int) (n : Int) (by omega) (by omega) (by rw [hb]; omega) (by omega)
  rw [hr, hs]
  simp only [Int.toNat_natCast, Nat.mul_one]
  rw [show (Value.int .i64 0).cells = #[Value.int .i64 0] from rfl]
  have e : madeCells #[Value.int .i64 0] n = zI n := by
    apply Array.ext_getElem?
    intro i
    by_cases h : i < n
    · simp [madeCells, zI, vI, h, Nat.mod_one]
    · simp [madeCells, zI, h]
  rw [e]
theorem makeI_own (w : World) (n : Nat) (hn : n ≤ 10000000000000) : Rn (w.alloc (.cells (zI n) it)) w.heap.size (.slice (some ⟨w.heap.size, 0, none⟩) n n) n (List.replicate n 0) :=
  Rw.has (Has.new w it _ _ rfl) (by simp) (Nat.le_refl _) (by unfold maxLen; omega)
end Go.Proofs.YtkdjhklnlnfhfaaGreatDoor
namespace Go.Proofs.YtkdjhklnlnfhfaaGreatDoor
open Go Go.RowKit
set_option maxRecDepth 4000

theorem len_iff {B : Nat} (hB : 2 ≤ B) (v k : Nat) : (dgs B v).length ≤ k ↔ v < B ^ k := by
  have hc := cn_dgs hB v
  have hv := vl_dgs hB v
  constructor
  · intro h
    have h1 := vl_lt (by omega) hc.d
    rw [hv] at h1
    exact Nat.lt_of_lt_of_le h1 (Nat.pow_le_pow_right (by omega) h)
  · intro h
    rcases Nat.lt_or_ge k (dgs B v).length with h2 | h2
    · have h1 := cn_lo (by omega) hc (fun e => by rw [e] at h2; simp at h2)
      rw [hv] at h1
      have h3 := Nat.pow_le_pow_right (n := B) (by omega) (show k ≤ (dgs B v).length - 1 by omega)
      omega
    · exact h2
theorem bb_pow (k : Nat) : BB ^ k = 65536 ^ (2 * k) := by rw [Nat.pow_mul]
theorem len16 {v k : Nat} (h : v < BB ^ k) : (dgs 65536 v).length ≤ 2 * k := (len_iff (by decide) v (2 * k)).2 (by rw [← bb_pow]; exact h)
theorem may_iff (v : Nat) : (dgs 65536 v).length ≤ 128 ↔ ¬ lng v := by
  have h1 := len_iff (B := 65536) (by decide) v (2 * 64)
  rw [← bb_pow] at h1
  rw [show (128 : Nat) = 2 * 64 from rfl, h1, ← len_iff (by decide)]
  unfold lng nl
  omega
/-- a slice of ints that reads as a number -/
structure Ni (w : World) (A : Option Addr) (n c v : Nat) : Prop where
  r : Rd vI w A n c (dgs 65536 v)
  n : n ≤ 1000000
theorem Ni.ext {w w' : World} {A : Option Addr} {n c v : Nat} (h : Ni w A n c v) (hx : Ext w w') : Ni w' A n c v := ⟨h.r.ext hx, h.n⟩
theorem Ni.of {w : World} {A : Option Addr} {n c v k : Nat} (h : Rd vI w A n c (dgs 65536 v)) (hv : v < BB ^ k) (hk : k ≤ 400) : Ni w A n c v := ⟨h, by have := len16 hv; have := h.len; omega⟩
section
variable {w : World} {A B : Option Addr} {n c m d va vb : Nat}
theorem OfV (ha : Nv w A n c va) : Calls Tryz.prog 33 #[.slice A n c] w (FreshN w va) := by
  obtain ⟨a, ha, rfl⟩ := ha
  exact Of_any ha.r ha.d (by have := ha.n; omega)
theorem RCmpV (ha : Ni w A n c va) (hb : Ni w B m d vb) (z : Int) (hz : cmpI va vb = z) : Calls Tryz.prog 70 #[.slice A n c, .slice B m d] w fun e w' => e = .returned (.int .i64 z) ∧ Ext w w' := by
  have h := cmp_any ha.r hb.r (cn_dgs (by decide) va) (cn_dgs (by decide) vb) (by have := ha.n; omega) (by have := hb.n; omega)
  rw [vl_dgs (B := 65536) (by decide), vl_dgs (B := 65536) (by decide), hz] at h
  exact h
end
theorem light_cases (n m : Nat) : (n ≤ 100 ∧ m ≤ 100) ∨ 100 < n ∨ (n ≤ 100 ∧ 100 < m) := by omega
end Go.Proofs.YtkdjhklnlnfhfaaGreatDoor
