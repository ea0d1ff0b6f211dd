/-
  The reference by values; the walks of the laws NatCmps, NatMuls.
-/
import Derived.Test.YtpmoaccaknfodaaDoorOl
import Derived.Test.YtpmoaccaknfodaaDoorNc
import Derived.Test.YtpmoaccaknfodaaDoorNe
import Derived.Test.YtpmoaccaknfodaaDoorNf
namespace Go.Proofs.YtpmoaccaknfodaaDoor
open Go Go.RowKit

theorem len_iff {B : Nat} (hB : 2 ≤ B) (v k : Nat) : (dgs B v).length ≤ k ↔ v < B ^ k := by
  have hc := cn_dgs hB v
  have hv := vl_dgs hB v
  constructor
  · intro h
    have h1 := vl_lt (by omega) hc.d
    rw [hv] at h1
    exact Nat.lt_of_lt_of_le h1 (Nat.pow_le_pow_right (by omega) h)
  · intro h
    rcases Nat.lt_or_ge k (dgs B v).length with h2 | h2
    · have h1 := cn_lo (by omega) hc (fun e => by rw [e] at h2; simp at h2)
      rw [hv] at h1
      have h3 := Nat.pow_le_pow_right (n := B) (by omega) (show k ≤ (dgs B v).length - 1 by omega)
      omega
    · exact h2
theorem bb_pow (k : Nat) : BB ^ k = 65536 ^ (2 * k) := by rw [Nat.pow_mul]
theorem len16 {v k : Nat} (h : v < BB ^ k) : (dgs 65536 v).length ≤ 2 * k := (len_iff (by decide) v (2 * k)).2 (by rw [← bb_pow]; exact h)
theorem may_iff (v : Nat) : (dgs 65536 v).length ≤ 128 ↔ ¬ lng v := by
  have h1 := len_iff (B := 65536) (by decide) v (2 * 64)
  rw [← bb_pow] at h1
  rw [show (128 : Nat) = 2 * 64 from rfl, h1, ← len_iff (by decide)]
  unfold lng nl
  omega
/-- a slice of ints that reads as a number -/
structure Ni (w : World) (A : Option Addr) (n c v : Nat) : Prop where
  r : Rd vI w A n c (dgs 65536 v)
  n : n ≤ 1000000
theorem Ni.ext {w w' : World} {A : Option Addr} {n c v : Nat} (h : Ni w A n c v) (hx : Ext w w') : Ni w' A n c v := ⟨h.r.ext hx, h.n⟩
theorem Ni.of {w : World} {A : Option Addr} {n c v k : Nat} (h : Rd vI w A n c (dgs 65536 v)) (hv : v < BB ^ k) (hk : k ≤ 400) : Ni w A n c v := ⟨h, by have := len16 hv; have := h.len; omega⟩
section
variable {w : World} {A B : Option Addr} {n c m d va vb : Nat}
theorem SameV (ha : Rd vL w A n c (dgs BB va)) (hb : Ni w B m d va) : Calls Tryd.prog 8 #[.slice A n c, .slice B m d] w fun e w' => e = .returned (.bool true) ∧ Ext w w' := by
  refine Same_yes (l := dgs 65536 va) ?_ hb.r (cn_dgs (by decide) va).d ?_ (by have := hb.n; omega)
  · rw [jn_dgs (by decide)]
    exact ha
  · have h1 := ha.len
    have h2 := hb.r.len
    have h3 := hb.n
    have h4 : (jn 65536 (dgs 65536 va)).length ≤ (dgs 65536 va).length := by
      have : ∀ (l : List Nat), (jn 65536 l).length ≤ l.length := fun l => by
        induction l using jn.induct with
        | case1 => simp [jn]
        | case2 x => simp [jn]
        | case3 x y l ih => simp only [jn, List.length_cons]; omega
      exact this _
    rw [jn_dgs (by decide)] at h4
    change (dgs BB va).length ≤ _ at h4
    omega
end
theorem light_cases (n m : Nat) : (n ≤ 100 ∧ m ≤ 100) ∨ 100 < n ∨ (n ≤ 100 ∧ 100 < m) := by omega
end Go.Proofs.YtpmoaccaknfodaaDoor
