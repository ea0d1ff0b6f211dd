/-
  PrimCounts.
-/
import Derived.Test.YtfipgmjaabggjaaVVs
import Derived.Test.YtfipgmjaabggjaaVVq
import Derived.Test.YtfipgmjaabggjaaVVj
namespace Go.Proofs.Ytfipgmjaabggjaa
open Go Go.RowKit
set_option maxRecDepth 4000

def lastT : Tmt := ⟨9999, 12, 31, 23, 59, 59⟩
theorem last_may : MayT lastT := ⟨by decide, by decide, by decide, by decide, by decide, by decide, by decide, by decide, by decide⟩
theorem cnt_mk (y mo d h mi s : Nat) : cntT ⟨y, mo, d, h, mi, s⟩ = (ydN (y - 1) + mdN y (mo - 1) + (d - 1)) * 86400 + h * 3600 + mi * 60 + s := rfl
theorem last_cnt : cntT lastT = 315537897599 := by
  have h1 : ydN 9998 = 3651694 := by have := ydN_eq 9998; omega
  have h2 : mdN 9999 11 = 334 := by decide
  unfold lastT
  rw [cnt_mk, show (9999 : Nat) - 1 = 9998 from rfl, show (12 : Nat) - 1 = 11 from rfl, h1, h2]
theorem may_of {y mo d h mi s : Int} {t : Tmt} (ht : MayT t) (e : tci y mo d h mi s = tcs t) : MayI y mo d h mi s := by
  unfold tcs tci at e
  simp only [Array.mk.injEq, List.cons.injEq, Value.int.injEq, true_and, and_true] at e
  exact ⟨t, ht, e.1, e.2.1, e.2.2.1, e.2.2.2.1, e.2.2.2.2.1, e.2.2.2.2.2⟩
end Go.Proofs.Ytfipgmjaabggjaa
