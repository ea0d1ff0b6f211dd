/-
  PrimCounts.
-/
import Derived.Test.YtfipgmjaabggjaaVVt1
import Derived.Test.YtfipgmjaabggjaaVVt2
import Derived.Test.YtfipgmjaabggjaaVVt3
import Derived.Test.YtfipgmjaabggjaaVVt4
namespace Go.Proofs.Ytfipgmjaabggjaa
open Go Go.RowKit
set_option maxRecDepth 4000

theorem PrimCounts_any (y mo d h mi s c : Int) {w : World} : Calls Try.prog 7 #[.agg (tci y mo d h mi s), .int .i64 c] w fun e w' => e = .returned (.bool true) ∧ Below w.heap.size w w' := by
  have hc : (c < 0 ∨ 315537897600 ≤ c) ∨ ∃ t : Tmt, MayT t ∧ c = (cntT t : Int) := by
    by_cases h1 : c < 0 ∨ 315537897600 ≤ c
    · exact .inl h1
    · obtain ⟨t, ht, he⟩ := moment_of c.toNat (by omega)
      exact .inr ⟨t, ht, by omega⟩
  have ha : (∃ t : Tmt, MayT t ∧ tci y mo d h mi s = tcs t) ∨ ¬ MayI y mo d h mi s := by
    by_cases hM : MayI y mo d h mi s
    · obtain ⟨t, ht, rfl, rfl, rfl, rfl, rfl, rfl⟩ := hM
      exact .inl ⟨t, ht, rfl⟩
    · exact .inr hM
  rcases ha with ⟨ta, hta, ea⟩ | ha <;> rcases hc with hc | ⟨tc, htc, ec⟩
  · exact counts_3 _ _ _ _ _ _ _ w ta hta ea hc
  · exact counts_4 _ _ _ _ _ _ _ w ta hta ea tc htc ec
  · exact counts_1 _ _ _ _ _ _ _ w ha hc
  · exact counts_2 _ _ _ _ _ _ _ w ha tc htc ec
end Go.Proofs.Ytfipgmjaabggjaa
