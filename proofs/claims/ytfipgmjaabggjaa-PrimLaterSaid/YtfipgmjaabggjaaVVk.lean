/-
  PrimLater.
-/
import Derived.Test.YtfipgmjaabggjaaVVj
namespace Go.Proofs.Ytfipgmjaabggjaa
open Go Go.RowKit
set_option maxRecDepth 4000

theorem later_cases (y mo d h mi s : Int) : (∃ t : Tmt, MayT t ∧ tci y mo d h mi s = tcs t) ∨ ¬ MayI y mo d h mi s := by
  by_cases hM : MayI y mo d h mi s
  · obtain ⟨t, ht, rfl, rfl, rfl, rfl, rfl, rfl⟩ := hM
    exact .inl ⟨t, ht, rfl⟩
  · exact .inr hM
end Go.Proofs.Ytfipgmjaabggjaa
