/-
  PrimTimes.
-/
import Derived.Test.YtfipgmjaabggjaaVYe1
import Derived.Test.YtfipgmjaabggjaaVYe2
namespace Go.Proofs.Ytfipgmjaabggjaa
open Go Go.RowKit
set_option maxRecDepth 4000

theorem PrimTimes_any (y mo d h mi s : Int) (x : BitVec 8) {b : List (BitVec 8)} {B : Option Addr} {n c : Nat} {w : World} (hb : Bs w B n c b) : Calls Try.prog 6 #[.agg (tci y mo d h mi s), .int .u8 (ub x), .slice B n c] w fun e w' => e = .returned (.bool true) ∧ Below w.heap.size w w' := by
  by_cases hM : MayI y mo d h mi s
  · obtain ⟨t, ht, rfl, rfl, rfl, rfl, rfl, rfl⟩ := hM
    exact times_ok _ _ _ _ _ _ x hb t ht rfl
  · exact times_no _ _ _ _ _ _ x hb hM
end Go.Proofs.Ytfipgmjaabggjaa
