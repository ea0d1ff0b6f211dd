/-
  The reference's Plain.
-/
import Derived.Test.YthookcnkmlmgcaaGreatDoorM16
import Derived.Test.YthookcnkmlmgcaaGreatDoorM4
namespace Go.Proofs.YthookcnkmlmgcaaGreatDoor
open Go Go.RowKit
set_option maxRecDepth 4000

theorem gN_step (s : List (BitVec 8) × Bool) (x : BitVec 8) : gN s x = if x = 32 then (s.1, true) else ((if s.1 ≠ [] ∧ s.2 = true then s.1 ++ [32] else s.1) ++ [lowB x], false) := rfl
end Go.Proofs.YthookcnkmlmgcaaGreatDoor
