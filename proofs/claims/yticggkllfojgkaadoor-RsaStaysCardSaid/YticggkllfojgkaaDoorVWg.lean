/-
  The walk of the laws' head: the document's examples hold.
-/
import Derived.Test.YticggkllfojgkaaDoorVWf
import Derived.Test.YticggkllfojgkaaDoorM0
import Derived.Lib.SlBytesConst
namespace Go.Proofs.YticggkllfojgkaaDoor
open Go Go.RowKit
set_option maxRecDepth 4000

theorem str_up : strOf (dig KK HH [97, 98, 99]) = { data := #[186, 120, 22, 191, 143, 1, 207, 234, 65, 65, 64, 222, 93, 174, 34, 35, 176, 3, 97, 163, 150, 23, 122, 156, 180, 16, 255, 97, 242, 0, 21, 173] } := by
  decide +kernel
theorem tail64_0 : gb (tailTo 64 8) 0 = 128 := by decide +kernel
theorem tail64_62 : gb (tailTo 64 8) 62 = 2 := by decide +kernel
theorem tailLen64 : tailLen 64 = 64 := rfl

theorem sl_abc (w : World) : Sl (w.alloc (.cells #[.int .u8 97, .int .u8 98, .int .u8 99] 5 (3, 4))) (some ⟨w.heap.size, 0, none⟩) 3 3 [97, 98, 99] := by
  refine ⟨rfl, Nat.le_refl _, (fun e => by cases e), fun _ => ⟨_, 0, rfl, fun j hj => ?_⟩⟩
  rw [cell_of_row _ w.heap.size (0 + j) _ 5 (3, 4) (heap_alloc_new w _)]
  match j, hj with
  | 0, _ => rfl
  | 1, _ => rfl
  | 2, _ => rfl
theorem to_str {w : World} {A : Option Addr} {n c : Nat} {l : List (BitVec 8)} (h : Sl w A n c l) : (convert 26 9 (.slice A n c)).run Tryd.prog w = .ok (.string (strOf l)) w :=
  run_str h 26 9 5 Tryd.underlying26 Tryd.underlying5 Tryd.underlying9

end Go.Proofs.YticggkllfojgkaaDoor
