/-
  The reference's Add, Sub.
-/
import Derived.Test.YtpmoaccaknfodaaDoorNb
namespace Go.Proofs.YtpmoaccaknfodaaDoor
open Go Go.RowKit

theorem t_mod (x : Nat) : (x : Int).tmod 65536 = ((x % 65536 : Nat) : Int) := by
  rw [Int.tmod_eq_emod_of_nonneg (by omega)]; omega
end Go.Proofs.YtpmoaccaknfodaaDoor
