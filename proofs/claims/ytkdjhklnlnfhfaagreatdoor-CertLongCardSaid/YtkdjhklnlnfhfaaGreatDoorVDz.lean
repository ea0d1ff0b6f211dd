/-
  The law CertLong.
-/
import Derived.Test.YtkdjhklnlnfhfaaGreatDoorVDy1
import Derived.Test.YtkdjhklnlnfhfaaGreatDoorVDy2
namespace Go.Proofs.YtkdjhklnlnfhfaaGreatDoor
open Go Go.RowKit
set_option maxRecDepth 4000

theorem CertLong_any {w : World} (n m : Int) : Calls Tryz.prog 5 #[.int .i64 n, .int .i64 m] w fun e w' => e = .returned (.bool true) ∧ Ext w w' := by
  by_cases h1 : n < 0
  · exact CertLong_1 n m h1
  by_cases h2 : 70000 < n
  · exact CertLong_2 n m h2
  by_cases h3 : m < 0
  · exact CertLong_3 n m (by omega) (by omega) h3
  by_cases h4 : 70000 < m
  · exact CertLong_4 n m (by omega) (by omega) h4
  exact CertLong_0 n m (by omega) (by omega) (by omega) (by omega)
end Go.Proofs.YtkdjhklnlnfhfaaGreatDoor
