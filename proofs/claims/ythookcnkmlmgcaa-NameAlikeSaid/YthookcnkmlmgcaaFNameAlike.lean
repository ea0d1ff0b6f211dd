/-
  For any two names, the code tells that they are alike, and that one is within the other one, just when the reference does.
  Conditions: none.
-/
import Derived.Test.YthookcnkmlmgcaaVYo
import Derived.Test.YthookcnkmlmgcaaVOt
import Derived.Test.YthookcnkmlmgcaaVId
namespace Go.Proofs.Ythookcnkmlmgcaa
open Go Go.ChangeShapes Go.WideShapes Go.ChangeAt Go.RowKit
set_option maxRecDepth 4000

end Go.Proofs.Ythookcnkmlmgcaa
