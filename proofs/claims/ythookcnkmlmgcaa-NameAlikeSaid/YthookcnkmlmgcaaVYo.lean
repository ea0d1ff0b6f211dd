/-
  The walk of the law NameAlike.
-/
import Derived.Test.YthookcnkmlmgcaaVIx
namespace Go.Proofs.Ythookcnkmlmgcaa
open Go Go.RowKit
set_option maxRecDepth 4000

end Go.Proofs.Ythookcnkmlmgcaa
