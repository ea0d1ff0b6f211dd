/-
  slices.SortFunc laid.
-/
import Derived.Test.YtfipgmjaabggjaaVFw
import Derived.Test.YtfipgmjaabggjaaVEb
import Derived.Shelf.Lay
import Derived.Shelf.SlSortCmp.Whole1
namespace Go.Proofs.Ytfipgmjaabggjaa
open Go Go.RowKit Go.Shelf
set_option maxRecDepth 4000

shelf_lay_g SlLaysF.n6 Slsf 6 at Try 61 as SortLaid
#print axioms SortLaid
end Go.Proofs.Ytfipgmjaabggjaa
