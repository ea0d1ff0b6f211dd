/-
  PrimLater.
-/
import Derived.Test.YtfipgmjaabggjaaVVk1
import Derived.Test.YtfipgmjaabggjaaVVk2
import Derived.Test.YtfipgmjaabggjaaVVk3
import Derived.Test.YtfipgmjaabggjaaVVk4
namespace Go.Proofs.Ytfipgmjaabggjaa
open Go Go.RowKit
set_option maxRecDepth 4000

theorem PrimLater_any (y mo d h mi s y2 mo2 d2_ h2 mi2 s2 : Int) {w : World} : Calls Try.prog 9 #[.agg (tci y mo d h mi s), .agg (tci y2 mo2 d2_ h2 mi2 s2)] w fun e w' => e = .returned (.bool true) ∧ Below w.heap.size w w' := by
  rcases later_cases y mo d h mi s with ⟨ta, hta, ea⟩ | hA
  · rcases later_cases y2 mo2 d2_ h2 mi2 s2 with ⟨tb, htb, eb⟩ | hB
    · exact later_yy _ _ _ _ _ _ _ _ _ _ _ _ w ta hta ea tb htb eb
    · exact later_yn _ _ _ _ _ _ _ _ _ _ _ _ w ta hta ea hB
  · rcases later_cases y2 mo2 d2_ h2 mi2 s2 with ⟨tb, htb, eb⟩ | hB
    · exact later_ny _ _ _ _ _ _ _ _ _ _ _ _ w hA tb htb eb
    · exact later_nn _ _ _ _ _ _ _ _ _ _ _ _ w hA hB
end Go.Proofs.Ytfipgmjaabggjaa
