/-
  What the rows' readings give the walks: the two listed tables of package sha, among four.
-/
import Derived.Test.YticggkllfojgkaaDoorVOp
import Derived.Test.YticggkllfojgkaaDoorVFs
namespace Go.Proofs.YticggkllfojgkaaDoor
open Go Go.ChangeShapes Go.WideShapes Go.ChangeAt Go.RowKit
set_option maxRecDepth 4000

theorem of_laid4 {W : World} (h : laidMetH Tryd.prog [("unicode/utf8.acceptRanges", Rows.laid_unicode_utf8_acceptRanges), ("charter/sha.constants", Rows.laid_charter_sha_constants), ("charter/sha.beginning", Rows.laid_charter_sha_beginning), ("unicode/utf8.first", Rows.laid_unicode_utf8_first)] W) : Lay W := by
  rw [MakeChecks.laidMetH_plain _ _ _ (by kernel_rfl)] at h
  obtain ⟨ps, ⟨_, _, _, _, _, _, _, _, _, _, ⟨g0, t0, cs0, f0, p0, q0, hg0, ht0, hv0, hd0, ⟨g1, t1, cs1, f1, p1, q1, hg1, ht1, hv1, hd1, _, _⟩, _⟩, _⟩, _, _⟩ := h
  obtain rfl := Option.some.inj ((show Tryd.prog.globalNamed "charter/sha.constants" = some 2 by kernel_rfl).symm.trans hg0)
  obtain rfl := Option.some.inj ((show Tryd.prog.globalNamed "charter/sha.beginning" = some 1 by kernel_rfl).symm.trans hg1)
  obtain rfl := Option.some.inj ((show (Tryd.prog.globals[2]?).map (·.type) = some 135 by kernel_rfl).symm.trans ht0)
  obtain rfl := Option.some.inj ((show (Tryd.prog.globals[1]?).map (·.type) = some 96 by kernel_rfl).symm.trans ht1)
  rw [dataK] at hd0
  rw [dataH] at hd1
  exact ⟨⟨tab_cells hg0 hv0 Tryd.underlying135 Tryd.underlying56 (by kernel_rfl) rfl hd0, tab_cells hg1 hv1 Tryd.underlying96 Tryd.underlying56 (by kernel_rfl) rfl hd1⟩⟩
end Go.Proofs.YticggkllfojgkaaDoor
