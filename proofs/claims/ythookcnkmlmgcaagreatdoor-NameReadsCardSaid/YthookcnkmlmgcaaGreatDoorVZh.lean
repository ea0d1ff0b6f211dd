/-
  unicode/utf8's two tables, as the row lists them, are what the walk of Valid asks of the world.
-/
import Derived.Test.YthookcnkmlmgcaaGreatDoorVZe
import Derived.Test.YthookcnkmlmgcaaGreatDoorRows
import Derived.Test.YthookcnkmlmgcaaGreatDoorM7
import Derived.Test.YthookcnkmlmgcaaGreatDoorTie
import Derived.SevenTiedAt
import Derived.PinnedBridge
import Derived.Lib.LaidU8T
namespace Go.Proofs.YthookcnkmlmgcaaGreatDoor
open Go Go.ChangeShapes Go.WideShapes Go.ChangeAt Go.RowKit Go.Shelf
set_option maxRecDepth 4000

/-- the shelf's numbers of types and variables, for this program -/
def ren8 : Ren := ⟨fun x => x, fun t => if t = 5 then 5 else if t = 119 then 147 else if t = 138 then 149 else 150, fun g => if g = 3 then 1 else 2⟩
theorem u8types : U8Types Tryz.prog ren8 := ⟨by kernel_rfl, by kernel_rfl, by kernel_rfl, by kernel_rfl⟩
theorem u8extra : U8Extra Tryz.prog ren8 := ⟨by kernel_rfl, by kernel_rfl, by kernel_rfl, by kernel_rfl, by kernel_rfl, by kernel_rfl, by kernel_rfl⟩
theorem first_eq : Rows.laid_unicode_utf8_first = Lib.firstData := by kernel_rfl
theorem accept_eq : (Rows.laid_unicode_utf8_acceptRanges : DataW Unit) = Lib.acceptData := by kernel_rfl
theorem tabs8_of_laid {W : World} (h : laidMetH Tryz.prog [("unicode/utf8.acceptRanges", Rows.laid_unicode_utf8_acceptRanges), ("unicode/utf8.first", Rows.laid_unicode_utf8_first)] W) : Tabs8 W := by
  rw [MakeChecks.laidMetH_plain _ _ _ (by kernel_rfl)] at h
  have h1 := Lib.laidMet.reads h (n := "unicode/utf8.first") (d := Rows.laid_unicode_utf8_first) (by simp)
  have h2 := Lib.laidMet.reads h (n := "unicode/utf8.acceptRanges") (d := Rows.laid_unicode_utf8_acceptRanges) (by simp)
  rw [first_eq] at h1
  rw [accept_eq] at h2
  exact utf8Tabs_of_readsT u8types u8extra h1 h2
#print axioms tabs8_of_laid
end Go.Proofs.YthookcnkmlmgcaaGreatDoor
