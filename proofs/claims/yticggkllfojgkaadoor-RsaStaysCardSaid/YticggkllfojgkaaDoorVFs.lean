/-
  Package sha in those words.
-/
import Derived.Test.YticggkllfojgkaaDoorM1
import Derived.Test.YticggkllfojgkaaDoorVWf
import Derived.Test.YticggkllfojgkaaDoorVPm
namespace Go.Proofs.YticggkllfojgkaaDoor
open Go Go.RowKit
set_option maxRecDepth 4000

/-- the tables lie -/
structure Lay (w : World) : Prop where
  l : Laid w
theorem Lay.ext {w w' : World} (h : Lay w) (hx : Ext w w') : Lay w' := ⟨h.l.below hx.b (Nat.le_refl _)⟩
theorem sum_fr (l : List (BitVec 8)) (A : Option Addr) (n c : Nat) (w : World) (hl : Bs w A n c l) (hw : Lay w) (hn : n ≤ 140737488351232) :
    Calls Tryd.prog 54 #[.slice A n c] w (Fresh w 32 (dgH l)) := by
  refine (Sum_any l A n c w hl.s hw.l hn).mono ?_
  rintro e w' ⟨v, rfl, ho, hb⟩
  exact fresh_of ho hb
end Go.Proofs.YticggkllfojgkaaDoor
