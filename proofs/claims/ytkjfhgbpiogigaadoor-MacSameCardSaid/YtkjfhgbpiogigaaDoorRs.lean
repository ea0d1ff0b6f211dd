/-
  The reference's tables and digest in the words of calls one behind the other.
-/
import Derived.Test.YtkjfhgbpiogigaaDoorFs
import Derived.Test.YtkjfhgbpiogigaaDoorRm
namespace Go.Proofs.YtkjfhgbpiogigaaDoor
open Go Go.RowKit

/-- the reference's constants lie there -/
structure Tab (w : World) (A : Option Addr) (c : Nat) : Prop where
  o : Ow w A 64 c (KK.map vu)
theorem Tab.ext {w w' : World} {A : Option Addr} {c : Nat} (h : Tab w A c) (hx : Ext w w') : Tab w' A c := ⟨h.o.keep hx.b⟩
theorem made_fr (w : World) : Calls Tryd.prog 29 #[] w fun e w' => ∃ A c, e = .returned (.agg (tab A c HH)) ∧ Tab w' A c ∧ Ext w w' := by
  refine (Made_gen KK HH HH_len Constants_any Beginning_any w).mono ?_
  rintro e w' ⟨A, c, rfl, ho, hb⟩
  exact ⟨A, c, rfl, ⟨ho⟩, ⟨hb⟩⟩
theorem refsum_fr {A B : Option Addr} {c n d : Nat} {l : List (BitVec 8)} {w : World} (ht : Tab w A c) (hl : Bs w B n d l) (hn : n ≤ 2000) :
    Calls Tryd.prog 30 #[.agg (tab A c HH), .slice B n d] w (Fresh w 32 (dg l)) := by
  refine (refSum_any KK HH l A c B n d w HH_len KK_len ht.o hl.s hn).mono ?_
  rintro e w' ⟨v, rfl, ho, hb⟩
  exact fresh_of ho hb
/-- the load of the tables, behind a name: the walk doesn't open it cell by cell -/
def loadT (v : Value) : Sem Value := Instr.loadAt 47 v
theorem loadT_eq (v : Value) : Instr.loadAt 47 v = loadT v := rfl
theorem run_loadT {w w' : World} {g : Nat} {A : Option Addr} {c : Nat} (h : Blk w g 47 (tab A c HH)) (hx : Ext w w') : (loadT (.pointer (some ⟨g, 0, none⟩))).run Tryd.prog w' = .ok (.agg (tab A c HH)) w' :=
  run_loadAt_mid w' g 0 47 (tab A c HH).toList _ (fun j v hv => by
    rw [Nat.zero_add, (h.ext hx).h.cell j, ← hv]
    simp) Tryd.underlying47 rfl (tab_size A c HH)
end Go.Proofs.YtkjfhgbpiogigaaDoor
