/-
  The laws' sameArcs; PrimOids.
-/
import Derived.Test.YtfipgmjaabggjaaDoorM23
import Derived.Test.YtfipgmjaabggjaaDoorM25
namespace Go.Proofs.YtfipgmjaabggjaaDoor
open Go Go.RowKit
set_option maxRecDepth 4000

set_option maxHeartbeats 2000000 in
theorem sameArcs_any {l : List Nat} {A B : Option Addr} {n c d : Nat} {w : World} (h1 : Rd vL w A n c l) (h2 : Rd vL w B n d l) (hn : n ≤ 100000) : Calls Tryd.prog 24 #[.slice A n c, .slice B n d] w fun e w' => e = .returned (.bool true) ∧ Ext w w' := by
  have HA := Kp.mk h1
  have HB := Kp.mk h2
  clear h1 h2
  go_enter Tryd.func24, Tryd.ntmps24
  go_wp2_with fail
  go_loopw [5] (fun i wr => ∃ j : Nat, j ≤ n ∧ i = .int .i64 (j : Int) ∧ Ext w wr) (fun i _ => n - (intOf i).toNat)
  case atStart => exact ⟨0, Nat.zero_le _, rfl, Ext.refl _⟩
  case round =>
    obtain ⟨j, hj, rfl, hx⟩ := hrel
    by_cases hlt : j < n
    · have b1 : (j : Int) < (n : Int) := by omega
      obtain ⟨g, o, rfl⟩ := HA.out.some_ (by omega)
      obtain ⟨g2, o2, rfl⟩ := HB.out.some_ (by omega)
      have c1 := (HA.out.ext hx).dig j hlt
      have c2 := (HB.out.ext hx).dig j hlt
      unfold vL at c1 c2
      generalize dg l j = x at *
      have s8 : IntKind.i64.wrap ((j : Int) + 1) = (j : Int) + 1 := by rw [IntKind.wrap_i64]; omega
      have HX := Kp.mk hx
      clear hx
      go_wp2_with fail
      go_quiet (fail)
      go_wp2_with fail
      go_roundw
      case rel => exact ⟨j + 1, hlt, by go_num, HX.out.trans (by (repeat (first | assumption | exact Ext.refl _ | apply Ext.drew | apply Ext.drewN | apply Ext.alloc | refine Ext.trans ?_ (by assumption))); first | done | fail)⟩
      case measure => simp [intOf]; omega
    · obtain rfl : j = n := by omega
      have b1 : ¬ (j : Int) < (j : Int) := by omega
      go_wp2_with fail
      go_ret
      exact ⟨rfl, hx.trans (by (repeat (first | assumption | exact Ext.refl _ | apply Ext.drew | apply Ext.drewN | apply Ext.alloc | refine Ext.trans ?_ (by assumption))); first | done | fail)⟩
end Go.Proofs.YtfipgmjaabggjaaDoor
