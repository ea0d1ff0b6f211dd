/-
  slices.Replace at the end of a row.
-/
import Derived.Test.YthookcnkmlmgcaaDoorM14
namespace Go.Proofs.YthookcnkmlmgcaaDoor
open Go Go.RowKit
set_option maxRecDepth 4000

set_option maxHeartbeats 4000000 in
theorem Replace_end {w : World} {g i N c nv cv : Nat} {Av : Option Addr} {L lv : List (BitVec 8)} (ho : Own w 0 (.slice (some ⟨g, 0, none⟩) N c) N L) (hv : Bs w Av nv cv lv) (hn : 2 ≤ nv) (hn4 : nv ≤ 4) (hN : i + 1 = N) (hb : N ≤ 100000000000000) :
    Calls Tryd.prog 64 #[.slice (some ⟨g, 0, none⟩) N c, .int .i64 (i : Int), .int .i64 ((i : Int) + 1), .slice Av nv cv] w (RepR w (.slice (some ⟨g, 0, none⟩) N c) (i + nv) (L.take i ++ lv)) := by
  obtain ⟨cur, hB, hcl, hNc, hcm, ht⟩ := ho.cells_
  have hs1 := fun W => run_mid (P := Tryd.prog) g N c 29 5 Tryd.underlying29 szB i (i + 1) (i : Int) ((i : Int) + 1) rfl (by omega) (by omega) (by omega) (by omega) W
  have hs2 := fun W => run_upto (P := Tryd.prog) (some ⟨g, 0, none⟩) N c 29 5 Tryd.underlying29 szB i (i : Int) rfl (by omega) W
  have b1 : ((i : Int) == (i : Int) + 1) = false := beq_eq_false_iff_ne.2 (by omega)
  subst hN
  obtain ⟨T, hT⟩ : ∃ T, i + nv = T := ⟨_, rfl⟩
  have b3 : decide ((T : Int) < (i : Int) + 1) = false := decide_eq_false (by omega)
  have HO := Kp.mk (ho.take (show i ≤ i + 1 by omega))
  have HV := Kp.mk hv
  have hx : i + nv ≤ 140737488355328 := by omega
  have HT := Kp.mk hT
  rw [hT]
  clear ho hv hB hcl hNc hcm ht hn hn4 hb hT
  go_enter Tryd.func64, Tryd.ntmps64
  go_wp2_with (first | (at_builtin; refine wpList_append_m rfl (.tmp 32) (.tmp 33) rfl _ i (L.take i) rfl HO.out Av nv cv lv rfl HV.out hx T HT.out (L.take i ++ lv) rfl ?_; intro A5 c5 w5 ho5 ha5) | fail)
  go_ret
  exact ⟨_, _, rfl, ho5, ha5.mv⟩
end Go.Proofs.YthookcnkmlmgcaaDoor
