/-
  What the rows' readings give the walks: the two listed tables of package sha.
-/
import Derived.Test.YticggkllfojgkaaDoorM9
import Derived.Test.YticggkllfojgkaaDoorVWg
namespace Go.Proofs.YticggkllfojgkaaDoor
open Go Go.ChangeShapes Go.WideShapes Go.ChangeAt Go.RowKit
set_option maxRecDepth 4000

/-- what the listed tables give -/
theorem tab_cells {n : String} {g t e k fuel : Nat} {W : World} {cs : Array Value} {L : List (BitVec 32)} {p : List MemPlace} (hg : Tryd.prog.globalNamed n = some g) (hv : W.var? Tryd.prog n = some cs)
    (ht : Tryd.prog.underlying t = some (.array k e)) (he : Tryd.prog.underlying e = some (.int .u32)) (hce : Tryd.prog.cellsOf e = 1) (hL : L.length = k)
    (hd : DataW.trod (fun _ => ()) Tryd.prog W 0 (fun _ => true) false fuel t cs.toList = some (.agg (L.map fun x => .lit (.int .u32 (un x))), p)) (j : Nat) (hj : j < k) :
    W.cell? ⟨g, j, none⟩ = some (.int .u32 (un (gw L j))) := by
  obtain ⟨xs, m, _, ex, _, hn, hel⟩ := DataW.trod_array ht hd
  have hE := hel j hj
  rw [hce, Nat.mul_one, List.getElem?_eq_getElem (by omega)] at hE
  obtain ⟨z, e1, e2, _⟩ := DataW.trod_int he hE
  rw [World.var?_cell hg hv j]
  have h1 : cs[j]? = some (.int .u32 z) := by
    have := congrArg (fun q : List Value => q[0]?) e1
    simpa [List.getElem?_take, List.getElem?_drop] using this
  rw [h1]
  have h2 : L.map (fun x => (DataW.lit (.int .u32 (un x)) : DataW Unit)) = xs.map (·.1) := by
    have := congrArg Prod.fst ex
    simpa using this
  have h3 := congrArg (fun q : List (DataW Unit) => q[j]?) h2
  have hjL : j < L.length := by omega
  have hjx : j < xs.length := by omega
  simp only [List.getElem?_map, List.getElem?_eq_getElem hjL, List.getElem?_eq_getElem hjx, Option.map_some, e2] at h3
  have h4 : un L[j] = z := by simpa using h3
  rw [← h4]
  simp [gw, hjL]
theorem dataK : (Rows.laid_charter_sha_constants : DataW Unit) = .agg (KK.map fun x => .lit (.int .u32 (un x))) := rfl
theorem dataH : (Rows.laid_charter_sha_beginning : DataW Unit) = .agg (HH.map fun x => .lit (.int .u32 (un x))) := rfl
theorem of_laid {W : World} (h : laidMetH Tryd.prog [("charter/sha.constants", Rows.laid_charter_sha_constants), ("charter/sha.beginning", Rows.laid_charter_sha_beginning)] W) : Laid W := by
  rw [MakeChecks.laidMetH_plain _ _ _ (by kernel_rfl)] at h
  obtain ⟨ps, ⟨g0, t0, cs0, f0, p0, q0, hg0, ht0, hv0, hd0, ⟨g1, t1, cs1, f1, p1, q1, hg1, ht1, hv1, hd1, _, _⟩, _⟩, _, _⟩ := h
  obtain rfl := Option.some.inj ((show Tryd.prog.globalNamed "charter/sha.constants" = some 2 by kernel_rfl).symm.trans hg0)
  obtain rfl := Option.some.inj ((show Tryd.prog.globalNamed "charter/sha.beginning" = some 1 by kernel_rfl).symm.trans hg1)
  obtain rfl := Option.some.inj ((show (Tryd.prog.globals[2]?).map (·.type) = some 135 by kernel_rfl).symm.trans ht0)
  obtain rfl := Option.some.inj ((show (Tryd.prog.globals[1]?).map (·.type) = some 96 by kernel_rfl).symm.trans ht1)
  rw [dataK] at hd0
  rw [dataH] at hd1
  exact ⟨tab_cells hg0 hv0 Tryd.underlying135 Tryd.underlying56 (by kernel_rfl) rfl hd0, tab_cells hg1 hv1 Tryd.underlying96 Tryd.underlying56 (by kernel_rfl) rfl hd1⟩
end Go.Proofs.YticggkllfojgkaaDoor
