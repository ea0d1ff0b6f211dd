/-
  What the rows' readings give the walks: the listed table of package aes.
-/
import Derived.Test.YtjjoghdlbnlicaaDoorOpg
import Derived.Test.YtjjoghdlbnlicaaDoorAw
namespace Go.Proofs.YtjjoghdlbnlicaaDoor
open Go Go.ChangeShapes Go.WideShapes Go.ChangeAt Go.RowKit

theorem tab8_cells {n : String} {g t e k fuel : Nat} {W : World} {cs : Array Value} {L : List (BitVec 8)} {p : List MemPlace} (hg : Tryd.prog.globalNamed n = some g) (hv : W.var? Tryd.prog n = some cs)
    (ht : Tryd.prog.underlying t = some (.array k e)) (he : Tryd.prog.underlying e = some (.int .u8)) (hce : Tryd.prog.cellsOf e = 1) (hL : L.length = k)
    (hd : DataW.trod (fun _ => ()) Tryd.prog W 0 (fun _ => true) false fuel t cs.toList = some (.agg (L.map fun x => .lit (.int .u8 (ub x))), p)) (j : Nat) (hj : j < k) :
    W.cell? ⟨g, j, none⟩ = some (.int .u8 (ub (gb L j))) := by
  obtain ⟨xs, m, _, ex, _, hn, hel⟩ := DataW.trod_array ht hd
  have hE := hel j hj
  rw [hce, Nat.mul_one, List.getElem?_eq_getElem (by omega)] at hE
  obtain ⟨z, e1, e2, _⟩ := DataW.trod_int he hE
  rw [World.var?_cell hg hv j]
  have h1 : cs[j]? = some (.int .u8 z) := by
    have := congrArg (fun q : List Value => q[0]?) e1
    simpa [List.getElem?_take, List.getElem?_drop] using this
  rw [h1]
  have h2 : L.map (fun x => (DataW.lit (.int .u8 (ub x)) : DataW Unit)) = xs.map (·.1) := by
    have := congrArg Prod.fst ex
    simpa using this
  have h3 := congrArg (fun q : List (DataW Unit) => q[j]?) h2
  have hjL : j < L.length := by omega
  have hjx : j < xs.length := by omega
  simp only [List.getElem?_map, List.getElem?_eq_getElem hjL, List.getElem?_eq_getElem hjx, Option.map_some, e2] at h3
  have h4 : ub L[j] = z := by simpa using h3
  rw [← h4]
  simp [gb, hjL]
theorem dataS : (Rows.laid_charter_aes_substitutes : DataW Unit) = .agg (SB.map fun x => .lit (.int .u8 (ub x))) := by kernel_rfl
theorem of_laid3 {W : World} (h : laidMetH Tryd.prog [("charter/aes.substitutes", Rows.laid_charter_aes_substitutes)] W) : Lay3 W := by
  rw [MakeChecks.laidMetH_plain _ _ _ (by kernel_rfl)] at h
  obtain ⟨ps, ⟨g0, t0, cs0, f0, p0, q0, hg0, ht0, hv0, hd0, _, _⟩, _, _⟩ := h
  obtain rfl := Option.some.inj ((show Tryd.prog.globalNamed "charter/aes.substitutes" = some 0 by kernel_rfl).symm.trans hg0)
  obtain rfl := Option.some.inj ((show (Tryd.prog.globals[0]?).map (·.type) = some 60 by kernel_rfl).symm.trans ht0)
  rw [dataS] at hd0
  exact ⟨fun j hj => tab8_cells hg0 hv0 Tryd.underlying60 Tryd.underlying5 (by kernel_rfl) SB_len hd0 j hj⟩
end Go.Proofs.YtjjoghdlbnlicaaDoor
