/-
  The walk of the laws' head: the document's examples hold.
  What the rows' readings give the walks: the two listed tables of package sha.
  What the rows' readings give the walks: the two listed tables of package sha, among four.
-/
import Derived.Test.YticggkllfojgkaaGreatDoorM21
import Derived.Test.YticggkllfojgkaaGreatDoorM0
import Derived.Lib.SlBytesConst
import Derived.Test.YticggkllfojgkaaGreatDoorM9
import Derived.Test.YticggkllfojgkaaGreatDoorM22
namespace Go.Proofs.YticggkllfojgkaaGreatDoor
open Go Go.RowKit
set_option maxRecDepth 4000

theorem str_up : strOf (dig KK HH [97, 98, 99]) = { data := #[186, 120, 22, 191, 143, 1, 207, 234, 65, 65, 64, 222, 93, 174, 34, 35, 176, 3, 97, 163, 150, 23, 122, 156, 180, 16, 255, 97, 242, 0, 21, 173] } := by
  decide +kernel
theorem tail64_0 : gb (tailTo 64 8) 0 = 128 := by decide +kernel
theorem tail64_62 : gb (tailTo 64 8) 62 = 2 := by decide +kernel
theorem tailLen64 : tailLen 64 = 64 := rfl

theorem sl_abc (w : World) : Sl (w.alloc (.cells #[.int .u8 97, .int .u8 98, .int .u8 99] 5 (3, 4))) (some ⟨w.heap.size, 0, none⟩) 3 3 [97, 98, 99] := by
  refine ⟨rfl, Nat.le_refl _, (fun e => by cases e), fun _ => ⟨_, 0, rfl, fun j hj => ?_⟩⟩
  rw [cell_of_row _ w.heap.size (0 + j) _ 5 (3, 4) (heap_alloc_new w _)]
  match j, hj with
  | 0, _ => rfl
  | 1, _ => rfl
  | 2, _ => rfl
theorem to_str {w : World} {A : Option Addr} {n c : Nat} {l : List (BitVec 8)} (h : Sl w A n c l) : (convert 26 9 (.slice A n c)).run Tryz.prog w = .ok (.string (strOf l)) w :=
  run_str h 26 9 5 Tryz.underlying26 Tryz.underlying5 Tryz.underlying9

end Go.Proofs.YticggkllfojgkaaGreatDoor
namespace Go.Proofs.YticggkllfojgkaaGreatDoor
open Go Go.ChangeShapes Go.WideShapes Go.ChangeAt Go.RowKit
set_option maxRecDepth 4000

/-- what the listed tables give -/
theorem tab_cells {n : String} {g t e k fuel : Nat} {W : World} {cs : Array Value} {L : List (BitVec 32)} {p : List MemPlace} (hg : Tryz.prog.globalNamed n = some g) (hv : W.var? Tryz.prog n = some cs)
    (ht : Tryz.prog.underlying t = some (.array k e)) (he : Tryz.prog.underlying e = some (.int .u32)) (hce : Tryz.prog.cellsOf e = 1) (hL : L.length = k)
    (hd : DataW.trod (fun _ => ()) Tryz.prog W 0 (fun _ => true) false fuel t cs.toList = some (.agg (L.map fun x => .lit (.int .u32 (un x))), p)) (j : Nat) (hj : j < k) :
    W.cell? ⟨g, j, none⟩ = some (.int .u32 (un (gw L j))) := by
  obtain ⟨xs, m, _, ex, _, hn, hel⟩ := DataW.trod_array ht hd
  have hE := hel j hj
  rw [hce, Nat.mul_one, List.getElem?_eq_getElem (by omega)] at hE
  obtain ⟨z, e1, e2, _⟩ := DataW.trod_int he hE
  rw [World.var?_cell hg hv j]
  have h1 : cs[j]? = some (.int .u32 z) := by
    have := congrArg (fun q : List Value => q[0]?) e1
    simpa [List.getElem?_take, List.getElem?_drop] using this
  rw [h1]
  have h2 : L.map (fun x => (DataW.lit (.int .u32 (un x)) : DataW Unit)) = xs.map (·.1) := by
    have := congrArg Prod.fst ex
    simpa using this
  have h3 := congrArg (fun q : List (DataW Unit) => q[j]?) h2
  have hjL : j < L.length := by omega
  have hjx : j < xs.length := by omega
  simp only [List.getElem?_map, List.getElem?_eq_getElem hjL, List.getElem?_eq_getElem hjx, Option.map_some, e2] at h3
  have h4 : un L[j] = z := by simpa using h3
  rw [← h4]
  simp [gw, hjL]
theorem dataK : (Rows.laid_charter_sha_constants : DataW Unit) = .agg (KK.map fun x => .lit (.int .u32 (un x))) := rfl
theorem dataH : (Rows.laid_charter_sha_beginning : DataW Unit) = .agg (HH.map fun x => .lit (.int .u32 (un x))) := rfl
theorem of_laid {W : World} (h : laidMetH Tryz.prog [("charter/sha.constants", Rows.laid_charter_sha_constants), ("charter/sha.beginning", Rows.laid_charter_sha_beginning)] W) : Laid W := by
  rw [MakeChecks.laidMetH_plain _ _ _ (by kernel_rfl)] at h
  obtain ⟨ps, ⟨g0, t0, cs0, f0, p0, q0, hg0, ht0, hv0, hd0, ⟨g1, t1, cs1, f1, p1, q1, hg1, ht1, hv1, hd1, _, _⟩, _⟩, _, _⟩ := h
  obtain rfl := Option.some.inj ((show Tryz.prog.globalNamed "charter/sha.constants" = some 2 by kernel_rfl).symm.trans hg0)
  obtain rfl := Option.some.inj ((show Tryz.prog.globalNamed "charter/sha.beginning" = some 0 by kernel_rfl).symm.trans hg1)
  obtain rfl := Option.some.inj ((show (Tryz.prog.globals[2]?).map (·.type) = some 109 by kernel_rfl).symm.trans ht0)
  obtain rfl := Option.some.inj ((show (Tryz.prog.globals[0]?).map (·.type) = some 63 by kernel_rfl).symm.trans ht1)
  rw [dataK] at hd0
  rw [dataH] at hd1
  exact ⟨tab_cells hg0 hv0 Tryz.underlying109 Tryz.underlying50 (by kernel_rfl) rfl hd0, tab_cells hg1 hv1 Tryz.underlying63 Tryz.underlying50 (by kernel_rfl) rfl hd1⟩
end Go.Proofs.YticggkllfojgkaaGreatDoor
namespace Go.Proofs.YticggkllfojgkaaGreatDoor
open Go Go.ChangeShapes Go.WideShapes Go.ChangeAt Go.RowKit
set_option maxRecDepth 4000

theorem of_laid4 {W : World} (h : laidMetH Tryz.prog [("unicode/utf8.acceptRanges", Rows.laid_unicode_utf8_acceptRanges), ("charter/sha.constants", Rows.laid_charter_sha_constants), ("charter/sha.beginning", Rows.laid_charter_sha_beginning), ("unicode/utf8.first", Rows.laid_unicode_utf8_first)] W) : Lay W := by
  rw [MakeChecks.laidMetH_plain _ _ _ (by kernel_rfl)] at h
  obtain ⟨ps, ⟨_, _, _, _, _, _, _, _, _, _, ⟨g0, t0, cs0, f0, p0, q0, hg0, ht0, hv0, hd0, ⟨g1, t1, cs1, f1, p1, q1, hg1, ht1, hv1, hd1, _, _⟩, _⟩, _⟩, _, _⟩ := h
  obtain rfl := Option.some.inj ((show Tryz.prog.globalNamed "charter/sha.constants" = some 2 by kernel_rfl).symm.trans hg0)
  obtain rfl := Option.some.inj ((show Tryz.prog.globalNamed "charter/sha.beginning" = some 0 by kernel_rfl).symm.trans hg1)
  obtain rfl := Option.some.inj ((show (Tryz.prog.globals[2]?).map (·.type) = some 109 by kernel_rfl).symm.trans ht0)
  obtain rfl := Option.some.inj ((show (Tryz.prog.globals[0]?).map (·.type) = some 63 by kernel_rfl).symm.trans ht1)
  rw [dataK] at hd0
  rw [dataH] at hd1
  exact ⟨⟨tab_cells hg0 hv0 Tryz.underlying109 Tryz.underlying50 (by kernel_rfl) rfl hd0, tab_cells hg1 hv1 Tryz.underlying63 Tryz.underlying50 (by kernel_rfl) rfl hd1⟩⟩
end Go.Proofs.YticggkllfojgkaaGreatDoor
