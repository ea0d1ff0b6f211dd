/-
  What the rows' readings give the walks: arrays of words and of bytes, slices of bytes.
-/
import Derived.Test.YthookcnkmlmgcaaRows
import Derived.Test.YthookcnkmlmgcaaVSl
import Derived.ProofKit
import Derived.LaidMore
import Derived.OpenShut
import Derived.Lay
import Derived.MakeChecks
import Derived.ChangeOld
import Derived.Stop.Joined
import Derived.SizedLaws
namespace Go.Proofs.Ythookcnkmlmgcaa
open Go Go.ChangeShapes Go.WideShapes Go.ChangeAt Go.RowKit
set_option maxRecDepth 4000

theorem ownKnob_none : ownKnob Try.prog.godebug = none := by kernel_rfl
theorem laidOut : laidOutB Try.prog = true := by kernel_rfl

section
variable {H : Type} {enc : TypeId × Value → H} {P : Program} {w : World} {base : Nat} {spare : Nat → Bool} {held : Bool}
theorem wf_u32 {n : Int} (h : (Lit.int .u32 n).wf = true) : ∃ x : BitVec 32, n = un x := by
  have hb := bounds_u32 h
  refine ⟨BitVec.ofNat 32 n.toNat, ?_⟩
  rw [un_ofNat _ (by omega)]; omega
theorem wf_u8 {n : Int} (h : (Lit.int .u8 n).wf = true) : ∃ x : BitVec 8, n = ub x := by
  have hb := bounds_u8 h
  refine ⟨BitVec.ofNat 8 n.toNat, ?_⟩
  rw [ub_ofNat]; omega
/-- cells that read as integers -/
theorem list_of_cells {α : Type} (f : α → Value) : ∀ (n : Nat) (cs : List Value), cs.length = n → (∀ i, i < n → ∃ x, cs[i]? = some (f x)) → ∃ l : List α, cs = l.map f ∧ l.length = n
  | 0, [], _, _ => ⟨[], rfl, rfl⟩
  | n + 1, c :: cs, hl, h => by
    obtain ⟨x, hx⟩ := h 0 (by omega)
    obtain ⟨l, rfl, hl2⟩ := list_of_cells f n cs (by simpa using hl) (fun i hi => by
      obtain ⟨y, hy⟩ := h (i + 1) (by omega)
      exact ⟨y, by simpa using hy⟩)
    have e : c = f x := by simpa using hx
    exact ⟨x :: l, by rw [e]; rfl, by simp [hl2]⟩
  | 0, _ :: _, hl, _ => by simp at hl
  | _ + 1, [], hl, _ => by simp at hl
theorem words_of_trod {t e n fuel : Nat} {cs : List Value} {x : DataW H × List MemPlace} (ht : P.underlying t = some (.array n e)) (he : P.underlying e = some (.int .u32)) (hce : P.cellsOf e = 1) (hct : P.cellsOf t = n)
    (h : DataW.trod enc P w base spare held fuel t cs = some x) : ∃ l : List (BitVec 32), cs = l.map vu ∧ l.length = n := by
  obtain ⟨xs, m, _, _, hl, hn, hel⟩ := DataW.trod_array ht h
  refine list_of_cells vu n cs (hl.trans hct) fun i hi => ?_
  have hE := hel i hi
  rw [hce, Nat.mul_one, List.getElem?_eq_getElem (by omega)] at hE
  obtain ⟨z, e1, _, hw⟩ := DataW.trod_int he hE
  obtain ⟨y, rfl⟩ := wf_u32 hw
  refine ⟨y, ?_⟩
  have := congrArg (fun q : List Value => q[0]?) e1
  simpa [List.getElem?_take, List.getElem?_drop] using this
theorem bytes_of_trod {t e n fuel : Nat} {cs : List Value} {x : DataW H × List MemPlace} (ht : P.underlying t = some (.array n e)) (he : P.underlying e = some (.int .u8)) (hce : P.cellsOf e = 1) (hct : P.cellsOf t = n)
    (h : DataW.trod enc P w base spare held fuel t cs = some x) : ∃ l : List (BitVec 8), cs = l.map vb ∧ l.length = n := by
  obtain ⟨xs, m, _, _, hl, hn, hel⟩ := DataW.trod_array ht h
  refine list_of_cells vb n cs (hl.trans hct) fun i hi => ?_
  have hE := hel i hi
  rw [hce, Nat.mul_one, List.getElem?_eq_getElem (by omega)] at hE
  obtain ⟨z, e1, _, hw⟩ := DataW.trod_int he hE
  obtain ⟨y, rfl⟩ := wf_u8 hw
  refine ⟨y, ?_⟩
  have := congrArg (fun q : List Value => q[0]?) e1
  simpa [List.getElem?_take, List.getElem?_drop] using this
/-- an array of words by value -/
theorem open_words {t e n base' : Nat} {v : Value} {d : DataW H} {p : List MemPlace} (ht : P.underlying t = some (.array n e)) (he : P.underlying e = some (.int .u32)) (hce : P.cellsOf e = 1) (hct : P.cellsOf t = n)
    (hv : Value.okWide P w .any base' t v) (h : DataW.Trod enc P w base spare held t v d p) : ∃ l : List (BitVec 32), v = .agg (wv l) ∧ l.length = n := by
  obtain ⟨cs, rfl, _, _⟩ : ∃ cs, v = .agg cs ∧ cs.size = P.cellsOf t ∧ Row.okWide P w .any base' t cs := by
    simpa [Value.okWide, ht] using hv
  obtain ⟨fuel, hf⟩ := h
  obtain ⟨l, e1, hl⟩ := words_of_trod ht he hce hct hf
  refine ⟨l, ?_, hl⟩
  congr 1
  apply Array.ext'
  simpa [wv, Value.cells] using e1
/-- an array of bytes by value -/
theorem open_block {t e n base' : Nat} {v : Value} {d : DataW H} {p : List MemPlace} (ht : P.underlying t = some (.array n e)) (he : P.underlying e = some (.int .u8)) (hce : P.cellsOf e = 1) (hct : P.cellsOf t = n)
    (hv : Value.okWide P w .any base' t v) (h : DataW.Trod enc P w base spare held t v d p) : ∃ l : List (BitVec 8), v = .agg (bv l) ∧ l.length = n := by
  obtain ⟨cs, rfl, _, _⟩ : ∃ cs, v = .agg cs ∧ cs.size = P.cellsOf t ∧ Row.okWide P w .any base' t cs := by
    simpa [Value.okWide, ht] using hv
  obtain ⟨fuel, hf⟩ := h
  obtain ⟨l, e1, hl⟩ := bytes_of_trod ht he hce hct hf
  refine ⟨l, ?_, hl⟩
  congr 1
  apply Array.ext'
  simpa [bv, Value.cells] using e1
/-- a slice of bytes that came in -/
theorem open_bytes {t e base' : Nat} {v : Value} {d : DataW H} {p : List MemPlace} (ht : P.underlying t = some (.slice e)) (he : P.underlying e = some (.int .u8)) (hce : P.cellsOf e = 1)
    (hv : Value.okWide P w .any base' t v) (h : DataW.Trod enc P w 0 (fun _ => true) held t v d p) : ∃ A n c l, v = .slice A n c ∧ Sl w A n c l ∧ c ≤ maxLen := by
  obtain ⟨a0, len, cap, rfl⟩ := okWide_slice ht hv
  obtain ⟨fuel, hf⟩ := h
  rcases open_ints ht he hce hf with ⟨hcs, _⟩ | ⟨a, len', cap', zs, hcs, _, hl, hm, hz, _, hcell, hwz⟩
  · simp [Value.cells] at hcs
    obtain ⟨rfl, rfl, rfl⟩ := hcs
    exact ⟨none, 0, 0, [], rfl, Sl.nil _, Nat.zero_le _⟩
  · simp [Value.cells] at hcs
    obtain ⟨rfl, rfl, rfl⟩ := hcs
    simp only [if_true] at hz
    have hx : ∀ i, i < zs.length → ∃ x : BitVec 8, (zs.map (Value.int .u8))[i]? = some (vb x) := fun i hi => by
      obtain ⟨y, hy⟩ := wf_u8 (hwz _ (List.getElem_mem hi))
      exact ⟨y, by simp [hi, hy]⟩
    obtain ⟨l, hl1, hl2⟩ := list_of_cells vb zs.length (zs.map (Value.int .u8)) (by simp) hx
    refine ⟨some a, len, cap, l.take len, rfl, ⟨by rw [List.length_take]; omega, hl, (fun e => by cases e), fun hn => ?_⟩, hm⟩
    obtain ⟨b, off, rfl, hc⟩ := ints_at hcell (by omega)
    refine ⟨b, off, rfl, fun j hj => ?_⟩
    rw [gb_take _ _ _ hj, hc j (by omega)]
    have e1 := congrArg (fun q : List Value => q[j]?) hl1
    have hjz : j < zs.length := by omega
    have hjl : j < l.length := by omega
    simp only [List.getElem?_map, List.getElem?_eq_getElem hjz, List.getElem?_eq_getElem hjl, Option.map_some] at e1
    simp only [List.getD_eq_getElem?_getD, List.getElem?_eq_getElem hjz, Option.getD_some, e1]
    simp [gb, hjl]
/-- a slice of bytes that came in, with what its data weighs -/
theorem open_bytes_z {t e base' : Nat} {v : Value} {d : DataW H} {p : List MemPlace} (ht : P.underlying t = some (.slice e)) (he : P.underlying e = some (.int .u8)) (hce : P.cellsOf e = 1)
    (hv : Value.okWide P w .any base' t v) (h : DataW.Trod enc P w 0 (fun _ => true) held t v d p) : ∃ A n c l, v = .slice A n c ∧ Sl w A n c l ∧ c ≤ maxLen ∧ (n = 0 ∨ ∃ es ss, d = .slice es ss ∧ n ≤ es.length + ss.length) := by
  obtain ⟨A, n, c, l, rfl, hs, hm⟩ := open_bytes ht he hce hv h
  refine ⟨A, n, c, l, rfl, hs, hm, ?_⟩
  obtain ⟨fuel, hf⟩ := h
  rcases open_ints ht he hce hf with ⟨hcs, _⟩ | ⟨a, len', cap', zs, hcs, _, hl, _, hz, hx, _, _⟩
  · simp [Value.cells] at hcs
    exact .inl hcs.2.1
  · simp [Value.cells] at hcs
    obtain ⟨rfl, rfl, rfl⟩ := hcs
    simp only [if_true] at hz
    refine .inr ⟨_, _, (congrArg Prod.fst hx), ?_⟩
    simp only [lits, List.length_map, List.length_take, List.length_drop]
    omega
theorem sized_bytes {ts : List TypeId} {ds : List (DataW H)} (h : (DataW.weightsEach P ts ds).all (· ≤ reachBytes) = true) {j t e n : Nat} {d : DataW H} (ht : ts[j]? = some t) (hd : ds[j]? = some d) (hu : P.underlying t = some (.slice e)) (hb : P.bytesOf e = 1)
    (hq : n = 0 ∨ ∃ es ss, d = .slice es ss ∧ n ≤ es.length + ss.length) : n ≤ 140737488355328 := by
  rcases hq with rfl | ⟨es, ss, rfl, hn⟩
  · omega
  · have h1 := sized_slice h ht hd hu
    have h2 := reachBytes_lt
    rw [hb] at h1
    omega
end
end Go.Proofs.Ythookcnkmlmgcaa
