/-
  slices.Replace of one byte by some new ones, in a row of the call's own: at its end, with room, without.
-/
import Derived.Test.YthookcnkmlmgcaaDoorM11
import Derived.Lib.AppendZerosOnto
import Derived.Lib.SliceRun
import Derived.Lib.Overlaps
import Derived.Test.YthookcnkmlmgcaaDoorM13
namespace Go.Proofs.YthookcnkmlmgcaaDoor
open Go Go.RowKit
set_option maxRecDepth 4000

/-- zeros appended to a row without room -/
theorem run_zeros {w : World} {B g n c : Nat} {L : List (BitVec 8)} (h : Own w B (.slice (some ⟨g, 0, none⟩) n c) n L) (k : Nat) (h0 : 0 < k) (hc : c < n + k) (hm : n + k ≤ 140737488351232) :
    ∃ Z : List Value, ∃ G : Nat, (∀ ty, (Builtin.append_ #[29, 3] ty #[.slice (some ⟨g, 0, none⟩) n c, .int .i64 (k : Int)]).run Tryd.prog w = .ok (.slice (some ⟨w.heap.size, 0, none⟩) (n + k) G) (w.drew.alloc (.cells Z.toArray 5))) ∧ Z.length = G ∧ n + k ≤ G ∧ G ≤ maxLen ∧ Z.take n = L.map vb := by
  obtain ⟨i, hi, hz, hs, hb⟩ := info_parts inB
  have hcells : ∀ j u, (L.map vb)[j]? = some u → w.cell? ((⟨g, 0, none⟩ : Addr).add j) = some u := h.o.cells (g := g) rfl
  have hlen := h.len
  have hfc := run_firstCells_some (P := Tryd.prog) (w := w.drew) i.size n ⟨g, 0, none⟩ n c (L.map vb) (by rw [hs, List.length_map]; omega) hcells
  have hr := fun ty => Lib.run_append_grow_zeros (P := Tryd.prog) w 29 3 ty 5 i (.int .u8 0) .i64 .i64 Tryd.underlying29 Tryd.underlying3 hi hz (some ⟨g, 0, none⟩) n c (L.map vb) hfc k h0 (by omega) hc (by omega) (by rw [hb]; omega) (growslice_fits (by omega) (by rw [hb]; omega))
  have hG1 := grownCap_ge w (n + k) c 5
  have hG2 := grownCap_le_maxLen w (n + k) c 5 (by unfold maxLen; omega)
  generalize grownCap w (n + k) c 5 = G at *
  refine ⟨L.map vb ++ ((Builtin.zeroCells (Value.int .u8 0).cells k).toList ++ (Builtin.zeroCells (Value.int .u8 0).cells (G - (n + k))).toList), G, fun ty => ?_, ?_, hG1, hG2, ?_⟩
  · rw [hr ty]
    congr 3
    apply Array.ext'
    simp
  · have z1 : (Builtin.zeroCells (Value.int .u8 0).cells k).toList.length = k * 1 := by rw [Array.length_toList, size_zeroCells]; rfl
    have z2 : (Builtin.zeroCells (Value.int .u8 0).cells (G - (n + k))).toList.length = (G - (n + k)) * 1 := by rw [Array.length_toList, size_zeroCells]; rfl
    rw [List.length_append, List.length_append, List.length_map, z1, z2]
    omega
  · rw [List.take_left' (by simpa using hlen)]
/-- a copy into a block that is known whole -/
theorem wp_copy_at {P : Program} {o : Oper} {a : Act} {w : World} {K : Act → World → Prop} {Q : Exit → Act → World → Prop} (d s : Operand) (dT sT : TypeId)
    (ho : o.op = .call { callee := .builtin .copy, args := #[d, s], argTypes := #[dT, sT] }) (elem : TypeId) (hu : P.underlying dT = some (.slice elem)) (hsz : (P.info? elem).map (·.size) = some 1)
    (dp sp : Option Addr) (dLen dCap sLen sCap : Nat) (hd : a.eval d = .slice dp dLen dCap) (hs : a.eval s = .slice sp sLen sCap)
    (g off : Nat) (cur : List Value) (t : TypeId) (hg : Blk w g t cur.toArray) (cs : List Value) (hn : cs.length = Nat.min sLen dLen)
    (hpos : 0 < cs.length → dp = some ⟨g, off, none⟩ ∧ ∃ ad, sp = some ad ∧ ∀ j v, cs[j]? = some v → w.cell? (ad.add j) = some v)
    (hfit : off + cs.length ≤ cur.length) (h1 : ∀ v ∈ cs, v.oneCell' = true)
    (h : ∀ w', Kp (Blk w' g t (splice cur off cs).toArray) → Mds [g] w w' → K (a.put o.dst (goInt cs.length)) w') : o.wp P a w K Q := by
  by_cases h0 : cs.length = 0
  · obtain rfl : cs = [] := List.eq_nil_of_length_eq_zero h0
    have hrun := run_copy_none (P := P) w dT sT o.type elem dp sp dLen dCap sLen sCap hu hsz (by simpa using hn.symm)
    unfold Oper.wp
    simp [execOp, ho, resolve, invoke, builtin, hd, hs, hrun, Result.andThen]
    exact h w ⟨by simpa [splice] using hg⟩ (Mds.refl _ _)
  · obtain ⟨rfl, ad, rfl, hsrc⟩ := hpos (by omega)
    have hrun := run_copy_row (P := P) w dT sT o.type elem g off dLen dCap ad sLen sCap cur.toArray t cs hu hsz hg.h hn hsrc (by simpa using hfit) h1
    unfold Oper.wp
    simp [execOp, ho, resolve, invoke, builtin, hd, hs, hrun, Result.andThen]
    refine h _ ⟨?_⟩ ((Mds.refl [g] w).setRow (by simp) _)
    have := hg.row (splice cur off cs).toArray
    simpa [splice] using this
theorem wpList_copy_at {P : Program} {ops : Array Oper} {rest : List Oper} {o : Oper} {a : Act} {w : World} {Q : Exit → Act → World → Prop} (hgd : o.guard = none) (d s : Operand) (dT sT : TypeId)
    (ho : o.op = .call { callee := .builtin .copy, args := #[d, s], argTypes := #[dT, sT] }) (elem : TypeId) (hu : P.underlying dT = some (.slice elem)) (hsz : (P.info? elem).map (·.size) = some 1)
    (dp sp : Option Addr) (dLen dCap sLen sCap : Nat) (hd : a.eval d = .slice dp dLen dCap) (hs : a.eval s = .slice sp sLen sCap)
    (g off : Nat) (cur : List Value) (t : TypeId) (hg : Blk w g t cur.toArray) (cs : List Value) (hn : cs.length = Nat.min sLen dLen)
    (hpos : 0 < cs.length → dp = some ⟨g, off, none⟩ ∧ ∃ ad, sp = some ad ∧ ∀ j v, cs[j]? = some v → w.cell? (ad.add j) = some v)
    (hfit : off + cs.length ≤ cur.length) (h1 : ∀ v ∈ cs, v.oneCell' = true)
    (h : ∀ w', Kp (Blk w' g t (splice cur off cs).toArray) → Mds [g] w w' → wpList P ops Q rest (a.put o.dst (goInt cs.length)) w') : wpList P ops Q (o :: rest) a w :=
  wpList_plain hgd fun _ hK => wp_copy_at d s dT sT ho elem hu hsz dp sp dLen dCap sLen sCap hd hs g off cur t hg cs hn hpos hfit h1 fun w' h2 h3 => hK _ _ (h w' h2 h3)
/-- s[i:j] -/
theorem run_mid {P : Program} (g n c t e : Nat) (ht : P.underlying t = some (.slice e)) (hs : (P.info? e).map (·.size) = some 1) (i j : Nat) (x y : Int) (hx : x = (i : Int)) (hy : y = (j : Int)) (hij : i ≤ j) (hj : j ≤ c) (hi : i < c) (w : World) :
    (Instr.sliceAt t (.slice (some ⟨g, 0, none⟩) n c) (some (.int .i64 x)) (some (.int .i64 y)) none).run P w = .ok (.slice (some ⟨g, i, none⟩) (j - i) (c - i)) w := by
  subst hx hy
  cases hq : P.info? e with
  | none => simp [hq] at hs
  | some i' =>
    have hs1 : i'.size = 1 := by simpa [hq] using hs
    have hne : ¬ c = i := by omega
    have hne2 : ¬ i = c := by omega
    simp [Instr.sliceAt, Instr.slice, run_underlying ht, Instr.sliceBounds, Instr.sliceBound, asIntOf, sizeOf, typeInfo, hq, hs1, hij, hj, hne, add_z]
/-- a row's cells, whatever lies in its spare part -/
theorem Own.cells_ {w : World} {B g n c : Nat} {L : List (BitVec 8)} (h : Own w B (.slice (some ⟨g, 0, none⟩) n c) n L) : ∃ cur : List Value, Blk w g 5 cur.toArray ∧ cur.length = c ∧ n ≤ c ∧ c ≤ maxLen ∧ cur.take n = L.map vb := by
  rcases h.o.2 with ⟨e, _⟩ | ⟨g', cap, cur, e, _, h4, h5, h6, h7, h8⟩
  · cases e
  · cases e
    exact ⟨cur.toList, ⟨by simpa [Has] using h4⟩, by simpa using h7, h5, h6, by simpa using h8⟩
theorem Own.of_cells {w : World} {B g n c : Nat} {L : List (BitVec 8)} {cur : List Value} (h : Blk w g 5 cur.toArray) (hc : cur.length = c) (hn : n ≤ c) (hm : c ≤ maxLen) (hB : B ≤ g) (hL : L.length = n) (ht : cur.take n = L.map vb) : Own w B (.slice (some ⟨g, 0, none⟩) n c) n L :=
  ⟨⟨by simpa using hL, .inr ⟨g, c, cur.toArray, rfl, hB, h.h, hn, hm, by simpa using hc, by simpa using ht⟩⟩⟩
/-- what two copies leave: the new bytes put in, what stood behind them moved -/
theorem splice_ahead {α : Type} (Z V X : List α) (i : Nat) (hZ : i + V.length + X.length ≤ Z.length) : (splice (splice Z i V) (i + V.length) X).take (i + V.length + X.length) = Z.take i ++ V ++ X := by
  have e1 : (splice Z i V).take (i + V.length) = Z.take i ++ V := by
    unfold splice
    rw [← List.append_assoc, List.take_left' (by rw [List.length_append, List.length_take]; omega)]
  generalize splice Z i V = S at e1 ⊢
  unfold splice
  rw [e1]
  rw [← List.append_assoc, List.take_left' (by rw [List.length_append, List.length_append, List.length_take]; omega)]
theorem splice_behind {α : Type} (Z V X : List α) (i : Nat) (hZ : i + V.length + X.length ≤ Z.length) : (splice (splice Z (i + V.length) X) i V).take (i + V.length + X.length) = Z.take i ++ V ++ X := by
  have hl : (splice Z (i + V.length) X).length = Z.length := length_splice _ _ _ (by omega)
  have e1 : (splice Z (i + V.length) X).take i = Z.take i := by
    unfold splice
    rw [List.take_append_of_le_length (by rw [List.length_take]; omega), List.take_take, Nat.min_eq_left (by omega)]
  have e2 : ((splice Z (i + V.length) X).drop (i + V.length)).take X.length = X := by
    unfold splice
    rw [List.drop_left' (by rw [List.length_take]; omega), List.take_left' rfl]
  generalize splice Z (i + V.length) X = S at e1 e2 ⊢
  unfold splice
  rw [e1, ← List.append_assoc, List.take_append, List.take_of_length_le (by rw [List.length_append, List.length_take]; omega)]
  congr 1
  rw [List.length_append, List.length_take, Nat.min_eq_left (by omega), show i + V.length + X.length - (i + V.length) = X.length by omega]
  exact e2
theorem tail_cells {cur : List Value} {L : List (BitVec 8)} {n i : Nat} (ht : cur.take n = L.map vb) (hn : L.length = n) (j : Nat) (v : Value) (hv : ((L.drop i).map vb)[j]? = some v) : cur[i + j]? = some v := by
  rw [List.getElem?_map, List.getElem?_drop] at hv
  have h2 : (L.map vb)[i + j]? = some v := by rw [List.getElem?_map]; exact hv
  rw [← ht, List.getElem?_take] at h2
  split at h2
  · exact h2
  · cases h2
/-- how Replace answers -/
def RepR (w : World) (v : Value) (T : Nat) (M : List (BitVec 8)) (e : Ending) (w' : World) : Prop :=
  ∃ A' c', e = .returned (.slice A' T c') ∧ Own w' 0 (.slice A' T c') T M ∧ Mvs (fpv v) (fpv (.slice A' T c')) w w'
end Go.Proofs.YthookcnkmlmgcaaDoor
