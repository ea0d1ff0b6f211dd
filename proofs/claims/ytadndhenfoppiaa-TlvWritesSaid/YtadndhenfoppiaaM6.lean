/-
  slices.Replace of one byte by some new ones, in a row of the call's own: at its end, with room, without.
  slices.Replace at the end of a row.
  slices.Replace in a row without room.
  slices.Replace in a row with room.
-/
import Derived.Test.YtadndhenfoppiaaM3
import Derived.Lib.AppendZerosOnto
import Derived.Lib.SliceRun
import Derived.Lib.Overlaps
import Derived.Test.YtadndhenfoppiaaM5
namespace Go.Proofs.Ytadndhenfoppiaa
open Go Go.RowKit
set_option maxRecDepth 4000

/-- zeros appended to a row without room -/
theorem run_zeros {w : World} {B g n c : Nat} {L : List (BitVec 8)} (h : Own w B (.slice (some ⟨g, 0, none⟩) n c) n L) (k : Nat) (h0 : 0 < k) (hc : c < n + k) (hm : n + k ≤ 140737488351232) :
    ∃ Z : List Value, ∃ G : Nat, (∀ ty, (Builtin.append_ #[23, 3] ty #[.slice (some ⟨g, 0, none⟩) n c, .int .i64 (k : Int)]).run Try.prog w = .ok (.slice (some ⟨w.heap.size, 0, none⟩) (n + k) G) (w.drew.alloc (.cells Z.toArray 5))) ∧ Z.length = G ∧ n + k ≤ G ∧ G ≤ maxLen ∧ Z.take n = L.map vb := by
  obtain ⟨i, hi, hz, hs, hb⟩ := info_parts inB
  have hcells : ∀ j u, (L.map vb)[j]? = some u → w.cell? ((⟨g, 0, none⟩ : Addr).add j) = some u := h.o.cells (g := g) rfl
  have hlen := h.len
  have hfc := run_firstCells_some (P := Try.prog) (w := w.drew) i.size n ⟨g, 0, none⟩ n c (L.map vb) (by rw [hs, List.length_map]; omega) hcells
  have hr := fun ty => Lib.run_append_grow_zeros (P := Try.prog) w 23 3 ty 5 i (.int .u8 0) .i64 .i64 Try.underlying23 Try.underlying3 hi hz (some ⟨g, 0, none⟩) n c (L.map vb) hfc k h0 (by omega) hc (by omega) (by rw [hb]; omega) (growslice_fits (by omega) (by rw [hb]; omega))
  have hG1 := grownCap_ge w (n + k) c 5
  have hG2 := grownCap_le_maxLen w (n + k) c 5 (by unfold maxLen; omega)
  generalize grownCap w (n + k) c 5 = G at *
  refine ⟨L.map vb ++ ((Builtin.zeroCells (Value.int .u8 0).cells k).toList ++ (Builtin.zeroCells (Value.int .u8 0).cells (G - (n + k))).toList), G, fun ty => ?_, ?_, hG1, hG2, ?_⟩
  · rw [hr ty]
    congr 3
    apply Array.ext'
    simp
  · have z1 : (Builtin.zeroCells (Value.int .u8 0).cells k).toList.length = k * 1 := by rw [Array.length_toList, size_zeroCells]; rfl
    have z2 : (Builtin.zeroCells (Value.int .u8 0).cells (G - (n + k))).toList.length = (G - (n + k)) * 1 := by rw [Array.length_toList, size_zeroCells]; rfl
    rw [List.length_append, List.length_append, List.length_map, z1, z2]
    omega
  · rw [List.take_left' (by simpa using hlen)]
/-- a copy into a block that is known whole -/
theorem wp_copy_at {P : Program} {o : Oper} {a : Act} {w : World} {K : Act → World → Prop} {Q : Exit → Act → World → Prop} (d s : Operand) (dT sT : TypeId)
    (ho : o.op = .call { callee := .builtin .copy, args := #[d, s], argTypes := #[dT, sT] }) (elem : TypeId) (hu : P.underlying dT = some (.slice elem)) (hsz : (P.info? elem).map (·.size) = some 1)
    (dp sp : Option Addr) (dLen dCap sLen sCap : Nat) (hd : a.eval d = .slice dp dLen dCap) (hs : a.eval s = .slice sp sLen sCap)
    (g off : Nat) (cur : List Value) (t : TypeId) (hg : Blk w g t cur.toArray) (cs : List Value) (hn : cs.length = Nat.min sLen dLen)
    (hpos : 0 < cs.length → dp = some ⟨g, off, none⟩ ∧ ∃ ad, sp = some ad ∧ ∀ j v, cs[j]? = some v → w.cell? (ad.add j) = some v)
    (hfit : off + cs.length ≤ cur.length) (h1 : ∀ v ∈ cs, v.oneCell' = true)
    (h : ∀ w', Kp (Blk w' g t (splice cur off cs).toArray) → Mds [g] w w' → K (a.put o.dst (goInt cs.length)) w') : o.wp P a w K Q := by
  by_cases h0 : cs.length = 0
  · obtain rfl : cs = [] := List.eq_nil_of_length_eq_zero h0
    have hrun := run_copy_none (P := P) w dT sT o.type elem dp sp dLen dCap sLen sCap hu hsz (by simpa using hn.symm)
    unfold Oper.wp
    simp [execOp, ho, resolve, invoke, builtin, hd, hs, hrun, Result.andThen]
    exact h w ⟨by simpa [splice] using hg⟩ (Mds.refl _ _)
  · obtain ⟨rfl, ad, rfl, hsrc⟩ := hpos (by omega)
    have hrun := run_copy_row (P := P) w dT sT o.type elem g off dLen dCap ad sLen sCap cur.toArray t cs hu hsz hg.h hn hsrc (by simpa using hfit) h1
    unfold Oper.wp
    simp [execOp, ho, resolve, invoke, builtin, hd, hs, hrun, Result.andThen]
    refine h _ ⟨?_⟩ ((Mds.refl [g] w).setRow (by simp) _)
    have := hg.row (splice cur off cs).toArray
    simpa [splice] using this
theorem wpList_copy_at {P : Program} {ops : Array Oper} {rest : List Oper} {o : Oper} {a : Act} {w : World} {Q : Exit → Act → World → Prop} (hgd : o.guard = none) (d s : Operand) (dT sT : TypeId)
    (ho : o.op = .call { callee := .builtin .copy, args := #[d, s], argTypes := #[dT, sT] }) (elem : TypeId) (hu : P.underlying dT = some (.slice elem)) (hsz : (P.info? elem).map (·.size) = some 1)
    (dp sp : Option Addr) (dLen dCap sLen sCap : Nat) (hd : a.eval d = .slice dp dLen dCap) (hs : a.eval s = .slice sp sLen sCap)
    (g off : Nat) (cur : List Value) (t : TypeId) (hg : Blk w g t cur.toArray) (cs : List Value) (hn : cs.length = Nat.min sLen dLen)
    (hpos : 0 < cs.length → dp = some ⟨g, off, none⟩ ∧ ∃ ad, sp = some ad ∧ ∀ j v, cs[j]? = some v → w.cell? (ad.add j) = some v)
    (hfit : off + cs.length ≤ cur.length) (h1 : ∀ v ∈ cs, v.oneCell' = true)
    (h : ∀ w', Kp (Blk w' g t (splice cur off cs).toArray) → Mds [g] w w' → wpList P ops Q rest (a.put o.dst (goInt cs.length)) w') : wpList P ops Q (o :: rest) a w :=
  wpList_plain hgd fun _ hK => wp_copy_at d s dT sT ho elem hu hsz dp sp dLen dCap sLen sCap hd hs g off cur t hg cs hn hpos hfit h1 fun w' h2 h3 => hK _ _ (h w' h2 h3)
/-- s[i:j] -/
theorem run_mid {P : Program} (g n c t e : Nat) (ht : P.underlying t = some (.slice e)) (hs : (P.info? e).map (·.size) = some 1) (i j : Nat) (x y : Int) (hx : x = (i : Int)) (hy : y = (j : Int)) (hij : i ≤ j) (hj : j ≤ c) (hi : i < c) (w : World) :
    (Instr.sliceAt t (.slice (some ⟨g, 0, none⟩) n c) (some (.int .i64 x)) (some (.int .i64 y)) none).run P w = .ok (.slice (some ⟨g, i, none⟩) (j - i) (c - i)) w := by
  subst hx hy
  cases hq : P.info? e with
  | none => simp [hq] at hs
  | some i' =>
    have hs1 : i'.size = 1 := by simpa [hq] using hs
    have hne : ¬ c = i := by omega
    have hne2 : ¬ i = c := by omega
    simp [Instr.sliceAt, Instr.slice, run_underlying ht, Instr.sliceBounds, Instr.sliceBound, asIntOf, sizeOf, typeInfo, hq, hs1, hij, hj, hne, add_z]
/-- a row's cells, whatever lies in its spare part -/
theorem Own.cells_ {w : World} {B g n c : Nat} {L : List (BitVec 8)} (h : Own w B (.slice (some ⟨g, 0, none⟩) n c) n L) : ∃ cur : List Value, Blk w g 5 cur.toArray ∧ cur.length = c ∧ n ≤ c ∧ c ≤ maxLen ∧ cur.take n = L.map vb := by
  rcases h.o.2 with ⟨e, _⟩ | ⟨g', cap, cur, e, _, h4, h5, h6, h7, h8⟩
  · cases e
  · cases e
    exact ⟨cur.toList, ⟨by simpa [Has] using h4⟩, by simpa using h7, h5, h6, by simpa using h8⟩
theorem Own.of_cells {w : World} {B g n c : Nat} {L : List (BitVec 8)} {cur : List Value} (h : Blk w g 5 cur.toArray) (hc : cur.length = c) (hn : n ≤ c) (hm : c ≤ maxLen) (hB : B ≤ g) (hL : L.length = n) (ht : cur.take n = L.map vb) : Own w B (.slice (some ⟨g, 0, none⟩) n c) n L :=
  ⟨⟨by simpa using hL, .inr ⟨g, c, cur.toArray, rfl, hB, h.h, hn, hm, by simpa using hc, by simpa using ht⟩⟩⟩
/-- what two copies leave: the new bytes put in, what stood behind them moved -/
theorem splice_ahead {α : Type} (Z V X : List α) (i : Nat) (hZ : i + V.length + X.length ≤ Z.length) : (splice (splice Z i V) (i + V.length) X).take (i + V.length + X.length) = Z.take i ++ V ++ X := by
  have e1 : (splice Z i V).take (i + V.length) = Z.take i ++ V := by
    unfold splice
    rw [← List.append_assoc, List.take_left' (by rw [List.length_append, List.length_take]; omega)]
  generalize splice Z i V = S at e1 ⊢
  unfold splice
  rw [e1]
  rw [← List.append_assoc, List.take_left' (by rw [List.length_append, List.length_append, List.length_take]; omega)]
theorem splice_behind {α : Type} (Z V X : List α) (i : Nat) (hZ : i + V.length + X.length ≤ Z.length) : (splice (splice Z (i + V.length) X) i V).take (i + V.length + X.length) = Z.take i ++ V ++ X := by
  have hl : (splice Z (i + V.length) X).length = Z.length := length_splice _ _ _ (by omega)
  have e1 : (splice Z (i + V.length) X).take i = Z.take i := by
    unfold splice
    rw [List.take_append_of_le_length (by rw [List.length_take]; omega), List.take_take, Nat.min_eq_left (by omega)]
  have e2 : ((splice Z (i + V.length) X).drop (i + V.length)).take X.length = X := by
    unfold splice
    rw [List.drop_left' (by rw [List.length_take]; omega), List.take_left' rfl]
  generalize splice Z (i + V.length) X = S at e1 e2 ⊢
  unfold splice
  rw [e1, ← List.append_assoc, List.take_append, List.take_of_length_le (by rw [List.length_append, List.length_take]; omega)]
  congr 1
  rw [List.length_append, List.length_take, Nat.min_eq_left (by omega), show i + V.length + X.length - (i + V.length) = X.length by omega]
  exact e2
theorem tail_cells {cur : List Value} {L : List (BitVec 8)} {n i : Nat} (ht : cur.take n = L.map vb) (hn : L.length = n) (j : Nat) (v : Value) (hv : ((L.drop i).map vb)[j]? = some v) : cur[i + j]? = some v := by
  rw [List.getElem?_map, List.getElem?_drop] at hv
  have h2 : (L.map vb)[i + j]? = some v := by rw [List.getElem?_map]; exact hv
  rw [← ht, List.getElem?_take] at h2
  split at h2
  · exact h2
  · cases h2
/-- how Replace answers -/
def RepR (w : World) (v : Value) (T : Nat) (M : List (BitVec 8)) (e : Ending) (w' : World) : Prop :=
  ∃ A' c', e = .returned (.slice A' T c') ∧ Own w' 0 (.slice A' T c') T M ∧ Mvs (fpv v) (fpv (.slice A' T c')) w w'
end Go.Proofs.Ytadndhenfoppiaa
namespace Go.Proofs.Ytadndhenfoppiaa
open Go Go.RowKit
set_option maxRecDepth 4000

set_option maxHeartbeats 4000000 in
theorem Replace_end {w : World} {g i N c nv cv : Nat} {Av : Option Addr} {L lv : List (BitVec 8)} (ho : Own w 0 (.slice (some ⟨g, 0, none⟩) N c) N L) (hv : Bs w Av nv cv lv) (hn : 2 ≤ nv) (hn4 : nv ≤ 4) (hN : i + 1 = N) (hb : N ≤ 100000000000000) :
    Calls Try.prog 37 #[.slice (some ⟨g, 0, none⟩) N c, .int .i64 (i : Int), .int .i64 ((i : Int) + 1), .slice Av nv cv] w (RepR w (.slice (some ⟨g, 0, none⟩) N c) (i + nv) (L.take i ++ lv)) := by
  obtain ⟨cur, hB, hcl, hNc, hcm, ht⟩ := ho.cells_
  have hs1 := fun W => run_mid (P := Try.prog) g N c 23 5 Try.underlying23 szB i (i + 1) (i : Int) ((i : Int) + 1) rfl (by omega) (by omega) (by omega) (by omega) W
  have hs2 := fun W => run_upto (P := Try.prog) (some ⟨g, 0, none⟩) N c 23 5 Try.underlying23 szB i (i : Int) rfl (by omega) W
  have b1 : ((i : Int) == (i : Int) + 1) = false := beq_eq_false_iff_ne.2 (by omega)
  subst hN
  obtain ⟨T, hT⟩ : ∃ T, i + nv = T := ⟨_, rfl⟩
  have b3 : decide ((T : Int) < (i : Int) + 1) = false := decide_eq_false (by omega)
  have HO := Kp.mk (ho.take (show i ≤ i + 1 by omega))
  have HV := Kp.mk hv
  have hx : i + nv ≤ 140737488355328 := by omega
  have HT := Kp.mk hT
  rw [hT]
  clear ho hv hB hcl hNc hcm ht hn hn4 hb hT
  go_enter Try.func37, Try.ntmps37
  go_wp2_with (first | (at_builtin; refine wpList_append_m rfl (.tmp 32) (.tmp 33) rfl _ i (L.take i) rfl HO.out Av nv cv lv rfl HV.out hx T HT.out (L.take i ++ lv) rfl ?_; intro A5 c5 w5 ho5 ha5) | fail)
  go_ret
  exact ⟨_, _, rfl, ho5, ha5.mv⟩
end Go.Proofs.Ytadndhenfoppiaa
namespace Go.Proofs.Ytadndhenfoppiaa
open Go Go.RowKit
set_option maxRecDepth 4000

set_option maxHeartbeats 8000000 in
theorem Replace_grow {w : World} {g i k N c nv cv : Nat} {Av : Option Addr} {L lv : List (BitVec 8)} (ho : Own w 0 (.slice (some ⟨g, 0, none⟩) N c) N L) (hv : Bs w Av nv cv lv) (hn : 2 ≤ nv) (hn4 : nv ≤ 4) (hN : i + 1 + k = N) (hk : 0 < k) (hb : N ≤ 100000000000000) (hc : c < i + nv + k) :
    Calls Try.prog 37 #[.slice (some ⟨g, 0, none⟩) N c, .int .i64 (i : Int), .int .i64 ((i : Int) + 1), .slice Av nv cv] w (RepR w (.slice (some ⟨g, 0, none⟩) N c) (i + nv + k) (L.take i ++ lv ++ L.drop (i + 1))) := by
  obtain ⟨cur, hB, hcl, hNc, hcm, ht⟩ := ho.cells_
  have hLl := ho.len
  have hs1 := fun W => run_mid (P := Try.prog) g N c 23 5 Try.underlying23 szB i (i + 1) (i : Int) ((i : Int) + 1) rfl (by omega) (by omega) (by omega) (by omega) W
  have hs2 := fun W => run_upto (P := Try.prog) (some ⟨g, 0, none⟩) N c 23 5 Try.underlying23 szB i (i : Int) rfl (by omega) W
  have hs3 := fun W => run_from (P := Try.prog) (some ⟨g, 0, none⟩) N c 23 5 Try.underlying23 szB (i + 1) ((i : Int) + 1) (by omega) (by omega) W
  simp only [if_neg (show ¬ c = i + 1 by omega), Option.map_some, add_z, show N - (i + 1) = k by omega] at hs3
  have b1 : ((i : Int) == (i : Int) + 1) = false := beq_eq_false_iff_ne.2 (by omega)
  have b2 : ((i : Int) + 1 == (N : Int)) = false := beq_eq_false_iff_ne.2 (by omega)
  have b4 : IntKind.i64.wrap ((i : Int) + (nv : Int)) = (i : Int) + (nv : Int) := by rw [IntKind.wrap_i64]; omega
  have b5 : IntKind.i64.wrap ((i : Int) + (nv : Int) + (k : Int)) = ((i + nv + k : Nat) : Int) := by rw [IntKind.wrap_i64]; omega
  obtain ⟨T, hT⟩ : ∃ T, i + nv + k = T := ⟨_, rfl⟩
  rw [hT] at b5 ⊢
  have b6 : (c : Int) < (T : Int) := by omega
  have b7 : IntKind.i64.wrap ((T : Int) - (i : Int)) = ((nv + k : Nat) : Int) := by rw [IntKind.wrap_i64]; omega
  obtain ⟨Z, G, hz, hZG, hTG, hGm, hZt⟩ := run_zeros ((ho.take (show i ≤ N by omega)).ext ((by (repeat (first | assumption | exact Ext.refl _ | apply Ext.drew | apply Ext.drewN | apply Ext.alloc | refine Ext.trans ?_ (by assumption))); first | done | fail) : Ext w w.drew)) (nv + k) (by omega) (by omega) (by omega)
  obtain ⟨q, hq⟩ : ∃ q, nv + k = q := ⟨_, rfl⟩
  rw [hq] at b7 hz hTG
  rw [show i + q = T by omega] at hz hTG
  obtain ⟨z, hzz⟩ : ∃ z, z = w.drew.heap.size := ⟨_, rfl⟩
  rw [← hzz] at hz
  have hs4 := fun W => run_from (P := Try.prog) (some ⟨z, 0, none⟩) T G 23 5 Try.underlying23 szB i (i : Int) rfl (by omega) W
  simp only [if_neg (show ¬ G = i by omega), Option.map_some, add_z, show T - i = q by omega] at hs4
  have hs5 := fun W => run_from (P := Try.prog) (some ⟨z, 0, none⟩) T G 23 5 Try.underlying23 szB (i + nv) ((i : Int) + (nv : Int)) (by omega) (by omega) W
  simp only [if_neg (show ¬ G = i + nv by omega), Option.map_some, add_z, show T - (i + nv) = k by omega] at hs5
  have hx1 : Ext w (w.drew.drew.alloc (.cells Z.toArray 5)) := (by (repeat (first | assumption | exact Ext.refl _ | apply Ext.drew | apply Ext.drewN | apply Ext.alloc | refine Ext.trans ?_ (by assumption))); first | done | fail)
  have hB1 : Blk (w.drew.drew.alloc (.cells Z.toArray 5)) z 5 Z.toArray := by rw [hzz]; exact Blk.new w.drew.drew _ _
  have hBo := hB.ext hx1
  have hgz : g ≠ z := by have := hB.lt; rw [hzz]; exact Nat.ne_of_lt this
  have hV1 := hv.ext hx1
  have hvl := hv.len
  generalize w.drew.drew.alloc (.cells Z.toArray 5) = w1 at *
  have hfz : ∀ k, k ∈ [z] → w.heap.size ≤ k := fun k hk => by rw [List.mem_singleton.1 hk, hzz]; exact Nat.le_refl _
  have hVn : ∀ ad, Av = some ad → ad.block ≠ z := fun ad e h => by
    obtain ⟨g', o', e2, hc'⟩ := hv.s.2.2.2 (by omega)
    rw [e] at e2
    cases e2
    have := block_lt_of_cell (hc' 0 (by omega))
    rw [hzz] at h
    exact absurd (h ▸ this) (Nat.lt_irrefl _)
  have hdl : ((L.drop (i + 1)).map vb).length = k := by rw [List.length_map, List.length_drop]; omega
  have HB1 := Kp.mk hB1
  have HBo := Kp.mk hBo
  have HX1 := Kp.mk hx1
  have HZ := Kp.mk hzz
  have HZT := Kp.mk hZt
  have hf1 : (lv.map vb).length = Nat.min nv q := by rw [List.length_map, hvl]; show nv = min nv q; omega
  have HF1 := Kp.mk hf1
  have hf2 : i + (lv.map vb).length ≤ Z.length := by rw [List.length_map, hvl]; omega
  have HF2 := Kp.mk hf2
  have HV := Kp.mk (fun (hp : 0 < (lv.map vb).length) => hV1.news hp)
  have HD : Kp (((L.drop (i + 1)).map vb).length = Nat.min k k) := ⟨by rw [hdl]; show k = min k k; omega⟩
  have HE : Kp (i + nv + ((L.drop (i + 1)).map vb).length ≤ (splice Z i (lv.map vb)).length) := ⟨by rw [length_splice _ _ _ hf2, hdl]; omega⟩
  have HC : Kp (∀ (j : Nat) (v : Value), ((L.drop (i + 1)).map vb)[j]? = some v → cur[i + 1 + j]? = some v) := ⟨fun j v hj => tail_cells ht hLl j v hj⟩
  have HFIN : Kp (((splice (splice Z i (lv.map vb)) (i + nv) ((L.drop (i + 1)).map vb)).take T) = (L.take i ++ lv ++ L.drop (i + 1)).map vb) := ⟨by
    have h1 := splice_ahead Z (lv.map vb) ((L.drop (i + 1)).map vb) i (by rw [List.length_map, hvl, hdl]; omega)
    rw [hdl, List.length_map, hvl, hT] at h1
    rw [h1, hZt, List.map_append, List.map_append]⟩
  have HFL : Kp ((splice (splice Z i (lv.map vb)) (i + nv) ((L.drop (i + 1)).map vb)).length = G) := ⟨by rw [length_splice _ _ _ HE.out, length_splice _ _ _ hf2, hZG]⟩
  have HLL : Kp ((L.take i ++ lv ++ L.drop (i + 1)).length = T) := ⟨by rw [List.length_append, List.length_append, List.length_take, List.length_drop, hvl]; omega⟩
  have HO1 : Kp (∀ v ∈ lv.map vb, v.oneCell' = true) := ⟨one_vb' _⟩
  have HO2 : Kp (∀ v ∈ (L.drop (i + 1)).map vb, v.oneCell' = true) := ⟨one_vb' _⟩
  have HTG := Kp.mk hTG
  have HGM := Kp.mk hGm
  have HGZ := Kp.mk hgz
  have HFZ := Kp.mk hfz
  clear ho hv hB hcl hNc hcm ht hB1 hBo hx1 hzz hZt hf1 hf2 hV1 hvl hdl hLl hTG hGm hgz hfz hVn hZG hc hn hn4 hb hk hT hq hN
  generalize (L.drop (i + 1)).map vb = X at *
  generalize (lv.map vb) = V at *
  have bT := b6
  go_enter Try.func37, Try.ntmps37
  go_wp2_with fail
  refine wp_region_held_drew (S := fun _ => True) (by kernel_rfl) trivial (fun hHeld => ?_)
  refine wpAnyH_take (i := 0) (oi := ⟨some 45, _, _, _, _, _⟩) (v := ?_) rfl (by kernel_rfl) (by kernel_rfl) (by kernel_rfl) (fun _ _ _ h => h) (Or.inl ⟨by rfl, ?_⟩) (by assumption) ?_
  rotate_left
  · (intro w hSw; (try dsimp only at hSw); go_simp; try with_reducible rfl)
  try simp only [Act.put, List.setIfInBounds_toArray, List.set_cons_zero, List.set_cons_succ]
  refine wpAnyH_take (i := 1) (oi := ⟨some 46, _, _, _, _, _⟩) (v := ?_) rfl (by kernel_rfl) (by kernel_rfl) (by kernel_rfl) (fun _ _ _ h => h) (Or.inl ⟨by rfl, ?_⟩) (by assumption) ?_
  rotate_left
  · (intro w hSw; (try dsimp only at hSw); go_simp; try with_reducible rfl)
  try simp only [Act.put, List.setIfInBounds_toArray, List.set_cons_zero, List.set_cons_succ]
  refine wpAnyH_take (i := 2) (oi := ⟨some 47, _, _, _, _, _⟩) (v := ?_) rfl (by kernel_rfl) (by kernel_rfl) (by kernel_rfl) (fun _ _ _ h => h) (Or.inl ⟨by rfl, ?_⟩) (by assumption) ?_
  rotate_left
  · (intro w hSw; (try dsimp only at hSw); go_simp; try with_reducible rfl)
  try simp only [Act.put, List.setIfInBounds_toArray, List.set_cons_zero, List.set_cons_succ]
  refine wpAnyH_take (i := 3) (oi := ⟨some 48, _, _, _, _, _⟩) (v := ?_) rfl (by kernel_rfl) (by kernel_rfl) (by kernel_rfl) (fun _ _ _ h => h) (Or.inl ⟨by rfl, ?_⟩) (by assumption) ?_
  rotate_left
  · (intro w hSw; (try dsimp only at hSw); go_simp; try with_reducible rfl)
  try simp only [Act.put, List.setIfInBounds_toArray, List.set_cons_zero, List.set_cons_succ]
  refine wpAnyH_take (i := 4) (oi := ⟨some 49, _, _, _, _, _⟩) (v := ?_) rfl (by kernel_rfl) (by kernel_rfl) (by kernel_rfl) (fun _ _ _ h => h) (Or.inl ⟨by rfl, ?_⟩) (by assumption) ?_
  rotate_left
  · (intro w hSw; (try dsimp only at hSw); go_simp; try with_reducible rfl)
  try simp only [Act.put, List.setIfInBounds_toArray, List.set_cons_zero, List.set_cons_succ]
  refine wpAnyH_take (i := 5) (oi := ⟨some 50, _, _, _, _, _⟩) (v := ?_) rfl (by kernel_rfl) (by kernel_rfl) (by kernel_rfl) (fun _ _ _ h => h) (Or.inl ⟨by rfl, ?_⟩) (by assumption) ?_
  rotate_left
  · (intro w hSw; (try dsimp only at hSw); go_simp; try with_reducible rfl)
  try simp only [Act.put, List.setIfInBounds_toArray, List.set_cons_zero, List.set_cons_succ]
  refine wpAnyH_take (i := 6) (oi := ⟨some 51, _, _, _, _, _⟩) (v := ?_) rfl (by kernel_rfl) (by kernel_rfl) (by kernel_rfl) (fun _ _ _ h => h) (Or.inl ⟨by rfl, ?_⟩) (by assumption) ?_
  rotate_left
  · (intro w hSw; (try dsimp only at hSw); go_simp; try with_reducible rfl)
  try simp only [Act.put, List.setIfInBounds_toArray, List.set_cons_zero, List.set_cons_succ]
  refine wpAnyH_take (i := 7) (oi := ⟨some 52, _, _, _, _, _⟩) (v := ?_) rfl (by kernel_rfl) (by kernel_rfl) (by kernel_rfl) (fun _ _ _ h => h) (Or.inl ⟨by rfl, ?_⟩) (by assumption) ?_
  rotate_left
  · (intro w hSw; (try dsimp only at hSw); go_simp; try with_reducible rfl)
  try simp only [Act.put, List.setIfInBounds_toArray, List.set_cons_zero, List.set_cons_succ]
  refine wpAnyH_take (i := 8) (oi := ⟨some 53, _, _, _, _, _⟩) (v := ?_) rfl (by kernel_rfl) (by kernel_rfl) (by kernel_rfl) (fun _ _ _ h => h) (Or.inl ⟨by rfl, ?_⟩) (by assumption) ?_
  rotate_left
  · (intro w hSw; (try dsimp only at hSw); go_simp; try with_reducible rfl)
  try simp only [Act.put, List.setIfInBounds_toArray, List.set_cons_zero, List.set_cons_succ]
  refine wpAnyH_take (i := 9) (oi := ⟨some 54, _, _, _, _, _⟩) (v := ?_) rfl (by kernel_rfl) (by kernel_rfl) (by kernel_rfl) (fun _ _ _ h => h) (Or.inl ⟨by rfl, ?_⟩) (by assumption) ?_
  rotate_left
  · (intro w hSw; (try dsimp only at hSw); go_simp; try with_reducible rfl)
  try simp only [Act.put, List.setIfInBounds_toArray, List.set_cons_zero, List.set_cons_succ]
  refine wpAnyH_take (i := 10) (oi := ⟨some 55, _, _, _, _, _⟩) (v := ?_) rfl (by kernel_rfl) (by kernel_rfl) (by kernel_rfl) (fun _ _ _ h => h) (Or.inl ⟨by rfl, ?_⟩) (by assumption) ?_
  rotate_left
  · (intro w hSw; (try dsimp only at hSw); go_simp; try with_reducible rfl)
  try simp only [Act.put, List.setIfInBounds_toArray, List.set_cons_zero, List.set_cons_succ]
  refine wpAnyH_take (i := 11) (oi := ⟨some 56, _, _, _, _, _⟩) (v := ?_) rfl (by kernel_rfl) (by kernel_rfl) (by kernel_rfl) (fun _ _ _ h => h) (Or.inl ⟨by rfl, ?_⟩) (by assumption) ?_
  rotate_left
  · (intro w hSw; (try dsimp only at hSw); go_simp; try with_reducible rfl)
  try simp only [Act.put, List.setIfInBounds_toArray, List.set_cons_zero, List.set_cons_succ]
  refine wpAnyH_take (i := 12) (oi := ⟨some 10, _, _, _, _, _⟩) (v := ?_) rfl (by kernel_rfl) (by kernel_rfl) (by kernel_rfl) (fun _ _ _ h => h) (Or.inl ⟨by rfl, ?_⟩) (by assumption) ?_
  rotate_left
  · (intro w hSw; (try dsimp only at hSw); go_simp; try with_reducible rfl)
  try simp only [Act.put, List.setIfInBounds_toArray, List.set_cons_zero, List.set_cons_succ]
  refine wpAnyH_done (by kernel_rfl) ?_ _
  go_wp2_with (first | (at_builtin; refine Lib.wpList_append_run _ rfl _ _ _ _ rfl _ _ rfl rfl _ _ (hz _) ?_) | (with_reducible refine at_call_to 72 ?_; refine wpList_copy_at (o := ⟨some 72, _, _, _, _, _⟩) rfl (.tmp 70) (.tmp 71) 23 23 rfl 5 Try.underlying23 szB (some ⟨z, i, none⟩) Av q (G - i) nv cv rfl rfl z i Z 5 HB1.out V HF1.out (fun hp => ⟨rfl, HV.out hp⟩) HF2.out HO1.out ?_; intro w2 hB2 hm2) | fail)
  refine wp_region_held_drew (S := fun _ => True) (by kernel_rfl) trivial (fun hHeld => ?_)
  refine wpAnyH_take (i := 0) (oi := ⟨some 73, _, _, _, _, _⟩) (v := ?_) rfl (by kernel_rfl) (by kernel_rfl) (by kernel_rfl) (fun _ _ _ h => h) (Or.inl ⟨by rfl, ?_⟩) (by assumption) ?_
  rotate_left
  · (intro w hSw; (try dsimp only at hSw); go_simp; try with_reducible rfl)
  try simp only [Act.put, List.setIfInBounds_toArray, List.set_cons_zero, List.set_cons_succ]
  refine wpAnyH_take (i := 1) (oi := ⟨some 74, _, _, _, _, _⟩) (v := ?_) rfl (by kernel_rfl) (by kernel_rfl) (by kernel_rfl) (fun _ _ _ h => h) (Or.inl ⟨by rfl, ?_⟩) (by assumption) ?_
  rotate_left
  · (intro w hSw; (try dsimp only at hSw); go_simp; try with_reducible rfl)
  try simp only [Act.put, List.setIfInBounds_toArray, List.set_cons_zero, List.set_cons_succ]
  refine wpAnyH_take (i := 2) (oi := ⟨some 75, _, _, _, _, _⟩) (v := ?_) rfl (by kernel_rfl) (by kernel_rfl) (by kernel_rfl) (fun _ _ _ h => h) (Or.inl ⟨by rfl, ?_⟩) (by assumption) ?_
  rotate_left
  · (intro w hSw; (try dsimp only at hSw); go_simp; try with_reducible rfl)
  try simp only [Act.put, List.setIfInBounds_toArray, List.set_cons_zero, List.set_cons_succ]
  refine wpAnyH_take (i := 3) (oi := ⟨some 76, _, _, _, _, _⟩) (v := ?_) rfl (by kernel_rfl) (by kernel_rfl) (by kernel_rfl) (fun _ _ _ h => h) (Or.inl ⟨by rfl, ?_⟩) (by assumption) ?_
  rotate_left
  · (intro w hSw; (try dsimp only at hSw); go_simp; try with_reducible rfl)
  try simp only [Act.put, List.setIfInBounds_toArray, List.set_cons_zero, List.set_cons_succ]
  refine wpAnyH_take (i := 4) (oi := ⟨some 77, _, _, _, _, _⟩) (v := ?_) rfl (by kernel_rfl) (by kernel_rfl) (by kernel_rfl) (fun _ _ _ h => h) (Or.inl ⟨by rfl, ?_⟩) (by assumption) ?_
  rotate_left
  · (intro w hSw; (try dsimp only at hSw); go_simp; try with_reducible rfl)
  try simp only [Act.put, List.setIfInBounds_toArray, List.set_cons_zero, List.set_cons_succ]
  refine wpAnyH_take (i := 5) (oi := ⟨some 78, _, _, _, _, _⟩) (v := ?_) rfl (by kernel_rfl) (by kernel_rfl) (by kernel_rfl) (fun _ _ _ h => h) (Or.inl ⟨by rfl, ?_⟩) (by assumption) ?_
  rotate_left
  · (intro w hSw; (try dsimp only at hSw); go_simp; try with_reducible rfl)
  try simp only [Act.put, List.setIfInBounds_toArray, List.set_cons_zero, List.set_cons_succ]
  refine wpAnyH_take (i := 6) (oi := ⟨some 79, _, _, _, _, _⟩) (v := ?_) rfl (by kernel_rfl) (by kernel_rfl) (by kernel_rfl) (fun _ _ _ h => h) (Or.inl ⟨by rfl, ?_⟩) (by assumption) ?_
  rotate_left
  · (intro w hSw; (try dsimp only at hSw); go_simp; try with_reducible rfl)
  try simp only [Act.put, List.setIfInBounds_toArray, List.set_cons_zero, List.set_cons_succ]
  refine wpAnyH_take (i := 7) (oi := ⟨some 80, _, _, _, _, _⟩) (v := ?_) rfl (by kernel_rfl) (by kernel_rfl) (by kernel_rfl) (fun _ _ _ h => h) (Or.inl ⟨by rfl, ?_⟩) (by assumption) ?_
  rotate_left
  · (intro w hSw; (try dsimp only at hSw); go_simp; try with_reducible rfl)
  try simp only [Act.put, List.setIfInBounds_toArray, List.set_cons_zero, List.set_cons_succ]
  refine wpAnyH_take (i := 8) (oi := ⟨some 81, _, _, _, _, _⟩) (v := ?_) rfl (by kernel_rfl) (by kernel_rfl) (by kernel_rfl) (fun _ _ _ h => h) (Or.inl ⟨by rfl, ?_⟩) (by assumption) ?_
  rotate_left
  · (intro w hSw; (try dsimp only at hSw); go_simp; try with_reducible rfl)
  try simp only [Act.put, List.setIfInBounds_toArray, List.set_cons_zero, List.set_cons_succ]
  refine next_one 9 (by kernel_rfl) rfl (by rfl) fun K' HK' => ?_
  refine wp_copy_at (o := ⟨some 82, _, _, _, _, _⟩) (.tmp 78) (.tmp 81) 23 23 rfl 5 Try.underlying23 szB (some ⟨z, i + nv, none⟩) (some ⟨g, i + 1, none⟩) k (G - (i + nv)) k (c - (i + 1)) rfl rfl z (i + nv) (splice Z i V) 5 (hB2.out.ext (by (repeat (first | assumption | exact Ext.refl _ | apply Ext.drew | apply Ext.drewN | apply Ext.alloc | refine Ext.trans ?_ (by assumption))); first | done | fail)) X HD.out (fun _ => ⟨rfl, _, rfl, ?src⟩) HE.out HO2.out ?_
  case src =>
    intro j v hj
    have h1 := HC.out j v hj
    rw [show (⟨g, i + 1, none⟩ : Addr).add j = ⟨g, i + 1 + j, none⟩ by unfold Addr.add; split <;> simp_all]
    rw [((HBo.out.mds hm2 (by simpa using HGZ.out)).ext ((by (repeat (first | assumption | exact Ext.refl _ | apply Ext.drew | apply Ext.drewN | apply Ext.alloc | refine Ext.trans ?_ (by assumption))); first | done | fail) : Ext w2 w2.drew)).h.cell]
    simpa using h1
  intro w3 hB3 hm3
  refine held_go HK' trivial (fun hHeld => ?_)
  clear HK'
  try simp only [Act.put, List.setIfInBounds_toArray, List.set_cons_zero, List.set_cons_succ]
  refine wpAnyH_done (by kernel_rfl) ?_ _
  go_wp2_with fail
  go_ret
  have hx2 : Ext w w2 := hm2.ext HX1.out HFZ.out
  have hx3 : Ext w w3 := hm3.ext (hx2.trans (by (repeat (first | assumption | exact Ext.refl _ | apply Ext.drew | apply Ext.drewN | apply Ext.alloc | refine Ext.trans ?_ (by assumption))); first | done | fail)) HFZ.out
  exact ⟨_, _, rfl, Own.of_cells hB3.out HFL.out HTG.out HGM.out (Nat.zero_le _) HLL.out HFIN.out, hx3.mds _, fun k hk => .inr (HFZ.out k (by simpa [fpv, Value.ownBlock] using hk))⟩
end Go.Proofs.Ytadndhenfoppiaa
namespace Go.Proofs.Ytadndhenfoppiaa
open Go Go.RowKit
set_option maxRecDepth 4000

set_option maxHeartbeats 8000000 in
theorem Replace_in {w : World} {g i k N c nv cv : Nat} {Av : Option Addr} {L lv : List (BitVec 8)} (ho : Own w 0 (.slice (some ⟨g, 0, none⟩) N c) N L) (hv : Own w 0 (.slice Av nv cv) nv lv) (hgv : Av.map (·.block) ≠ some g) (hn : 2 ≤ nv) (hn4 : nv ≤ 4) (hN : i + 1 + k = N) (hk : 0 < k) (hb : N ≤ 100000000000000) (hc : i + nv + k ≤ c) :
    Calls Try.prog 37 #[.slice (some ⟨g, 0, none⟩) N c, .int .i64 (i : Int), .int .i64 ((i : Int) + 1), .slice Av nv cv] w (RepR w (.slice (some ⟨g, 0, none⟩) N c) (i + nv + k) (L.take i ++ lv ++ L.drop (i + 1))) := by
  obtain ⟨cur, hB, hcl, hNc, hcm, ht⟩ := ho.cells_
  have hLl := ho.len
  have hs1 := fun W => run_mid (P := Try.prog) g N c 23 5 Try.underlying23 szB i (i + 1) (i : Int) ((i : Int) + 1) rfl (by omega) (by omega) (by omega) (by omega) W
  have hs2 := fun W => run_upto (P := Try.prog) (some ⟨g, 0, none⟩) N c 23 5 Try.underlying23 szB i (i : Int) rfl (by omega) W
  have hs3 := fun W => run_from (P := Try.prog) (some ⟨g, 0, none⟩) N c 23 5 Try.underlying23 szB (i + 1) ((i : Int) + 1) (by omega) (by omega) W
  simp only [if_neg (show ¬ c = i + 1 by omega), Option.map_some, add_z, show N - (i + 1) = k by omega] at hs3
  have b1 : ((i : Int) == (i : Int) + 1) = false := beq_eq_false_iff_ne.2 (by omega)
  have b2 : ((i : Int) + 1 == (N : Int)) = false := beq_eq_false_iff_ne.2 (by omega)
  have b4 : IntKind.i64.wrap ((i : Int) + (nv : Int)) = (i : Int) + (nv : Int) := by rw [IntKind.wrap_i64]; omega
  have b5 : IntKind.i64.wrap ((i : Int) + (nv : Int) + (k : Int)) = ((i + nv + k : Nat) : Int) := by rw [IntKind.wrap_i64]; omega
  obtain ⟨T, hT⟩ : ∃ T, i + nv + k = T := ⟨_, rfl⟩
  rw [hT] at b5 ⊢
  have b6 : decide ((c : Int) < (T : Int)) = false := decide_eq_false (by omega)
  have b8 : decide ((i : Int) + (nv : Int) ≤ (i : Int) + 1) = false := decide_eq_false (by omega)
  have b9 : decide ((nv : Int) ≤ 1) = false := decide_eq_false (by omega)
  have b10 : decide (nv ≤ 1) = false := decide_eq_false (by omega)
  have hs4 := fun W => run_upto (P := Try.prog) (some ⟨g, 0, none⟩) N c 23 5 Try.underlying23 szB T (T : Int) rfl (by omega) W
  have hs5 := fun W => run_from (P := Try.prog) (some ⟨g, 0, none⟩) T c 23 5 Try.underlying23 szB (i + nv) ((i : Int) + (nv : Int)) (by omega) (by omega) W
  simp only [if_neg (show ¬ c = i + nv by omega), Option.map_some, add_z, show T - (i + nv) = k by omega] at hs5
  have hs6 := fun W => run_from (P := Try.prog) (some ⟨g, 0, none⟩) T c 23 5 Try.underlying23 szB i (i : Int) rfl (by omega) W
  simp only [if_neg (show ¬ c = i by omega), Option.map_some, add_z] at hs6
  obtain ⟨q, hq⟩ : ∃ q, T - i = q := ⟨_, rfl⟩
  rw [hq] at hs6
  obtain ⟨gv, rfl, _, hgl⟩ := hv.some_ (by omega)
  have hne : g ≠ gv := fun e => hgv (by simp [e])
  obtain ⟨cv0, hBv, hcvl, hnv, _, _⟩ := hv.cells_
  have hov : ∀ (lb cb la ca : Nat), (callFunc 42 #[.slice (some ⟨g, i + nv, none⟩) la ca, .slice (some ⟨gv, 0, none⟩) lb cb]).run Try.prog w.drew = .ok (.value (.bool false)) w.drew := fun lb cb la ca => by
    rw [run_callFunc_extern Try.func42 (by kernel_rfl) (by kernel_rfl) (by kernel_rfl) (e := Extern.SlicesOverlaps.overlaps #[23, 23] #[4]) (by kernel_rfl),
      Lib.run_overlaps_apart w.drew 23 4 5 Try.underlying23 1 (fun W => by
        obtain ⟨i, hi, hz, hs, hb⟩ := info_parts inB
        simp [sizeOf, typeInfo, hi, hs]) ⟨g, i + nv, none⟩ ⟨gv, 0, none⟩ la ca lb cb hne 5 5 c cv (by
        have := hB.h
        unfold Has at this
        show World.shape? w g = _
        unfold World.shape?
        rw [this]; simp [hcl]) (by
        have := hBv.h
        unfold Has at this
        show World.shape? w gv = _
        unfold World.shape?
        rw [this]; simp [hcvl]) (by omega) (hB.h.frozen _) (hB.h.frozen _)]
    rfl
  have hB1 : Blk w.drew g 5 cur.toArray := hB.ext (by (repeat (first | assumption | exact Ext.refl _ | apply Ext.drew | apply Ext.drewN | apply Ext.alloc | refine Ext.trans ?_ (by assumption))); first | done | fail)
  have hV1 := hv.bs.ext ((by (repeat (first | assumption | exact Ext.refl _ | apply Ext.drew | apply Ext.drewN | apply Ext.alloc | refine Ext.trans ?_ (by assumption))); first | done | fail) : Ext w w.drew)
  have hvl := hv.len
  have hdl : ((L.drop (i + 1)).map vb).length = k := by rw [List.length_map, List.length_drop]; omega
  have HB1 := Kp.mk hB1
  have hf1 : (lv.map vb).length = Nat.min nv q := by rw [List.length_map, hvl]; show nv = min nv q; omega
  have HF1 := Kp.mk hf1
  have HD : Kp (((L.drop (i + 1)).map vb).length = Nat.min k k) := ⟨by rw [hdl]; show k = min k k; omega⟩
  have hE : i + nv + ((L.drop (i + 1)).map vb).length ≤ cur.length := by rw [hdl]; omega
  have HE := Kp.mk hE
  have hF2 : i + (lv.map vb).length ≤ (splice cur (i + nv) ((L.drop (i + 1)).map vb)).length := by rw [length_splice _ _ _ hE, List.length_map, hvl]; omega
  have HF2 := Kp.mk hF2
  have HV := Kp.mk (fun (hp : 0 < (lv.map vb).length) (w' : World) (hm : Mds [g] w.drew w') => (hV1.s.2.2.2 (by rw [List.length_map, hvl] at hp; exact hp)))
  have HVC : Kp (∀ w', Mds [g] w.drew w' → ∀ (j : Nat) (v : Value), (lv.map vb)[j]? = some v → w'.cell? ((⟨gv, 0, none⟩ : Addr).add j) = some v) := ⟨fun w' hm j v hj => by
    have hjl : j < nv := by have := (List.getElem?_eq_some_iff.1 hj).1; simpa [hvl] using this
    rw [add_z, (hm.block gv hgl (by simpa using fun e => hne e.symm) |> fun e => World.cell?_of_block (w := w.drew) (a := ⟨gv, j, none⟩) e)]
    have h1 : w.cell? ⟨gv, j, none⟩ = some (.int .u8 (ub (gb lv j))) := hv.cell j hjl
    have h2 : (lv.map vb)[j]? = some (.int .u8 (ub (gb lv j))) := by
      rw [List.getElem?_map, List.getElem?_eq_getElem (by omega)]
      simp [gb, show j < lv.length by omega]
    rw [h2] at hj
    rw [← hj]
    exact h1⟩
  have HC : Kp (∀ (j : Nat) (v : Value), ((L.drop (i + 1)).map vb)[j]? = some v → cur[i + 1 + j]? = some v) := ⟨fun j v hj => tail_cells ht hLl j v hj⟩
  have HFIN : Kp (((splice (splice cur (i + nv) ((L.drop (i + 1)).map vb)) i (lv.map vb)).take T) = (L.take i ++ lv ++ L.drop (i + 1)).map vb) := ⟨by
    have h1 := splice_behind cur (lv.map vb) ((L.drop (i + 1)).map vb) i (by rw [List.length_map, hvl, hdl]; omega)
    rw [hdl, List.length_map, hvl, hT] at h1
    have h2 : cur.take i = (L.take i).map vb := by
      rw [List.map_take, ← ht, List.take_take, Nat.min_eq_left (by omega)]
    rw [h1, h2, List.map_append, List.map_append]⟩
  have HFL : Kp ((splice (splice cur (i + nv) ((L.drop (i + 1)).map vb)) i (lv.map vb)).length = c) := ⟨by rw [length_splice _ _ _ hF2, length_splice _ _ _ hE, hcl]⟩
  have HLL : Kp ((L.take i ++ lv ++ L.drop (i + 1)).length = T) := ⟨by rw [List.length_append, List.length_append, List.length_take, List.length_drop, hvl]; omega⟩
  have HO1 : Kp (∀ v ∈ lv.map vb, v.oneCell' = true) := ⟨one_vb' _⟩
  have HO2 : Kp (∀ v ∈ (L.drop (i + 1)).map vb, v.oneCell' = true) := ⟨one_vb' _⟩
  have HTG : Kp (T ≤ c) := ⟨by omega⟩
  have HGM := Kp.mk hcm
  have HT : Kp (T ≤ (c : Int)) := ⟨by omega⟩
  have b11 : (T : Int) ≤ (c : Int) := by omega
  clear ho hv hB hcl hNc hcm ht hB1 hf1 hF2 hE hV1 hvl hdl hLl hgv hc hn hn4 hb hk hT hq hN hBv hcvl hnv hgl
  generalize (L.drop (i + 1)).map vb = X at *
  generalize (lv.map vb) = V at *
  go_enter Try.func37, Try.ntmps37
  go_wp2_with fail
  refine wp_region_held_drew (S := fun _ => True) (by kernel_rfl) trivial (fun hHeld => ?_)
  refine wpAnyH_take (i := 0) (oi := ⟨some 45, _, _, _, _, _⟩) (v := ?_) rfl (by kernel_rfl) (by kernel_rfl) (by kernel_rfl) (fun _ _ _ h => h) (Or.inl ⟨by rfl, ?_⟩) (by assumption) ?_
  rotate_left
  · (intro w hSw; (try dsimp only at hSw); go_simp; try with_reducible rfl)
  try simp only [Act.put, List.setIfInBounds_toArray, List.set_cons_zero, List.set_cons_succ]
  refine wpAnyH_take (i := 1) (oi := ⟨some 46, _, _, _, _, _⟩) (v := ?_) rfl (by kernel_rfl) (by kernel_rfl) (by kernel_rfl) (fun _ _ _ h => h) (Or.inl ⟨by rfl, ?_⟩) (by assumption) ?_
  rotate_left
  · (intro w hSw; (try dsimp only at hSw); go_simp; try with_reducible rfl)
  try simp only [Act.put, List.setIfInBounds_toArray, List.set_cons_zero, List.set_cons_succ]
  refine wpAnyH_take (i := 2) (oi := ⟨some 47, _, _, _, _, _⟩) (v := ?_) rfl (by kernel_rfl) (by kernel_rfl) (by kernel_rfl) (fun _ _ _ h => h) (Or.inl ⟨by rfl, ?_⟩) (by assumption) ?_
  rotate_left
  · (intro w hSw; (try dsimp only at hSw); go_simp; try with_reducible rfl)
  try simp only [Act.put, List.setIfInBounds_toArray, List.set_cons_zero, List.set_cons_succ]
  refine wpAnyH_take (i := 3) (oi := ⟨some 48, _, _, _, _, _⟩) (v := ?_) rfl (by kernel_rfl) (by kernel_rfl) (by kernel_rfl) (fun _ _ _ h => h) (Or.inl ⟨by rfl, ?_⟩) (by assumption) ?_
  rotate_left
  · (intro w hSw; (try dsimp only at hSw); go_simp; try with_reducible rfl)
  try simp only [Act.put, List.setIfInBounds_toArray, List.set_cons_zero, List.set_cons_succ]
  refine wpAnyH_take (i := 4) (oi := ⟨some 49, _, _, _, _, _⟩) (v := ?_) rfl (by kernel_rfl) (by kernel_rfl) (by kernel_rfl) (fun _ _ _ h => h) (Or.inl ⟨by rfl, ?_⟩) (by assumption) ?_
  rotate_left
  · (intro w hSw; (try dsimp only at hSw); go_simp; try with_reducible rfl)
  try simp only [Act.put, List.setIfInBounds_toArray, List.set_cons_zero, List.set_cons_succ]
  refine wpAnyH_take (i := 5) (oi := ⟨some 50, _, _, _, _, _⟩) (v := ?_) rfl (by kernel_rfl) (by kernel_rfl) (by kernel_rfl) (fun _ _ _ h => h) (Or.inl ⟨by rfl, ?_⟩) (by assumption) ?_
  rotate_left
  · (intro w hSw; (try dsimp only at hSw); go_simp; try with_reducible rfl)
  try simp only [Act.put, List.setIfInBounds_toArray, List.set_cons_zero, List.set_cons_succ]
  refine wpAnyH_take (i := 6) (oi := ⟨some 51, _, _, _, _, _⟩) (v := ?_) rfl (by kernel_rfl) (by kernel_rfl) (by kernel_rfl) (fun _ _ _ h => h) (Or.inl ⟨by rfl, ?_⟩) (by assumption) ?_
  rotate_left
  · (intro w hSw; (try dsimp only at hSw); go_simp; try with_reducible rfl)
  try simp only [Act.put, List.setIfInBounds_toArray, List.set_cons_zero, List.set_cons_succ]
  refine wpAnyH_take (i := 7) (oi := ⟨some 52, _, _, _, _, _⟩) (v := ?_) rfl (by kernel_rfl) (by kernel_rfl) (by kernel_rfl) (fun _ _ _ h => h) (Or.inl ⟨by rfl, ?_⟩) (by assumption) ?_
  rotate_left
  · (intro w hSw; (try dsimp only at hSw); go_simp; try with_reducible rfl)
  try simp only [Act.put, List.setIfInBounds_toArray, List.set_cons_zero, List.set_cons_succ]
  refine wpAnyH_take (i := 8) (oi := ⟨some 53, _, _, _, _, _⟩) (v := ?_) rfl (by kernel_rfl) (by kernel_rfl) (by kernel_rfl) (fun _ _ _ h => h) (Or.inl ⟨by rfl, ?_⟩) (by assumption) ?_
  rotate_left
  · (intro w hSw; (try dsimp only at hSw); go_simp; try with_reducible rfl)
  try simp only [Act.put, List.setIfInBounds_toArray, List.set_cons_zero, List.set_cons_succ]
  refine wpAnyH_take (i := 9) (oi := ⟨some 54, _, _, _, _, _⟩) (v := ?_) rfl (by kernel_rfl) (by kernel_rfl) (by kernel_rfl) (fun _ _ _ h => h) (Or.inl ⟨by rfl, ?_⟩) (by assumption) ?_
  rotate_left
  · (intro w hSw; (try dsimp only at hSw); go_simp; try with_reducible rfl)
  try simp only [Act.put, List.setIfInBounds_toArray, List.set_cons_zero, List.set_cons_succ]
  refine wpAnyH_take (i := 10) (oi := ⟨some 55, _, _, _, _, _⟩) (v := ?_) rfl (by kernel_rfl) (by kernel_rfl) (by kernel_rfl) (fun _ _ _ h => h) (Or.inl ⟨by rfl, ?_⟩) (by assumption) ?_
  rotate_left
  · (intro w hSw; (try dsimp only at hSw); go_simp; try with_reducible rfl)
  try simp only [Act.put, List.setIfInBounds_toArray, List.set_cons_zero, List.set_cons_succ]
  refine wpAnyH_take (i := 11) (oi := ⟨some 56, _, _, _, _, _⟩) (v := ?_) rfl (by kernel_rfl) (by kernel_rfl) (by kernel_rfl) (fun _ _ _ h => h) (Or.inl ⟨by rfl, ?_⟩) (by assumption) ?_
  rotate_left
  · (intro w hSw; (try dsimp only at hSw); go_simp; try with_reducible rfl)
  try simp only [Act.put, List.setIfInBounds_toArray, List.set_cons_zero, List.set_cons_succ]
  refine wpAnyH_take (i := 12) (oi := ⟨some 10, _, _, _, _, _⟩) (v := ?_) rfl (by kernel_rfl) (by kernel_rfl) (by kernel_rfl) (fun _ _ _ h => h) (Or.inl ⟨by rfl, ?_⟩) (by assumption) ?_
  rotate_left
  · (intro w hSw; (try dsimp only at hSw); go_simp; try with_reducible rfl)
  try simp only [Act.put, List.setIfInBounds_toArray, List.set_cons_zero, List.set_cons_succ]
  refine wpAnyH_done (by kernel_rfl) ?_ _
  go_wp2_with fail
  refine wp_region_held_drew (S := fun _ => True) (by kernel_rfl) trivial (fun hHeld => ?_)
  refine wpAnyH_take (i := 0) (oi := ⟨some 121, _, _, _, _, _⟩) (v := ?_) rfl (by kernel_rfl) (by kernel_rfl) (by kernel_rfl) (fun _ _ _ h => h) (Or.inl ⟨by rfl, ?_⟩) (by assumption) ?_
  rotate_left
  · (intro w hSw; (try dsimp only at hSw); go_simp; try with_reducible rfl)
  try simp only [Act.put, List.setIfInBounds_toArray, List.set_cons_zero, List.set_cons_succ]
  refine wpAnyH_take (i := 1) (oi := ⟨some 122, _, _, _, _, _⟩) (v := ?_) rfl (by kernel_rfl) (by kernel_rfl) (by kernel_rfl) (fun _ _ _ h => h) (Or.inl ⟨by rfl, ?_⟩) (by assumption) ?_
  rotate_left
  · (intro w hSw; (try dsimp only at hSw); go_simp; try with_reducible rfl)
  try simp only [Act.put, List.setIfInBounds_toArray, List.set_cons_zero, List.set_cons_succ]
  refine wpAnyH_take (i := 2) (oi := ⟨some 123, _, _, _, _, _⟩) (v := ?_) rfl (by kernel_rfl) (by kernel_rfl) (by kernel_rfl) (fun _ _ _ h => h) (Or.inl ⟨by rfl, ?_⟩) (by assumption) ?_
  rotate_left
  · (intro w hSw; (try dsimp only at hSw); go_simp; try with_reducible rfl)
  try simp only [Act.put, List.setIfInBounds_toArray, List.set_cons_zero, List.set_cons_succ]
  refine wpAnyH_take (i := 3) (oi := ⟨some 124, _, _, _, _, _⟩) (v := ?_) rfl (by kernel_rfl) (by kernel_rfl) (by kernel_rfl) (fun _ _ _ h => h) (Or.inl ⟨by rfl, ?_⟩) (by assumption) ?_
  rotate_left
  · (intro w hSw; (try dsimp only at hSw); go_simp; try with_reducible rfl)
  try simp only [Act.put, List.setIfInBounds_toArray, List.set_cons_zero, List.set_cons_succ]
  refine wpAnyH_take (i := 4) (oi := ⟨some 125, _, _, _, _, _⟩) (v := ?_) rfl (by kernel_rfl) (by kernel_rfl) (by kernel_rfl) (fun _ _ _ h => h) (Or.inl ⟨by rfl, ?_⟩) (by assumption) ?_
  rotate_left
  · (intro w hSw; (try dsimp only at hSw); go_simp; try with_reducible rfl)
  try simp only [Act.put, List.setIfInBounds_toArray, List.set_cons_zero, List.set_cons_succ]
  refine wpAnyH_take (i := 5) (oi := ⟨some 126, _, _, _, _, _⟩) (v := ?_) rfl (by kernel_rfl) (by kernel_rfl) (by kernel_rfl) (fun _ _ _ h => h) (Or.inl ⟨by rfl, ?_⟩) (by assumption) ?_
  rotate_left
  · (intro w hSw; (try dsimp only at hSw); go_simp; try with_reducible rfl)
  try simp only [Act.put, List.setIfInBounds_toArray, List.set_cons_zero, List.set_cons_succ]
  refine wpAnyH_take (i := 6) (oi := ⟨some 127, _, _, _, _, _⟩) (v := ?_) rfl (by kernel_rfl) (by kernel_rfl) (by kernel_rfl) (fun _ _ _ h => h) (Or.inl ⟨by rfl, ?_⟩) (by assumption) ?_
  rotate_left
  · (intro w hSw; (try dsimp only at hSw); go_simp; try with_reducible rfl)
  try simp only [Act.put, List.setIfInBounds_toArray, List.set_cons_zero, List.set_cons_succ]
  refine wpAnyH_take (i := 7) (oi := ⟨some 128, _, _, _, _, _⟩) (v := ?_) rfl (by kernel_rfl) (by kernel_rfl) (by kernel_rfl) (fun _ _ _ h => h) (Or.inl ⟨by rfl, ?_⟩) (by assumption) ?_
  rotate_left
  · (intro w hSw; (try dsimp only at hSw); go_simp; try with_reducible rfl)
  try simp only [Act.put, List.setIfInBounds_toArray, List.set_cons_zero, List.set_cons_succ]
  refine wpAnyH_take (i := 8) (oi := ⟨some 129, _, _, _, _, _⟩) (v := ?_) rfl (by kernel_rfl) (by kernel_rfl) (by kernel_rfl) (fun _ _ _ h => h) (Or.inl ⟨by rfl, ?_⟩) (by assumption) ?_
  rotate_left
  · (intro w hSw; (try dsimp only at hSw); go_simp; try with_reducible rfl)
  try simp only [Act.put, List.setIfInBounds_toArray, List.set_cons_zero, List.set_cons_succ]
  refine next_one 9 (by kernel_rfl) rfl (by rfl) fun K' HK' => ?_
  refine wp_copy_at (o := ⟨some 130, _, _, _, _, _⟩) (.tmp 126) (.tmp 129) 23 23 rfl 5 Try.underlying23 szB (some ⟨g, i + nv, none⟩) (some ⟨g, i + 1, none⟩) k (c - (i + nv)) k (c - (i + 1)) rfl rfl g (i + nv) cur 5 (HB1.out.ext (by (repeat (first | assumption | exact Ext.refl _ | apply Ext.drew | apply Ext.drewN | apply Ext.alloc | refine Ext.trans ?_ (by assumption))); first | done | fail)) X HD.out (fun _ => ⟨rfl, _, rfl, ?src⟩) HE.out HO2.out ?_
  case src =>
    intro j v hj
    have h1 := HC.out j v hj
    rw [show (⟨g, i + 1, none⟩ : Addr).add j = ⟨g, i + 1 + j, none⟩ by unfold Addr.add; split <;> simp_all]
    rw [(HB1.out.ext ((by (repeat (first | assumption | exact Ext.refl _ | apply Ext.drew | apply Ext.drewN | apply Ext.alloc | refine Ext.trans ?_ (by assumption))); first | done | fail) : Ext w.drew w.drew.drew)).h.cell]
    simpa using h1
  intro w3 hB3 hm3
  refine held_go HK' trivial (fun hHeld => ?_)
  clear HK'
  try simp only [Act.put, List.setIfInBounds_toArray, List.set_cons_zero, List.set_cons_succ]
  refine wpAnyH_done (by kernel_rfl) ?_ _
  have HM3 := Kp.mk ((((by (repeat (first | assumption | exact Ext.refl _ | apply Ext.drew | apply Ext.drewN | apply Ext.alloc | refine Ext.trans ?_ (by assumption))); first | done | fail) : Ext w.drew w.drew.drew).mds [g]).trans hm3)
  clear hm3
  go_wp2_with (first | (with_reducible refine at_call_to 135 ?_; refine wpList_copy_at (o := ⟨some 135, _, _, _, _, _⟩) rfl (.tmp 133) (.tmp 134) 23 23 rfl 5 Try.underlying23 szB (some ⟨g, i, none⟩) (some ⟨gv, 0, none⟩) q (c - i) nv cv rfl rfl g i (splice cur (i + nv) X) 5 hB3.out V HF1.out (fun hp => ⟨rfl, _, rfl, HVC.out _ HM3.out⟩) HF2.out HO1.out ?_; intro w4 hB4 hm4) | fail)
  go_ret
  have hm : Mds [g] w w4 := (((by (repeat (first | assumption | exact Ext.refl _ | apply Ext.drew | apply Ext.drewN | apply Ext.alloc | refine Ext.trans ?_ (by assumption))); first | done | fail) : Ext w w.drew).mds [g]).trans (HM3.out.trans hm4)
  exact ⟨_, _, rfl, Own.of_cells hB4.out HFL.out HTG.out HGM.out (Nat.zero_le _) HLL.out HFIN.out, hm.mono (fun k hk => by simpa [fpv, Value.ownBlock] using hk), fun k hk => .inl (by simpa [fpv, Value.ownBlock] using hk)⟩
end Go.Proofs.Ytadndhenfoppiaa
