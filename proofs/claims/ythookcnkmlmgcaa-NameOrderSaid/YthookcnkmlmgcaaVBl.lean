/-
  Rows of bytes put into the midst of a block; a piece of a block as an array's value.
-/
import Derived.Test.YthookcnkmlmgcaaVFw
import Derived.Test.YthookcnkmlmgcaaVBy
import Derived.Deep.MidRow
import Derived.Laws.Tables
namespace Go.Proofs.Ythookcnkmlmgcaa
open Go Go.RowKit
set_option maxRecDepth 4000

/-- a row put over a list from an element on -/
def puts : List (BitVec 8) → Nat → List (BitVec 8) → List (BitVec 8)
  | L, _, [] => L
  | L, o, x :: r => puts (L.set o x) (o + 1) r
theorem puts_len : ∀ (l : List (BitVec 8)) (L : List (BitVec 8)) (o : Nat), (puts L o l).length = L.length
  | [], _, _ => rfl
  | x :: r, L, o => by rw [puts, puts_len r, List.length_set]
theorem puts_gb : ∀ (l : List (BitVec 8)) (L : List (BitVec 8)) (o i : Nat), o + l.length ≤ L.length → gb (puts L o l) i = if o ≤ i ∧ i < o + l.length then gb l (i - o) else gb L i
  | [], L, o, i, _ => by rw [puts, if_neg (by rw [List.length_nil]; omega)]
  | x :: r, L, o, i, h => by
    rw [List.length_cons] at h
    rw [puts, puts_gb r (L.set o x) (o + 1) i (by rw [List.length_set]; omega), gb_set _ _ _ _ (by omega), List.length_cons]
    by_cases h1 : i = o
    · subst h1
      rw [if_neg (by omega), if_pos rfl, if_pos (by omega), Nat.sub_self]; rfl
    · by_cases h2 : o + 1 ≤ i ∧ i < o + 1 + r.length
      · rw [if_pos h2, if_pos (by omega), show i - o = (i - (o + 1)) + 1 by omega]; rfl
      · rw [if_neg h2, if_neg h1, if_neg (by omega)]
section
variable {w w' w0 : World} {g t : Nat}
theorem Blk.setCells (l : List (BitVec 8)) : ∀ {w : World} {L : List (BitVec 8)} (o : Nat), Blk w g t (bv L) → Blk (w.setCells g o (l.map vb)) g t (bv (puts L o l)) := by
  induction l with
  | nil => intro w L o h; exact h
  | cons x r ih => intro w L o h; exact ih (o + 1) (h.setB o x)
theorem Blk.setCells_far {cs : Array Value} {g' : Nat} (hg : g ≠ g') : ∀ (vs : List Value) {w : World} (o : Nat), Blk w g t cs → Blk (w.setCells g' o vs) g t cs
  | [], _, _, h => h
  | v :: r, _, o, h => Blk.setCells_far hg r (o + 1) (h.far (p := ⟨g', o, none⟩) hg v)
theorem Ext.setCells (hg : w0.heap.size ≤ g) : ∀ (vs : List Value) {w : World} (o : Nat), Ext w0 w → Ext w0 (w.setCells g o vs)
  | [], _, _, h => h
  | v :: r, _, o, h => Ext.setCells hg r (o + 1) (h.setCell (p := ⟨g, o, none⟩) hg v)
theorem Blk.there {L : List (BitVec 8)} (h : Blk w g t (bv L)) (o n : Nat) (hn : o + n ≤ L.length) : w.there g o n := fun j hj => by
  refine ⟨?_, h.h.frozen _⟩
  rw [h.h.cell, bv_at _ _ (by omega)]; rfl
/-- a piece of a block, as a range -/
theorem Blk.piece {L : List (BitVec 8)} (h : Blk w g t (bv L)) (o : Nat) (l : List (BitVec 8)) (hl : ∀ j, j < l.length → gb L (o + j) = gb l j) (hn : o + l.length ≤ L.length) : w.rangeAt g o (l.map vb) := fun j v hv => by
  have hj : j < l.length := by have := (List.getElem?_eq_some_iff.1 hv).1; simpa using this
  rw [h.h.cell, bv_at _ _ (by omega), ← hv, hl j hj]
  simp [gb, hj]
end
/-- the walk stands at a load of what slot k points to; at a store there of slot m: to ask first, so that a law isn't tried elsewhere -/
theorem at_load {P : Program} {ops : Array Oper} {rest : List Oper} {a : Act} {w : World} {Q : Exit → Act → World → Prop} {d ty t ps af g} (k : Nat)
    (h : wpList P ops Q (⟨d, .load ty (.tmp k), t, ps, af, g⟩ :: rest) a w) : wpList P ops Q (⟨d, .load ty (.tmp k), t, ps, af, g⟩ :: rest) a w := h
theorem at_load_to {P : Program} {ops : Array Oper} {rest : List Oper} {a : Act} {w : World} {Q : Exit → Act → World → Prop} {ty t ps af g} (d k : Nat)
    (h : wpList P ops Q (⟨some d, .load ty (.tmp k), t, ps, af, g⟩ :: rest) a w) : wpList P ops Q (⟨some d, .load ty (.tmp k), t, ps, af, g⟩ :: rest) a w := h
theorem at_store {P : Program} {ops : Array Oper} {rest : List Oper} {a : Act} {w : World} {Q : Exit → Act → World → Prop} {d ty t ps af g} (k m : Nat)
    (h : wpList P ops Q (⟨d, .store ty (.tmp k) (.tmp m), t, ps, af, g⟩ :: rest) a w) : wpList P ops Q (⟨d, .store ty (.tmp k) (.tmp m), t, ps, af, g⟩ :: rest) a w := h
theorem at_call_to {P : Program} {ops : Array Oper} {rest : List Oper} {a : Act} {w : World} {Q : Exit → Act → World → Prop} {c t ps af g} (d : Nat)
    (h : wpList P ops Q (⟨some d, .call c, t, ps, af, g⟩ :: rest) a w) : wpList P ops Q (⟨some d, .call c, t, ps, af, g⟩ :: rest) a w := h
/-- bytes that lie in the midst of a block; room there (structures: the walk compares them by their names) -/
structure Rge (w : World) (b o : Nat) (l : List (BitVec 8)) : Prop where
  r : w.rangeAt b o (l.map vb)
structure Thr (w : World) (b o n : Nat) : Prop where
  t : w.there b o n
theorem Rge.ext {w w' : World} {b o : Nat} {l : List (BitVec 8)} (h : Rge w b o l) (hx : Ext w w') : Rge w' b o l := ⟨rg_ext h.r hx⟩
theorem wpList_load_rge {P : Program} {ops : Array Oper} {rest : List Oper} {op : Oper} {a : Act} {w : World} {Q : Exit → Act → World → Prop} (hgd : op.guard = none) (ty : TypeId) (x : Operand) (ho : op.op = .load ty x)
    (b o : Nat) (l : List (BitVec 8)) (hc : Rge w b o l) (hx : a.eval x = .pointer (some ⟨b, o, none⟩)) (d : TypeDesc)
    (hu : P.underlying ty = some d) (hd : d.isRow = true) (hi : (P.info? ty).map (·.size) = some (bv l).size)
    (h : wpList P ops Q rest (a.put op.dst (.agg (bv l))) w) : wpList P ops Q (op :: rest) a w :=
  wpList_load_mid hgd ty x ho b o hx (l.map vb) d hc.r hu hd (by rw [hi, bv_size, List.length_map]) h
theorem wp_load_rge {P : Program} {op : Oper} {a : Act} {w : World} {K : Act → World → Prop} {Q : Exit → Act → World → Prop} (ty : TypeId) (x : Operand) (ho : op.op = .load ty x)
    (b o : Nat) (l : List (BitVec 8)) (hc : Rge w b o l) (hx : a.eval x = .pointer (some ⟨b, o, none⟩)) (d : TypeDesc)
    (hu : P.underlying ty = some d) (hd : d.isRow = true) (hi : (P.info? ty).map (·.size) = some (bv l).size)
    (h : K (a.put op.dst (.agg (bv l))) w) : op.wp P a w K Q :=
  wp_load_mid ty x ho b o hx (l.map vb) d hc.r hu hd (by rw [hi, bv_size, List.length_map]) h
theorem Blk.rge {w : World} {g t : Nat} {l : List (BitVec 8)} (h : Blk w g t (bv l)) : Rge w g 0 l := ⟨h.rg⟩
theorem wpList_store_thr {P : Program} {ops : Array Oper} {rest : List Oper} {op : Oper} {a : Act} {w : World} {Q : Exit → Act → World → Prop} (hgd : op.guard = none) (ty : TypeId) (x y : Operand) (ho : op.op = .store ty x y)
    (b o : Nat) (l : List (BitVec 8)) (ht : Thr w b o l.length) (hx : a.eval x = .pointer (some ⟨b, o, none⟩)) (hy : a.eval y = .agg (bv l))
    (hi : (P.info? ty).map (·.size) = some (bv l).size)
    (h : wpList P ops Q rest (a.put op.dst undef) (w.setCells b o (l.map vb))) : wpList P ops Q (op :: rest) a w :=
  wpList_store_mid hgd ty x y ho b o (bv l) hx hy (by rw [bv_size]; exact ht.t) hi (bv_one l) h
/-- a whole block is stored anew -/
theorem wpList_store_blk {P : Program} {ops : Array Oper} {rest : List Oper} {op : Oper} {a : Act} {w : World} {Q : Exit → Act → World → Prop} (hgd : op.guard = none) (ty : TypeId) (x y : Operand) (ho : op.op = .store ty x y)
    (g : Nat) (l l0 : List (BitVec 8)) (t : TypeId) (hB : Blk w g t (bv l0)) (hl : l.length = l0.length) (hx : a.eval x = .pointer (some ⟨g, 0, none⟩)) (hy : a.eval y = .agg (bv l))
    (hi : (P.info? ty).map (·.size) = some (bv l).size) (h : wpList P ops Q rest (a.put op.dst undef) (w.setRow g (bv l))) : wpList P ops Q (op :: rest) a w :=
  wpList_store_row hgd ty x y ho g (bv l) hx hy t _ hB.h hi (by rw [bv_size, bv_size, hl]) (bv_one l) h
theorem wp_store_blk {P : Program} {op : Oper} {a : Act} {w : World} {K : Act → World → Prop} {Q : Exit → Act → World → Prop} (ty : TypeId) (x y : Operand) (ho : op.op = .store ty x y)
    (g : Nat) (l l0 : List (BitVec 8)) (t : TypeId) (hB : Blk w g t (bv l0)) (hl : l.length = l0.length) (hx : a.eval x = .pointer (some ⟨g, 0, none⟩)) (hy : a.eval y = .agg (bv l))
    (hi : (P.info? ty).map (·.size) = some (bv l).size) (h : K (a.put op.dst undef) (w.setRow g (bv l))) : op.wp P a w K Q :=
  wp_store_row ty x y ho g (bv l) hx hy t _ hB.h hi (by rw [bv_size, bv_size, hl]) (bv_one l) h
/-- an array or a struct out of one part -/
theorem wpList_build1 {P : Program} {ops : Array Oper} {rest : List Oper} {o : Oper} {a : Act} {w : World} {Q : Exit → Act → World → Prop} (hgd : o.guard = none) (t i : Nat) (x : Operand) (ho : o.op = .build t #[(i, x)])
    (u : Value) (hu : a.eval x = u) (v : Value) (hr : (Instr.build t #[(i, u)]).run P w = .ok v w)
    (h : wpList P ops Q rest (a.put o.dst v) w) : wpList P ops Q (o :: rest) a w :=
  wpList_plain hgd fun _ hK => by
    subst hu
    have e : (#[(i, x)] : Array (Nat × Operand)).map (fun (i, x) => (i, a.eval x)) = #[(i, a.eval x)] := by simp
    unfold Oper.wp execOp
    simp only [ho, e, Sem.run_bind, hr, Result.andThen_ok, Sem.run_pure]
    exact hK _ _ h
theorem one_bs (w : World) (x : BitVec 8) : Bs (w.alloc (.cells #[.int .u8 (ub x)] 5)) (some ⟨w.heap.size, 0, none⟩) 1 1 [x] := (Blk.new w 5 (bv [x])).bs 0 1 1 (by simp) (Nat.le_refl _)
theorem num_bs (w : World) (v : Int) (x : BitVec 8) (h : ub x = v) : Bs (w.alloc (.cells #[.int .u8 v] 5)) (some ⟨w.heap.size, 0, none⟩) 1 1 [x] := by subst h; exact one_bs w x
/-- make([]byte, n) -/
theorem run_makeN (n : Nat) (S : Int) (hS : S = (n : Int)) (hn : n ≤ 140737488355328) (w : World) :
    (Instr.makeSlice 22 (.int .i64 S) (.int .i64 S)).run Try.prog w = .ok (.slice (some ⟨w.heap.size, 0, none⟩) n n) (w.alloc (.cells (bv (zb n)) 5)) := by
  subst hS
  obtain ⟨i, hi, hz, hs, hb⟩ := info_parts inB
  have hr := run_make (P := Try.prog) w 22 5 i (.int .u8 0) Try.underlying22 hi hz .i64 .i64 (n : Int) (n : Int) (by omega) (by omega) (by rw [hb]; omega) (by omega)
  rw [hr, hs]
  simp only [Int.toNat_natCast, Nat.mul_one]
  rw [show (Value.int .u8 0).cells = #[Value.int .u8 0] from rfl]
  have e : madeCells #[Value.int .u8 0] n = bv (zb n) := by
    apply Array.ext_getElem?
    intro i
    by_cases h : i < n
    · simp [madeCells, bv, zb, h, Nat.mod_one]; rfl
    · simp [madeCells, bv, zb, h]
  rw [e]
/-- a slice that is long enough, as an array -/
theorem run_arrayAt3 {P : Program} (w : World) (t n e : Nat) (h : P.underlying t = some (.array n e)) (a : Option Addr) (m c : Nat) (hl : n ≤ m) : (Instr.arrayAt t (.slice a m c)).run P w = .ok (.pointer a) w := by
  have hm : ¬ m < n := by omega
  simp [Instr.arrayAt, run_underlying h, hm]
end Go.Proofs.Ythookcnkmlmgcaa
