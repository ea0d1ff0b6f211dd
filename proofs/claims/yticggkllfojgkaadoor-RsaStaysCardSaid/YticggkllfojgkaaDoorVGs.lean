/-
  Single operations on any act: a new empty slice of limbs, a field's address, a load, an append to an empty slice, a struct put together, a new struct.
-/
import Derived.Test.YticggkllfojgkaaDoorVGr
import Derived.Test.YticggkllfojgkaaDoorM13
import Derived.Test.YticggkllfojgkaaDoorM20
import Derived.Deep.Upon
namespace Go.Proofs.YticggkllfojgkaaDoor
open Go Go.RowKit
set_option maxRecDepth 4000

/-- an append to an empty slice without room leaves what was there as it was -/
theorem run_append_clear (ty : TypeId) (b0 : Addr) {w : World} {A : Option Addr} {m c : Nat} {l : List Nat} (hl : Rd vL w A m c l) (hm : m ≤ 1000000) :
    ∃ A' c' w', (Builtin.append_ #[nt, nt] ty #[.slice (some b0) 0 0, .slice A m c]).run Tryd.prog w = .ok (.slice A' m c') w' ∧ Rd vL w' A' m c' l ∧ Ext w w' := by
  obtain ⟨i, hi, hz, hs, hb⟩ := info_parts inL
  rcases Nat.eq_zero_or_pos m with h0 | h0
  · subst h0
    obtain rfl : l = [] := List.eq_nil_of_length_eq_zero hl.len
    refine ⟨some b0, 0, w, ?_, ⟨rfl, Nat.le_refl _, (fun e => by cases e), fun h => absurd h (Nat.lt_irrefl 0)⟩, Ext.refl w⟩
    cases A with
    | none => exact run_append_nothing w nt nt ty ut i Tryd.underlying23 hi (some b0) 0 0 (Nat.le_refl _) _ (Src.ofNil w Tryd.underlying23 c)
    | some a => exact run_append_nothing w nt nt ty ut i Tryd.underlying23 hi (some b0) 0 0 (Nat.le_refl _) _ (Src.ofSlice w Tryd.underlying23 a 0 c [] (by simp) (by intro j u hu; simp at hu) (by intro u hu; cases hu))
  · obtain ⟨ad, rfl, hn⟩ := hl.news h0
    have hlen := hl.len
    have hr := run_append_grow (P := Tryd.prog) w nt ty ut i (.int .u32 0) Tryd.underlying23 hi hz b0 0 0 [] (by simp) (by intro j v hj; simp at hj) ad m c (l.map vL) (by rw [List.length_map, hlen, hs, Nat.mul_one]) hn (by omega) (by omega) (growslice_fits (by omega) (by rw [hb]; omega))
    simp only [Nat.zero_add] at hr
    have hge := grownCap_ge w m 0 ut
    generalize grownCap w m 0 ut = cap at hr hge
    refine ⟨_, _, _, hr, ?_, (Ext.refl w).drew.alloc _⟩
    refine ⟨hlen, hge, (fun e => by cases e), fun _ => ⟨w.heap.size, 0, rfl, fun j x hj => ?_⟩⟩
    have hjl := (List.getElem?_eq_some_iff.1 hj).1
    rw [Nat.zero_add, cell_of_row _ w.heap.size j _ ut (0, 0) (heap_alloc_new w.drew _)]
    have e : (([] : List Value).toArray ++ ((l.map vL).toArray ++ Builtin.zeroCells (Value.int .u32 0).cells (cap - m)))[j]? = some (vL x) := by
      rw [show ([] : List Value).toArray = #[] from rfl, Array.empty_append, Array.getElem?_append_left (by simpa using hjl)]
      simp [hj]
    first | exact e | (simp only [Array.append_assoc] at e ⊢; exact e) | simpa using e
section
variable {o : Oper} {a : Act} {w : World} {K : Act → World → Prop} {Q : Exit → Act → World → Prop}
theorem wp_build0 (ho : o.op = .buildSlice nt 0 #[]) (h : K (a.put o.dst (.slice (some ⟨w.heap.size, 0, none⟩) 0 0)) (w.alloc (.cells #[] ut))) : o.wp Tryd.prog a w K Q := by
  unfold Oper.wp
  go_simp
  exact h
theorem wp_field (T : TypeId) (s k g : Nat) (ho : o.op = .fieldAddr T (.tmp s) k) (hs : a.tmps[s]? = some (.pointer (some ⟨g, 0, none⟩))) (hk : (Instr.fieldAt T (.pointer (some ⟨g, 0, none⟩)) k).run Tryd.prog w = .ok (.pointer (some ⟨g, k, none⟩)) w) (h : K (a.put o.dst (.pointer (some ⟨g, k, none⟩))) w) : o.wp Tryd.prog a w K Q := by
  unfold Oper.wp
  have e : a.eval (.tmp s) = .pointer (some ⟨g, 0, none⟩) := by simp [Act.eval, hs]
  simp only [execOp, ho, Sem.run_bind, Sem.run_pure, e, hk, Result.andThen_ok]
  exact h
theorem wp_load_nat (s g k : Nat) (v : Value) (ho : o.op = .load nt (.tmp s)) (hs : a.tmps[s]? = some (.pointer (some ⟨g, k, none⟩))) (hc : w.cell? ⟨g, k, none⟩ = some v) (h : K (a.put o.dst v) w) : o.wp Tryd.prog a w K Q := by
  unfold Oper.wp
  go_simp
  exact h
theorem wp_append_clear (s x : Nat) (b0 : Addr) {A : Option Addr} {m c : Nat} {l : List Nat} (ho : o.op = .call { callee := .builtin .append, args := #[.tmp s, .tmp x], argTypes := #[nt, nt] }) (hs : a.tmps[s]? = some (.slice (some b0) 0 0)) (hx : a.tmps[x]? = some (.slice A m c))
    (hl : Rd vL w A m c l) (hm : m ≤ 1000000) (h : ∀ A' c' w', Rd vL w' A' m c' l → Ext w w' → K (a.put o.dst (.slice A' m c')) w') : o.wp Tryd.prog a w K Q := by
  obtain ⟨A', c', w', hr, h2, h3⟩ := run_append_clear o.type b0 hl hm
  have e1 : a.eval (.tmp s) = .slice (some b0) 0 0 := by simp [Act.eval, hs]
  have e2 : a.eval (.tmp x) = .slice A m c := by simp [Act.eval, hx]
  unfold Oper.wp
  simp [execOp, ho, resolve, invoke, builtin, e1, e2, hr, Result.andThen]
  exact h A' c' w' h2 h3
theorem wp_build3 (T : TypeId) (s0 s1 s2 : Nat) (v0 v1 v2 : Value) (ho : o.op = .build T #[(0, .tmp s0), (1, .tmp s1), (2, .tmp s2)]) (h0 : a.tmps[s0]? = some v0) (h1 : a.tmps[s1]? = some v1) (h2 : a.tmps[s2]? = some v2)
    (hk : (execOp a.eval o).run Tryd.prog w = .ok (.value (.agg #[v0, v1, v2])) w) (h : K (a.put o.dst (.agg #[v0, v1, v2])) w) : o.wp Tryd.prog a w K Q := by
  unfold Oper.wp
  rw [hk]
  exact h
theorem wp_alloc3 (ho : o.op = .alloc 30) (h : K (a.put o.dst (.pointer (some ⟨w.heap.size, 0, none⟩))) (w.alloc (.cells #[.slice none 0 0, .slice none 0 0, .slice none 0 0] 30))) : o.wp Tryd.prog a w K Q := by
  unfold Oper.wp
  go_simp
  exact h
end
end Go.Proofs.YticggkllfojgkaaDoor
