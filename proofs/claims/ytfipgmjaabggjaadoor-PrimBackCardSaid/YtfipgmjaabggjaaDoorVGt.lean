/-
  Single operations on any act: a move, a cut, a call, a moment put together and boxed (for grow_region).
-/
import Derived.Test.YtfipgmjaabggjaaDoorVGr
import Derived.Test.YtfipgmjaabggjaaDoorM20
namespace Go.Proofs.YtfipgmjaabggjaaDoor
open Go Go.RowKit
set_option maxRecDepth 4000

section
variable {o : Oper} {a : Act} {w : World} {K : Act → World → Prop} {Q : Exit → Act → World → Prop}
theorem wp_move (s : Nat) (v : Value) (ho : o.op = .move (.tmp s)) (hs : a.tmps[s]? = some v) (h : K (a.put o.dst v) w) : o.wp Tryd.prog a w K Q := by
  unfold Oper.wp
  go_simp
  exact h
theorem wp_cut (T : TypeId) (s : Nat) (x : Int) (A : Option Addr) (n c : Nat) (r : Value) (ho : o.op = .slice T (.tmp s) (some (.const (.int .i64 x))) none none) (hs : a.tmps[s]? = some (.slice A n c)) (hr : (Instr.sliceAt T (.slice A n c) (some (.int .i64 x)) none none).run Tryd.prog w = .ok r w) (h : K (a.put o.dst r) w) : o.wp Tryd.prog a w K Q := by
  unfold Oper.wp
  go_simp
  exact h
theorem wp_call1 (f : FuncId) (T : TypeId) (s : Nat) (v : Value) (ho : o.op = .call { callee := .value (.func f), args := #[.tmp s], argTypes := #[T] }) (hs : a.tmps[s]? = some v) (eg : ∀ args w, (callFunc f args).run Tryd.prog w = .ok (.enter f args) w)
    (h : Calls Tryd.prog f #[v] w fun e w' => ∃ u, e = .returned u ∧ K (a.put o.dst u) w') : o.wp Tryd.prog a w K Q := by
  unfold Oper.wp
  go_simp
  refine h.mono ?_
  rintro e w' ⟨u, rfl, hu⟩
  exact hu
theorem wp_alloc6 (ho : o.op = .alloc tmt) (h : K (a.put o.dst (.pointer (some ⟨w.heap.size, 0, none⟩))) (w.alloc (.cells (tci 0 0 0 0 0 0) tmt))) : o.wp Tryd.prog a w K Q := by
  unfold Oper.wp
  unfold tci at h
  go_simp
  exact h
theorem wp_build6 (s0 s1 s2 s3 s4 s5 : Nat) (v0 v1 v2 v3 v4 v5 : Int) (ho : o.op = .build tmt #[(0, .tmp s0), (1, .tmp s1), (2, .tmp s2), (3, .tmp s3), (4, .tmp s4), (5, .tmp s5)]) (h0 : a.tmps[s0]? = some (.int .i64 v0)) (h1 : a.tmps[s1]? = some (.int .i64 v1)) (h2 : a.tmps[s2]? = some (.int .i64 v2)) (h3 : a.tmps[s3]? = some (.int .i64 v3)) (h4 : a.tmps[s4]? = some (.int .i64 v4)) (h5 : a.tmps[s5]? = some (.int .i64 v5))
    (h : K (a.put o.dst (.agg (tci v0 v1 v2 v3 v4 v5))) w) : o.wp Tryd.prog a w K Q := by
  unfold Oper.wp
  unfold tci at h
  go_simp
  exact h
end
end Go.Proofs.YtfipgmjaabggjaaDoor
