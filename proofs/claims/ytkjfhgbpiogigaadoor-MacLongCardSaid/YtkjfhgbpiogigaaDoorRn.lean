/-
  Single operations of a region that draws its order, once more: places, loads of a cell, sums; append of a few bytes.
-/
import Derived.Test.YtkjfhgbpiogigaaDoorRg
import Derived.Test.YtkjfhgbpiogigaaDoorWf
namespace Go.Proofs.YtkjfhgbpiogigaaDoor
open Go Go.RowKit

/-- what is held may be said more narrowly from here on -/
theorem wpAnyH_weaken {P : Program} {md : Region.Mode} {ops : Array Oper} {Q : Exit → Act → World → Prop} {S S' : World → Prop} (h : ∀ w, S' w → S w) :
    ∀ (fuel : Nat) (listed : Array Bool) (a : Act) (w : World), wpAnyH P md ops Q S' fuel listed a w → wpAnyH P md ops Q S fuel listed a w
  | 0, _, _, _, H => H
  | fuel + 1, _, _, _, H => ⟨H.1, fun i hi => wpOp_mono (fun a' w' h' => ⟨h _ h'.1, wpAnyH_weaken h fuel _ a' w' h'.2⟩) (H.2 i hi)⟩
theorem exec_index {P : Program} {o : Oper} {a : Act} {w : World} (t : TypeId) (x y : Operand) (ho : o.op = .indexAddr t x y) (v vx vy : Value) (hx : a.eval x = vx) (hy : a.eval y = vy)
    (hr : (Instr.indexAt t vx vy).run P w = .ok v w) : (execOp a.eval o).run P w = .ok (.value v) w := by
  subst hx hy
  unfold execOp
  simp only [ho, Sem.run_bind, hr, Result.andThen_ok, Sem.run_pure]
theorem exec_bin {P : Program} {o : Oper} {a : Act} {w : World} (b : BinOp) (t t' : TypeId) (x y : Operand) (ho : o.op = .binOp b t x y t') (v vx vy : Value) (hx : a.eval x = vx) (hy : a.eval y = vy)
    (hg : (eqGuard b t x y vx vy).run P w = .ok () w) (hr : (binOp b t vx vy).run P w = .ok v w) : (execOp a.eval o).run P w = .ok (.value v) w := by
  subst hx hy
  unfold execOp
  simp only [ho, Sem.run_bind, hg, hr, Result.andThen_ok, Sem.run_pure]
/-- the place of a word in an array of eight -/
theorem place8 (w : World) (g j : Nat) (hj : j < 8) : (Instr.indexAt 28 (.pointer (some ⟨g, 0, none⟩)) (.int .i64 (j : Int))).run Tryd.prog w = .ok (.pointer (some ⟨g, j, none⟩)) w := by
  have bk : (j : Int) < 8 := by omega
  go_simp
theorem word_at {w : World} {g j : Nat} {x : BitVec 32} (h : w.cell? ⟨g, j, none⟩ = some (.int .u32 (un x))) : (Instr.loadAt 24 (.pointer (some ⟨g, j, none⟩))).run Tryd.prog w = .ok (.int .u32 (un x)) w := by
  go_simp
theorem wrap_un (x : BitVec 32) : IntKind.u32.wrap (un x) = un x := by
  have h0 := un_lo x
  have h1 := un_hi x
  rw [IntKind.wrap_u32]; omega
theorem quo24 (w : World) (x : BitVec 32) : (binOp .quo 24 (.int .u32 (un x)) (.int .u32 16777216)).run Tryd.prog w = .ok (.int .u32 (un (x >>> 24))) w := by
  have h0 := un_lo x
  have h1 := un_hi x
  go_simp
  rw [Int.tdiv_eq_ediv_of_nonneg h0, un_shr24, wrap_un]
theorem quo16 (w : World) (x : BitVec 32) : (binOp .quo 24 (.int .u32 (un x)) (.int .u32 65536)).run Tryd.prog w = .ok (.int .u32 (un (x >>> 16))) w := by
  have h0 := un_lo x
  have h1 := un_hi x
  go_simp
  rw [Int.tdiv_eq_ediv_of_nonneg h0, un_shr16, wrap_un]
theorem quo8 (w : World) (x : BitVec 32) : (binOp .quo 24 (.int .u32 (un x)) (.int .u32 256)).run Tryd.prog w = .ok (.int .u32 (un (x >>> 8))) w := by
  have h0 := un_lo x
  have h1 := un_hi x
  go_simp
  rw [Int.tdiv_eq_ediv_of_nonneg h0, un_shr8, wrap_un]
theorem conv8 (w : World) (x : BitVec 32) : (convert 24 5 (.int .u32 (un x))).run Tryd.prog w = .ok (.int .u8 (ub (b8 x))) w := by
  go_simp
  rw [IntKind.wrap_u8, un_b8]
/-- append a few bytes onto a row of the call's own, at a step of a region that draws its order -/
theorem wp_append_has {P : Program} {w : World} {o : Oper} {a : Act} {K : Act → World → Prop} {Q : Exit → Act → World → Prop} (s x : Operand) (t : TypeId)
    (ho : o.op = .call { callee := .builtin .append, args := #[s, x], argTypes := #[t, t] })
    (base : Nat) (e : TypeId) (ht : P.underlying t = some (.slice e)) (hi : (P.info? e).map (fun i => (i.zero, i.size, i.bytes)) = some (some (.int .u8 0), 1, 1))
    (v : Value) (n : Nat) (xs : List Value) (hs : a.eval s = v) (hown : w.ownsRow base e 1 v n xs)
    (g u : Nat) (l : List (BitVec 8)) (m : Nat) (hx : a.eval x = .slice (some ⟨g, 0, none⟩) m m) (hg : Has w g u (bv l)) (hm : l.length = m)
    (h47 : n + m ≤ 140737488355328) (hbase : base ≤ w.heap.size)
    (h : ∀ v' w', w'.ownsRow base e 1 v' (n + m) (xs ++ l.map vb) → w.grownBy w' v.ownBlock → K (a.put o.dst v') w') : o.wp P a w K Q := by
  obtain ⟨i, hi0, hz, hs1, hb⟩ := info_parts hi
  refine wp_append_own w s x t ho base e i (.int .u8 0) 1 1 ht hi0 hz hs1 hb rfl (by decide) v n xs hs hown ⟨g, 0, none⟩ m m (l.map vb) hx (by simp [hm]) ?_ ?_ (by unfold maxLen; omega) (by omega) hbase (fun v' w' h1 h2 _ => h v' w' h1 h2)
  · intro j q hq
    have hj : j < l.length := by
      have := (List.getElem?_eq_some_iff.1 hq).1
      simpa using this
    have hadd : (⟨g, 0, none⟩ : Addr).add j = ⟨g, j, none⟩ := by unfold Addr.add; split <;> simp_all
    rw [hadd, hg.cell j, bv_at l j hj, ← hq]
    simp [gb, hj]
  · intro q hq
    obtain ⟨b, _, rfl⟩ := List.mem_map.1 hq
    rfl
end Go.Proofs.YtkjfhgbpiogigaaDoor
