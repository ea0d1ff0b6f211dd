/-
  The walks of the library's functions that cbc calls (at the arguments that it hands them), of Fill.
-/
import Derived.Test.YthookcnkmlmgcaaGreatDoorM3
import Derived.Test.YthookcnkmlmgcaaGreatDoorM4
import Derived.Test.YthookcnkmlmgcaaGreatDoorM9
import Derived.Lib.MakeNoZero
import Derived.Lib.AppendZerosOnto
namespace Go.Proofs.YthookcnkmlmgcaaGreatDoor
open Go Go.RowKit
set_option maxRecDepth 4000

theorem wp_copy_splice {P : Program} {o : Oper} {a : Act} {w : World} {K : Act → World → Prop} {Q : Exit → Act → World → Prop} (hgd : o.guard = none) (d s : Operand) (dT sT : TypeId)
    (ho : o.op = .call { callee := .builtin .copy, args := #[d, s], argTypes := #[dT, sT] }) (elem : TypeId) (hu : P.underlying dT = some (.slice elem)) (hsz : (P.info? elem).map (·.size) = some 1)
    (dp sp : Option Addr) (dLen dCap sLen sCap : Nat) (hd : a.eval d = .slice dp dLen dCap) (hs : a.eval s = .slice sp sLen sCap)
    (g off : Nat) (cur : List Value) (t : TypeId) (hg : w.heap[g]? = some (.cells cur.toArray t (0, 0))) (cs : List Value) (hn : cs.length = Nat.min sLen dLen)
    (hpos : 0 < cs.length → dp = some ⟨g, off, none⟩ ∧ ∃ ad, sp = some ad ∧ ∀ j v, cs[j]? = some v → w.cell? (ad.add j) = some v)
    (hfit : off + cs.length ≤ cur.length) (h1 : ∀ v ∈ cs, v.oneCell' = true) (B : Nat) (w0 : World) (hb : Below B w0 w) (hBg : B ≤ g)
    (h : ∀ w', Hid (w'.heap[g]? = some (.cells (splice cur off cs).toArray t (0, 0))) → Below B w0 w' → K (a.put o.dst (goInt cs.length)) w') : o.wp P a w K Q := by
  have h2 := step_copy_splice (ops := #[]) (E := True) hgd d s dT sT ho elem hu hsz dp sp dLen dCap sLen sCap hd hs g off cur t hg cs hn hpos hfit h1 B w0 hb hBg (Q := Q) h
  rwa [if_pos (by simp [Region.wanted, hgd])] at h2
theorem add_z (g k : Nat) : (⟨g, 0, none⟩ : Addr).add k = ⟨g, k, none⟩ := by unfold Addr.add; split <;> simp_all
/-- s[:n:n] -/
theorem run_cut3 (g n C : Nat) (h : n ≤ C) (w : World) : (Instr.sliceAt 22 (.slice (some ⟨g, 0, none⟩) n C) none (some (.int .i64 (n : Int))) (some (.int .i64 (n : Int)))).run Tryz.prog w = .ok (.slice (some ⟨g, 0, none⟩) n n) w := by
  have hs := szB
  cases hq : Tryz.prog.info? 5 with
  | none => simp [hq] at hs
  | some i =>
    simp [Instr.sliceAt, Instr.slice, run_underlying Tryz.underlying22, Instr.sliceBounds, Instr.sliceBound, asIntOf, sizeOf, typeInfo, hq, h, Addr.add]
theorem rep_take (n k : Nat) (x : Value) (h : k ≤ n) : (List.replicate n x).take k = List.replicate k x := by rw [List.take_replicate, Nat.min_eq_left h]
/-- a row whose first k cells are x -/
structure Rep (w : World) (g n k : Nat) (x : BitVec 8) : Prop where
  h : ∃ cur : List Value, w.heap[g]? = some (.cells cur.toArray 5 (0, 0)) ∧ n ≤ cur.length ∧ cur.take k = List.replicate k (vb x)
theorem Rep.cell {w : World} {g n k : Nat} {x : BitVec 8} (h : Rep w g n k x) (j : Nat) (hj : j < k) : w.cell? ⟨g, j, none⟩ = some (vb x) := by
  obtain ⟨cur, h1, _, h3⟩ := h.h
  rw [cell_of_row w g j _ _ _ h1]
  have e : (cur.take k)[j]? = some (vb x) := by rw [h3, List.getElem?_replicate, if_pos hj]
  rw [List.getElem?_take_of_lt hj] at e
  simpa using e
theorem Rep.bs {w : World} {g n k : Nat} {x : BitVec 8} (h : Rep w g n k x) (c : Nat) (hc : k ≤ c) : Bs w (some ⟨g, 0, none⟩) k c (List.replicate k x) :=
  ⟨by simp, hc, (fun e => by cases e), fun _ => ⟨g, 0, rfl, fun j hj => by rw [Nat.zero_add, h.cell j hj, gb_rep _ _ _ hj]⟩⟩
theorem Rep.src {w : World} {g n k : Nat} {x : BitVec 8} (h : Rep w g n k x) (m : Nat) (hm : m ≤ k) (j : Nat) (v : Value) (hv : (List.replicate m (vb x))[j]? = some v) : w.cell? ((⟨g, 0, none⟩ : Addr).add j) = some v := by
  have hj : j < m := by have := (List.getElem?_eq_some_iff.1 hv).1; simpa using this
  rw [List.getElem?_replicate, if_pos hj] at hv
  rw [← hv, add_z]
  exact h.cell j (by omega)
theorem Rep.copied {w : World} {g n k m : Nat} {x : BitVec 8} {cur : List Value} (h : w.heap[g]? = some (.cells (splice cur k (List.replicate m (vb x))).toArray 5 (0, 0))) (hC : n ≤ cur.length) (hT : cur.take k = List.replicate k (vb x)) (hm : k + m ≤ n) : Rep w g n (k + m) x := by
  refine ⟨_, h, by rw [length_splice _ _ _ (by rw [List.length_replicate]; omega)]; exact hC, ?_⟩
  unfold splice
  rw [hT, ← List.append_assoc, List.replicate_append_replicate, List.take_left' (by simp)]
end Go.Proofs.YthookcnkmlmgcaaGreatDoor
