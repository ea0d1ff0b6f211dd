/-
  What attributes have in common, in a row of the call's own; one more appended.
-/
import Derived.Test.YthookcnkmlmgcaaVIq
import Derived.Test.YthookcnkmlmgcaaVHb
import Derived.Maps.AppendAt
namespace Go.Proofs.Ythookcnkmlmgcaa
open Go Go.RowKit Go.Sort
set_option maxRecDepth 4000

/-- the cells of them, one behind the other -/
def cellsS : List SSn → List Value
  | [] => []
  | p :: t => kdV p.1 :: txV p.1 :: cellsS t
theorem cellsS_len : ∀ ps : List SSn, (cellsS ps).length = ps.length * 2
  | [] => rfl
  | p :: t => by
    have := cellsS_len t
    simp [cellsS]
    omega
theorem cellsS_app : ∀ (a b : List SSn), cellsS (a ++ b) = cellsS a ++ cellsS b
  | [], b => rfl
  | p :: t, b => by
    show kdV p.1 :: txV p.1 :: cellsS (t ++ b) = _
    rw [cellsS_app t b]
    rfl
theorem cellsS_get : ∀ (ps : List SSn) (k : Nat) (p : SSn), ps[k]? = some p → (cellsS ps)[k * 2]? = some (kdV p.1) ∧ (cellsS ps)[k * 2 + 1]? = some (txV p.1)
  | [], k, p, h => by simp at h
  | a :: t, 0, p, h => by
    simp at h
    subst h
    exact ⟨rfl, rfl⟩
  | a :: t, k + 1, p, h => by
    have := cellsS_get t k p (by simpa using h)
    rw [show (k + 1) * 2 = k * 2 + 1 + 1 by omega, show k * 2 + 1 + 1 + 1 = (k * 2 + 1) + 1 + 1 by omega]
    exact this
theorem inSn : (Try.prog.info? 42).map (fun i => (i.zero, i.size, i.bytes)) = some (some (.agg #[.slice none 0 0, .slice none 0 0]), 2, 48) := by kernel_rfl
/-- a row of them of the call's own -/
structure SnW (w0 w : World) (v : Value) (n : Nat) (ps : List SSn) : Prop where
  len : ps.length = n
  row : w.ownsRow w0.heap.size 42 2 v n (cellsS ps)
  kd : ∀ p ∈ ps, Rd vL w0 p.1.1.1 p.1.1.2.1 p.1.1.2.2 p.2.1 ∧ p.1.1.2.1 ≤ 1000000
  tx : ∀ p ∈ ps, Own w w0.heap.size (txV p.1) p.1.2.2.1 p.2.2
theorem SnW.nil (w0 w : World) : SnW w0 w (.slice none 0 0) 0 [] := ⟨rfl, ⟨rfl, .inl ⟨rfl, rfl⟩⟩, (fun p h => by cases h), fun p h => by cases h⟩
theorem SnW.ext {w0 w w' : World} {v : Value} {n : Nat} {ps : List SSn} (h : SnW w0 w v n ps) (hx : Ext w w') : SnW w0 w' v n ps :=
  ⟨h.len, ow_ext h.row hx, h.kd, fun p hp => (h.tx p hp).ext hx⟩
theorem own_apart {w : World} {B B' n m s : Nat} {T : TypeId} {u v : Value} {l : List (BitVec 8)} {xs : List Value} (hu : Own w B u m l) (h : w.ownsRow B' T s v n xs) (hT : 5 ≠ T) : u.ownBlock = none ∨ u.ownBlock ≠ v.ownBlock := by
  rcases hu.o.2 with ⟨rfl, _⟩ | ⟨g, cap, cur, rfl, _, hh, _⟩
  · exact .inl rfl
  · rcases h.2 with ⟨rfl, _⟩ | ⟨g', cap', cur', rfl, _, hh', _⟩
    · exact .inr (by simp [Value.ownBlock])
    · refine .inr fun e => ?_
      obtain rfl : g = g' := by simpa [Value.ownBlock] using e
      rw [hh] at hh'
      exact absurd (congrArg (fun (o : Option Obj) => match o with | some (.cells _ t _) => t | _ => 0) hh') hT
theorem wp_append_sn {w0 w : World} {o : Oper} {a : Act} {K : Act → World → Prop} {Q : Exit → Act → World → Prop} (s x : Operand)
    (ho : o.op = .call { callee := .builtin .append, args := #[s, x], argTypes := #[40, 40] })
    (v : Value) (n : Nat) (ps : List SSn) (hs : a.eval s = v) (hown : SnW w0 w v n ps) (hx0 : Ext w0 w)
    (g c : Nat) (p : SSn) (hx : a.eval x = .slice (some ⟨g, 0, none⟩) 1 c) (h0 : w.cell? ⟨g, 0, none⟩ = some (kdV p.1)) (h1 : w.cell? ⟨g, 1, none⟩ = some (txV p.1))
    (hk : Rd vL w0 p.1.1.1 p.1.1.2.1 p.1.1.2.2 p.2.1 ∧ p.1.1.2.1 ≤ 1000000) (ht : Own w w0.heap.size (txV p.1) p.1.2.2.1 p.2.2) (hn : n ≤ 1000000)
    (h : ∀ A' c' w', SnW w0 w' (.slice A' (n + 1) c') (n + 1) (ps ++ [p]) → Ext w0 w' → w.grownBy w' v.ownBlock → K (a.put o.dst (.slice A' (n + 1) c')) w') : o.wp Try.prog a w K Q := by
  obtain ⟨i, hi0, hz0, hs1, hb⟩ := info_parts inSn
  obtain ⟨v', w', hr, h2, h3, _, _⟩ := run_append_own_at (P := Try.prog) w w0.heap.size 40 o.type 42 i (.agg #[.slice none 0 0, .slice none 0 0]) 2 48 Try.underlying40 hi0 hz0 hs1 hb rfl (by decide) v n (cellsS ps) hown.row ⟨g, 0, none⟩ 1 c [kdV p.1, txV p.1] rfl
    (fun j u hu => by
      match j with
      | 0 =>
        simp at hu
        subst hu
        exact h0
      | 1 =>
        simp at hu
        subst hu
        exact h1
      | j + 2 => simp at hu)
    (fun u hu => by
      rcases List.mem_cons.1 hu with rfl | hu
      · rfl
      · rcases List.mem_cons.1 hu with rfl | hu
        · rfl
        · cases hu) (by unfold maxLen; omega) (by omega) hx0.size
  rw [show cellsS ps ++ [kdV p.1, txV p.1] = cellsS (ps ++ [p]) from (cellsS_app ps [p]).symm] at h2
  obtain ⟨A', c', rfl⟩ : ∃ A c, v' = .slice A (n + 1) c := by
    rcases h2.2 with ⟨_, e⟩ | ⟨g', cap, _, rfl, _⟩
    · omega
    · exact ⟨_, cap, rfl⟩
  have hbase : ∀ k, v.ownBlock = some k → w0.heap.size ≤ k := fun k hk => by
    rcases hown.row.2 with ⟨rfl, _⟩ | ⟨g', cap, cur, rfl, h3, _⟩
    · simp [Value.ownBlock] at hk
    · simp [Value.ownBlock] at hk
      omega
  have hx' : Ext w0 w' := hx0.grown h3 hbase
  have keep : ∀ (q : SSn), Own w w0.heap.size (txV q.1) q.1.2.2.1 q.2.2 → Own w' w0.heap.size (txV q.1) q.1.2.2.1 q.2.2 := fun q hq => hq.grown h3 (own_apart hq hown.row (by decide))
  unfold Oper.wp
  simp [execOp, ho, resolve, invoke, builtin, hs, hx, hr, Result.andThen]
  refine h A' c' w' ⟨by simp [hown.len], h2, fun q hq => ?_, fun q hq => ?_⟩ hx' h3
  · rcases List.mem_append.1 hq with hq | hq
    · exact hown.kd q hq
    · rw [List.mem_singleton.1 hq]; exact hk
  · rcases List.mem_append.1 hq with hq | hq
    · exact keep q (hown.tx q hq)
    · rw [List.mem_singleton.1 hq]; exact keep p ht
/-- a box beside such a row -/
abbrev BxS (w : World) (bx : Nat) (T : Value) (mk : Value) (B : Value) (W : World) : Prop := Ext w W ∧ Blk W bx 33 #[T, mk, B] ∧ W.cell? ⟨bx, 0, none⟩ = some T ∧ W.cell? ⟨bx, 2, none⟩ = some B
theorem BxS.ext {w W W' : World} {bx : Nat} {T mk B : Value} (h : BxS w bx T mk B W) (hx : Ext W W') : BxS w bx T mk B W' := ⟨h.1.trans hx, h.2.1.ext hx, cell_fwd h.2.2.1 hx, cell_fwd h.2.2.2 hx⟩
theorem BxS.grown {w W W' : World} {bx : Nat} {T mk B : Value} {v : Value} {n : Nat} {ps : List SSn} (h : BxS w bx T mk B W) (hx : Ext w W') (hs : SnW w W v n ps) (hg : W.grownBy W' v.ownBlock) : BxS w bx T mk B W' := by
  have hne : v.ownBlock ≠ some bx := by
    rcases hs.row.2 with ⟨e, _⟩ | ⟨g, cap, cur, e, _, hh, _⟩
    · rw [e]; simp [Value.ownBlock]
    · intro e2
      rw [e] at e2
      simp [Value.ownBlock] at e2
      exact blk_ne hh h.2.1.h (by decide) e2
  have hb : W'.heap[bx]? = W.heap[bx]? := hg.block bx h.2.1.lt fun e => hne e.symm
  have hB : Blk W' bx 33 #[T, mk, B] := ⟨hb.trans h.2.1.h⟩
  exact ⟨hx, hB, hB.h.cell 0, hB.h.cell 2⟩
end Go.Proofs.Ythookcnkmlmgcaa
