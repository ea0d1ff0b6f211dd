/-
  Slices of slices of bytes of the call's own, whatever the bytes are: kept over a store into one of them.
-/
import Derived.Test.YthggoodcdjgokaaDoorRo
namespace Go.Proofs.YthggoodcdjgokaaDoor
open Go Go.RowKit

theorem ow_far {w : World} {B e s n : Nat} {v : Value} {xs : List Value} (h : w.ownsRow B e s v n xs) {p : Addr} (hp : v.ownBlock ≠ some p.block) (u : Value) : (w.setCell p u).ownsRow B e s v n xs := by
  refine ⟨h.1, ?_⟩
  rcases h.2 with h2 | ⟨g, cap, cur, h1, h3, h4, h5⟩
  · exact .inl h2
  · refine .inr ⟨g, cap, cur, h1, h3, (Below.heap_setCell w p u g (fun e => hp ?_)).trans h4, h5⟩
    subst h1; simp [Value.ownBlock, e]
/-- rows of these lengths -/
structure Rwk (w : World) (B : Nat) (v : Value) (ns : List Nat) : Prop where
  r : ∃ xs : List Value, w.ownsRow B 25 1 v ns.length xs ∧ ∀ (j n : Nat), ns[j]? = some n → ∃ (x : Value) (l : List (BitVec 8)), xs[j]? = some x ∧ Own w B x n l
section
variable {w w' : World} {B : Nat} {v : Value} {ns : List Nat}
theorem Rws.rwk {ls : List (List (BitVec 8))} (h : Rws w B v ls) : Rwk w B v (ls.map List.length) := by
  obtain ⟨xs, h1, h2⟩ := h.r
  refine ⟨xs, by rwa [List.length_map], fun j n hj => ?_⟩
  rw [List.getElem?_map] at hj
  cases hl : ls[j]? with
  | none => rw [hl] at hj; cases hj
  | some l =>
    rw [hl] at hj
    obtain rfl : l.length = n := by simpa using hj
    obtain ⟨x, h3, h4⟩ := h2 j l hl
    exact ⟨x, l, h3, h4⟩
theorem Rwk.ext (h : Rwk w B v ns) (hx : Ext w w') : Rwk w' B v ns := by
  obtain ⟨xs, h1, h2⟩ := h.r
  refine ⟨xs, ow_ext h1 hx, fun j n hj => ?_⟩
  obtain ⟨x, l, h3, h4⟩ := h2 j n hj
  exact ⟨x, l, h3, h4.ext hx⟩
theorem Rwk.low (h : Rwk w B v ns) {p : Addr} (hp : p.block < B) (u : Value) : Rwk (w.setCell p u) B v ns := by
  obtain ⟨xs, h1, h2⟩ := h.r
  refine ⟨xs, ow_far h1 (fun e => ?_) u, fun j n hj => ?_⟩
  · rcases h1.2 with ⟨rfl, _⟩ | ⟨g, cap, cur, rfl, h3, _⟩
    · simp [Value.ownBlock] at e
    · simp [Value.ownBlock] at e; omega
  · obtain ⟨x, l, h3, h4⟩ := h2 j n hj
    exact ⟨x, l, h3, h4.far (fun e => by have := h4.base _ e; omega) u⟩
theorem Rwk.get (h : Rwk w B v ns) (j n : Nat) (hj : ns[j]? = some n) :
    ∃ g c A d l, v = .slice (some ⟨g, 0, none⟩) ns.length c ∧ w.cell? ⟨g, j, none⟩ = some (.slice A n d) ∧ Own w B (.slice A n d) n l := by
  obtain ⟨xs, h1, h2⟩ := h.r
  obtain ⟨x, l, h3, h4⟩ := h2 j n hj
  have hjl : j < ns.length := (List.getElem?_eq_some_iff.1 hj).1
  obtain ⟨A, d, rfl⟩ := h4.form
  rcases h1.2 with ⟨e, e2⟩ | ⟨g, cap, cur, rfl, hB, hh, hc, _, _, ht⟩
  · omega
  · refine ⟨g, cap, A, d, l, rfl, ?_, h4⟩
    rw [cell_of_row w g j cur _ (0, 0) hh, ← h3, ← ht, List.getElem?_take_of_lt (by omega)]
    simp
theorem Rwk.store (h : Rwk w B v ns) {gr d n : Nat} {l : List (BitVec 8)} (hr : Own w B (.slice (some ⟨gr, 0, none⟩) n d) n l) (i : Nat) (x : BitVec 8) : Rwk (w.setCell ⟨gr, i, none⟩ (.int .u8 (ub x))) B v ns := by
  obtain ⟨xs, h1, h2⟩ := h.r
  have hne : v.ownBlock ≠ some gr := by
    rcases hr.apart h1 with e | e
    · simp [Value.ownBlock] at e
    · intro e2; exact e (by rw [e2]; rfl)
  refine ⟨xs, ow_far h1 (p := ⟨gr, i, none⟩) hne _, fun j m hj => ?_⟩
  obtain ⟨y, lm, h3, h4⟩ := h2 j m hj
  by_cases hy : y.ownBlock = some gr
  · rcases h4.o.2 with ⟨rfl, _⟩ | ⟨g', cap, cur, rfl, _⟩
    · simp [Value.ownBlock] at hy
    · obtain rfl : g' = gr := by simpa [Value.ownBlock] using hy
      exact ⟨_, _, h3, h4.set i x⟩
  · exact ⟨y, lm, h3, h4.far (p := ⟨gr, i, none⟩) hy _⟩
end
end Go.Proofs.YthggoodcdjgokaaDoor
