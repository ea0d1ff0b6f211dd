/-
  What a row's reading gives the walks: a slice of slices of bytes.
-/
import Derived.Test.YtfipgmjaabggjaaDoorVYk
import Derived.Test.YtfipgmjaabggjaaDoorM24
namespace Go.Proofs.YtfipgmjaabggjaaDoor
open Go Go.ChangeShapes Go.WideShapes Go.ChangeAt Go.RowKit
set_option maxRecDepth 4000

theorem list_of {α : Type} (Q : Nat → α → Prop) : ∀ n, (∀ i, i < n → ∃ x, Q i x) → ∃ l : List α, l.length = n ∧ ∀ (k : Nat) (x : α), l[k]? = some x → Q k x
  | 0, _ => ⟨[], rfl, fun k x h => by simp at h⟩
  | n + 1, h => by
    obtain ⟨l, hl, hq⟩ := list_of Q n fun i hi => h i (by omega)
    obtain ⟨y, hy⟩ := h n (by omega)
    refine ⟨l ++ [y], by simp [hl], fun k x hk => ?_⟩
    by_cases hkn : k < n
    · rw [List.getElem?_append_left (by omega)] at hk
      exact hq k x hk
    · rw [List.getElem?_append_right (by omega)] at hk
      obtain rfl : k = n := by
        have := (List.getElem?_eq_some_iff.1 hk).1
        simp at this
        omega
      simp [hl] at hk
      subst hk
      exact hy
section
variable {H : Type} {enc : TypeId × Value → H} {P : Program} {w : World} {held : Bool}
theorem open_rows {t e eb base' : Nat} {v : Value} {d : DataW H} {p : List MemPlace} (ht : P.underlying t = some (.slice e)) (he : P.underlying e = some (.slice eb)) (hb : P.underlying eb = some (.int .u8)) (ce : P.cellsOf e = 1) (cb : P.cellsOf eb = 1)
    (hv : Value.okWide P w .any base' t v) (h : DataW.Trod enc P w 0 (fun _ => true) held t v d p) : ∃ A n c ps, v = .slice A n c ∧ Sls w A n c ps := by
  obtain ⟨a0, len, cap, rfl⟩ := okWide_slice ht hv
  obtain ⟨fuel, hf⟩ := h
  rcases Go.Deep.open_slice ht hf with ⟨hcs, _⟩ | ⟨a, len', cap', m, n, D, Pl, hcs, _, hl, hm, hmm, _, hx⟩
  · simp [Value.cells] at hcs
    obtain ⟨rfl, rfl, rfl⟩ := hcs
    exact ⟨none, 0, 0, [], rfl, ⟨rfl, Nat.le_refl _, fun _ => ⟨rfl, rfl⟩, fun h => absurd h (Nat.lt_irrefl 0), fun p hp => by simp at hp⟩⟩
  · simp [Value.cells] at hcs
    obtain ⟨rfl, rfl, rfl⟩ := hcs
    simp only [if_true] at hmm
    obtain rfl : cap = m := hmm.symm
    have each : ∀ i, i < len → ∃ x : SP, w.cell? (a.add i) = some (sv x.1) ∧ Bs w x.1.1 x.1.2.1 x.1.2.2 x.2 := fun i hi => by
      obtain ⟨cs', k1, k2⟩ := hx i (by omega)
      rw [ce] at k1
      obtain ⟨_, hlen, hcell⟩ := World.cells?_some k1
      match cs', hlen with
      | [v0], _ =>
        obtain ⟨B, k, dd, l, rfl, hs, _⟩ := open_bytes_at8 he hb cb k2
        have e0 := hcell 0 (by omega)
        rw [Go.Deep.add_add] at e0
        exact ⟨((B, k, dd), l), by simpa [sv] using e0, ⟨hs⟩⟩
    by_cases h0 : 0 < len
    · obtain ⟨b, off, spot⟩ := a
      have hspot : spot = none := by
        obtain ⟨_, k3, _⟩ := each 0 h0
        simpa [Addr.add] using World.cell?_spot k3
      subst hspot
      obtain ⟨ps, hpl, hps⟩ := list_of _ len each
      refine ⟨some ⟨b, off, none⟩, len, cap, ps, rfl, ⟨hpl, hl, (fun e => by cases e), fun _ => ⟨b, off, rfl, fun k p hk => ?_⟩, fun p hp => ?_⟩⟩
      · have h1 := (hps k p hk).1
        rw [Go.WideShapes.add_plain] at h1
        exact h1
      · obtain ⟨k, hk⟩ := List.getElem?_of_mem hp
        exact (hps k p hk).2
    · obtain rfl : len = 0 := by omega
      exact ⟨some a, 0, cap, [], rfl, ⟨rfl, hl, (fun e => by cases e), fun h => absurd h (Nat.lt_irrefl 0), fun p hp => by simp at hp⟩⟩
end
end Go.Proofs.YtfipgmjaabggjaaDoor
