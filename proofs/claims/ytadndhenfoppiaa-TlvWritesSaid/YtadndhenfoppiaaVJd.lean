/-
  What the rows' readings give the walks: a slice of structs of a number, a byte and bytes.
-/
import Derived.Test.YtadndhenfoppiaaM1
import Derived.Test.YtadndhenfoppiaaM11
import Derived.Deep.Slices
import Derived.Deep.Strs
namespace Go.Proofs.Ytadndhenfoppiaa
open Go Go.ChangeShapes Go.WideShapes Go.ChangeAt Go.RowKit
set_option maxRecDepth 4000

/-- a slice of deeds that came in: each cell of each -/
structure Dds (w : World) (A : Option Addr) (n c : Nat) : Prop where
  cap : n ≤ c
  max : c ≤ maxLen
  at_ : 0 < n → ∃ g o, A = some ⟨g, o, none⟩ ∧ ∀ i, i < n → ∃ (a : Int) (m : BitVec 8) (B : Option Addr) (k d : Nat) (l : List (BitVec 8)), -9223372036854775808 ≤ a ∧ a ≤ 9223372036854775807 ∧
    w.cell? ⟨g, o + i * 3, none⟩ = some (.int .i64 a) ∧ w.cell? ⟨g, o + i * 3 + 1, none⟩ = some (.int .u8 (ub m)) ∧ w.cell? ⟨g, o + i * 3 + 2, none⟩ = some (.slice B k d) ∧ Bs w B k d l
section
variable {H : Type} {enc : TypeId × Value → H} {P : Program} {w : World} {held : Bool}
theorem open_bytes_at {t e fuel : Nat} {v : Value} {x : DataW H × List MemPlace} (ht : P.underlying t = some (.slice e)) (he : P.underlying e = some (.int .u8)) (hce : P.cellsOf e = 1)
    (hf : DataW.trod enc P w 0 (fun _ => true) held fuel t [v] = some x) : ∃ A n c l, v = .slice A n c ∧ Sl w A n c l ∧ c ≤ maxLen := by
  rcases open_ints ht he hce hf with ⟨hcs, _⟩ | ⟨a, len, cap, zs, hcs, _, hl, hm, hz, _, hcell, hwz⟩
  · obtain rfl : v = .slice none 0 0 := by simpa using hcs
    exact ⟨none, 0, 0, [], rfl, Sl.nil _, Nat.zero_le _⟩
  · obtain rfl : v = .slice (some a) len cap := by simpa using hcs
    simp only [if_true] at hz
    have hx : ∀ i, i < zs.length → ∃ x : BitVec 8, (zs.map (Value.int .u8))[i]? = some (vb x) := fun i hi => by
      obtain ⟨y, hy⟩ := wf_u8 (hwz _ (List.getElem_mem hi))
      exact ⟨y, by simp [hi, hy]⟩
    obtain ⟨l, hl1, hl2⟩ := list_of_cells vb zs.length (zs.map (Value.int .u8)) (by simp) hx
    refine ⟨some a, len, cap, l.take len, rfl, ⟨by rw [List.length_take]; omega, hl, (fun e => by cases e), fun hn => ?_⟩, hm⟩
    obtain ⟨b, off, rfl, hc⟩ := ints_at hcell (by omega)
    refine ⟨b, off, rfl, fun j hj => ?_⟩
    rw [gb_take _ _ _ hj, hc j (by omega)]
    have e1 := congrArg (fun q : List Value => q[j]?) hl1
    have hjz : j < zs.length := by omega
    have hjl : j < l.length := by omega
    simp only [List.getElem?_map, List.getElem?_eq_getElem hjz, List.getElem?_eq_getElem hjl, Option.map_some] at e1
    simp only [List.getD_eq_getElem?_getD, List.getElem?_eq_getElem hjz, Option.getD_some, e1]
    simp [gb, hjl]
theorem open_deeds_of {t e tb eb base' : Nat} {f0 f1 f2 : Field} {v : Value} {d : DataW H} {p : List MemPlace} (ht : P.underlying t = some (.slice e)) (he : P.underlying e = some (.struct #[f0, f1, f2])) (ce : P.cellsOf e = 3)
    (o0 : f0.offset = 0) (o1 : f1.offset = 1) (o2 : f2.offset = 2) (c0 : P.cellsOf f0.type = 1) (c1 : P.cellsOf f1.type = 1) (c2 : P.cellsOf f2.type = 1)
    (h0 : P.underlying f0.type = some (.int .i64)) (h1 : P.underlying f1.type = some (.int .u8)) (h2 : f2.type = tb) (h3 : P.underlying tb = some (.slice eb)) (h4 : P.underlying eb = some (.int .u8)) (h5 : P.cellsOf eb = 1)
    (hv : Value.okWide P w .any base' t v) (h : DataW.Trod enc P w 0 (fun _ => true) held t v d p) : ∃ A n c, v = .slice A n c ∧ Dds w A n c := by
  obtain ⟨a0, len, cap, rfl⟩ := okWide_slice ht hv
  obtain ⟨fuel, hf⟩ := h
  rcases Go.Deep.open_slice ht hf with ⟨hcs, _⟩ | ⟨a, len', cap', m, n, D, Pl, hcs, _, hl, hm, hmm, _, hx⟩
  · simp [Value.cells] at hcs
    obtain ⟨rfl, rfl, rfl⟩ := hcs
    exact ⟨none, 0, 0, rfl, ⟨Nat.le_refl _, Nat.zero_le _, fun h => absurd h (Nat.lt_irrefl 0)⟩⟩
  · simp [Value.cells] at hcs
    obtain ⟨rfl, rfl, rfl⟩ := hcs
    simp only [if_true] at hmm
    obtain rfl : cap = m := hmm.symm
    refine ⟨some a, len, cap, rfl, ⟨hl, hm, fun hn => ?_⟩⟩
    have each : ∀ i, i < len → ∃ (z : Int) (m : BitVec 8) (B : Option Addr) (k d : Nat) (l : List (BitVec 8)), -9223372036854775808 ≤ z ∧ z ≤ 9223372036854775807 ∧
        w.cell? (a.add (i * 3)) = some (.int .i64 z) ∧ w.cell? (a.add (i * 3 + 1)) = some (.int .u8 (ub m)) ∧ w.cell? (a.add (i * 3 + 2)) = some (.slice B k d) ∧ Bs w B k d l := fun i hi => by
      obtain ⟨cs', k1, k2⟩ := hx i (by omega)
      rw [ce] at k1
      obtain ⟨_, hlen, hcell⟩ := World.cells?_some k1
      obtain ⟨y0, y1, y2, n', _, _, g0, g1, g2⟩ := Go.Deep.trod_struct3 he k2
      match cs', hlen with
      | [v0, v1, v2], _ =>
        rw [o0, c0] at g0
        rw [o1, c1] at g1
        rw [o2, c2] at g2
        simp only [List.drop_zero, List.drop_succ_cons, List.take_succ_cons, List.take_zero] at g0 g1 g2
        rw [h2] at g2
        obtain ⟨B, k, d, l, rfl, hs, _⟩ := open_bytes_at h3 h4 h5 g2
        have e0 := hcell 0 (by omega)
        have e1 := hcell 1 (by omega)
        have e2 := hcell 2 (by omega)
        rw [Go.Deep.add_add] at e0 e1 e2
        obtain ⟨z, rfl, hz⟩ : ∃ z, v0 = .int .i64 z ∧ (Lit.int .i64 z).wf = true := by
          obtain ⟨z, hz, _, hw⟩ := DataW.trod_int h0 g0
          exact ⟨z, by simpa using hz, hw⟩
        obtain ⟨y, rfl, hy⟩ : ∃ y, v1 = .int .u8 y ∧ (Lit.int .u8 y).wf = true := by
          obtain ⟨z, hz, _, hw⟩ := DataW.trod_int h1 g1
          exact ⟨z, by simpa using hz, hw⟩
        obtain ⟨x, rfl⟩ := wf_u8 hy
        have hb := bounds_i64 hz
        exact ⟨z, x, B, k, d, l, hb.1, hb.2, by simpa using e0, by simpa using e1, by simpa using e2, ⟨hs⟩⟩
    obtain ⟨b, off, spot⟩ := a
    have hspot : spot = none := by
      obtain ⟨_, _, _, _, _, _, _, _, k3, _⟩ := each 0 hn
      simpa [Addr.add] using World.cell?_spot k3
    subst hspot
    refine ⟨b, off, rfl, fun i hi => ?_⟩
    obtain ⟨z, m, B, k, d, l, q1, q2, q3, q4, q5, q6⟩ := each i hi
    rw [Go.WideShapes.add_plain] at q3 q4 q5
    exact ⟨z, m, B, k, d, l, q1, q2, q3, q4, q5, q6⟩
end
theorem open_deeds {H : Type} {enc : TypeId × Value → H} {w : World} {held : Bool} {base' : Nat} {v : Value} {d : DataW H} {p : List MemPlace} (hv : Value.okWide Try.prog w .any base' 32 v) (h : DataW.Trod enc Try.prog w 0 (fun _ => true) held 32 v d p) : ∃ A n c, v = .slice A n c ∧ Dds w A n c :=
  open_deeds_of (tb := 23) Try.underlying32 Try.underlying38 (by kernel_rfl) rfl rfl rfl (by kernel_rfl) (by kernel_rfl) (by kernel_rfl) Try.underlying3 Try.underlying5 rfl Try.underlying23 Try.underlying5 (by kernel_rfl) hv h
end Go.Proofs.Ytadndhenfoppiaa
