/-
  Names as a row's reading gives them: a slice of slices of structs of an identifier, a byte and bytes.
-/
import Derived.Test.YthookcnkmlmgcaaVIb
import Derived.Test.YthookcnkmlmgcaaVOt
namespace Go.Proofs.Ythookcnkmlmgcaa
open Go Go.ChangeShapes Go.WideShapes Go.ChangeAt Go.RowKit
set_option maxRecDepth 4000

/-- an attribute lies there, in three cells -/
structure Atm (w : World) (g o : Nat) (a : Atr) : Prop where
  h : ∃ A n c B m d, w.cell? ⟨g, o, none⟩ = some (.slice A n c) ∧ w.cell? ⟨g, o + 1, none⟩ = some (.int .u8 (ub a.mark)) ∧ w.cell? ⟨g, o + 2, none⟩ = some (.slice B m d) ∧ Rd vL w A n c a.ty ∧ Dg 4294967296 a.ty ∧ Bs w B m d a.tx
theorem cell_fwd {w w' : World} {p : Addr} {v : Value} (h : w.cell? p = some v) (hx : Ext w w') : w'.cell? p = some v := (hx.b.cell (World.block_lt_of_cell? _ _ h)).trans h
theorem Atm.ext {w w' : World} {g o : Nat} {a : Atr} (h : Atm w g o a) (hx : Ext w w') : Atm w' g o a := by
  obtain ⟨A, n, c, B, m, d, h1, h2, h3, h4, h5, h6⟩ := h.h
  exact ⟨A, n, c, B, m, d, cell_fwd h1 hx, cell_fwd h2 hx, cell_fwd h3 hx, h4.ext hx, h5, h6.ext hx⟩
/-- a step: a slice of attributes -/
structure Stp (w : World) (A : Option Addr) (n c : Nat) (s : List Atr) : Prop where
  len : s.length = n
  cap : n ≤ c
  nul : A = none → n = 0 ∧ c = 0
  at_ : 0 < n → ∃ g o, A = some ⟨g, o, none⟩ ∧ ∀ (k : Nat) (a : Atr), s[k]? = some a → Atm w g (o + k * 3) a
theorem Stp.ext {w w' : World} {A : Option Addr} {n c : Nat} {s : List Atr} (h : Stp w A n c s) (hx : Ext w w') : Stp w' A n c s := by
  refine ⟨h.len, h.cap, h.nul, fun hn => ?_⟩
  obtain ⟨g, o, e, hc⟩ := h.at_ hn
  exact ⟨g, o, e, fun k a hk => (hc k a hk).ext hx⟩
theorem Stp.nil (w : World) : Stp w none 0 0 [] := ⟨rfl, Nat.le_refl _, fun _ => ⟨rfl, rfl⟩, fun h => absurd h (Nat.lt_irrefl 0)⟩
/-- a name: a slice of steps -/
structure Nam (w : World) (A : Option Addr) (n c : Nat) (x : List (List Atr)) : Prop where
  len : x.length = n
  cap : n ≤ c
  nul : A = none → n = 0 ∧ c = 0
  at_ : 0 < n → ∃ g o, A = some ⟨g, o, none⟩ ∧ ∀ (k : Nat) (s : List Atr), x[k]? = some s → ∃ B m d, w.cell? ⟨g, o + k, none⟩ = some (.slice B m d) ∧ Stp w B m d s
theorem Nam.ext {w w' : World} {A : Option Addr} {n c : Nat} {x : List (List Atr)} (h : Nam w A n c x) (hx : Ext w w') : Nam w' A n c x := by
  refine ⟨h.len, h.cap, h.nul, fun hn => ?_⟩
  obtain ⟨g, o, e, hc⟩ := h.at_ hn
  refine ⟨g, o, e, fun k s hk => ?_⟩
  obtain ⟨B, m, d, h1, h2⟩ := hc k s hk
  exact ⟨B, m, d, cell_fwd h1 hx, h2.ext hx⟩
theorem Nam.nil (w : World) : Nam w none 0 0 [] := ⟨rfl, Nat.le_refl _, fun _ => ⟨rfl, rfl⟩, fun h => absurd h (Nat.lt_irrefl 0)⟩
/-- fewer steps -/
theorem Nam.take {w : World} {A : Option Addr} {n c : Nat} {x : List (List Atr)} (h : Nam w A n c x) (k : Nat) (hk : k ≤ n) : Nam w A k c (x.take k) := by
  refine ⟨by rw [List.length_take, h.len]; omega, by have := h.cap; omega, fun e => by have := h.nul e; omega, fun hn => ?_⟩
  obtain ⟨g, o, e, hc⟩ := h.at_ (by omega)
  refine ⟨g, o, e, fun j s hj => hc j s ?_⟩
  rw [List.getElem?_take] at hj
  split at hj
  · exact hj
  · cases hj
/-- one of the steps, one of the attributes -/
theorem Nam.get {w : World} {A : Option Addr} {n c : Nat} {x : List (List Atr)} (h : Nam w A n c x) (k : Nat) (hk : k < n) :
    ∃ g o B m d s, A = some ⟨g, o, none⟩ ∧ x[k]? = some s ∧ w.cell? ⟨g, o + k, none⟩ = some (.slice B m d) ∧ Stp w B m d s := by
  obtain ⟨g, o, e, hc⟩ := h.at_ (by omega)
  obtain ⟨s, hs⟩ : ∃ s, x[k]? = some s := ⟨_, List.getElem?_eq_getElem (by rw [h.len]; exact hk)⟩
  obtain ⟨B, m, d, h1, h2⟩ := hc k s hs
  exact ⟨g, o, B, m, d, s, e, hs, h1, h2⟩
theorem Stp.get {w : World} {A : Option Addr} {n c : Nat} {s : List Atr} (h : Stp w A n c s) (k : Nat) (hk : k < n) :
    ∃ g o T t c1 B m d a, A = some ⟨g, o, none⟩ ∧ s[k]? = some a ∧ w.cell? ⟨g, o + k * 3, none⟩ = some (.slice T t c1) ∧ w.cell? ⟨g, o + k * 3 + 1, none⟩ = some (.int .u8 (ub a.mark)) ∧ w.cell? ⟨g, o + k * 3 + 2, none⟩ = some (.slice B m d) ∧ Rd vL w T t c1 a.ty ∧ Dg 4294967296 a.ty ∧ Bs w B m d a.tx := by
  obtain ⟨g, o, e, hc⟩ := h.at_ (by omega)
  obtain ⟨a, ha⟩ : ∃ a, s[k]? = some a := ⟨_, List.getElem?_eq_getElem (by rw [h.len]; exact hk)⟩
  obtain ⟨T, t, c1, B, m, d, h1, h2, h3, h4, h5, h6⟩ := (hc k a ha).h
  exact ⟨g, o, T, t, c1, B, m, d, a, e, ha, h1, h2, h3, h4, h5, h6⟩
theorem list_from {α : Type} (Q : Nat → α → Prop) : ∀ n, (∀ i, i < n → ∃ x, Q i x) → ∃ l : List α, l.length = n ∧ ∀ (k : Nat) (x : α), l[k]? = some x → Q k x
  | 0, _ => ⟨[], rfl, fun k x h => by simp at h⟩
  | n + 1, h => by
    obtain ⟨l, hl, hq⟩ := list_from Q n fun i hi => h i (by omega)
    obtain ⟨y, hy⟩ := h n (by omega)
    refine ⟨l ++ [y], by simp [hl], fun k x hk => ?_⟩
    by_cases hkn : k < n
    · rw [List.getElem?_append_left (by omega)] at hk
      exact hq k x hk
    · rw [List.getElem?_append_right (by omega)] at hk
      obtain rfl : k = n := by
        have := (List.getElem?_eq_some_iff.1 hk).1
        simp at this
        omega
      simp [hl] at hk
      subst hk
      exact hy
section
variable {H : Type} {enc : TypeId × Value → H} {P : Program} {w : World} {held : Bool}
theorem open_arcs_at {t e fuel : Nat} {v : Value} {x : DataW H × List MemPlace} (ht : P.underlying t = some (.slice e)) (he : P.underlying e = some (.int .u32)) (hce : P.cellsOf e = 1)
    (hf : DataW.trod enc P w 0 (fun _ => true) held fuel t [v] = some x) : ∃ A n c l, v = .slice A n c ∧ Rd vL w A n c l ∧ Dg 4294967296 l := by
  rcases open_ints ht he hce hf with ⟨hcs, _⟩ | ⟨a, len', cap', zs, hcs, _, hl, hm, hz, _, hcell, hwz⟩
  · obtain rfl : v = .slice none 0 0 := by simpa using hcs
    exact ⟨none, 0, 0, [], rfl, Rd.nil _, (fun d hd => by cases hd)⟩
  · obtain rfl : v = .slice (some a) len' cap' := by simpa using hcs
    simp only [if_true] at hz
    refine ⟨some a, len', cap', (zs.map Int.toNat).take len', rfl, ⟨by rw [List.length_take, List.length_map]; omega, hl, (fun e => by cases e), fun hn => ?_⟩, fun x hx => ?_⟩
    · obtain ⟨b, off, rfl, hc⟩ := ints_at hcell (by omega)
      refine ⟨b, off, rfl, fun j x hj => ?_⟩
      have hjn : j < len' := by have := (List.getElem?_eq_some_iff.1 hj).1; rw [List.length_take] at this; omega
      rw [hc j (by omega)]
      rw [List.getElem?_take, if_pos hjn, List.getElem?_map, List.getElem?_eq_getElem (by omega)] at hj
      have hb := bounds_u32 (hwz zs[j] (List.getElem_mem (by omega)))
      cases hj
      simp only [List.getD_eq_getElem?_getD, List.getElem?_eq_getElem (show j < zs.length by omega), Option.getD_some, vL]
      congr 2
      omega
    · obtain ⟨y, hy, rfl⟩ := List.mem_map.1 (List.mem_of_mem_take hx)
      have hb := bounds_u32 (hwz y hy)
      show y.toNat < 4294967296
      omega
/-- a step that came in -/
theorem open_step_at {t e tt et tb eb fuel : Nat} {f0 f1 f2 : Field} {v : Value} {x : DataW H × List MemPlace} (ht : P.underlying t = some (.slice e)) (he : P.underlying e = some (.struct #[f0, f1, f2])) (ce : P.cellsOf e = 3)
    (o0 : f0.offset = 0) (o1 : f1.offset = 1) (o2 : f2.offset = 2) (c0 : P.cellsOf f0.type = 1) (c1 : P.cellsOf f1.type = 1) (c2 : P.cellsOf f2.type = 1)
    (h0 : f0.type = tt) (h0' : P.underlying tt = some (.slice et)) (h0'' : P.underlying et = some (.int .u32)) (h0c : P.cellsOf et = 1) (h1 : P.underlying f1.type = some (.int .u8)) (h2 : f2.type = tb) (h3 : P.underlying tb = some (.slice eb)) (h4 : P.underlying eb = some (.int .u8)) (h5 : P.cellsOf eb = 1)
    (hf : DataW.trod enc P w 0 (fun _ => true) held fuel t [v] = some x) : ∃ A n c s, v = .slice A n c ∧ Stp w A n c s := by
  rcases Go.Deep.open_slice ht hf with ⟨hcs, _⟩ | ⟨a, len, cap, m, n, D, Pl, hcs, _, hl, hm, hmm, _, hx⟩
  · obtain rfl : v = .slice none 0 0 := by simpa using hcs
    exact ⟨none, 0, 0, [], rfl, Stp.nil _⟩
  · obtain rfl : v = .slice (some a) len cap := by simpa using hcs
    simp only [if_true] at hmm
    obtain rfl : cap = m := hmm.symm
    have each : ∀ i, i < len → ∃ y : Atr, ∃ A n c B m d, w.cell? (a.add (i * 3)) = some (.slice A n c) ∧ w.cell? (a.add (i * 3 + 1)) = some (.int .u8 (ub y.mark)) ∧ w.cell? (a.add (i * 3 + 2)) = some (.slice B m d) ∧ Rd vL w A n c y.ty ∧ Dg 4294967296 y.ty ∧ Bs w B m d y.tx := fun i hi => by
      obtain ⟨cs', k1, k2⟩ := hx i (by omega)
      rw [ce] at k1
      obtain ⟨_, hlen, hcell⟩ := World.cells?_some k1
      obtain ⟨y0, y1, y2, n', _, _, g0, g1, g2⟩ := Go.Deep.trod_struct3 he k2
      match cs', hlen with
      | [v0, v1, v2], _ =>
        rw [o0, c0] at g0
        rw [o1, c1] at g1
        rw [o2, c2] at g2
        simp only [List.drop_zero, List.drop_succ_cons, List.take_succ_cons, List.take_zero] at g0 g1 g2
        rw [h2] at g2
        rw [h0] at g0
        obtain ⟨A, n, c, l, rfl, hr, hd⟩ := open_arcs_at h0' h0'' h0c g0
        obtain ⟨B, k, d, lb, rfl, hs, _⟩ := open_bytes_at8 h3 h4 h5 g2
        have e0 := hcell 0 (by omega)
        have e1 := hcell 1 (by omega)
        have e2 := hcell 2 (by omega)
        rw [Go.Deep.add_add] at e0 e1 e2
        obtain ⟨y, rfl, hy⟩ : ∃ y, v1 = .int .u8 y ∧ (Lit.int .u8 y).wf = true := by
          obtain ⟨z, hz, _, hw⟩ := DataW.trod_int h1 g1
          exact ⟨z, by simpa using hz, hw⟩
        obtain ⟨x, rfl⟩ := wf_u8 hy
        exact ⟨⟨l, x, lb⟩, A, n, c, B, k, d, by simpa using e0, by simpa using e1, by simpa using e2, hr, hd, ⟨hs⟩⟩
    by_cases hn : 0 < len
    · obtain ⟨b, off, spot⟩ := a
      have hspot : spot = none := by
        obtain ⟨_, _, _, _, _, _, _, k3, _⟩ := each 0 hn
        simpa [Addr.add] using World.cell?_spot k3
      subst hspot
      obtain ⟨s, hs1, hs2⟩ := list_from _ len each
      refine ⟨some ⟨b, off, none⟩, len, cap, s, rfl, ⟨hs1, hl, (fun e => by cases e), fun _ => ⟨b, off, rfl, fun k a hk => ⟨?_⟩⟩⟩⟩
      obtain ⟨A, n, c, B, m, d, q1, q2, q3, q4, q5, q6⟩ := hs2 k a hk
      rw [Go.WideShapes.add_plain] at q1 q2 q3
      exact ⟨A, n, c, B, m, d, q1, q2, q3, q4, q5, q6⟩
    · obtain rfl : len = 0 := by omega
      exact ⟨some a, 0, cap, [], rfl, ⟨rfl, hl, (fun e => by cases e), fun h => absurd h (Nat.lt_irrefl 0)⟩⟩
/-- a name that came in -/
theorem open_name {tn t e tt et tb eb base' : Nat} {f0 f1 f2 : Field} {v : Value} {d : DataW H} {p : List MemPlace} (htn : P.underlying tn = some (.slice t)) (ctn : P.cellsOf t = 1) (ht : P.underlying t = some (.slice e)) (he : P.underlying e = some (.struct #[f0, f1, f2])) (ce : P.cellsOf e = 3)
    (o0 : f0.offset = 0) (o1 : f1.offset = 1) (o2 : f2.offset = 2) (c0 : P.cellsOf f0.type = 1) (c1 : P.cellsOf f1.type = 1) (c2 : P.cellsOf f2.type = 1)
    (h0 : f0.type = tt) (h0' : P.underlying tt = some (.slice et)) (h0'' : P.underlying et = some (.int .u32)) (h0c : P.cellsOf et = 1) (h1 : P.underlying f1.type = some (.int .u8)) (h2 : f2.type = tb) (h3 : P.underlying tb = some (.slice eb)) (h4 : P.underlying eb = some (.int .u8)) (h5 : P.cellsOf eb = 1)
    (hv : Value.okWide P w .any base' tn v) (h : DataW.Trod enc P w 0 (fun _ => true) held tn v d p) : ∃ A n c x, v = .slice A n c ∧ Nam w A n c x := by
  obtain ⟨a0, len, cap, rfl⟩ := okWide_slice htn hv
  obtain ⟨fuel, hf⟩ := h
  rcases Go.Deep.open_slice htn hf with ⟨hcs, _⟩ | ⟨a, len', cap', m, n, D, Pl, hcs, _, hl, hm, hmm, _, hx⟩
  · simp [Value.cells] at hcs
    obtain ⟨rfl, rfl, rfl⟩ := hcs
    exact ⟨none, 0, 0, [], rfl, Nam.nil _⟩
  · simp [Value.cells] at hcs
    obtain ⟨rfl, rfl, rfl⟩ := hcs
    simp only [if_true] at hmm
    obtain rfl : cap = m := hmm.symm
    have each : ∀ i, i < len → ∃ s : List Atr, ∃ B m d, w.cell? (a.add i) = some (.slice B m d) ∧ Stp w B m d s := fun i hi => by
      obtain ⟨cs', k1, k2⟩ := hx i (by omega)
      rw [ctn] at k1
      obtain ⟨_, hlen, hcell⟩ := World.cells?_some k1
      match cs', hlen with
      | [v0], _ =>
        obtain ⟨B, k, dd, s, rfl, hs⟩ := open_step_at ht he ce o0 o1 o2 c0 c1 c2 h0 h0' h0'' h0c h1 h2 h3 h4 h5 k2
        have e0 := hcell 0 (by omega)
        rw [Go.Deep.add_add] at e0
        exact ⟨s, B, k, dd, by simpa using e0, hs⟩
    by_cases hn : 0 < len
    · obtain ⟨b, off, spot⟩ := a
      have hspot : spot = none := by
        obtain ⟨_, _, _, _, k3, _⟩ := each 0 hn
        simpa [Addr.add] using World.cell?_spot k3
      subst hspot
      obtain ⟨x, hx1, hx2⟩ := list_from _ len each
      refine ⟨some ⟨b, off, none⟩, len, cap, x, rfl, ⟨hx1, hl, (fun e => by cases e), fun _ => ⟨b, off, rfl, fun k s hk => ?_⟩⟩⟩
      obtain ⟨B, m, d, q1, q2⟩ := hx2 k s hk
      rw [Go.WideShapes.add_plain] at q1
      exact ⟨B, m, d, q1, q2⟩
    · obtain rfl : len = 0 := by omega
      exact ⟨some a, 0, cap, [], rfl, ⟨rfl, hl, (fun e => by cases e), fun h => absurd h (Nat.lt_irrefl 0)⟩⟩
end
end Go.Proofs.Ythookcnkmlmgcaa
