/-
  Names as a row's reading gives them: a slice of slices of structs of an identifier, a byte and bytes.
  Plain texts as the code goes: what is told so far, a last blank too, which is left out at the end; as the reference goes, byte by byte. Plain.
  name: small, Plain.
-/
import Derived.Test.YthookcnkmlmgcaaDoorM1
import Derived.Test.YthookcnkmlmgcaaDoorM9
import Derived.Test.YthookcnkmlmgcaaDoorM0
import Derived.Test.YthookcnkmlmgcaaDoorM4
namespace Go.Proofs.YthookcnkmlmgcaaDoor
open Go Go.ChangeShapes Go.WideShapes Go.ChangeAt Go.RowKit
set_option maxRecDepth 4000

/-- an attribute lies there, in three cells -/
structure Atm (w : World) (g o : Nat) (a : Atr) : Prop where
  h : ∃ A n c B m d, w.cell? ⟨g, o, none⟩ = some (.slice A n c) ∧ w.cell? ⟨g, o + 1, none⟩ = some (.int .u8 (ub a.mark)) ∧ w.cell? ⟨g, o + 2, none⟩ = some (.slice B m d) ∧ Rd vL w A n c a.ty ∧ Dg 4294967296 a.ty ∧ Bs w B m d a.tx
theorem cell_fwd {w w' : World} {p : Addr} {v : Value} (h : w.cell? p = some v) (hx : Ext w w') : w'.cell? p = some v := (hx.b.cell (World.block_lt_of_cell? _ _ h)).trans h
theorem Atm.ext {w w' : World} {g o : Nat} {a : Atr} (h : Atm w g o a) (hx : Ext w w') : Atm w' g o a := by
  obtain ⟨A, n, c, B, m, d, h1, h2, h3, h4, h5, h6⟩ := h.h
  exact ⟨A, n, c, B, m, d, cell_fwd h1 hx, cell_fwd h2 hx, cell_fwd h3 hx, h4.ext hx, h5, h6.ext hx⟩
/-- a step: a slice of attributes -/
structure Stp (w : World) (A : Option Addr) (n c : Nat) (s : List Atr) : Prop where
  len : s.length = n
  cap : n ≤ c
  nul : A = none → n = 0 ∧ c = 0
  at_ : 0 < n → ∃ g o, A = some ⟨g, o, none⟩ ∧ ∀ (k : Nat) (a : Atr), s[k]? = some a → Atm w g (o + k * 3) a
theorem Stp.ext {w w' : World} {A : Option Addr} {n c : Nat} {s : List Atr} (h : Stp w A n c s) (hx : Ext w w') : Stp w' A n c s := by
  refine ⟨h.len, h.cap, h.nul, fun hn => ?_⟩
  obtain ⟨g, o, e, hc⟩ := h.at_ hn
  exact ⟨g, o, e, fun k a hk => (hc k a hk).ext hx⟩
theorem Stp.nil (w : World) : Stp w none 0 0 [] := ⟨rfl, Nat.le_refl _, fun _ => ⟨rfl, rfl⟩, fun h => absurd h (Nat.lt_irrefl 0)⟩
/-- a name: a slice of steps -/
structure Nam (w : World) (A : Option Addr) (n c : Nat) (x : List (List Atr)) : Prop where
  len : x.length = n
  cap : n ≤ c
  nul : A = none → n = 0 ∧ c = 0
  at_ : 0 < n → ∃ g o, A = some ⟨g, o, none⟩ ∧ ∀ (k : Nat) (s : List Atr), x[k]? = some s → ∃ B m d, w.cell? ⟨g, o + k, none⟩ = some (.slice B m d) ∧ Stp w B m d s
theorem Nam.ext {w w' : World} {A : Option Addr} {n c : Nat} {x : List (List Atr)} (h : Nam w A n c x) (hx : Ext w w') : Nam w' A n c x := by
  refine ⟨h.len, h.cap, h.nul, fun hn => ?_⟩
  obtain ⟨g, o, e, hc⟩ := h.at_ hn
  refine ⟨g, o, e, fun k s hk => ?_⟩
  obtain ⟨B, m, d, h1, h2⟩ := hc k s hk
  exact ⟨B, m, d, cell_fwd h1 hx, h2.ext hx⟩
theorem Nam.nil (w : World) : Nam w none 0 0 [] := ⟨rfl, Nat.le_refl _, fun _ => ⟨rfl, rfl⟩, fun h => absurd h (Nat.lt_irrefl 0)⟩
/-- fewer steps -/
theorem Nam.take {w : World} {A : Option Addr} {n c : Nat} {x : List (List Atr)} (h : Nam w A n c x) (k : Nat) (hk : k ≤ n) : Nam w A k c (x.take k) := by
  refine ⟨by rw [List.length_take, h.len]; omega, by have := h.cap; omega, fun e => by have := h.nul e; omega, fun hn => ?_⟩
  obtain ⟨g, o, e, hc⟩ := h.at_ (by omega)
  refine ⟨g, o, e, fun j s hj => hc j s ?_⟩
  rw [List.getElem?_take] at hj
  split at hj
  · exact hj
  · cases hj
/-- one of the steps, one of the attributes -/
theorem Nam.get {w : World} {A : Option Addr} {n c : Nat} {x : List (List Atr)} (h : Nam w A n c x) (k : Nat) (hk : k < n) :
    ∃ g o B m d s, A = some ⟨g, o, none⟩ ∧ x[k]? = some s ∧ w.cell? ⟨g, o + k, none⟩ = some (.slice B m d) ∧ Stp w B m d s := by
  obtain ⟨g, o, e, hc⟩ := h.at_ (by omega)
  obtain ⟨s, hs⟩ : ∃ s, x[k]? = some s := ⟨_, List.getElem?_eq_getElem (by rw [h.len]; exact hk)⟩
  obtain ⟨B, m, d, h1, h2⟩ := hc k s hs
  exact ⟨g, o, B, m, d, s, e, hs, h1, h2⟩
theorem Stp.get {w : World} {A : Option Addr} {n c : Nat} {s : List Atr} (h : Stp w A n c s) (k : Nat) (hk : k < n) :
    ∃ g o T t c1 B m d a, A = some ⟨g, o, none⟩ ∧ s[k]? = some a ∧ w.cell? ⟨g, o + k * 3, none⟩ = some (.slice T t c1) ∧ w.cell? ⟨g, o + k * 3 + 1, none⟩ = some (.int .u8 (ub a.mark)) ∧ w.cell? ⟨g, o + k * 3 + 2, none⟩ = some (.slice B m d) ∧ Rd vL w T t c1 a.ty ∧ Dg 4294967296 a.ty ∧ Bs w B m d a.tx := by
  obtain ⟨g, o, e, hc⟩ := h.at_ (by omega)
  obtain ⟨a, ha⟩ : ∃ a, s[k]? = some a := ⟨_, List.getElem?_eq_getElem (by rw [h.len]; exact hk)⟩
  obtain ⟨T, t, c1, B, m, d, h1, h2, h3, h4, h5, h6⟩ := (hc k a ha).h
  exact ⟨g, o, T, t, c1, B, m, d, a, e, ha, h1, h2, h3, h4, h5, h6⟩
theorem list_from {α : Type} (Q : Nat → α → Prop) : ∀ n, (∀ i, i < n → ∃ x, Q i x) → ∃ l : List α, l.length = n ∧ ∀ (k : Nat) (x : α), l[k]? = some x → Q k x
  | 0, _ => ⟨[], rfl, fun k x h => by simp at h⟩
  | n + 1, h => by
    obtain ⟨l, hl, hq⟩ := list_from Q n fun i hi => h i (by omega)
    obtain ⟨y, hy⟩ := h n (by omega)
    refine ⟨l ++ [y], by simp [hl], fun k x hk => ?_⟩
    by_cases hkn : k < n
    · rw [List.getElem?_append_left (by omega)] at hk
      exact hq k x hk
    · rw [List.getElem?_append_right (by omega)] at hk
      obtain rfl : k = n := by
        have := (List.getElem?_eq_some_iff.1 hk).1
        simp at this
        omega
      simp [hl] at hk
      subst hk
      exact hy
section
variable {H : Type} {enc : TypeId × Value → H} {P : Program} {w : World} {held : Bool}
theorem open_arcs_at {t e fuel : Nat} {v : Value} {x : DataW H × List MemPlace} (ht : P.underlying t = some (.slice e)) (he : P.underlying e = some (.int .u32)) (hce : P.cellsOf e = 1)
    (hf : DataW.trod enc P w 0 (fun _ => true) held fuel t [v] = some x) : ∃ A n c l, v = .slice A n c ∧ Rd vL w A n c l ∧ Dg 4294967296 l := by
  rcases open_ints ht he hce hf with ⟨hcs, _⟩ | ⟨a, len', cap', zs, hcs, _, hl, hm, hz, _, hcell, hwz⟩
  · obtain rfl : v = .slice none 0 0 := by simpa using hcs
    exact ⟨none, 0, 0, [], rfl, Rd.nil _, (fun d hd => by cases hd)⟩
  · obtain rfl : v = .slice (some a) len' cap' := by simpa using hcs
    simp only [if_true] at hz
    refine ⟨some a, len', cap', (zs.map Int.toNat).take len', rfl, ⟨by rw [List.length_take, List.length_map]; omega, hl, (fun e => by cases e), fun hn => ?_⟩, fun x hx => ?_⟩
    · obtain ⟨b, off, rfl, hc⟩ := ints_at hcell (by omega)
      refine ⟨b, off, rfl, fun j x hj => ?_⟩
      have hjn : j < len' := by have := (List.getElem?_eq_some_iff.1 hj).1; rw [List.length_take] at this; omega
      rw [hc j (by omega)]
      rw [List.getElem?_take, if_pos hjn, List.getElem?_map, List.getElem?_eq_getElem (by omega)] at hj
      have hb := bounds_u32 (hwz zs[j] (List.getElem_mem (by omega)))
      cases hj
      simp only [List.getD_eq_getElem?_getD, List.getElem?_eq_getElem (show j < zs.length by omega), Option.getD_some, vL]
      congr 2
      omega
    · obtain ⟨y, hy, rfl⟩ := List.mem_map.1 (List.mem_of_mem_take hx)
      have hb := bounds_u32 (hwz y hy)
      show y.toNat < 4294967296
      omega
/-- a step that came in -/
theorem open_step_at {t e tt et tb eb fuel : Nat} {f0 f1 f2 : Field} {v : Value} {x : DataW H × List MemPlace} (ht : P.underlying t = some (.slice e)) (he : P.underlying e = some (.struct #[f0, f1, f2])) (ce : P.cellsOf e = 3)
    (o0 : f0.offset = 0) (o1 : f1.offset = 1) (o2 : f2.offset = 2) (c0 : P.cellsOf f0.type = 1) (c1 : P.cellsOf f1.type = 1) (c2 : P.cellsOf f2.type = 1)
    (h0 : f0.type = tt) (h0' : P.underlying tt = some (.slice et)) (h0'' : P.underlying et = some (.int .u32)) (h0c : P.cellsOf et = 1) (h1 : P.underlying f1.type = some (.int .u8)) (h2 : f2.type = tb) (h3 : P.underlying tb = some (.slice eb)) (h4 : P.underlying eb = some (.int .u8)) (h5 : P.cellsOf eb = 1)
    (hf : DataW.trod enc P w 0 (fun _ => true) held fuel t [v] = some x) : ∃ A n c s, v = .slice A n c ∧ Stp w A n c s := by
  rcases Go.Deep.open_slice ht hf with ⟨hcs, _⟩ | ⟨a, len, cap, m, n, D, Pl, hcs, _, hl, hm, hmm, _, hx⟩
  · obtain rfl : v = .slice none 0 0 := by simpa using hcs
    exact ⟨none, 0, 0, [], rfl, Stp.nil _⟩
  · obtain rfl : v = .slice (some a) len cap := by simpa using hcs
    simp only [if_true] at hmm
    obtain rfl : cap = m := hmm.symm
    have each : ∀ i, i < len → ∃ y : Atr, ∃ A n c B m d, w.cell? (a.add (i * 3)) = some (.slice A n c) ∧ w.cell? (a.add (i * 3 + 1)) = some (.int .u8 (ub y.mark)) ∧ w.cell? (a.add (i * 3 + 2)) = some (.slice B m d) ∧ Rd vL w A n c y.ty ∧ Dg 4294967296 y.ty ∧ Bs w B m d y.tx := fun i hi => by
      obtain ⟨cs', k1, k2⟩ := hx i (by omega)
      rw [ce] at k1
      obtain ⟨_, hlen, hcell⟩ := World.cells?_some k1
      obtain ⟨y0, y1, y2, n', _, _, g0, g1, g2⟩ := Go.Deep.trod_struct3 he k2
      match cs', hlen with
      | [v0, v1, v2], _ =>
        rw [o0, c0] at g0
        rw [o1, c1] at g1
        rw [o2, c2] at g2
        simp only [List.drop_zero, List.drop_succ_cons, List.take_succ_cons, List.take_zero] at g0 g1 g2
        rw [h2] at g2
        rw [h0] at g0
        obtain ⟨A, n, c, l, rfl, hr, hd⟩ := open_arcs_at h0' h0'' h0c g0
        obtain ⟨B, k, d, lb, rfl, hs, _⟩ := open_bytes_at8 h3 h4 h5 g2
        have e0 := hcell 0 (by omega)
        have e1 := hcell 1 (by omega)
        have e2 := hcell 2 (by omega)
        rw [Go.Deep.add_add] at e0 e1 e2
        obtain ⟨y, rfl, hy⟩ : ∃ y, v1 = .int .u8 y ∧ (Lit.int .u8 y).wf = true := by
          obtain ⟨z, hz, _, hw⟩ := DataW.trod_int h1 g1
          exact ⟨z, by simpa using hz, hw⟩
        obtain ⟨x, rfl⟩ := wf_u8 hy
        exact ⟨⟨l, x, lb⟩, A, n, c, B, k, d, by simpa using e0, by simpa using e1, by simpa using e2, hr, hd, ⟨hs⟩⟩
    by_cases hn : 0 < len
    · obtain ⟨b, off, spot⟩ := a
      have hspot : spot = none := by
        obtain ⟨_, _, _, _, _, _, _, k3, _⟩ := each 0 hn
        simpa [Addr.add] using World.cell?_spot k3
      subst hspot
      obtain ⟨s, hs1, hs2⟩ := list_from _ len each
      refine ⟨some ⟨b, off, none⟩, len, cap, s, rfl, ⟨hs1, hl, (fun e => by cases e), fun _ => ⟨b, off, rfl, fun k a hk => ⟨?_⟩⟩⟩⟩
      obtain ⟨A, n, c, B, m, d, q1, q2, q3, q4, q5, q6⟩ := hs2 k a hk
      rw [Go.WideShapes.add_plain] at q1 q2 q3
      exact ⟨A, n, c, B, m, d, q1, q2, q3, q4, q5, q6⟩
    · obtain rfl : len = 0 := by omega
      exact ⟨some a, 0, cap, [], rfl, ⟨rfl, hl, (fun e => by cases e), fun h => absurd h (Nat.lt_irrefl 0)⟩⟩
/-- a name that came in -/
theorem open_name {tn t e tt et tb eb base' : Nat} {f0 f1 f2 : Field} {v : Value} {d : DataW H} {p : List MemPlace} (htn : P.underlying tn = some (.slice t)) (ctn : P.cellsOf t = 1) (ht : P.underlying t = some (.slice e)) (he : P.underlying e = some (.struct #[f0, f1, f2])) (ce : P.cellsOf e = 3)
    (o0 : f0.offset = 0) (o1 : f1.offset = 1) (o2 : f2.offset = 2) (c0 : P.cellsOf f0.type = 1) (c1 : P.cellsOf f1.type = 1) (c2 : P.cellsOf f2.type = 1)
    (h0 : f0.type = tt) (h0' : P.underlying tt = some (.slice et)) (h0'' : P.underlying et = some (.int .u32)) (h0c : P.cellsOf et = 1) (h1 : P.underlying f1.type = some (.int .u8)) (h2 : f2.type = tb) (h3 : P.underlying tb = some (.slice eb)) (h4 : P.underlying eb = some (.int .u8)) (h5 : P.cellsOf eb = 1)
    (hv : Value.okWide P w .any base' tn v) (h : DataW.Trod enc P w 0 (fun _ => true) held tn v d p) : ∃ A n c x, v = .slice A n c ∧ Nam w A n c x := by
  obtain ⟨a0, len, cap, rfl⟩ := okWide_slice htn hv
  obtain ⟨fuel, hf⟩ := h
  rcases Go.Deep.open_slice htn hf with ⟨hcs, _⟩ | ⟨a, len', cap', m, n, D, Pl, hcs, _, hl, hm, hmm, _, hx⟩
  · simp [Value.cells] at hcs
    obtain ⟨rfl, rfl, rfl⟩ := hcs
    exact ⟨none, 0, 0, [], rfl, Nam.nil _⟩
  · simp [Value.cells] at hcs
    obtain ⟨rfl, rfl, rfl⟩ := hcs
    simp only [if_true] at hmm
    obtain rfl : cap = m := hmm.symm
    have each : ∀ i, i < len → ∃ s : List Atr, ∃ B m d, w.cell? (a.add i) = some (.slice B m d) ∧ Stp w B m d s := fun i hi => by
      obtain ⟨cs', k1, k2⟩ := hx i (by omega)
      rw [ctn] at k1
      obtain ⟨_, hlen, hcell⟩ := World.cells?_some k1
      match cs', hlen with
      | [v0], _ =>
        obtain ⟨B, k, dd, s, rfl, hs⟩ := open_step_at ht he ce o0 o1 o2 c0 c1 c2 h0 h0' h0'' h0c h1 h2 h3 h4 h5 k2
        have e0 := hcell 0 (by omega)
        rw [Go.Deep.add_add] at e0
        exact ⟨s, B, k, dd, by simpa using e0, hs⟩
    by_cases hn : 0 < len
    · obtain ⟨b, off, spot⟩ := a
      have hspot : spot = none := by
        obtain ⟨_, _, _, _, k3, _⟩ := each 0 hn
        simpa [Addr.add] using World.cell?_spot k3
      subst hspot
      obtain ⟨x, hx1, hx2⟩ := list_from _ len each
      refine ⟨some ⟨b, off, none⟩, len, cap, x, rfl, ⟨hx1, hl, (fun e => by cases e), fun _ => ⟨b, off, rfl, fun k s hk => ?_⟩⟩⟩
      obtain ⟨B, m, d, q1, q2⟩ := hx2 k s hk
      rw [Go.WideShapes.add_plain] at q1
      exact ⟨B, m, d, q1, q2⟩
    · obtain rfl : len = 0 := by omega
      exact ⟨some a, 0, cap, [], rfl, ⟨rfl, hl, (fun e => by cases e), fun h => absurd h (Nat.lt_irrefl 0)⟩⟩
end
end Go.Proofs.YthookcnkmlmgcaaDoor
namespace Go.Proofs.YthookcnkmlmgcaaDoor
open Go
set_option maxRecDepth 4000

theorem gb_snoc (o : List (BitVec 8)) (y : BitVec 8) : gb (o ++ [y]) o.length = y := by
  unfold gb
  rw [List.getD_eq_getElem?_getD, List.getElem?_append_right (Nat.le_refl _), Nat.sub_self]
  rfl
/-- one byte more -/
def plN (o : List (BitVec 8)) (x : BitVec 8) : List (BitVec 8) := if x ≠ 32 ∨ (0 < o.length ∧ gb o (o.length - 1) ≠ 32) then o ++ [lowB x] else o
/-- a last blank left out -/
def cutB (o : List (BitVec 8)) : List (BitVec 8) := if 0 < o.length ∧ gb o (o.length - 1) = 32 then o.take (o.length - 1) else o
/-- what the code has told where the reference has told o, and a blank stands ahead (p) -/
def plO (o : List (BitVec 8)) (p : Bool) : List (BitVec 8) := if o ≠ [] ∧ p = true then o ++ [32] else o
/-- its last byte is no blank -/
def NoB (o : List (BitVec 8)) : Prop := ¬(0 < o.length ∧ gb o (o.length - 1) = 32)
theorem noB_snoc (o : List (BitVec 8)) (x : BitVec 8) (h : x ≠ 32) : NoB (o ++ [lowB x]) := by
  rintro ⟨_, h2⟩
  rw [List.length_append, List.length_singleton, Nat.add_sub_cancel, gb_snoc] at h2
  exact low_blank x h h2
theorem plGo_cons (o : List (BitVec 8)) (p : Bool) (x : BitVec 8) (t : List (BitVec 8)) : plGo o p (x :: t) = if x = 32 then plGo o true t else plGo (plO o p ++ [lowB x]) false t := rfl
theorem plN_go : ∀ (t o : List (BitVec 8)) (p : Bool), NoB o → cutB (t.foldl plN (plO o p)) = plGo o p t
  | [], o, p, h => by
    show cutB (plO o p) = o
    unfold plO
    split
    · unfold cutB
      rw [if_pos ⟨by simp, by rw [List.length_append, List.length_singleton, Nat.add_sub_cancel, gb_snoc]⟩]
      simp
    · unfold cutB
      rw [if_neg h]
  | x :: t, o, p, h => by
    rw [List.foldl_cons, plGo_cons]
    by_cases hx : x = 32
    · subst hx
      rw [if_pos rfl, ← plN_go t o true h]
      congr 2
      by_cases ho : o = []
      · subst ho
        rfl
      · have hl : 0 < o.length := List.length_pos_iff.2 ho
        have e2 : plO o true = o ++ [32] := by unfold plO; rw [if_pos ⟨ho, rfl⟩]
        rw [e2]
        cases p
        · have e1 : plO o false = o := by unfold plO; rw [if_neg (by simp)]
          rw [e1]
          unfold plN
          rw [if_pos (.inr ⟨hl, fun e => h ⟨hl, e⟩⟩)]
          rfl
        · rw [e2]
          unfold plN
          rw [if_neg]
          rintro (h1 | ⟨_, h1⟩)
          · exact h1 rfl
          · exact h1 (by rw [List.length_append, List.length_singleton, Nat.add_sub_cancel, gb_snoc])
    · rw [if_neg hx]
      have e1 : plN (plO o p) x = plO o p ++ [lowB x] := by unfold plN; rw [if_pos (.inl hx)]
      have e0 : ∀ z : List (BitVec 8), plO z false = z := fun z => by
        unfold plO
        rw [if_neg (fun h => by cases h.2)]
      have e3 := e0 (plO o p ++ [lowB x])
      rw [e1, ← plN_go t (plO o p ++ [lowB x]) false (noB_snoc _ _ hx), e3]
/-- the code's way -/
theorem plN_all (t : List (BitVec 8)) : cutB (t.foldl plN []) = plainL t := by
  have := plN_go t [] false (fun h => absurd h.1 (Nat.lt_irrefl 0))
  rw [plGo_all] at this
  exact this
theorem plN_len (o : List (BitVec 8)) (x : BitVec 8) : (plN o x).length ≤ o.length + 1 := by
  unfold plN
  split
  · simp
  · omega
theorem plN_fold_len : ∀ (t o : List (BitVec 8)), (t.foldl plN o).length ≤ o.length + t.length
  | [], o => Nat.le_refl _
  | x :: t, o => by
    rw [List.foldl_cons]
    have h1 := plN_fold_len t (plN o x)
    have h2 := plN_len o x
    simp only [List.length_cons]
    omega
theorem fold_more {α : Type} (f : α → BitVec 8 → α) (o : α) (t : List (BitVec 8)) (j : Nat) (hj : j < t.length) : (t.take (j + 1)).foldl f o = f ((t.take j).foldl f o) (gb t j) := by
  rw [List.take_add_one, List.getElem?_eq_getElem hj, List.foldl_append]
  simp [gb, hj]
/-- the reference's way -/
def gN (s : List (BitVec 8) × Bool) (x : BitVec 8) : List (BitVec 8) × Bool := if x = 32 then (s.1, true) else ((if s.1 ≠ [] ∧ s.2 = true then s.1 ++ [32] else s.1) ++ [lowB x], false)
theorem gN_go : ∀ (t : List (BitVec 8)) (s : List (BitVec 8) × Bool), (t.foldl gN s).1 = plGo s.1 s.2 t
  | [], s => rfl
  | x :: t, s => by
    rw [List.foldl_cons, gN_go t, plGo_cons]
    unfold gN
    by_cases hx : x = 32
    · rw [if_pos hx, if_pos hx]
    · rw [if_neg hx, if_neg hx]
      rfl
theorem gN_all (t : List (BitVec 8)) : (t.foldl gN ([], false)).1 = plainL t := by rw [gN_go, plGo_all]
theorem gN_len (s : List (BitVec 8) × Bool) (x : BitVec 8) : (gN s x).1.length ≤ s.1.length + 2 := by
  unfold gN
  split
  · simp
  · split
    · simp
    · simp
theorem gN_fold_len : ∀ (t : List (BitVec 8)) (s : List (BitVec 8) × Bool), (t.foldl gN s).1.length ≤ s.1.length + 2 * t.length
  | [], s => Nat.le_refl _
  | x :: t, s => by
    rw [List.foldl_cons]
    have h1 := gN_fold_len t (gN s x)
    have h2 := gN_len s x
    simp only [List.length_cons]
    omega
/-- whether a blank stands ahead -/
theorem gN_snd (t : List (BitVec 8)) (j : Nat) (hj : j < t.length) : ((t.take (j + 1)).foldl gN ([], false)).2 = decide (gb t j = 32) := by
  rw [fold_more gN _ t j hj]
  unfold gN
  by_cases h : gb t j = 32
  · rw [if_pos h, decide_eq_true h]
  · rw [if_neg h, decide_eq_false h]
end Go.Proofs.YthookcnkmlmgcaaDoor
namespace Go.Proofs.YthookcnkmlmgcaaDoor
open Go Go.RowKit
set_option maxRecDepth 4000

theorem low_up (x : BitVec 8) (h1 : 65 ≤ x.toNat) (h2 : x.toNat ≤ 90) : ub (lowB x) = ub x + 32 := by
  unfold lowB ub
  rw [if_pos ⟨h1, h2⟩, BitVec.toNat_add]
  simp
  omega
theorem low_same (x : BitVec 8) (h : ¬(65 ≤ x.toNat ∧ x.toNat ≤ 90)) : lowB x = x := by unfold lowB; rw [if_neg h]
theorem small_any (x : BitVec 8) (w : World) : Calls Tryd.prog 24 #[.int .u8 (ub x)] w fun e w' => e = .returned (.int .u8 (ub (lowB x))) ∧ w' = w := by
  have lo := ub_lo x
  have hi := ub_hi x
  by_cases h1 : 65 ≤ x.toNat
  · have b1 : (65 : Int) ≤ ub x := by unfold ub; omega
    by_cases h2 : x.toNat ≤ 90
    · have b2 : ub x ≤ 90 := by unfold ub; omega
      have e1 : IntKind.u8.wrap (ub x - 65) = ub x - 65 := by rw [IntKind.wrap_u8]; omega
      have e2 : IntKind.u8.wrap (ub x - 65 + 97) = ub x + 32 := by rw [IntKind.wrap_u8]; omega
      rw [low_up x h1 h2]
      clear h1 h2
      generalize ub x = z at *
      go_enter Tryd.func24, Tryd.ntmps24
      go_wp2_with fail
      go_ret
      exact ⟨rfl, rfl⟩
    · have b2 : ¬ (ub x ≤ 90) := by unfold ub; omega
      rw [low_same x (fun h => h2 h.2)]
      clear h1 h2
      generalize ub x = z at *
      go_enter Tryd.func24, Tryd.ntmps24
      go_wp2_with fail
      go_ret
      exact ⟨rfl, rfl⟩
  · have b1 : ¬ ((65 : Int) ≤ ub x) := by unfold ub; omega
    rw [low_same x (fun h => h1 h.1)]
    clear h1
    generalize ub x = z at *
    go_enter Tryd.func24, Tryd.ntmps24
    go_wp2_with fail
    go_ret
    exact ⟨rfl, rfl⟩
/-- a cell in a later world -/
theorem cell_up {w w' : World} {p : Addr} {v : Value} (h : w.cell? p = some v) (hx : Ext w w') : w'.cell? p = some v := (hx.b.cell (World.block_lt_of_cell? _ _ h)).trans h
theorem eq32 (x : BitVec 8) : x = 32 ↔ ub x = 32 := by
  constructor
  · rintro rfl; rfl
  · intro h
    apply BitVec.eq_of_toNat_eq
    unfold ub at h
    simp
    omega
set_option maxHeartbeats 4000000 in
theorem Plain_any {t : List (BitVec 8)} {A : Option Addr} {n c : Nat} {w : World} (h : Bs w A n c t) (hn : n ≤ 1000000) :
    Calls Tryd.prog 13 #[.slice A n c] w (Fresh w (plainL t).length (plainL t)) := by
  have hl := h.len
  obtain ⟨f, hf⟩ : ∃ f : Nat → List (BitVec 8), f = fun j => (t.take j).foldl plN [] := ⟨_, rfl⟩
  have f0 : f 0 = [] := by rw [hf]; rfl
  have fs : ∀ j, j < n → f (j + 1) = plN (f j) (gb t j) := fun j hj => by rw [hf]; exact fold_more plN [] t j (by omega)
  have fn : cutB (f n) = plainL t := by rw [hf]; show cutB ((t.take n).foldl plN []) = _; rw [List.take_of_length_le (by omega), plN_all]
  have fl : ∀ j, (f j).length ≤ j := fun j => by
    rw [hf]
    have := plN_fold_len (t.take j) []
    simp at this ⊢
    omega
  clear hf
  rw [← fn]
  have F0 := Kp.mk f0
  have FS := Kp.mk fs
  have FL := Kp.mk fl
  have HB := Kp.mk h
  have HL := Kp.mk hl
  clear f0 fs fn fl h hl
  go_enter Tryd.func13, Tryd.ntmps13
  go_wp2_with fail
  go_loopw [3, 8] (fun v iv wr => ∃ (j P : Nat) (A' : Option Addr) (c' : Nat) (o : List (BitVec 8)), j ≤ n ∧ o = f j ∧ v = .slice A' P c' ∧ iv = .int .i64 (j : Int) ∧ Own wr w.heap.size (.slice A' P c') P o ∧ Ext w wr) (fun _ iv _ => n - (intOf iv).toNat)
  case atStart => exact ⟨0, 0, none, 0, [], Nat.zero_le _, F0.out.symm, rfl, rfl, Own.nil _ _, Ext.refl _⟩
  case round =>
    obtain ⟨j, P, A', c', o, hj, hof, rfl, rfl, ho, hx⟩ := hrel
    have hP := ho.len
    have hPj : P ≤ j := by have := FL.out j; rw [← hof] at this; omega
    have HO := Kp.mk ho
    have HX := Kp.mk hx
    by_cases hlt : j < n
    · obtain ⟨g, q, rfl, hc⟩ := (HB.out.ext hx).s.2.2.2 (by omega)
      have c1 := hc j hlt
      have hstep := FS.out j hlt
      rw [← hof] at hstep
      have b1 : (j : Int) < (n : Int) := by omega
      clear hc
      generalize gb t j = x at *
      have hS := Kp.mk (small_any x)
      by_cases ht : x ≠ 32 ∨ (0 < P ∧ gb o (P - 1) ≠ 32)
      · have hnew : f (j + 1) = o ++ [lowB x] := by rw [hstep]; unfold plN; rw [hP, if_pos ht]
        have HN := Kp.mk hnew
        generalize lowB x = y at *
        clear hnew hstep hof ho hx
        by_cases hx32 : x = 32
        · have ht2 := ht.resolve_left (fun h => h hx32)
          obtain ⟨hp, hq⟩ := ht2
          obtain ⟨g', rfl, hB', _⟩ := HO.out.some_ hp
          obtain ⟨k, hk⟩ : ∃ k, k = P - 1 := ⟨_, rfl⟩
          have c2 := HO.out.cell k (by omega)
          rw [← hk] at hq
          generalize gb o k = z at *
          have e1 : (ub x == 32) = true := by rw [beq_iff_eq]; exact (eq32 x).1 hx32
          have e2 : (ub x != 32) = false := by rw [bne, e1]; rfl
          have e3 : (ub z == 32) = false := beq_eq_false_iff_ne.2 fun h => hq ((eq32 z).2 h)
          have e4 : (ub z != 32) = true := by rw [bne, e3]; rfl
          have e5 : (P : Int) - 1 = (k : Int) := by omega
          have e6 : IntKind.i64.wrap (k : Int) = (k : Int) := by rw [IntKind.wrap_i64]; omega
          have e7 : k < P := by omega
          have e8 : (k : Int) < (P : Int) := by omega
          have e9 : (0 : Int) < (P : Int) := by omega
          clear ht hx32 hq hk
          generalize ub x = zx at *
          generalize ub z = zz at *
          go_wp2_with (first | (go_at_call 24; refine (hS.out _).mono ?_; rintro e w2 ⟨rfl, hw⟩; obtain rfl : wr = w2 := hw.symm) | (at_builtin; refine wpList_append_bs rfl (.tmp 28) (.tmp 31) rfl w.heap.size _ P o rfl (HO.out.ext (by (repeat (first | assumption | exact Ext.refl _ | apply Ext.drew | apply Ext.drewN | apply Ext.alloc | refine Ext.trans ?_ (by assumption))); first | done | fail)) _ 1 1 [y] rfl (const_bs wr _ [y] 1 1 (0, 0) rfl rfl (by decide)) (by omega) (P + 1) rfl (o ++ [y]) rfl w (HX.out.trans (by (repeat (first | assumption | exact Ext.refl _ | apply Ext.drew | apply Ext.drewN | apply Ext.alloc | refine Ext.trans ?_ (by assumption))); first | done | fail)) (Nat.le_refl _) (Nat.le_trans HX.out.size (by simp)) ?_; intro A4 c4 w4 ho4 hx4 hap4) | fail)
          go_roundw
          case rel => exact ⟨j + 1, P + 1, A4, c4, _, by omega, HN.out.symm, by first | rfl | trivial, by go_num, ho4, hx4⟩
          case measure => simp [intOf]; omega
        · have e1 : (ub x == 32) = false := beq_eq_false_iff_ne.2 fun h => hx32 ((eq32 x).2 h)
          have e2 : (ub x != 32) = true := by rw [bne, e1]; rfl
          clear ht hx32
          generalize ub x = zx at *
          go_wp2_with (first | (go_at_call 24; refine (hS.out _).mono ?_; rintro e w2 ⟨rfl, hw⟩; obtain rfl : wr = w2 := hw.symm) | (at_builtin; refine wpList_append_bs rfl (.tmp 28) (.tmp 31) rfl w.heap.size _ P o rfl (HO.out.ext (by (repeat (first | assumption | exact Ext.refl _ | apply Ext.drew | apply Ext.drewN | apply Ext.alloc | refine Ext.trans ?_ (by assumption))); first | done | fail)) _ 1 1 [y] rfl (const_bs wr _ [y] 1 1 (0, 0) rfl rfl (by decide)) (by omega) (P + 1) rfl (o ++ [y]) rfl w (HX.out.trans (by (repeat (first | assumption | exact Ext.refl _ | apply Ext.drew | apply Ext.drewN | apply Ext.alloc | refine Ext.trans ?_ (by assumption))); first | done | fail)) (Nat.le_refl _) (Nat.le_trans HX.out.size (by simp)) ?_; intro A4 c4 w4 ho4 hx4 hap4) | fail)
          go_roundw
          case rel => exact ⟨j + 1, P + 1, A4, c4, _, by omega, HN.out.symm, by first | rfl | trivial, by go_num, ho4, hx4⟩
          case measure => simp [intOf]; omega
      · have hnew : f (j + 1) = o := by rw [hstep]; unfold plN; rw [hP, if_neg ht]
        have HN := Kp.mk hnew
        have hx32 : x = 32 := Classical.byContradiction fun h => ht (.inl h)
        have e1 : (ub x == 32) = true := by rw [beq_iff_eq]; exact (eq32 x).1 hx32
        have e2 : (ub x != 32) = false := by rw [bne, e1]; rfl
        clear hnew hstep hof ho hx
        by_cases hp : 0 < P
        · have hq : gb o (P - 1) = 32 := Classical.byContradiction fun h => ht (.inr ⟨hp, h⟩)
          obtain ⟨g', rfl, hB', _⟩ := HO.out.some_ hp
          obtain ⟨k, hk⟩ : ∃ k, k = P - 1 := ⟨_, rfl⟩
          have c2 := HO.out.cell k (by omega)
          rw [← hk] at hq
          rw [hq] at c2
          have e5 : (P : Int) - 1 = (k : Int) := by omega
          have e6 : IntKind.i64.wrap (k : Int) = (k : Int) := by rw [IntKind.wrap_i64]; omega
          have e7 : k < P := by omega
          have e8 : (k : Int) < (P : Int) := by omega
          have e9 : (0 : Int) < (P : Int) := by omega
          have c3 : wr.cell? ⟨g', k, none⟩ = some (.int .u8 32) := c2
          clear ht hx32 hq hk c2
          generalize ub x = zx at *
          go_wp2_with fail
          go_roundw
          case rel => exact ⟨j + 1, P, _, c', o, by omega, HN.out.symm, by first | rfl | trivial, by go_num, HO.out, HX.out⟩
          case measure => simp [intOf]; omega
        · obtain rfl : P = 0 := by omega
          clear ht hx32 hp
          generalize ub x = zx at *
          go_wp2_with fail
          go_roundw
          case rel => exact ⟨j + 1, 0, _, c', o, by omega, HN.out.symm, by first | rfl | trivial, by go_num, HO.out, HX.out⟩
          case measure => simp [intOf]; omega
    · obtain rfl : j = n := by omega
      have HF := Kp.mk hof
      clear hof ho hx
      by_cases hp : 0 < P
      · obtain ⟨g', rfl, hB', _⟩ := HO.out.some_ hp
        obtain ⟨k, hk⟩ : ∃ k, k = P - 1 := ⟨_, rfl⟩
        have c2 := HO.out.cell k (by omega)
        have e5 : (P : Int) - 1 = (k : Int) := by omega
        have e6 : IntKind.i64.wrap (k : Int) = (k : Int) := by rw [IntKind.wrap_i64]; omega
        have e7 : k < P := by omega
        have e8 : (k : Int) < (P : Int) := by omega
        have e9 : (0 : Int) < (P : Int) := by omega
        by_cases hq : gb o k = 32
        · have HE : Kp (cutB (f j) = o.take k) := ⟨by rw [← HF.out]; unfold cutB; rw [hP, ← hk, if_pos ⟨hp, hq⟩]⟩
          rw [hq] at c2
          have c3 : wr.cell? ⟨g', k, none⟩ = some (.int .u8 32) := c2
          have hcap := HO.out.bs.cap
          have hup := fun W => run_upto (P := Tryd.prog) (some ⟨g', 0, none⟩) P c' 29 5 Tryd.underlying29 szB k (k : Int) rfl (by omega) W
          have HT := Kp.mk (Own.mk (Rw.take (T := 5) (e := vb) ⟨HO.out.o⟩ (k := k) (by omega)).o)
          have HL2 : Kp ((o.take k).length = k) := ⟨by rw [List.length_take]; omega⟩
          clear hq hk c2
          go_wp2_with fail
          go_ret
          rw [HE.out, HL2.out]
          exact ⟨_, _, rfl, HT.out.bs, HT.out, HX.out⟩
        · have HE : Kp (cutB (f j) = o) := ⟨by rw [← HF.out]; unfold cutB; rw [hP, ← hk, if_neg (fun h => hq h.2)]⟩
          have e3 : (ub (gb o k) == 32) = false := beq_eq_false_iff_ne.2 fun h => hq ((eq32 _).2 h)
          have e4 : (ub (gb o k) != 32) = true := by rw [bne, e3]; rfl
          have HL2 := Kp.mk hP
          clear hq hk hP
          generalize ub (gb o k) = zz at *
          go_wp2_with fail
          go_ret
          rw [HE.out, HL2.out]
          exact ⟨_, _, rfl, HO.out.bs, HO.out, HX.out⟩
      · obtain rfl : P = 0 := by omega
        have HE : Kp (cutB (f j) = o) := ⟨by rw [← HF.out]; unfold cutB; rw [if_neg (fun h => by rw [hP] at h; exact hp h.1)]⟩
        have HL2 := Kp.mk hP
        clear hp hP
        go_wp2_with fail
        go_ret
        rw [HE.out, HL2.out]
        exact ⟨_, _, rfl, HO.out.bs, HO.out, HX.out⟩
end Go.Proofs.YthookcnkmlmgcaaDoor
