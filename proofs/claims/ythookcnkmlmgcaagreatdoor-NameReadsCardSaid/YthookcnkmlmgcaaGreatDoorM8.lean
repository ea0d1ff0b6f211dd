/-
  Names as a row's reading gives them: a slice of slices of structs of an identifier, a byte and bytes.
  cmp.Compare at uint32, slices.Compare at []uint32, cmp.Or at int.
  name: compareSenses, sameSense.
  tlv: is a byte a mark; Head. The reference's Mark, IsWhole, Head, Element. Codes of errors.
-/
import Derived.Test.YthookcnkmlmgcaaGreatDoorM0
import Derived.Test.YthookcnkmlmgcaaGreatDoorM7
import Derived.Test.YthookcnkmlmgcaaGreatDoorM2
import Derived.Test.YthookcnkmlmgcaaGreatDoorM4
import Derived.Lib.Bytealg
import Derived.Lib.BytesEntry
import Derived.Sort.Grow
import Derived.Test.YthookcnkmlmgcaaGreatDoorM1
namespace Go.Proofs.YthookcnkmlmgcaaGreatDoor
open Go Go.ChangeShapes Go.WideShapes Go.ChangeAt Go.RowKit
set_option maxRecDepth 4000

/-- an attribute lies there, in three cells -/
structure Atm (w : World) (g o : Nat) (a : Atr) : Prop where
  h : ∃ A n c B m d, w.cell? ⟨g, o, none⟩ = some (.slice A n c) ∧ w.cell? ⟨g, o + 1, none⟩ = some (.int .u8 (ub a.mark)) ∧ w.cell? ⟨g, o + 2, none⟩ = some (.slice B m d) ∧ Rd vL w A n c a.ty ∧ Dg 4294967296 a.ty ∧ Bs w B m d a.tx
theorem cell_fwd {w w' : World} {p : Addr} {v : Value} (h : w.cell? p = some v) (hx : Ext w w') : w'.cell? p = some v := (hx.b.cell (World.block_lt_of_cell? _ _ h)).trans h
theorem Atm.ext {w w' : World} {g o : Nat} {a : Atr} (h : Atm w g o a) (hx : Ext w w') : Atm w' g o a := by
  obtain ⟨A, n, c, B, m, d, h1, h2, h3, h4, h5, h6⟩ := h.h
  exact ⟨A, n, c, B, m, d, cell_fwd h1 hx, cell_fwd h2 hx, cell_fwd h3 hx, h4.ext hx, h5, h6.ext hx⟩
/-- a step: a slice of attributes -/
structure Stp (w : World) (A : Option Addr) (n c : Nat) (s : List Atr) : Prop where
  len : s.length = n
  cap : n ≤ c
  nul : A = none → n = 0 ∧ c = 0
  at_ : 0 < n → ∃ g o, A = some ⟨g, o, none⟩ ∧ ∀ (k : Nat) (a : Atr), s[k]? = some a → Atm w g (o + k * 3) a
theorem Stp.ext {w w' : World} {A : Option Addr} {n c : Nat} {s : List Atr} (h : Stp w A n c s) (hx : Ext w w') : Stp w' A n c s := by
  refine ⟨h.len, h.cap, h.nul, fun hn => ?_⟩
  obtain ⟨g, o, e, hc⟩ := h.at_ hn
  exact ⟨g, o, e, fun k a hk => (hc k a hk).ext hx⟩
theorem Stp.nil (w : World) : Stp w none 0 0 [] := ⟨rfl, Nat.le_refl _, fun _ => ⟨rfl, rfl⟩, fun h => absurd h (Nat.lt_irrefl 0)⟩
/-- a name: a slice of steps -/
structure Nam (w : World) (A : Option Addr) (n c : Nat) (x : List (List Atr)) : Prop where
  len : x.length = n
  cap : n ≤ c
  nul : A = none → n = 0 ∧ c = 0
  at_ : 0 < n → ∃ g o, A = some ⟨g, o, none⟩ ∧ ∀ (k : Nat) (s : List Atr), x[k]? = some s → ∃ B m d, w.cell? ⟨g, o + k, none⟩ = some (.slice B m d) ∧ Stp w B m d s
theorem Nam.ext {w w' : World} {A : Option Addr} {n c : Nat} {x : List (List Atr)} (h : Nam w A n c x) (hx : Ext w w') : Nam w' A n c x := by
  refine ⟨h.len, h.cap, h.nul, fun hn => ?_⟩
  obtain ⟨g, o, e, hc⟩ := h.at_ hn
  refine ⟨g, o, e, fun k s hk => ?_⟩
  obtain ⟨B, m, d, h1, h2⟩ := hc k s hk
  exact ⟨B, m, d, cell_fwd h1 hx, h2.ext hx⟩
theorem Nam.nil (w : World) : Nam w none 0 0 [] := ⟨rfl, Nat.le_refl _, fun _ => ⟨rfl, rfl⟩, fun h => absurd h (Nat.lt_irrefl 0)⟩
/-- fewer steps -/
theorem Nam.take {w : World} {A : Option Addr} {n c : Nat} {x : List (List Atr)} (h : Nam w A n c x) (k : Nat) (hk : k ≤ n) : Nam w A k c (x.take k) := by
  refine ⟨by rw [List.length_take, h.len]; omega, by have := h.cap; omega, fun e => by have := h.nul e; omega, fun hn => ?_⟩
  obtain ⟨g, o, e, hc⟩ := h.at_ (by omega)
  refine ⟨g, o, e, fun j s hj => hc j s ?_⟩
  rw [List.getElem?_take] at hj
  split at hj
  · exact hj
  · cases hj
/-- one of the steps, one of the attributes -/
theorem Nam.get {w : World} {A : Option Addr} {n c : Nat} {x : List (List Atr)} (h : Nam w A n c x) (k : Nat) (hk : k < n) :
    ∃ g o B m d s, A = some ⟨g, o, none⟩ ∧ x[k]? = some s ∧ w.cell? ⟨g, o + k, none⟩ = some (.slice B m d) ∧ Stp w B m d s := by
  obtain ⟨g, o, e, hc⟩ := h.at_ (by omega)
  obtain ⟨s, hs⟩ : ∃ s, x[k]? = some s := ⟨_, List.getElem?_eq_getElem (by rw [h.len]; exact hk)⟩
  obtain ⟨B, m, d, h1, h2⟩ := hc k s hs
  exact ⟨g, o, B, m, d, s, e, hs, h1, h2⟩
theorem Stp.get {w : World} {A : Option Addr} {n c : Nat} {s : List Atr} (h : Stp w A n c s) (k : Nat) (hk : k < n) :
    ∃ g o T t c1 B m d a, A = some ⟨g, o, none⟩ ∧ s[k]? = some a ∧ w.cell? ⟨g, o + k * 3, none⟩ = some (.slice T t c1) ∧ w.cell? ⟨g, o + k * 3 + 1, none⟩ = some (.int .u8 (ub a.mark)) ∧ w.cell? ⟨g, o + k * 3 + 2, none⟩ = some (.slice B m d) ∧ Rd vL w T t c1 a.ty ∧ Dg 4294967296 a.ty ∧ Bs w B m d a.tx := by
  obtain ⟨g, o, e, hc⟩ := h.at_ (by omega)
  obtain ⟨a, ha⟩ : ∃ a, s[k]? = some a := ⟨_, List.getElem?_eq_getElem (by rw [h.len]; exact hk)⟩
  obtain ⟨T, t, c1, B, m, d, h1, h2, h3, h4, h5, h6⟩ := (hc k a ha).h
  exact ⟨g, o, T, t, c1, B, m, d, a, e, ha, h1, h2, h3, h4, h5, h6⟩
theorem list_from {α : Type} (Q : Nat → α → Prop) : ∀ n, (∀ i, i < n → ∃ x, Q i x) → ∃ l : List α, l.length = n ∧ ∀ (k : Nat) (x : α), l[k]? = some x → Q k x
  | 0, _ => ⟨[], rfl, fun k x h => by simp at h⟩
  | n + 1, h => by
    obtain ⟨l, hl, hq⟩ := list_from Q n fun i hi => h i (by omega)
    obtain ⟨y, hy⟩ := h n (by omega)
    refine ⟨l ++ [y], by simp [hl], fun k x hk => ?_⟩
    by_cases hkn : k < n
    · rw [List.getElem?_append_left (by omega)] at hk
      exact hq k x hk
    · rw [List.getElem?_append_right (by omega)] at hk
      obtain rfl : k = n := by
        have := (List.getElem?_eq_some_iff.1 hk).1
        simp at this
        omega
      simp [hl] at hk
      subst hk
      exact hy
section
variable {H : Type} {enc : TypeId × Value → H} {P : Program} {w : World} {held : Bool}
theorem open_arcs_at {t e fuel : Nat} {v : Value} {x : DataW H × List MemPlace} (ht : P.underlying t = some (.slice e)) (he : P.underlying e = some (.int .u32)) (hce : P.cellsOf e = 1)
    (hf : DataW.trod enc P w 0 (fun _ => true) held fuel t [v] = some x) : ∃ A n c l, v = .slice A n c ∧ Rd vL w A n c l ∧ Dg 4294967296 l := by
  rcases open_ints ht he hce hf with ⟨hcs, _⟩ | ⟨a, len', cap', zs, hcs, _, hl, hm, hz, _, hcell, hwz⟩
  · obtain rfl : v = .slice none 0 0 := by simpa using hcs
    exact ⟨none, 0, 0, [], rfl, Rd.nil _, (fun d hd => by cases hd)⟩
  · obtain rfl : v = .slice (some a) len' cap' := by simpa using hcs
    simp only [if_true] at hz
    refine ⟨some a, len', cap', (zs.map Int.toNat).take len', rfl, ⟨by rw [List.length_take, List.length_map]; omega, hl, (fun e => by cases e), fun hn => ?_⟩, fun x hx => ?_⟩
    · obtain ⟨b, off, rfl, hc⟩ := ints_at hcell (by omega)
      refine ⟨b, off, rfl, fun j x hj => ?_⟩
      have hjn : j < len' := by have := (List.getElem?_eq_some_iff.1 hj).1; rw [List.length_take] at this; omega
      rw [hc j (by omega)]
      rw [List.getElem?_take, if_pos hjn, List.getElem?_map, List.getElem?_eq_getElem (by omega)] at hj
      have hb := bounds_u32 (hwz zs[j] (List.getElem_mem (by omega)))
      cases hj
      simp only [List.getD_eq_getElem?_getD, List.getElem?_eq_getElem (show j < zs.length by omega), Option.getD_some, vL]
      congr 2
      omega
    · obtain ⟨y, hy, rfl⟩ := List.mem_map.1 (List.mem_of_mem_take hx)
      have hb := bounds_u32 (hwz y hy)
      show y.toNat < 4294967296
      omega
/-- a step that came in -/
theorem open_step_at {t e tt et tb eb fuel : Nat} {f0 f1 f2 : Field} {v : Value} {x : DataW H × List MemPlace} (ht : P.underlying t = some (.slice e)) (he : P.underlying e = some (.struct #[f0, f1, f2])) (ce : P.cellsOf e = 3)
    (o0 : f0.offset = 0) (o1 : f1.offset = 1) (o2 : f2.offset = 2) (c0 : P.cellsOf f0.type = 1) (c1 : P.cellsOf f1.type = 1) (c2 : P.cellsOf f2.type = 1)
    (h0 : f0.type = tt) (h0' : P.underlying tt = some (.slice et)) (h0'' : P.underlying et = some (.int .u32)) (h0c : P.cellsOf et = 1) (h1 : P.underlying f1.type = some (.int .u8)) (h2 : f2.type = tb) (h3 : P.underlying tb = some (.slice eb)) (h4 : P.underlying eb = some (.int .u8)) (h5 : P.cellsOf eb = 1)
    (hf : DataW.trod enc P w 0 (fun _ => true) held fuel t [v] = some x) : ∃ A n c s, v = .slice A n c ∧ Stp w A n c s := by
  rcases Go.Deep.open_slice ht hf with ⟨hcs, _⟩ | ⟨a, len, cap, m, n, D, Pl, hcs, _, hl, hm, hmm, _, hx⟩
  · obtain rfl : v = .slice none 0 0 := by simpa using hcs
    exact ⟨none, 0, 0, [], rfl, Stp.nil _⟩
  · obtain rfl : v = .slice (some a) len cap := by simpa using hcs
    simp only [if_true] at hmm
    obtain rfl : cap = m := hmm.symm
    have each : ∀ i, i < len → ∃ y : Atr, ∃ A n c B m d, w.cell? (a.add (i * 3)) = some (.slice A n c) ∧ w.cell? (a.add (i * 3 + 1)) = some (.int .u8 (ub y.mark)) ∧ w.cell? (a.add (i * 3 + 2)) = some (.slice B m d) ∧ Rd vL w A n c y.ty ∧ Dg 4294967296 y.ty ∧ Bs w B m d y.tx := fun i hi => by
      obtain ⟨cs', k1, k2⟩ := hx i (by omega)
      rw [ce] at k1
      obtain ⟨_, hlen, hcell⟩ := World.cells?_some k1
      obtain ⟨y0, y1, y2, n', _, _, g0, g1, g2⟩ := Go.Deep.trod_struct3 he k2
      match cs', hlen with
      | [v0, v1, v2], _ =>
        rw [o0, c0] at g0
        rw [o1, c1] at g1
        rw [o2, c2] at g2
        simp only [List.drop_zero, List.drop_succ_cons, List.take_succ_cons, List.take_zero] at g0 g1 g2
        rw [h2] at g2
        rw [h0] at g0
        obtain ⟨A, n, c, l, rfl, hr, hd⟩ := open_arcs_at h0' h0'' h0c g0
        obtain ⟨B, k, d, lb, rfl, hs, _⟩ := open_bytes_at8 h3 h4 h5 g2
        have e0 := hcell 0 (by omega)
        have e1 := hcell 1 (by omega)
        have e2 := hcell 2 (by omega)
        rw [Go.Deep.add_add] at e0 e1 e2
        obtain ⟨y, rfl, hy⟩ : ∃ y, v1 = .int .u8 y ∧ (Lit.int .u8 y).wf = true := by
          obtain ⟨z, hz, _, hw⟩ := DataW.trod_int h1 g1
          exact ⟨z, by simpa using hz, hw⟩
        obtain ⟨x, rfl⟩ := wf_u8 hy
        exact ⟨⟨l, x, lb⟩, A, n, c, B, k, d, by simpa using e0, by simpa using e1, by simpa using e2, hr, hd, ⟨hs⟩⟩
    by_cases hn : 0 < len
    · obtain ⟨b, off, spot⟩ := a
      have hspot : spot = none := by
        obtain ⟨_, _, _, _, _, _, _, k3, _⟩ := each 0 hn
        simpa [Addr.add] using World.cell?_spot k3
      subst hspot
      obtain ⟨s, hs1, hs2⟩ := list_from _ len each
      refine ⟨some ⟨b, off, none⟩, len, cap, s, rfl, ⟨hs1, hl, (fun e => by cases e), fun _ => ⟨b, off, rfl, fun k a hk => ⟨?_⟩⟩⟩⟩
      obtain ⟨A, n, c, B, m, d, q1, q2, q3, q4, q5, q6⟩ := hs2 k a hk
      rw [Go.WideShapes.add_plain] at q1 q2 q3
      exact ⟨A, n, c, B, m, d, q1, q2, q3, q4, q5, q6⟩
    · obtain rfl : len = 0 := by omega
      exact ⟨some a, 0, cap, [], rfl, ⟨rfl, hl, (fun e => by cases e), fun h => absurd h (Nat.lt_irrefl 0)⟩⟩
/-- a name that came in -/
theorem open_name {tn t e tt et tb eb base' : Nat} {f0 f1 f2 : Field} {v : Value} {d : DataW H} {p : List MemPlace} (htn : P.underlying tn = some (.slice t)) (ctn : P.cellsOf t = 1) (ht : P.underlying t = some (.slice e)) (he : P.underlying e = some (.struct #[f0, f1, f2])) (ce : P.cellsOf e = 3)
    (o0 : f0.offset = 0) (o1 : f1.offset = 1) (o2 : f2.offset = 2) (c0 : P.cellsOf f0.type = 1) (c1 : P.cellsOf f1.type = 1) (c2 : P.cellsOf f2.type = 1)
    (h0 : f0.type = tt) (h0' : P.underlying tt = some (.slice et)) (h0'' : P.underlying et = some (.int .u32)) (h0c : P.cellsOf et = 1) (h1 : P.underlying f1.type = some (.int .u8)) (h2 : f2.type = tb) (h3 : P.underlying tb = some (.slice eb)) (h4 : P.underlying eb = some (.int .u8)) (h5 : P.cellsOf eb = 1)
    (hv : Value.okWide P w .any base' tn v) (h : DataW.Trod enc P w 0 (fun _ => true) held tn v d p) : ∃ A n c x, v = .slice A n c ∧ Nam w A n c x := by
  obtain ⟨a0, len, cap, rfl⟩ := okWide_slice htn hv
  obtain ⟨fuel, hf⟩ := h
  rcases Go.Deep.open_slice htn hf with ⟨hcs, _⟩ | ⟨a, len', cap', m, n, D, Pl, hcs, _, hl, hm, hmm, _, hx⟩
  · simp [Value.cells] at hcs
    obtain ⟨rfl, rfl, rfl⟩ := hcs
    exact ⟨none, 0, 0, [], rfl, Nam.nil _⟩
  · simp [Value.cells] at hcs
    obtain ⟨rfl, rfl, rfl⟩ := hcs
    simp only [if_true] at hmm
    obtain rfl : cap = m := hmm.symm
    have each : ∀ i, i < len → ∃ s : List Atr, ∃ B m d, w.cell? (a.add i) = some (.slice B m d) ∧ Stp w B m d s := fun i hi => by
      obtain ⟨cs', k1, k2⟩ := hx i (by omega)
      rw [ctn] at k1
      obtain ⟨_, hlen, hcell⟩ := World.cells?_some k1
      match cs', hlen with
      | [v0], _ =>
        obtain ⟨B, k, dd, s, rfl, hs⟩ := open_step_at ht he ce o0 o1 o2 c0 c1 c2 h0 h0' h0'' h0c h1 h2 h3 h4 h5 k2
        have e0 := hcell 0 (by omega)
        rw [Go.Deep.add_add] at e0
        exact ⟨s, B, k, dd, by simpa using e0, hs⟩
    by_cases hn : 0 < len
    · obtain ⟨b, off, spot⟩ := a
      have hspot : spot = none := by
        obtain ⟨_, _, _, _, k3, _⟩ := each 0 hn
        simpa [Addr.add] using World.cell?_spot k3
      subst hspot
      obtain ⟨x, hx1, hx2⟩ := list_from _ len each
      refine ⟨some ⟨b, off, none⟩, len, cap, x, rfl, ⟨hx1, hl, (fun e => by cases e), fun _ => ⟨b, off, rfl, fun k s hk => ?_⟩⟩⟩
      obtain ⟨B, m, d, q1, q2⟩ := hx2 k s hk
      rw [Go.WideShapes.add_plain] at q1
      exact ⟨B, m, d, q1, q2⟩
    · obtain rfl : len = 0 := by omega
      exact ⟨some a, 0, cap, [], rfl, ⟨rfl, hl, (fun e => by cases e), fun h => absurd h (Nat.lt_irrefl 0)⟩⟩
end
end Go.Proofs.YthookcnkmlmgcaaGreatDoor
namespace Go.Proofs.YthookcnkmlmgcaaGreatDoor
open Go Go.RowKit
set_option maxRecDepth 4000

theorem isNaN_any (z : Int) (w : World) : Calls Tryz.prog 105 #[.int .u32 z] w fun e w' => e = .returned (.bool false) ∧ w' = w := by
  go_enter Tryz.func105, Tryz.ntmps105
  go_wp2_with fail
  go_ret
  exact ⟨by simp, rfl⟩
/-- two numbers -/
def cmp1 (a b : Nat) : Int := if a < b then -1 else if b < a then 1 else 0
theorem cmpCompare_any (a b : Nat) (w : World) : Calls Tryz.prog 91 #[.int .u32 (a : Int), .int .u32 (b : Int)] w fun e w' => e = .returned (.int .i64 (cmp1 a b)) ∧ w' = w := by
  have HN := Kp.mk isNaN_any
  unfold cmp1
  by_cases h1 : a < b
  · rw [if_pos h1]
    have b1 : (a : Int) < (b : Int) := by omega
    go_enter Tryz.func91, Tryz.ntmps91
    go_wp2_with (first | (go_at_call 105; refine (HN.out _ _).mono ?_; rintro e w2 ⟨rfl, hw⟩; obtain rfl : w = w2 := hw.symm) | fail)
    go_ret
    exact ⟨rfl, rfl⟩
  · rw [if_neg h1]
    have b1 : ¬ (a : Int) < (b : Int) := by omega
    by_cases h2 : b < a
    · rw [if_pos h2]
      have b2 : (b : Int) < (a : Int) := by omega
      go_enter Tryz.func91, Tryz.ntmps91
      go_wp2_with (first | (go_at_call 105; refine (HN.out _ _).mono ?_; rintro e w2 ⟨rfl, hw⟩; obtain rfl : w = w2 := hw.symm) | fail)
      go_ret
      exact ⟨rfl, rfl⟩
    · rw [if_neg h2]
      have b2 : ¬ (b : Int) < (a : Int) := by omega
      go_enter Tryz.func91, Tryz.ntmps91
      go_wp2_with (first | (go_at_call 105; refine (HN.out _ _).mono ?_; rintro e w2 ⟨rfl, hw⟩; obtain rfl : w = w2 := hw.symm) | fail)
      go_ret
      exact ⟨rfl, rfl⟩
theorem cmpL_step (l k : List Nat) (j a b : Nat) (ha : l[j]? = some a) (hb : k[j]? = some b) : cmpL (l.drop j) (k.drop j) = if cmp1 a b ≠ 0 then cmp1 a b else cmpL (l.drop (j + 1)) (k.drop (j + 1)) := by
  obtain ⟨h1, e1⟩ := List.getElem?_eq_some_iff.1 ha
  obtain ⟨h2, e2⟩ := List.getElem?_eq_some_iff.1 hb
  rw [List.drop_eq_getElem_cons h1, List.drop_eq_getElem_cons h2, e1, e2]
  show (if a < b then (-1 : Int) else if b < a then 1 else cmpL (l.drop (j + 1)) (k.drop (j + 1))) = _
  unfold cmp1
  by_cases h3 : a < b
  · rw [if_pos h3, if_pos h3, if_pos (by decide)]
  · rw [if_neg h3, if_neg h3]
    by_cases h4 : b < a
    · rw [if_pos h4, if_pos h4, if_pos (by decide)]
    · rw [if_neg h4, if_neg h4, if_neg (by decide)]
set_option maxHeartbeats 4000000 in
theorem slCompare_any {A B : Option Addr} {n c m d : Nat} {l k : List Nat} {w : World} (h : Rd vL w A n c l) (h' : Rd vL w B m d k) (hn : n ≤ 140737488355328) :
    Calls Tryz.prog 77 #[.slice A n c, .slice B m d] w fun e w' => e = .returned (.int .i64 (cmpL l k)) ∧ w' = w := by
  have hl := h.len
  have hk := h'.len
  have H1 := Kp.mk h
  have H2 := Kp.mk h'
  have HL := Kp.mk hl
  have HK := Kp.mk hk
  clear h h' hl hk
  have HC := Kp.mk cmpCompare_any
  go_enter Tryz.func77, Tryz.ntmps77
  go_wp2_with fail
  go_loopw [11] (fun iv wr => ∃ j : Nat, j ≤ n ∧ j ≤ m ∧ iv = .int .i64 (j : Int) ∧ cmpL l k = cmpL (l.drop j) (k.drop j) ∧ wr = w) (fun iv _ => n - (intOf iv).toNat)
  case atStart => exact ⟨0, Nat.zero_le _, Nat.zero_le _, rfl, rfl, rfl⟩
  case round =>
    obtain ⟨j, hj, hjm, rfl, he, rfl⟩ := hrel
    have HE := Kp.mk he
    clear he
    by_cases hlt : j < n
    · have b1 : (j : Int) < (n : Int) := by omega
      by_cases hltm : j < m
      · have b2 : ¬ (m : Int) ≤ (j : Int) := by omega
        have b3 : (j : Int) < (m : Int) := by omega
        obtain ⟨g, o, rfl, hc⟩ := H1.out.at_ (by omega)
        obtain ⟨g', o', rfl, hc'⟩ := H2.out.at_ (by omega)
        obtain ⟨a, ha⟩ : ∃ a, l[j]? = some a := ⟨_, List.getElem?_eq_getElem (by have := HL.out; omega)⟩
        obtain ⟨b, hb⟩ : ∃ b, k[j]? = some b := ⟨_, List.getElem?_eq_getElem (by have := HK.out; omega)⟩
        have c1 := hc j a ha
        have c2 := hc' j b hb
        unfold vL at c1 c2
        have hs := cmpL_step l k j a b ha hb
        rw [← HE.out] at hs
        clear hc hc' ha hb HE
        by_cases hz : cmp1 a b = 0
        · rw [if_neg (by simpa using hz)] at hs
          have HS := Kp.mk hs
          have HC' := HC.out a b
          rw [hz] at HC'
          have HC2 := Kp.mk HC'
          clear hs HC' hz HC
          go_wp2_with (first | (go_at_call 91; refine (HC2.out _).mono ?_; rintro e w2 ⟨rfl, hw⟩; obtain rfl : wr = w2 := hw.symm) | fail)
          go_roundw
          case rel => exact ⟨j + 1, by omega, by omega, by go_num, HS.out, by first | rfl | trivial⟩
          case measure => simp [intOf]; omega
        · rw [if_pos hz] at hs
          have HS := Kp.mk hs
          have e1 : (cmp1 a b == 0) = false := beq_eq_false_iff_ne.2 hz
          have e2 : (cmp1 a b != 0) = true := by rw [bne, e1]; rfl
          have HC2 := Kp.mk (HC.out a b)
          clear hs hz HC
          generalize cmp1 a b = z at *
          go_wp2_with (first | (go_at_call 91; refine (HC2.out _).mono ?_; rintro e w2 ⟨rfl, hw⟩; obtain rfl : wr = w2 := hw.symm) | fail)
          go_ret
          exact ⟨by rw [HS.out]; rfl, rfl⟩
      · obtain rfl : j = m := by omega
        have b2 : (j : Int) ≤ (j : Int) := by omega
        obtain ⟨g, o, rfl, hc⟩ := H1.out.at_ (by omega)
        obtain ⟨a, ha⟩ : ∃ a, l[j]? = some a := ⟨_, List.getElem?_eq_getElem (by have := HL.out; omega)⟩
        have c1 := hc j a ha
        unfold vL at c1
        have HS : Kp (cmpL l k = 1) := ⟨by
          rw [HE.out, List.drop_eq_getElem_cons (l := l) (i := j) (by have := HL.out; omega), List.drop_of_length_le (l := k) (i := j) (by have := HK.out; omega)]
          rfl⟩
        clear hc ha HE
        go_wp2_with fail
        go_ret
        exact ⟨by rw [HS.out]; rfl, rfl⟩
    · obtain rfl : j = n := by omega
      have b1 : ¬ (j : Int) < (j : Int) := by omega
      have hd : l.drop j = [] := List.drop_of_length_le (by have := HL.out; omega)
      rw [hd] at HE
      by_cases hltm : j < m
      · have b2 : (j : Int) < (m : Int) := by omega
        have HS : Kp (cmpL l k = -1) := ⟨by
          rw [HE.out, List.drop_eq_getElem_cons (l := k) (i := j) (by have := HK.out; omega)]
          rfl⟩
        clear HE hd
        go_wp2_with fail
        go_ret
        exact ⟨by rw [HS.out]; rfl, rfl⟩
      · obtain rfl : j = m := by omega
        have HS : Kp (cmpL l k = 0) := ⟨by
          rw [HE.out, List.drop_of_length_le (by have := HK.out; omega)]
          rfl⟩
        clear HE hd
        go_wp2_with fail
        go_ret
        exact ⟨by rw [HS.out]; rfl, rfl⟩
/-- the first that is not 0 -/
def or2 (x y : Int) : Int := if x ≠ 0 then x else y
set_option maxHeartbeats 2000000 in
theorem cmpOr_any (x y : Int) (g : Nat) (w : World) (h0 : w.cell? ⟨g, 0, none⟩ = some (.int .i64 x)) (h1 : w.cell? ⟨g, 1, none⟩ = some (.int .i64 y)) :
    Calls Tryz.prog 76 #[.slice (some ⟨g, 0, none⟩) 2 2] w fun e w' => e = .returned (.int .i64 (or2 x y)) ∧ w' = w := by
  have H0 := Kp.mk h0
  have H1 := Kp.mk h1
  clear h0 h1
  go_enter Tryz.func76, Tryz.ntmps76
  go_wp2_with fail
  go_loopw [8] (fun iv wr => ∃ j : Nat, j ≤ 2 ∧ iv = .int .i64 (j : Int) ∧ (0 < j → x = 0) ∧ (1 < j → y = 0) ∧ wr = w) (fun iv _ => 2 - (intOf iv).toNat)
  case atStart => exact ⟨0, by omega, rfl, (fun h => absurd h (Nat.lt_irrefl 0)), (fun h => absurd h (by omega)), rfl⟩
  case round =>
    obtain ⟨j, hj, rfl, hx, hy, rfl⟩ := hrel
    by_cases h2 : j = 2
    · subst h2
      have HX := Kp.mk (hx (by omega))
      have HY := Kp.mk (hy (by omega))
      clear hx hy
      go_wp2_with fail
      go_ret
      have hv : or2 x y = 0 := by unfold or2; rw [if_neg (by rw [HX.out]; decide), HY.out]
      exact ⟨by rw [hv]; rfl, rfl⟩
    · by_cases h1 : j = 1
      · subst h1
        have HX := Kp.mk (hx (by omega))
        have c1 := H1.out
        clear hx hy h2
        by_cases hz : y = 0
        · subst hz
          go_wp2_with fail
          go_roundw
          case rel => exact ⟨2, by omega, by go_num, fun _ => HX.out, fun _ => by first | rfl | trivial, by first | rfl | trivial⟩
          case measure => simp [intOf]
        · have e1 : (y == 0) = false := beq_eq_false_iff_ne.2 hz
          have e2 : (y != 0) = true := by rw [bne, e1]; rfl
          clear hz
          go_wp2_with fail
          go_ret
          have hv : or2 x y = y := by unfold or2; rw [if_neg (by rw [HX.out]; decide)]
          exact ⟨by rw [hv]; rfl, rfl⟩
      · obtain rfl : j = 0 := by omega
        have c1 := H0.out
        clear hx hy h2 h1
        by_cases hz : x = 0
        · subst hz
          go_wp2_with fail
          go_roundw
          case rel => exact ⟨1, by omega, by go_num, fun _ => by first | rfl | trivial, fun h => absurd h (by omega), by first | rfl | trivial⟩
          case measure => simp [intOf]
        · have e1 : (x == 0) = false := beq_eq_false_iff_ne.2 hz
          have e2 : (x != 0) = true := by rw [bne, e1]; rfl
          have HZ := Kp.mk hz
          clear hz
          go_wp2_with fail
          go_ret
          have hv : or2 x y = x := by unfold or2; rw [if_pos HZ.out]
          exact ⟨by rw [hv]; rfl, rfl⟩
end Go.Proofs.YthookcnkmlmgcaaGreatDoor
namespace Go.Proofs.YthookcnkmlmgcaaGreatDoor
open Go Go.RowKit Go.Sort
set_option maxRecDepth 4000

theorem cmpB_eq : ∀ x y : List (BitVec 8), Lib.compareBytes (x.map UInt8.ofBitVec) (y.map UInt8.ofBitVec) = cmpB x y
  | [], [] => rfl
  | [], _ :: _ => rfl
  | _ :: _, [] => rfl
  | a :: x, b :: y => by
    have ih := cmpB_eq x y
    show (if UInt8.ofBitVec a < UInt8.ofBitVec b then (-1 : Int) else if UInt8.ofBitVec b < UInt8.ofBitVec a then 1 else Lib.compareBytes (x.map UInt8.ofBitVec) (y.map UInt8.ofBitVec)) = (if a.toNat < b.toNat then (-1 : Int) else if b.toNat < a.toNat then 1 else cmpB x y)
    rw [ih]
    rfl
theorem run_bytesOf9 {l : List (BitVec 8)} {A : Option Addr} {n c : Nat} {w : World} (h : Bs w A n c l) : (Extern.Bytes.bytesOf (.slice A n c)).run Tryz.prog w = .ok ⟨(l.map UInt8.ofBitVec).toArray⟩ w := by
  have hlen := h.len
  cases A with
  | none =>
    obtain ⟨rfl, _⟩ := h.s.2.2.1 rfl
    obtain rfl : l = [] := List.eq_nil_of_length_eq_zero hlen
    rfl
  | some a =>
    have e : Lib.bytesOf (l.map ub) = l.map UInt8.ofBitVec := by
      unfold Lib.bytesOf
      rw [List.map_map]
      refine List.map_congr_left fun x _ => ?_
      apply UInt8.eq_of_toBitVec_eq
      simp [ub]
    have hl := Lib.run_loadBytesX (P := Tryz.prog) w (l.map ub) a .empty (fun j x hj => by
      have hjl : j < l.length := by have := (List.getElem?_eq_some_iff.1 hj).1; rwa [List.length_map] at this
      obtain ⟨g, o, ea, hc⟩ := h.s.2.2.2 (by omega)
      cases ea
      have e2 : (⟨g, o, none⟩ : Addr).add j = ⟨g, o + j, none⟩ := by unfold Addr.add; split <;> simp_all
      rw [e2, hc j (by omega)]
      rw [List.getElem?_map, List.getElem?_eq_getElem hjl] at hj
      cases hj
      simp [gb, hjl])
    rw [List.length_map, hlen, e] at hl
    have he : (⟨ByteArray.empty.data ++ (l.map UInt8.ofBitVec).toArray⟩ : ByteArray) = ⟨(l.map UInt8.ofBitVec).toArray⟩ := by
      apply ByteArray.ext
      show (#[] : Array UInt8) ++ _ = _
      simp
    rw [he] at hl
    exact hl
theorem bytesCompare_any {l1 l2 : List (BitVec 8)} {A B : Option Addr} {n c m d : Nat} {w : World} (h1 : Bs w A n c l1) (h2 : Bs w B m d l2) :
    Calls Tryz.prog 56 #[.slice A n c, .slice B m d] w fun e w' => e = .returned (.int .i64 (cmpB l1 l2)) ∧ w' = w := by
  have hcall : (callFunc 72 #[.slice A n c, .slice B m d]).run Tryz.prog w = .ok (.value (.int .i64 (cmpB l1 l2))) w := by
    rw [run_callFunc_extern Tryz.func72 (by kernel_rfl) (by kernel_rfl) (by kernel_rfl) (e := Extern.BytealgCompare.compare) (by kernel_rfl)]
    have hrun : (Extern.BytealgCompare.compare #[.slice A n c, .slice B m d]).run Tryz.prog w = .ok (.int .i64 (cmpB l1 l2)) w := by
      change Sem.run Tryz.prog (do pure (goInt (Extern.BytealgCompare.cmp (← Extern.Bytes.bytesOf (.slice A n c)) (← Extern.Bytes.bytesOf (.slice B m d))))) w = _
      simp only [Sem.run_bind, run_bytesOf9 h1, run_bytesOf9 h2, Sem.run_pure, Result.andThen]
      rw [Lib.cmp_eq, ← cmpB_eq]
      rfl
    rw [hrun]
    rfl
  clear h1 h2
  go_enter Tryz.func56, Tryz.ntmps56
  go_wp2
  go_ret
  exact ⟨rfl, rfl⟩
/-- what attributes that are alike have in common, in two cells -/
abbrev SV := (Option Addr × Nat × Nat) × (Option Addr × Nat × Nat)
def kdV (v : SV) : Value := .slice v.1.1 v.1.2.1 v.1.2.2
def txV (v : SV) : Value := .slice v.2.1 v.2.2.1 v.2.2.2
structure SnR (w : World) (v : SV) (s : Sns) : Prop where
  kd : Rd vL w v.1.1 v.1.2.1 v.1.2.2 s.1
  hk : v.1.2.1 ≤ 1000000
  tx : Bs w v.2.1 v.2.2.1 v.2.2.2 s.2
theorem SnR.ext {w w' : World} {v : SV} {s : Sns} (h : SnR w v s) (hx : Ext w w') : SnR w' v s := ⟨h.kd.ext hx, h.hk, h.tx.ext hx⟩
theorem grow_three (w : World) (a b c : Obj) : (((w.alloc a).alloc b).drew).alloc c = grow (w.drewN 1) #[a, b, c] := by
  rw [alloc_eq_grow w a, alloc_eq_grow (grow w #[a]) b, grow_grow]
  show (grow (w.drewN 1) (#[a] ++ #[b])).alloc c = _
  rw [alloc_eq_grow, grow_grow]
  rfl
theorem ext_grow (w : World) (q : Nat) (os : Array Obj) : Ext w (grow (w.drewN q) os) := by
  refine ⟨⟨rfl, rfl, rfl, by simp [grow, World.drewN], fun k hk => ?_⟩⟩
  show (w.heap ++ os)[k]? = w.heap[k]?
  rw [Array.getElem?_append_left hk]
theorem ext_of_grow {w w' : World} {q : Nat} {os : Array Obj} (h : w' = grow (w.drewN q) os) : Ext w w' := h ▸ ext_grow w q os
set_option maxHeartbeats 4000000 in
theorem compareSenses_any {w : World} {x y : SV} {s t : Sns} (hx : SnR w x s) (hy : SnR w y t) :
    Calls Tryz.prog 60 #[.agg #[kdV x, txV x], .agg #[kdV y, txV y]] w fun e w' => e = .returned (.int .i64 (cmpS s t)) ∧ ∃ q os, w' = grow (w.drewN q) os := by
  obtain ⟨⟨A1, n1, c1⟩, A2, n2, c2⟩ := x
  obtain ⟨⟨B1, m1, d1⟩, B2, m2, d2⟩ := y
  obtain ⟨s1, s2⟩ := s
  obtain ⟨t1, t2⟩ := t
  obtain ⟨hx1, hxk, hx2⟩ := hx
  obtain ⟨hy1, hyk, hy2⟩ := hy
  have hz : or2 (cmpL s1 t1) (cmpB s2 t2) = cmpS (s1, s2) (t1, t2) := rfl
  unfold kdV txV
  simp only at *
  obtain ⟨W, hW⟩ : ∃ W, (w.alloc (.cells #[.slice A1 n1 c1, .slice A2 n2 c2] 93)).alloc (.cells #[.slice B1 m1 d1, .slice B2 m2 d2] 93) = W := ⟨_, rfl⟩
  have k1 : ∀ w', Ext W w' → w'.cell? ⟨w.heap.size, 0, none⟩ = some (.slice A1 n1 c1) := fun w' hx => cell_fwd (by rw [← hW]; simp) hx
  have k2 : ∀ w', Ext W w' → w'.cell? ⟨w.heap.size, 1, none⟩ = some (.slice A2 n2 c2) := fun w' hx => cell_fwd (by rw [← hW]; simp) hx
  have k3 : ∀ w', Ext W w' → w'.cell? ⟨w.heap.size + 1, 0, none⟩ = some (.slice B1 m1 d1) := fun w' hx => cell_fwd (by rw [← hW]; simp) hx
  have k4 : ∀ w', Ext W w' → w'.cell? ⟨w.heap.size + 1, 1, none⟩ = some (.slice B2 m2 d2) := fun w' hx => cell_fwd (by rw [← hW]; simp) hx
  have hwx : Ext w W := by rw [← hW]; exact (by (repeat (first | assumption | exact Ext.refl _ | apply Ext.drew | apply Ext.drewN | apply Ext.alloc | refine Ext.trans ?_ (by assumption))); first | done | fail)
  have HX1 := Kp.mk (hx1.ext hwx)
  have HX2 := Kp.mk (hx2.ext hwx)
  have HY1 := Kp.mk (hy1.ext hwx)
  have HY2 := Kp.mk (hy2.ext hwx)
  have HW := Kp.mk hW
  have HZ := Kp.mk hz
  clear hx1 hx2 hy1 hy2 hwx hW hz
  go_enter Tryz.func60, Tryz.ntmps60
  go_wp2_with fail
  rw [HW.out]
  refine wp_region_held_drew (S := fun w' => Ext W w') (by kernel_rfl) (Ext.refl W).drew (fun hHeld => ?_)
  refine wpAnyH_take (i := 0) (oi := ⟨some 5, _, _, _, _, _⟩) (v := ?_) rfl (by kernel_rfl) (by kernel_rfl) (by kernel_rfl) (fun _ _ _ h => h) (Or.inl ⟨by rfl, ?_⟩) (by assumption) ?_
  rotate_left
  · (intro w hSw; (try dsimp only at hSw); go_simp; try with_reducible rfl)
  try simp only [Act.put, List.setIfInBounds_toArray, List.set_cons_zero, List.set_cons_succ]
  refine wpAnyH_take (i := 1) (oi := ⟨some 6, _, _, _, _, _⟩) (v := ?_) rfl (by kernel_rfl) (by kernel_rfl) (by kernel_rfl) (fun _ _ _ h => h) (Or.inl ⟨by rfl, ?_⟩) (by assumption) ?_
  rotate_left
  · (intro w hSw; (try dsimp only at hSw); go_simp; try with_reducible rfl)
  try simp only [Act.put, List.setIfInBounds_toArray, List.set_cons_zero, List.set_cons_succ]
  refine wpAnyH_take (i := 2) (oi := ⟨some 7, _, _, _, _, _⟩) (v := ?_) rfl (by kernel_rfl) (by kernel_rfl) (by kernel_rfl) (fun _ _ _ h => h) (Or.inl ⟨by rfl, ?_⟩) (by assumption) ?_
  rotate_left
  · (intro w hSw; (try dsimp only at hSw); go_simp; try with_reducible rfl)
  try simp only [Act.put, List.setIfInBounds_toArray, List.set_cons_zero, List.set_cons_succ]
  refine wpAnyH_take (i := 3) (oi := ⟨some 8, _, _, _, _, _⟩) (v := ?_) rfl (by kernel_rfl) (by kernel_rfl) (by kernel_rfl) (fun _ _ _ h => h) (Or.inl ⟨by rfl, ?_⟩) (by assumption) ?_
  rotate_left
  · (intro w hSw; (try dsimp only at hSw); go_simp; try with_reducible rfl)
  try simp only [Act.put, List.setIfInBounds_toArray, List.set_cons_zero, List.set_cons_succ]
  refine wpAnyH_take (i := 5) (oi := ⟨some 10, _, _, _, _, _⟩) (v := ?_) rfl (by kernel_rfl) (by kernel_rfl) (by kernel_rfl) (fun _ _ _ h => h) (Or.inl ⟨by rfl, ?_⟩) (by assumption) ?_
  rotate_left
  · (intro w hSw; (try dsimp only at hSw); go_simp; try with_reducible rfl)
  try simp only [Act.put, List.setIfInBounds_toArray, List.set_cons_zero, List.set_cons_succ]
  refine wpAnyH_take (i := 6) (oi := ⟨some 11, _, _, _, _, _⟩) (v := ?_) rfl (by kernel_rfl) (by kernel_rfl) (by kernel_rfl) (fun _ _ _ h => h) (Or.inl ⟨by rfl, ?_⟩) (by assumption) ?_
  rotate_left
  · (intro w hSw; (try dsimp only at hSw); go_simp; try with_reducible rfl)
  try simp only [Act.put, List.setIfInBounds_toArray, List.set_cons_zero, List.set_cons_succ]
  refine wpAnyH_take (i := 7) (oi := ⟨some 12, _, _, _, _, _⟩) (v := ?_) rfl (by kernel_rfl) (by kernel_rfl) (by kernel_rfl) (fun _ _ _ h => h) (Or.inl ⟨by rfl, ?_⟩) (by assumption) ?_
  rotate_left
  · (intro w hSw; (try dsimp only at hSw); go_simp; try with_reducible rfl)
  try simp only [Act.put, List.setIfInBounds_toArray, List.set_cons_zero, List.set_cons_succ]
  refine wpAnyH_take (i := 8) (oi := ⟨some 13, _, _, _, _, _⟩) (v := ?_) rfl (by kernel_rfl) (by kernel_rfl) (by kernel_rfl) (fun _ _ _ h => h) (Or.inl ⟨by rfl, ?_⟩) (by assumption) ?_
  rotate_left
  · (intro w hSw; (try dsimp only at hSw); go_simp; try with_reducible rfl)
  try simp only [Act.put, List.setIfInBounds_toArray, List.set_cons_zero, List.set_cons_succ]
  refine next_one 4 (by kernel_rfl) rfl (by rfl) fun K' HK' => ?_
  go_simp
  refine (slCompare_any (HX1.out.ext (by (repeat (first | assumption | exact Ext.refl _ | apply Ext.drew | apply Ext.drewN | apply Ext.alloc | refine Ext.trans ?_ (by assumption))); first | done | fail)) (HY1.out.ext (by (repeat (first | assumption | exact Ext.refl _ | apply Ext.drew | apply Ext.drewN | apply Ext.alloc | refine Ext.trans ?_ (by assumption))); first | done | fail)) (by omega)).mono ?_
  rintro e w3 ⟨rfl, hw⟩
  subst hw
  refine held_go HK' (by (repeat (first | assumption | exact Ext.refl _ | apply Ext.drew | apply Ext.drewN | apply Ext.alloc | refine Ext.trans ?_ (by assumption))); first | done | fail) (fun hHeld => ?_)
  clear HK'
  try simp only [Act.put, List.setIfInBounds_toArray, List.set_cons_zero, List.set_cons_succ]
  refine next_one 9 (by kernel_rfl) rfl (by rfl) fun K' HK' => ?_
  go_simp
  refine (bytesCompare_any (HX2.out.ext (by (repeat (first | assumption | exact Ext.refl _ | apply Ext.drew | apply Ext.drewN | apply Ext.alloc | refine Ext.trans ?_ (by assumption))); first | done | fail)) (HY2.out.ext (by (repeat (first | assumption | exact Ext.refl _ | apply Ext.drew | apply Ext.drewN | apply Ext.alloc | refine Ext.trans ?_ (by assumption))); first | done | fail))).mono ?_
  rintro e w3 ⟨rfl, hw⟩
  subst hw
  refine held_go HK' (by (repeat (first | assumption | exact Ext.refl _ | apply Ext.drew | apply Ext.drewN | apply Ext.alloc | refine Ext.trans ?_ (by assumption))); first | done | fail) (fun hHeld => ?_)
  clear HK'
  try simp only [Act.put, List.setIfInBounds_toArray, List.set_cons_zero, List.set_cons_succ]
  refine next_one 10 (by kernel_rfl) rfl (by rfl) fun K' HK' => ?_
  go_simp
  refine held_go HK' (by (repeat (first | assumption | exact Ext.refl _ | apply Ext.drew | apply Ext.drewN | apply Ext.alloc | refine Ext.trans ?_ (by assumption))); first | done | fail) (fun hHeld => ?_)
  clear HK'
  try simp only [Act.put, List.setIfInBounds_toArray, List.set_cons_zero, List.set_cons_succ]
  refine next_one 11 (by kernel_rfl) rfl (by rfl) fun K' HK' => ?_
  go_simp
  refine (cmpOr_any (cmpL s1 t1) (cmpB s2 t2) W.heap.size _ (by simp) (by simp)).mono ?_
  rintro e w3 ⟨rfl, hw⟩
  rw [HZ.out]
  subst hw
  refine held_go HK' (by (repeat (first | assumption | exact Ext.refl _ | apply Ext.drew | apply Ext.drewN | apply Ext.alloc | refine Ext.trans ?_ (by assumption))); first | done | fail) (fun hHeld => ?_)
  clear HK'
  try simp only [Act.put, List.setIfInBounds_toArray, List.set_cons_zero, List.set_cons_succ]
  refine wpAnyH_take (i := 12) (oi := ⟨some 4, _, _, _, _, _⟩) (v := ?_) rfl (by kernel_rfl) (by kernel_rfl) (by kernel_rfl) (fun _ _ _ h => h) (Or.inl ⟨by rfl, ?_⟩) (by assumption) ?_
  rotate_left
  · (intro w hSw; (try dsimp only at hSw); go_simp; try with_reducible rfl)
  try simp only [Act.put, List.setIfInBounds_toArray, List.set_cons_zero, List.set_cons_succ]
  refine wpAnyH_done (by kernel_rfl) ?_ _
  go_wp2_with fail
  go_ret
  refine ⟨rfl, ?_⟩
  rw [← HW.out]
  exact ⟨1, _, grow_three _ _ _ _⟩
theorem sn_eq (s t : Sns) : (cmpS s t == 0) = decide (s = t) := by
  rw [Bool.eq_iff_iff, beq_iff_eq, decide_eq_true_eq, cmpS_is.zero]
set_option maxHeartbeats 2000000 in
theorem sameSense_any {w : World} {x y : SV} {s t : Sns} (hx : SnR w x s) (hy : SnR w y t) :
    Calls Tryz.prog 48 #[.agg #[kdV x, txV x], .agg #[kdV y, txV y]] w fun e w' => e = .returned (.bool (decide (s = t))) ∧ Ext w w' := by
  have HC := Kp.mk (fun (W : World) (h : Ext w W) => compareSenses_any (hx.ext h) (hy.ext h))
  have he := sn_eq s t
  have e1 : (kdV x).oneCell' = true := rfl
  have e2 : (txV x).oneCell' = true := rfl
  unfold kdV txV at *
  generalize decide (s = t) = b at *
  generalize cmpS s t = z at *
  clear hx hy
  go_enter Tryz.func48, Tryz.ntmps48
  go_wp2_with fail
  refine (HC.out _ (by (repeat (first | assumption | exact Ext.refl _ | apply Ext.drew | apply Ext.drewN | apply Ext.alloc | refine Ext.trans ?_ (by assumption))); first | done | fail)).mono ?_
  rintro e w2 ⟨rfl, q, os, hw⟩
  have hx2 := ext_of_grow hw
  clear hw
  go_wp2_with fail
  go_ret
  exact ⟨rfl, (by (repeat (first | assumption | exact Ext.refl _ | apply Ext.drew | apply Ext.drewN | apply Ext.alloc | refine Ext.trans ?_ (by assumption))); first | done | fail)⟩
end Go.Proofs.YthookcnkmlmgcaaGreatDoor
namespace Go.Proofs.YthookcnkmlmgcaaGreatDoor
open Go Go.RowKit
set_option maxRecDepth 4000

theorem and31b (x : BitVec 8) : bits .and .u8 (ub x) 31 = ((x.toNat % 32 : Nat) : Int) := by
  revert x
  refine all8 ?_
  decide +kernel
theorem and32b (x : BitVec 8) : bits .and .u8 (ub x) 32 = ((32 * (x.toNat / 32 % 2) : Nat) : Int) := by
  revert x
  refine all8 ?_
  decide +kernel
set_option maxHeartbeats 1000000 in
theorem isMark_any (m : BitVec 8) (b : Bool) (hb : mkB m = b) (w : World) : Calls Tryz.prog 50 #[.int .u8 (ub m)] w fun e w' => e = .returned (.bool b) ∧ w' = w := by
  have h1 := and31b m
  subst hb
  unfold mkB
  obtain ⟨n, hn⟩ : ∃ n, m.toNat % 32 = n := ⟨_, rfl⟩
  rw [hn] at h1 ⊢
  have h2 : (n != 31) = !((n : Int) == 31) := by
    rw [Bool.eq_iff_iff]; simp; omega
  rw [h2]
  clear h2 hn
  go_enter Tryz.func50, Tryz.ntmps50
  go_wp2
  go_ret
  exact ⟨rfl, rfl⟩
set_option maxHeartbeats 1000000 in
theorem refMark_any (m : BitVec 8) (b : Bool) (hb : mkB m = b) (w : World) : Calls Tryz.prog 42 #[.int .u8 (ub m)] w fun e w' => e = .returned (.bool b) ∧ w' = w := by
  have h1 : (ub m).tmod 32 = ((m.toNat % 32 : Nat) : Int) := by unfold ub; rw [Int.tmod_eq_emod_of_nonneg (by omega)]; omega
  have h0 : IntKind.u8.wrap ((m.toNat % 32 : Nat) : Int) = ((m.toNat % 32 : Nat) : Int) := by rw [IntKind.wrap_u8]; omega
  subst hb
  unfold mkB
  obtain ⟨n, hn⟩ : ∃ n, m.toNat % 32 = n := ⟨_, rfl⟩
  rw [hn] at h1 h0 ⊢
  have h2 : (n != 31) = !((n : Int) == 31) := by
    rw [Bool.eq_iff_iff]; simp; omega
  rw [h2]
  clear h2 hn
  go_enter Tryz.func42, Tryz.ntmps42
  go_wp2
  go_ret
  exact ⟨rfl, rfl⟩
theorem wh_cases (m : BitVec 8) : (whB m = true ∧ ((32 * (m.toNat / 32 % 2) : Nat) : Int) = 32) ∨ (whB m = false ∧ ((32 * (m.toNat / 32 % 2) : Nat) : Int) = 0) := by
  unfold whB
  rcases (by omega : m.toNat / 32 % 2 = 1 ∨ m.toNat / 32 % 2 = 0) with h | h
  · left; rw [h]; exact ⟨rfl, rfl⟩
  · right; rw [h]; exact ⟨rfl, rfl⟩
set_option maxHeartbeats 1000000 in
theorem isPart_any (m : BitVec 8) (b : Bool) (hb : isP m = b) (w : World) : Calls Tryz.prog 51 #[.int .u8 (ub m)] w fun e w' => e = .returned (.bool b) ∧ w' = w := by
  have h1 := and32b m
  unfold isP at hb
  cases hk : mkB m with
  | false =>
    rw [hk] at hb
    obtain rfl : false = b := hb
    go_enter Tryz.func51, Tryz.ntmps51
    go_wp2_with (go_at_call 50; refine (isMark_any m false hk _).mono ?_; rintro e w1 ⟨rfl, rfl⟩)
    go_ret
    exact ⟨rfl, rfl⟩
  | true =>
    rw [hk, Bool.true_and] at hb
    rcases wh_cases m with ⟨h2, h3⟩ | ⟨h2, h3⟩
    · rw [h2] at hb
      obtain rfl : false = b := hb
      rw [h3] at h1
      clear h2 h3
      go_enter Tryz.func51, Tryz.ntmps51
      go_wp2_with (go_at_call 50; refine (isMark_any m true hk _).mono ?_; rintro e w1 ⟨rfl, rfl⟩)
      go_ret
      exact ⟨rfl, rfl⟩
    · rw [h2] at hb
      obtain rfl : true = b := hb
      rw [h3] at h1
      clear h2 h3
      go_enter Tryz.func51, Tryz.ntmps51
      go_wp2_with (go_at_call 50; refine (isMark_any m true hk _).mono ?_; rintro e w1 ⟨rfl, rfl⟩)
      go_ret
      exact ⟨rfl, rfl⟩
set_option maxHeartbeats 1000000 in
theorem isWhole_any (m : BitVec 8) (b : Bool) (hb : isW m = b) (w : World) : Calls Tryz.prog 37 #[.int .u8 (ub m)] w fun e w' => e = .returned (.bool b) ∧ w' = w := by
  have h1 := and32b m
  unfold isW at hb
  cases hk : mkB m with
  | false =>
    rw [hk] at hb
    obtain rfl : false = b := hb
    go_enter Tryz.func37, Tryz.ntmps37
    go_wp2_with (go_at_call 50; refine (isMark_any m false hk _).mono ?_; rintro e w1 ⟨rfl, rfl⟩)
    go_ret
    exact ⟨rfl, rfl⟩
  | true =>
    rw [hk, Bool.true_and] at hb
    rcases wh_cases m with ⟨h2, h3⟩ | ⟨h2, h3⟩
    · rw [h2] at hb
      obtain rfl : true = b := hb
      rw [h3] at h1
      clear h2 h3
      go_enter Tryz.func37, Tryz.ntmps37
      go_wp2_with (go_at_call 50; refine (isMark_any m true hk _).mono ?_; rintro e w1 ⟨rfl, rfl⟩)
      go_ret
      exact ⟨rfl, rfl⟩
    · rw [h2] at hb
      obtain rfl : false = b := hb
      rw [h3] at h1
      clear h2 h3
      go_enter Tryz.func37, Tryz.ntmps37
      go_wp2_with (go_at_call 50; refine (isMark_any m true hk _).mono ?_; rintro e w1 ⟨rfl, rfl⟩)
      go_ret
      exact ⟨rfl, rfl⟩
/-- the new row of a literal -/
theorem lit_fresh (w : World) (l : List (BitVec 8)) (n : Nat) (hn : l.length = n) (hm : n ≤ 140737488355328) (cs : Array Value) (hcs : cs = bv l) : ∃ A c, (Value.slice (some ⟨w.heap.size, 0, none⟩) n n = .slice A n c) ∧ Bs (w.alloc (.cells cs 5)) A n c l ∧ Own (w.alloc (.cells cs 5)) w.heap.size (.slice A n c) n l ∧ Ext w (w.alloc (.cells cs 5)) := by
  subst hcs
  have ho := Own.new w w.heap.size n l hn (Nat.le_refl _) (by unfold maxLen; omega)
  exact ⟨_, _, rfl, ho.bs, ho, (by (repeat (first | assumption | exact Ext.refl _ | apply Ext.drew | apply Ext.drewN | apply Ext.alloc | refine Ext.trans ?_ (by assumption))); first | done | fail)⟩
theorem byte_id (n : Nat) (h : n < 256) : ub (BitVec.ofNat 8 n) = (n : Int) := by unfold ub; rw [BitVec.toNat_ofNat]; omega
theorem byte_lo (n : Nat) : (n : Int) % 256 = ub (BitVec.ofNat 8 (n % 256)) := by unfold ub; rw [BitVec.toNat_ofNat]; omega
/-- an error and no bytes -/
def ErrB (w : World) (c : Int) (e : Ending) (w' : World) : Prop := e = .returned (.tuple #[.slice none 0 0, err c]) ∧ Ext w w'
set_option maxHeartbeats 1000000 in
theorem Head_arg (m : BitVec 8) (n : Int) (h : mkB m = false ∨ n < 0) (w : World) : Calls Tryz.prog 57 #[.int .u8 (ub m), .int .i64 n] w (ErrB w 1) := by
  cases hk : mkB m with
  | false =>
    clear h
    go_enter Tryz.func57, Tryz.ntmps57
    go_wp2_with (go_at_call 50; refine (isMark_any m false hk _).mono ?_; rintro e w1 ⟨rfl, rfl⟩)
    go_ret2
    exact ⟨rfl, (by (repeat (first | assumption | exact Ext.refl _ | apply Ext.drew | apply Ext.drewN | apply Ext.alloc | refine Ext.trans ?_ (by assumption))); first | done | fail)⟩
  | true =>
    rw [hk] at h
    have h1 : n < 0 := h.resolve_left (by decide)
    clear h
    go_enter Tryz.func57, Tryz.ntmps57
    go_wp2_with (go_at_call 50; refine (isMark_any m true hk _).mono ?_; rintro e w1 ⟨rfl, rfl⟩)
    go_ret2
    exact ⟨rfl, (by (repeat (first | assumption | exact Ext.refl _ | apply Ext.drew | apply Ext.drewN | apply Ext.alloc | refine Ext.trans ?_ (by assumption))); first | done | fail)⟩
set_option maxHeartbeats 1000000 in
theorem Head_long (m : BitVec 8) (n : Int) (h : (65535 : Int) < n) (hk : mkB m = true) (w : World) : Calls Tryz.prog 57 #[.int .u8 (ub m), .int .i64 n] w (ErrB w 4) := by
  have h2 : decide (n < 0) = false := decide_eq_false (by omega)
  have h3 : (65535 : Int) < n := h
  clear h
  go_enter Tryz.func57, Tryz.ntmps57
  go_wp2_with (go_at_call 50; refine (isMark_any m true hk _).mono ?_; rintro e w1 ⟨rfl, rfl⟩)
  go_ret2
  exact ⟨rfl, (by (repeat (first | assumption | exact Ext.refl _ | apply Ext.drew | apply Ext.drewN | apply Ext.alloc | refine Ext.trans ?_ (by assumption))); first | done | fail)⟩
set_option maxHeartbeats 2000000 in
theorem Head_ok (m : BitVec 8) (n : Nat) (h : n ≤ 65535) (hk : mkB m = true) (w : World) : Calls Tryz.prog 57 #[.int .u8 (ub m), .int .i64 (n : Int)] w (FreshE w (hdn n) (hdr m n)) := by
  have h1 : decide ((n : Int) < 0) = false := decide_eq_false (by omega)
  have h2 : decide ((65535 : Int) < (n : Int)) = false := decide_eq_false (by omega)
  have h2' : ¬ (65535 : Int) < (n : Int) := by omega
  unfold hdr hdn
  by_cases h3 : n < 128
  · rw [if_pos h3, if_pos h3]
    have h4 : (n : Int) < 128 := by omega
    have L := Kp.mk (lit_fresh w [m, BitVec.ofNat 8 n] 2 rfl (by decide) #[.int .u8 (ub m), .int .u8 (n : Int)] (by rw [← byte_id n (by omega)]; rfl))
    clear h3 h
    go_enter Tryz.func57, Tryz.ntmps57
    go_wp2_with (go_at_call 50; refine (isMark_any m true hk _).mono ?_; rintro e w1 ⟨rfl, rfl⟩)
    go_ret2
    obtain ⟨A, c, e1, e2, e3, e4⟩ := L.out
    cases e1
    exact ⟨_, _, rfl, e2, e3, e4⟩
  · rw [if_neg h3, if_neg h3]
    have h4 : decide ((n : Int) < 128) = false := decide_eq_false (by omega)
    by_cases h6 : n < 256
    · rw [if_pos h6, if_pos h6]
      have h7 : (n : Int) < 256 := by omega
      have L := Kp.mk (lit_fresh w [m, 129, BitVec.ofNat 8 n] 3 rfl (by decide) #[.int .u8 (ub m), .int .u8 129, .int .u8 (n : Int)] (by rw [← byte_id n h6]; rfl))
      clear h3 h h6
      go_enter Tryz.func57, Tryz.ntmps57
      go_wp2_with (go_at_call 50; refine (isMark_any m true hk _).mono ?_; rintro e w1 ⟨rfl, rfl⟩)
      go_ret2
      obtain ⟨A, c, e1, e2, e3, e4⟩ := L.out
      cases e1
      exact ⟨_, _, rfl, e2, e3, e4⟩
    · rw [if_neg h6, if_neg h6]
      have h7 : decide ((n : Int) < 256) = false := decide_eq_false (by omega)
      have h5 := byte_lo n
      have L := Kp.mk (lit_fresh w [m, 130, BitVec.ofNat 8 (n / 256), BitVec.ofNat 8 (n % 256)] 4 rfl (by decide) #[.int .u8 (ub m), .int .u8 130, .int .u8 ((n : Int) / 256), .int .u8 (ub (BitVec.ofNat 8 (n % 256)))] (by rw [show (n : Int) / 256 = ub (BitVec.ofNat 8 (n / 256)) by rw [byte_id (n / 256) (by omega)]; omega]; rfl))
      clear h3 h h6
      go_enter Tryz.func57, Tryz.ntmps57
      go_wp2_with (go_at_call 50; refine (isMark_any m true hk _).mono ?_; rintro e w1 ⟨rfl, rfl⟩)
      go_ret2
      obtain ⟨A, c, e1, e2, e3, e4⟩ := L.out
      cases e1
      exact ⟨_, _, rfl, e2, e3, e4⟩
set_option maxHeartbeats 2000000 in
theorem refHead_ok (m : BitVec 8) (n : Nat) (h : n ≤ 65535) (w : World) : Calls Tryz.prog 43 #[.int .u8 (ub m), .int .i64 (n : Int)] w (Fresh w (hdn n) (hdr m n)) := by
  unfold hdr hdn
  by_cases h3 : n < 128
  · rw [if_pos h3, if_pos h3]
    have h4 : (n : Int) < 128 := by omega
    have L := Kp.mk (lit_fresh w [m, BitVec.ofNat 8 n] 2 rfl (by decide) #[.int .u8 (ub m), .int .u8 (n : Int)] (by rw [← byte_id n (by omega)]; rfl))
    clear h3 h
    go_enter Tryz.func43, Tryz.ntmps43
    go_wp2_with fail
    go_ret
    obtain ⟨A, c, e1, e2, e3, e4⟩ := L.out
    cases e1
    exact ⟨_, _, rfl, e2, e3, e4⟩
  · rw [if_neg h3, if_neg h3]
    have h4 : decide ((n : Int) < 128) = false := decide_eq_false (by omega)
    by_cases h6 : n < 256
    · rw [if_pos h6, if_pos h6]
      have h7 : (n : Int) < 256 := by omega
      have L := Kp.mk (lit_fresh w [m, 129, BitVec.ofNat 8 n] 3 rfl (by decide) #[.int .u8 (ub m), .int .u8 129, .int .u8 (n : Int)] (by rw [← byte_id n h6]; rfl))
      clear h3 h h6
      go_enter Tryz.func43, Tryz.ntmps43
      go_wp2_with fail
      go_ret
      obtain ⟨A, c, e1, e2, e3, e4⟩ := L.out
      cases e1
      exact ⟨_, _, rfl, e2, e3, e4⟩
    · rw [if_neg h6, if_neg h6]
      have h7 : decide ((n : Int) < 256) = false := decide_eq_false (by omega)
      have d1 : (n : Int).tdiv 256 = ((n / 256 : Nat) : Int) := by rw [Int.tdiv_eq_ediv_of_nonneg (by omega)]; omega
      have d2 : (n : Int).tmod 256 = ((n % 256 : Nat) : Int) := by rw [Int.tmod_eq_emod_of_nonneg (by omega)]; omega
      have d3 : IntKind.i64.wrap ((n / 256 : Nat) : Int) = ((n / 256 : Nat) : Int) := by rw [IntKind.wrap_i64]; omega
      have d4 : IntKind.i64.wrap ((n % 256 : Nat) : Int) = ((n % 256 : Nat) : Int) := by rw [IntKind.wrap_i64]; omega
      have hp : n / 256 < 256 := by omega
      have hq : n % 256 < 256 := by omega
      generalize n / 256 = p at *
      generalize n % 256 = q at *
      have L := Kp.mk (lit_fresh w [m, 130, BitVec.ofNat 8 p, BitVec.ofNat 8 q] 4 rfl (by decide) #[.int .u8 (ub m), .int .u8 130, .int .u8 (p : Int), .int .u8 (q : Int)] (by rw [← byte_id p hp, ← byte_id q hq]; rfl))
      clear h3 h h6
      go_enter Tryz.func43, Tryz.ntmps43
      go_wp2_with fail
      go_ret
      obtain ⟨A, c, e1, e2, e3, e4⟩ := L.out
      cases e1
      exact ⟨_, _, rfl, e2, e3, e4⟩
set_option maxHeartbeats 2000000 in
theorem refElement_ok (m : BitVec 8) {b : List (BitVec 8)} {A : Option Addr} {n c : Nat} {w : World} (hb : Bs w A n c b) (h : n ≤ 65535) : Calls Tryz.prog 33 #[.int .u8 (ub m), .slice A n c] w (Fresh w (hdn n + n) (elm m b)) := by
  have hhi := hdn_hi n
  have he : elm m b = hdr m n ++ b := by unfold elm; rw [hb.len]
  rw [he]
  have HB := Kp.mk hb
  have H := Kp.mk h
  obtain ⟨L, hL⟩ : ∃ L, hdr m n = L := ⟨_, rfl⟩
  obtain ⟨N, hN⟩ : ∃ N, hdn n = N := ⟨_, rfl⟩
  have C := Kp.mk (refHead_ok m n h w)
  rw [hL, hN] at C
  rw [hN] at hhi
  rw [hL, hN]
  have hx : N + n ≤ 140737488355328 := by omega
  clear he hb h hL hN hhi
  go_enter Tryz.func33, Tryz.ntmps33
  go_wp2_with (first | (go_at_call 43; refine C.out.mono ?_; rintro e w1 ⟨A1, c1, rfl, hs1, ho1, hx1⟩; have HO := Kp.mk ho1; have HX := Kp.mk hx1; clear hs1 ho1 hx1) | (at_builtin; refine wpList_append_bs rfl (.tmp 8) (.tmp 9) rfl w.heap.size _ N L rfl HO.out A n c b rfl (HB.out.ext HX.out) hx (N + n) rfl (L ++ b) rfl w HX.out (Nat.le_refl _) HX.out.size ?_; intro A5 c5 w5 ho5 hx5 _) | fail)
  go_ret
  exact ⟨_, _, rfl, ho5.bs, ho5, hx5⟩
/-- which of k things a number speaks of -/
def pk (x : Int) (k : Int) : Int := (if x < 0 then -(x + 1) else x) % k
end Go.Proofs.YthookcnkmlmgcaaGreatDoor
