/-
  Slices of any elements that are one cell each: what reads as a list; rows of the call's own; append.
-/
import Derived.Test.YthookcnkmlmgcaaVFw
namespace Go.Proofs.Ythookcnkmlmgcaa
open Go Go.RowKit
set_option maxRecDepth 4000

theorem ow_ext {w w' : World} {B e s n : Nat} {v : Value} {xs : List Value} (h : w.ownsRow B e s v n xs) (hx : Ext w w') : w'.ownsRow B e s v n xs := by
  refine ⟨h.1, ?_⟩
  rcases h.2 with h2 | ⟨g, cap, cur, h1, h3, h4, h5⟩
  · exact .inl h2
  · exact .inr ⟨g, cap, cur, h1, h3, (hx.b.block g (Array.getElem?_eq_some_iff.1 h4).1).trans h4, h5⟩
theorem ow_lower {w : World} {B B' e s n : Nat} {v : Value} {xs : List Value} (h : w.ownsRow B e s v n xs) (hB : B' ≤ B) : w.ownsRow B' e s v n xs := by
  refine ⟨h.1, ?_⟩
  rcases h.2 with h2 | ⟨g, cap, cur, h1, h3, h4⟩
  · exact .inl h2
  · exact .inr ⟨g, cap, cur, h1, Nat.le_trans hB h3, h4⟩
/-- a slice that reads as a list of elements -/
structure Rd {α : Type} (e : α → Value) (w : World) (A : Option Addr) (n c : Nat) (l : List α) : Prop where
  len : l.length = n
  cap : n ≤ c
  nul : A = none → n = 0 ∧ c = 0
  at_ : 0 < n → ∃ g o, A = some ⟨g, o, none⟩ ∧ ∀ (j : Nat) (x : α), l[j]? = some x → w.cell? ⟨g, o + j, none⟩ = some (e x)
/-- a row of elements of the call's own: in blocks from B on -/
structure Rw {α : Type} (T : TypeId) (e : α → Value) (w : World) (B : Nat) (v : Value) (n : Nat) (l : List α) : Prop where
  o : w.ownsRow B T 1 v n (l.map e)
section
variable {α : Type} {T : TypeId} {e : α → Value} {w w' : World} {A : Option Addr} {B B' n c : Nat} {v : Value} {l : List α}
theorem Rd.ext (h : Rd e w A n c l) (hx : Ext w w') : Rd e w' A n c l := by
  refine ⟨h.len, h.cap, h.nul, fun hn => ?_⟩
  obtain ⟨g, o, ea, hc⟩ := h.at_ hn
  exact ⟨g, o, ea, fun j x hj => (hx.b.cell (p := ⟨g, o + j, none⟩) (block_lt_of_cell (hc j x hj))).trans (hc j x hj)⟩
theorem Rd.take (h : Rd e w A n c l) (k : Nat) (hk : k ≤ n) : Rd e w A k c (l.take k) := by
  have hl := h.len
  refine ⟨by rw [List.length_take]; omega, by have := h.cap; omega, fun ea => by have := h.nul ea; omega, fun hn => ?_⟩
  obtain ⟨g, o, ea, hc⟩ := h.at_ (by omega)
  refine ⟨g, o, ea, fun j x hj => hc j x ?_⟩
  rw [List.getElem?_take] at hj
  split at hj
  · exact hj
  · cases hj
theorem Rd.nil (w : World) : Rd e w none 0 0 [] := ⟨rfl, Nat.le_refl _, fun _ => ⟨rfl, rfl⟩, fun h => absurd h (Nat.lt_irrefl 0)⟩
theorem Rw.ext (h : Rw T e w B v n l) (hx : Ext w w') : Rw T e w' B v n l := ⟨ow_ext h.o hx⟩
theorem Rw.lower (h : Rw T e w B v n l) (hB : B' ≤ B) : Rw T e w B' v n l := ⟨ow_lower h.o hB⟩
theorem Rw.len (h : Rw T e w B v n l) : l.length = n := by have := h.o.1; simpa using this
theorem Rw.base (h : Rw T e w B v n l) (k : Nat) (hk : v.ownBlock = some k) : B ≤ k := by
  rcases h.o.2 with ⟨rfl, _⟩ | ⟨g, cap, cur, rfl, h3, _⟩
  · simp [Value.ownBlock] at hk
  · simp [Value.ownBlock] at hk; omega
theorem Rw.lt (h : Rw T e w B v n l) (k : Nat) (hk : v.ownBlock = some k) : k < w.heap.size := by
  rcases h.o.2 with ⟨rfl, _⟩ | ⟨g, cap, cur, rfl, _, h4, _⟩
  · simp [Value.ownBlock] at hk
  · simp [Value.ownBlock] at hk
    subst hk
    exact (Array.getElem?_eq_some_iff.1 h4).1
theorem Rw.nil (w : World) (B : Nat) : Rw T e w B (.slice none 0 0) 0 [] := ⟨rfl, .inl ⟨rfl, rfl⟩⟩
theorem Rw.form (h : Rw T e w B v n l) : ∃ A c, v = .slice A n c := by
  rcases h.o.2 with ⟨e1, e2⟩ | ⟨g, cap, cur, e1, _⟩
  · exact ⟨none, 0, by rw [e1, e2]⟩
  · exact ⟨_, _, e1⟩
theorem Rw.some_ (h : Rw T e w B (.slice A n c) n l) (hn : 0 < n) : ∃ g, A = some ⟨g, 0, none⟩ ∧ B ≤ g ∧ g < w.heap.size := by
  rcases h.o.2 with ⟨_, e1⟩ | ⟨g, cap, cur, e1, h3, h4, _⟩
  · omega
  · cases e1; exact ⟨g, rfl, h3, (Array.getElem?_eq_some_iff.1 h4).1⟩
theorem Rw.cell {g : Nat} (h : Rw T e w B (.slice (some ⟨g, 0, none⟩) n c) n l) (j : Nat) (x : α) (hj : l[j]? = some x) : w.cell? ⟨g, j, none⟩ = some (e x) := by
  have hl := h.len
  have hjl : j < l.length := (List.getElem?_eq_some_iff.1 hj).1
  refine (h.o.cellAt j (by omega)).trans ?_
  rw [List.getElem?_map, hj]
  rfl
theorem Rw.free {g : Nat} (h : Rw T e w B (.slice (some ⟨g, 0, none⟩) n c) n l) (j : Nat) : w.frozen? ⟨g, j, none⟩ = false := h.o.frozenAt j
theorem Rw.rd (h : Rw T e w B (.slice A n c) n l) : Rd e w A n c l := by
  have hl := h.len
  have hb : n ≤ c ∧ (A = none → n = 0 ∧ c = 0) := by
    rcases h.o.2 with ⟨e1, e2⟩ | ⟨g, cap, cur, e1, _, _, h5, _⟩
    · injection e1 with e3 e4 e5
      subst e5
      exact ⟨by omega, fun _ => ⟨e2, rfl⟩⟩
    · injection e1 with e3 e4 e5
      subst e5 e3
      exact ⟨h5, fun e6 => by cases e6⟩
  refine ⟨hl, hb.1, hb.2, fun hn => ?_⟩
  obtain ⟨g, rfl, _, _⟩ := h.some_ hn
  exact ⟨g, 0, rfl, fun j x hj => by rw [Nat.zero_add]; exact h.cell j x hj⟩
theorem Rw.set {g : Nat} (h : Rw T e w B (.slice (some ⟨g, 0, none⟩) n c) n l) (j : Nat) (x : α) : Rw T e (w.setCell ⟨g, j, none⟩ (e x)) B (.slice (some ⟨g, 0, none⟩) n c) n (l.set j x) := by
  have h7 := (h.o.stored j (e x)).1
  rw [show (l.map e).set j (e x) = (l.set j x).map e by simp [List.map_set]] at h7
  exact ⟨h7⟩
theorem Rw.grown (h : Rw T e w B v n l) {row : Option Nat} (hg : w.grownBy w' row) (hr : v.ownBlock = none ∨ v.ownBlock ≠ row) : Rw T e w' B v n l := by
  refine ⟨h.o.1, ?_⟩
  rcases h.o.2 with h2 | ⟨g, cap, cur, h1, h3, h4, h5⟩
  · exact .inl h2
  · refine .inr ⟨g, cap, cur, h1, h3, (hg.block g (Array.getElem?_eq_some_iff.1 h4).1 ?_).trans h4, h5⟩
    subst h1
    rcases hr with e1 | e1
    · simp [Value.ownBlock] at e1
    · simpa [Value.ownBlock] using e1
theorem Rw.has {g : Nat} (h : Has w g T (l.map e).toArray) (hl : l.length = n) (hB : B ≤ g) (hm : n ≤ maxLen) : Rw T e w B (.slice (some ⟨g, 0, none⟩) n n) n l := by
  subst hl
  refine ⟨⟨by simp, .inr ⟨g, l.length, (l.map e).toArray, rfl, hB, h, Nat.le_refl _, hm, by simp, ?_⟩⟩⟩
  rw [List.take_of_length_le (by simp)]
theorem Rw.take (h : Rw T e w B (.slice A n c) n l) {k : Nat} (hk : k ≤ n) : Rw T e w B (.slice A k c) k (l.take k) := by
  have hl := h.len
  refine ⟨by simp [hl]; omega, ?_⟩
  rcases h.o.2 with ⟨e1, e2⟩ | ⟨g, cap, cur, e1, h3, h4, h5, h6, h7, h8⟩
  · cases e1; exact .inl ⟨by rw [show k = 0 by omega], by omega⟩
  · cases e1
    refine .inr ⟨g, c, cur, rfl, h3, h4, by omega, h6, h7, ?_⟩
    rw [List.map_take, ← h8, List.take_take, Nat.mul_one, Nat.mul_one, Nat.min_eq_left hk]
theorem Apd.keep_rw {u : Value} (h : Apd w w' u v) {z : Value} {m : Nat} {k : List α} (hu : Rw T e w B z m k) (hd : Dj z u) : Rw T e w' B z m k := hu.grown h.grown hd
end
theorem Rw.far {α : Type} {T : TypeId} {e : α → Value} {w : World} {B n : Nat} {v : Value} {l : List α} (h : Rw T e w B v n l) {p : Addr} (hp : v.ownBlock ≠ some p.block) (u : Value) : Rw T e (w.setCell p u) B v n l := by
  refine ⟨h.o.1, ?_⟩
  rcases h.o.2 with h2 | ⟨g, cap, cur, h1, h3, h4, h5⟩
  · exact .inl h2
  · refine .inr ⟨g, cap, cur, h1, h3, (Below.heap_setCell w p u g (fun e1 => hp ?_)).trans h4, h5⟩
    subst h1; simp [Value.ownBlock, e1]
/-- the new cells that an append copies -/
theorem Rd.news {α : Type} {e : α → Value} {w : World} {A : Option Addr} {n c : Nat} {l : List α} (h : Rd e w A n c l) (hp : 0 < n) : ∃ ad, A = some ad ∧ ∀ j v, (l.map e)[j]? = some v → w.cell? (ad.add j) = some v := by
  obtain ⟨g, o, rfl, hc⟩ := h.at_ hp
  refine ⟨_, rfl, fun j v hv => ?_⟩
  have hadd : (⟨g, o, none⟩ : Addr).add j = ⟨g, o + j, none⟩ := by unfold Addr.add; split <;> simp_all
  rw [List.getElem?_map] at hv
  cases hx : l[j]? with
  | none => rw [hx] at hv; cases hv
  | some x =>
    rw [hx] at hv
    rw [hadd, hc j x hx]
    simpa using hv
theorem run_append_rd {P : Program} {α : Type} {T : TypeId} {e : α → Value} (t ty : TypeId) (z : Value) (bytes : Nat) (ht : P.underlying t = some (.slice T)) (hi : (P.info? T).map (fun i => (i.zero, i.size, i.bytes)) = some (some z, 1, bytes))
    (hz : z.cells.size = 1) (hb0 : 0 < bytes) (he : ∀ x, (e x).oneCell' = true) {w : World} {B : Nat} {v : Value} {n : Nat} {l1 : List α} (hown : Rw T e w B v n l1) {A : Option Addr} {m c : Nat} {l2 : List α} (hl : Rd e w A m c l2)
    (h47 : (n + m) * bytes ≤ 140737488355328) (hBw : B ≤ w.heap.size) :
    ∃ A' c' w', (Builtin.append_ #[t, t] ty #[v, .slice A m c]).run P w = .ok (.slice A' (n + m) c') w' ∧ Rw T e w' B (.slice A' (n + m) c') (n + m) (l1 ++ l2) ∧ Apd w w' v (.slice A' (n + m) c') := by
  obtain ⟨i, hi0, hz0, hs1, hb⟩ := info_parts hi
  have hle : n + m ≤ (n + m) * bytes := Nat.le_mul_of_pos_right _ hb0
  cases A with
  | none =>
    obtain ⟨rfl, rfl⟩ := hl.nul rfl
    have hl0 : l2 = [] := List.eq_nil_of_length_eq_zero hl.len
    subst hl0
    obtain ⟨A', c', rfl⟩ := hown.form
    exact ⟨A', c', w, run_append_owned_none (P := P) (w := w) B t ty T i 1 ht hi0 _ n (l1.map e) hown.o, by simpa using hown, World.grownBy.refl w _, .inl rfl⟩
  | some ad =>
    obtain ⟨v', w', hr, h2, h3, _, h5⟩ := run_append_own_at (P := P) w B t ty T i z 1 bytes ht hi0 hz0 hs1 hb hz (by decide) v n (l1.map e) hown.o ad m c (l2.map e) (by simp [hl.len])
      (fun j u hu => by
        have hp : 0 < m := by
          have h6 := (List.getElem?_eq_some_iff.1 hu).1
          have h7 := hl.len
          rw [List.length_map] at h6
          omega
        obtain ⟨ad', e1, hc⟩ := hl.news hp
        cases e1
        exact hc j u hu)
      (fun u hu => by
        obtain ⟨x, _, rfl⟩ := List.mem_map.1 hu
        exact he x) (by unfold maxLen; omega) h47 hBw
    rw [← List.map_append] at h2
    obtain ⟨A', c', rfl⟩ := (Rw.mk h2).form
    exact ⟨A', c', w', hr, ⟨h2⟩, h3, h5⟩
theorem wp_append_rd {P : Program} {α : Type} {T : TypeId} {e : α → Value} (t : TypeId) (z : Value) (bytes : Nat) (ht : P.underlying t = some (.slice T)) (hi : (P.info? T).map (fun i => (i.zero, i.size, i.bytes)) = some (some z, 1, bytes))
    (hz : z.cells.size = 1) (hb0 : 0 < bytes) (he : ∀ x, (e x).oneCell' = true)
    {w : World} {o : Oper} {a : Act} {K : Act → World → Prop} {Q : Exit → Act → World → Prop} (s x : Operand)
    (ho : o.op = .call { callee := .builtin .append, args := #[s, x], argTypes := #[t, t] })
    (B : Nat) (v : Value) (n : Nat) (l1 : List α) (hs : a.eval s = v) (hown : Rw T e w B v n l1)
    (A : Option Addr) (m c : Nat) (l2 : List α) (hx : a.eval x = .slice A m c) (hl : Rd e w A m c l2)
    (h47 : (n + m) * bytes ≤ 140737488355328) (N : Nat) (hN : n + m = N) (L : List α) (hL : l1 ++ l2 = L) (w0 : World) (hx0 : Ext w0 w) (hB : w0.heap.size ≤ B) (hBw : B ≤ w.heap.size)
    (h : ∀ A' c' w', Rw T e w' B (.slice A' N c') N L → Ext w0 w' → Apd w w' v (.slice A' N c') → K (a.put o.dst (.slice A' N c')) w') : o.wp P a w K Q := by
  subst hN hL
  obtain ⟨A', c', w', hr, h2, h3⟩ := run_append_rd t o.type z bytes ht hi hz hb0 he hown hl h47 hBw
  unfold Oper.wp
  simp [execOp, ho, resolve, invoke, builtin, hs, hx, hr, Result.andThen]
  exact h A' c' w' h2 (hx0.grown h3.grown fun k hk => Nat.le_trans hB (hown.base k hk)) h3
theorem wpList_append_rd {P : Program} {α : Type} {T : TypeId} {e : α → Value} (t : TypeId) (z : Value) (bytes : Nat) (ht : P.underlying t = some (.slice T)) (hi : (P.info? T).map (fun i => (i.zero, i.size, i.bytes)) = some (some z, 1, bytes))
    (hz : z.cells.size = 1) (hb0 : 0 < bytes) (he : ∀ x, (e x).oneCell' = true)
    {w : World} {ops : Array Oper} {rest : List Oper} {o : Oper} {a : Act} {Q : Exit → Act → World → Prop} (hgd : o.guard = none) (s x : Operand)
    (ho : o.op = .call { callee := .builtin .append, args := #[s, x], argTypes := #[t, t] })
    (B : Nat) (v : Value) (n : Nat) (l1 : List α) (hs : a.eval s = v) (hown : Rw T e w B v n l1)
    (A : Option Addr) (m c : Nat) (l2 : List α) (hx : a.eval x = .slice A m c) (hl : Rd e w A m c l2)
    (h47 : (n + m) * bytes ≤ 140737488355328) (N : Nat) (hN : n + m = N) (L : List α) (hL : l1 ++ l2 = L) (w0 : World) (hx0 : Ext w0 w) (hB : w0.heap.size ≤ B) (hBw : B ≤ w.heap.size)
    (h : ∀ A' c' w', Rw T e w' B (.slice A' N c') N L → Ext w0 w' → Apd w w' v (.slice A' N c') → wpList P ops Q rest (a.put o.dst (.slice A' N c')) w') : wpList P ops Q (o :: rest) a w :=
  wpList_plain hgd fun _ hK => wp_append_rd t z bytes ht hi hz hb0 he s x ho B v n l1 hs hown A m c l2 hx hl h47 N hN L hL w0 hx0 hB hBw fun A' c' w' h1 h2 h3 => hK _ _ (h A' c' w' h1 h2 h3)
end Go.Proofs.Ythookcnkmlmgcaa
