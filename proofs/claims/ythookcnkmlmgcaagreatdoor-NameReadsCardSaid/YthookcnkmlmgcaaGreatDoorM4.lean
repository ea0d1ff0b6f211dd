/-
  Slices of any elements that are one cell each: what reads as a list; rows of the call's own; append.
  Rows of bytes put into the midst of a block; a piece of a block as an array's value.
  Errors that are codes, compared.
  Worlds in which some blocks alone have turned; things of a call's own that are written in place: what lies in other blocks stays.
-/
import Derived.Test.YthookcnkmlmgcaaGreatDoorM3
import Derived.Test.YthookcnkmlmgcaaGreatDoorM0
import Derived.Deep.MidRow
import Derived.Laws.Tables
import Derived.Laws.ResultCell
namespace Go.Proofs.YthookcnkmlmgcaaGreatDoor
open Go Go.RowKit
set_option maxRecDepth 4000

theorem ow_ext {w w' : World} {B e s n : Nat} {v : Value} {xs : List Value} (h : w.ownsRow B e s v n xs) (hx : Ext w w') : w'.ownsRow B e s v n xs := by
  refine ⟨h.1, ?_⟩
  rcases h.2 with h2 | ⟨g, cap, cur, h1, h3, h4, h5⟩
  · exact .inl h2
  · exact .inr ⟨g, cap, cur, h1, h3, (hx.b.block g (Array.getElem?_eq_some_iff.1 h4).1).trans h4, h5⟩
theorem ow_lower {w : World} {B B' e s n : Nat} {v : Value} {xs : List Value} (h : w.ownsRow B e s v n xs) (hB : B' ≤ B) : w.ownsRow B' e s v n xs := by
  refine ⟨h.1, ?_⟩
  rcases h.2 with h2 | ⟨g, cap, cur, h1, h3, h4⟩
  · exact .inl h2
  · exact .inr ⟨g, cap, cur, h1, Nat.le_trans hB h3, h4⟩
/-- a slice that reads as a list of elements -/
structure Rd {α : Type} (e : α → Value) (w : World) (A : Option Addr) (n c : Nat) (l : List α) : Prop where
  len : l.length = n
  cap : n ≤ c
  nul : A = none → n = 0 ∧ c = 0
  at_ : 0 < n → ∃ g o, A = some ⟨g, o, none⟩ ∧ ∀ (j : Nat) (x : α), l[j]? = some x → w.cell? ⟨g, o + j, none⟩ = some (e x)
/-- a row of elements of the call's own: in blocks from B on -/
structure Rw {α : Type} (T : TypeId) (e : α → Value) (w : World) (B : Nat) (v : Value) (n : Nat) (l : List α) : Prop where
  o : w.ownsRow B T 1 v n (l.map e)
section
variable {α : Type} {T : TypeId} {e : α → Value} {w w' : World} {A : Option Addr} {B B' n c : Nat} {v : Value} {l : List α}
theorem Rd.ext (h : Rd e w A n c l) (hx : Ext w w') : Rd e w' A n c l := by
  refine ⟨h.len, h.cap, h.nul, fun hn => ?_⟩
  obtain ⟨g, o, ea, hc⟩ := h.at_ hn
  exact ⟨g, o, ea, fun j x hj => (hx.b.cell (p := ⟨g, o + j, none⟩) (block_lt_of_cell (hc j x hj))).trans (hc j x hj)⟩
theorem Rd.take (h : Rd e w A n c l) (k : Nat) (hk : k ≤ n) : Rd e w A k c (l.take k) := by
  have hl := h.len
  refine ⟨by rw [List.length_take]; omega, by have := h.cap; omega, fun ea => by have := h.nul ea; omega, fun hn => ?_⟩
  obtain ⟨g, o, ea, hc⟩ := h.at_ (by omega)
  refine ⟨g, o, ea, fun j x hj => hc j x ?_⟩
  rw [List.getElem?_take] at hj
  split at hj
  · exact hj
  · cases hj
theorem Rd.nil (w : World) : Rd e w none 0 0 [] := ⟨rfl, Nat.le_refl _, fun _ => ⟨rfl, rfl⟩, fun h => absurd h (Nat.lt_irrefl 0)⟩
theorem Rw.ext (h : Rw T e w B v n l) (hx : Ext w w') : Rw T e w' B v n l := ⟨ow_ext h.o hx⟩
theorem Rw.lower (h : Rw T e w B v n l) (hB : B' ≤ B) : Rw T e w B' v n l := ⟨ow_lower h.o hB⟩
theorem Rw.len (h : Rw T e w B v n l) : l.length = n := by have := h.o.1; simpa using this
theorem Rw.base (h : Rw T e w B v n l) (k : Nat) (hk : v.ownBlock = some k) : B ≤ k := by
  rcases h.o.2 with ⟨rfl, _⟩ | ⟨g, cap, cur, rfl, h3, _⟩
  · simp [Value.ownBlock] at hk
  · simp [Value.ownBlock] at hk; omega
theorem Rw.lt (h : Rw T e w B v n l) (k : Nat) (hk : v.ownBlock = some k) : k < w.heap.size := by
  rcases h.o.2 with ⟨rfl, _⟩ | ⟨g, cap, cur, rfl, _, h4, _⟩
  · simp [Value.ownBlock] at hk
  · simp [Value.ownBlock] at hk
    subst hk
    exact (Array.getElem?_eq_some_iff.1 h4).1
theorem Rw.nil (w : World) (B : Nat) : Rw T e w B (.slice none 0 0) 0 [] := ⟨rfl, .inl ⟨rfl, rfl⟩⟩
theorem Rw.form (h : Rw T e w B v n l) : ∃ A c, v = .slice A n c := by
  rcases h.o.2 with ⟨e1, e2⟩ | ⟨g, cap, cur, e1, _⟩
  · exact ⟨none, 0, by rw [e1, e2]⟩
  · exact ⟨_, _, e1⟩
theorem Rw.some_ (h : Rw T e w B (.slice A n c) n l) (hn : 0 < n) : ∃ g, A = some ⟨g, 0, none⟩ ∧ B ≤ g ∧ g < w.heap.size := by
  rcases h.o.2 with ⟨_, e1⟩ | ⟨g, cap, cur, e1, h3, h4, _⟩
  · omega
  · cases e1; exact ⟨g, rfl, h3, (Array.getElem?_eq_some_iff.1 h4).1⟩
theorem Rw.cell {g : Nat} (h : Rw T e w B (.slice (some ⟨g, 0, none⟩) n c) n l) (j : Nat) (x : α) (hj : l[j]? = some x) : w.cell? ⟨g, j, none⟩ = some (e x) := by
  have hl := h.len
  have hjl : j < l.length := (List.getElem?_eq_some_iff.1 hj).1
  refine (h.o.cellAt j (by omega)).trans ?_
  rw [List.getElem?_map, hj]
  rfl
theorem Rw.free {g : Nat} (h : Rw T e w B (.slice (some ⟨g, 0, none⟩) n c) n l) (j : Nat) : w.frozen? ⟨g, j, none⟩ = false := h.o.frozenAt j
theorem Rw.rd (h : Rw T e w B (.slice A n c) n l) : Rd e w A n c l := by
  have hl := h.len
  have hb : n ≤ c ∧ (A = none → n = 0 ∧ c = 0) := by
    rcases h.o.2 with ⟨e1, e2⟩ | ⟨g, cap, cur, e1, _, _, h5, _⟩
    · injection e1 with e3 e4 e5
      subst e5
      exact ⟨by omega, fun _ => ⟨e2, rfl⟩⟩
    · injection e1 with e3 e4 e5
      subst e5 e3
      exact ⟨h5, fun e6 => by cases e6⟩
  refine ⟨hl, hb.1, hb.2, fun hn => ?_⟩
  obtain ⟨g, rfl, _, _⟩ := h.some_ hn
  exact ⟨g, 0, rfl, fun j x hj => by rw [Nat.zero_add]; exact h.cell j x hj⟩
theorem Rw.set {g : Nat} (h : Rw T e w B (.slice (some ⟨g, 0, none⟩) n c) n l) (j : Nat) (x : α) : Rw T e (w.setCell ⟨g, j, none⟩ (e x)) B (.slice (some ⟨g, 0, none⟩) n c) n (l.set j x) := by
  have h7 := (h.o.stored j (e x)).1
  rw [show (l.map e).set j (e x) = (l.set j x).map e by simp [List.map_set]] at h7
  exact ⟨h7⟩
theorem Rw.grown (h : Rw T e w B v n l) {row : Option Nat} (hg : w.grownBy w' row) (hr : v.ownBlock = none ∨ v.ownBlock ≠ row) : Rw T e w' B v n l := by
  refine ⟨h.o.1, ?_⟩
  rcases h.o.2 with h2 | ⟨g, cap, cur, h1, h3, h4, h5⟩
  · exact .inl h2
  · refine .inr ⟨g, cap, cur, h1, h3, (hg.block g (Array.getElem?_eq_some_iff.1 h4).1 ?_).trans h4, h5⟩
    subst h1
    rcases hr with e1 | e1
    · simp [Value.ownBlock] at e1
    · simpa [Value.ownBlock] using e1
theorem Rw.has {g : Nat} (h : Has w g T (l.map e).toArray) (hl : l.length = n) (hB : B ≤ g) (hm : n ≤ maxLen) : Rw T e w B (.slice (some ⟨g, 0, none⟩) n n) n l := by
  subst hl
  refine ⟨⟨by simp, .inr ⟨g, l.length, (l.map e).toArray, rfl, hB, h, Nat.le_refl _, hm, by simp, ?_⟩⟩⟩
  rw [List.take_of_length_le (by simp)]
theorem Rw.take (h : Rw T e w B (.slice A n c) n l) {k : Nat} (hk : k ≤ n) : Rw T e w B (.slice A k c) k (l.take k) := by
  have hl := h.len
  refine ⟨by simp [hl]; omega, ?_⟩
  rcases h.o.2 with ⟨e1, e2⟩ | ⟨g, cap, cur, e1, h3, h4, h5, h6, h7, h8⟩
  · cases e1; exact .inl ⟨by rw [show k = 0 by omega], by omega⟩
  · cases e1
    refine .inr ⟨g, c, cur, rfl, h3, h4, by omega, h6, h7, ?_⟩
    rw [List.map_take, ← h8, List.take_take, Nat.mul_one, Nat.mul_one, Nat.min_eq_left hk]
theorem Apd.keep_rw {u : Value} (h : Apd w w' u v) {z : Value} {m : Nat} {k : List α} (hu : Rw T e w B z m k) (hd : Dj z u) : Rw T e w' B z m k := hu.grown h.grown hd
end
theorem Rw.far {α : Type} {T : TypeId} {e : α → Value} {w : World} {B n : Nat} {v : Value} {l : List α} (h : Rw T e w B v n l) {p : Addr} (hp : v.ownBlock ≠ some p.block) (u : Value) : Rw T e (w.setCell p u) B v n l := by
  refine ⟨h.o.1, ?_⟩
  rcases h.o.2 with h2 | ⟨g, cap, cur, h1, h3, h4, h5⟩
  · exact .inl h2
  · refine .inr ⟨g, cap, cur, h1, h3, (Below.heap_setCell w p u g (fun e1 => hp ?_)).trans h4, h5⟩
    subst h1; simp [Value.ownBlock, e1]
/-- the new cells that an append copies -/
theorem Rd.news {α : Type} {e : α → Value} {w : World} {A : Option Addr} {n c : Nat} {l : List α} (h : Rd e w A n c l) (hp : 0 < n) : ∃ ad, A = some ad ∧ ∀ j v, (l.map e)[j]? = some v → w.cell? (ad.add j) = some v := by
  obtain ⟨g, o, rfl, hc⟩ := h.at_ hp
  refine ⟨_, rfl, fun j v hv => ?_⟩
  have hadd : (⟨g, o, none⟩ : Addr).add j = ⟨g, o + j, none⟩ := by unfold Addr.add; split <;> simp_all
  rw [List.getElem?_map] at hv
  cases hx : l[j]? with
  | none => rw [hx] at hv; cases hv
  | some x =>
    rw [hx] at hv
    rw [hadd, hc j x hx]
    simpa using hv
theorem run_append_rd {P : Program} {α : Type} {T : TypeId} {e : α → Value} (t ty : TypeId) (z : Value) (bytes : Nat) (ht : P.underlying t = some (.slice T)) (hi : (P.info? T).map (fun i => (i.zero, i.size, i.bytes)) = some (some z, 1, bytes))
    (hz : z.cells.size = 1) (hb0 : 0 < bytes) (he : ∀ x, (e x).oneCell' = true) {w : World} {B : Nat} {v : Value} {n : Nat} {l1 : List α} (hown : Rw T e w B v n l1) {A : Option Addr} {m c : Nat} {l2 : List α} (hl : Rd e w A m c l2)
    (h47 : (n + m) * bytes ≤ 140737488355328) (hBw : B ≤ w.heap.size) :
    ∃ A' c' w', (Builtin.append_ #[t, t] ty #[v, .slice A m c]).run P w = .ok (.slice A' (n + m) c') w' ∧ Rw T e w' B (.slice A' (n + m) c') (n + m) (l1 ++ l2) ∧ Apd w w' v (.slice A' (n + m) c') := by
  obtain ⟨i, hi0, hz0, hs1, hb⟩ := info_parts hi
  have hle : n + m ≤ (n + m) * bytes := Nat.le_mul_of_pos_right _ hb0
  cases A with
  | none =>
    obtain ⟨rfl, rfl⟩ := hl.nul rfl
    have hl0 : l2 = [] := List.eq_nil_of_length_eq_zero hl.len
    subst hl0
    obtain ⟨A', c', rfl⟩ := hown.form
    exact ⟨A', c', w, run_append_owned_none (P := P) (w := w) B t ty T i 1 ht hi0 _ n (l1.map e) hown.o, by simpa using hown, World.grownBy.refl w _, .inl rfl⟩
  | some ad =>
    obtain ⟨v', w', hr, h2, h3, _, h5⟩ := run_append_own_at (P := P) w B t ty T i z 1 bytes ht hi0 hz0 hs1 hb hz (by decide) v n (l1.map e) hown.o ad m c (l2.map e) (by simp [hl.len])
      (fun j u hu => by
        have hp : 0 < m := by
          have h6 := (List.getElem?_eq_some_iff.1 hu).1
          have h7 := hl.len
          rw [List.length_map] at h6
          omega
        obtain ⟨ad', e1, hc⟩ := hl.news hp
        cases e1
        exact hc j u hu)
      (fun u hu => by
        obtain ⟨x, _, rfl⟩ := List.mem_map.1 hu
        exact he x) (by unfold maxLen; omega) h47 hBw
    rw [← List.map_append] at h2
    obtain ⟨A', c', rfl⟩ := (Rw.mk h2).form
    exact ⟨A', c', w', hr, ⟨h2⟩, h3, h5⟩
theorem wp_append_rd {P : Program} {α : Type} {T : TypeId} {e : α → Value} (t : TypeId) (z : Value) (bytes : Nat) (ht : P.underlying t = some (.slice T)) (hi : (P.info? T).map (fun i => (i.zero, i.size, i.bytes)) = some (some z, 1, bytes))
    (hz : z.cells.size = 1) (hb0 : 0 < bytes) (he : ∀ x, (e x).oneCell' = true)
    {w : World} {o : Oper} {a : Act} {K : Act → World → Prop} {Q : Exit → Act → World → Prop} (s x : Operand)
    (ho : o.op = .call { callee := .builtin .append, args := #[s, x], argTypes := #[t, t] })
    (B : Nat) (v : Value) (n : Nat) (l1 : List α) (hs : a.eval s = v) (hown : Rw T e w B v n l1)
    (A : Option Addr) (m c : Nat) (l2 : List α) (hx : a.eval x = .slice A m c) (hl : Rd e w A m c l2)
    (h47 : (n + m) * bytes ≤ 140737488355328) (N : Nat) (hN : n + m = N) (L : List α) (hL : l1 ++ l2 = L) (w0 : World) (hx0 : Ext w0 w) (hB : w0.heap.size ≤ B) (hBw : B ≤ w.heap.size)
    (h : ∀ A' c' w', Rw T e w' B (.slice A' N c') N L → Ext w0 w' → Apd w w' v (.slice A' N c') → K (a.put o.dst (.slice A' N c')) w') : o.wp P a w K Q := by
  subst hN hL
  obtain ⟨A', c', w', hr, h2, h3⟩ := run_append_rd t o.type z bytes ht hi hz hb0 he hown hl h47 hBw
  unfold Oper.wp
  simp [execOp, ho, resolve, invoke, builtin, hs, hx, hr, Result.andThen]
  exact h A' c' w' h2 (hx0.grown h3.grown fun k hk => Nat.le_trans hB (hown.base k hk)) h3
theorem wpList_append_rd {P : Program} {α : Type} {T : TypeId} {e : α → Value} (t : TypeId) (z : Value) (bytes : Nat) (ht : P.underlying t = some (.slice T)) (hi : (P.info? T).map (fun i => (i.zero, i.size, i.bytes)) = some (some z, 1, bytes))
    (hz : z.cells.size = 1) (hb0 : 0 < bytes) (he : ∀ x, (e x).oneCell' = true)
    {w : World} {ops : Array Oper} {rest : List Oper} {o : Oper} {a : Act} {Q : Exit → Act → World → Prop} (hgd : o.guard = none) (s x : Operand)
    (ho : o.op = .call { callee := .builtin .append, args := #[s, x], argTypes := #[t, t] })
    (B : Nat) (v : Value) (n : Nat) (l1 : List α) (hs : a.eval s = v) (hown : Rw T e w B v n l1)
    (A : Option Addr) (m c : Nat) (l2 : List α) (hx : a.eval x = .slice A m c) (hl : Rd e w A m c l2)
    (h47 : (n + m) * bytes ≤ 140737488355328) (N : Nat) (hN : n + m = N) (L : List α) (hL : l1 ++ l2 = L) (w0 : World) (hx0 : Ext w0 w) (hB : w0.heap.size ≤ B) (hBw : B ≤ w.heap.size)
    (h : ∀ A' c' w', Rw T e w' B (.slice A' N c') N L → Ext w0 w' → Apd w w' v (.slice A' N c') → wpList P ops Q rest (a.put o.dst (.slice A' N c')) w') : wpList P ops Q (o :: rest) a w :=
  wpList_plain hgd fun _ hK => wp_append_rd t z bytes ht hi hz hb0 he s x ho B v n l1 hs hown A m c l2 hx hl h47 N hN L hL w0 hx0 hB hBw fun A' c' w' h1 h2 h3 => hK _ _ (h A' c' w' h1 h2 h3)
end Go.Proofs.YthookcnkmlmgcaaGreatDoor
namespace Go.Proofs.YthookcnkmlmgcaaGreatDoor
open Go Go.RowKit
set_option maxRecDepth 4000

/-- a row put over a list from an element on -/
def puts : List (BitVec 8) → Nat → List (BitVec 8) → List (BitVec 8)
  | L, _, [] => L
  | L, o, x :: r => puts (L.set o x) (o + 1) r
theorem puts_len : ∀ (l : List (BitVec 8)) (L : List (BitVec 8)) (o : Nat), (puts L o l).length = L.length
  | [], _, _ => rfl
  | x :: r, L, o => by rw [puts, puts_len r, List.length_set]
theorem puts_gb : ∀ (l : List (BitVec 8)) (L : List (BitVec 8)) (o i : Nat), o + l.length ≤ L.length → gb (puts L o l) i = if o ≤ i ∧ i < o + l.length then gb l (i - o) else gb L i
  | [], L, o, i, _ => by rw [puts, if_neg (by rw [List.length_nil]; omega)]
  | x :: r, L, o, i, h => by
    rw [List.length_cons] at h
    rw [puts, puts_gb r (L.set o x) (o + 1) i (by rw [List.length_set]; omega), gb_set _ _ _ _ (by omega), List.length_cons]
    by_cases h1 : i = o
    · subst h1
      rw [if_neg (by omega), if_pos rfl, if_pos (by omega), Nat.sub_self]; rfl
    · by_cases h2 : o + 1 ≤ i ∧ i < o + 1 + r.length
      · rw [if_pos h2, if_pos (by omega), show i - o = (i - (o + 1)) + 1 by omega]; rfl
      · rw [if_neg h2, if_neg h1, if_neg (by omega)]
section
variable {w w' w0 : World} {g t : Nat}
theorem Blk.setCells (l : List (BitVec 8)) : ∀ {w : World} {L : List (BitVec 8)} (o : Nat), Blk w g t (bv L) → Blk (w.setCells g o (l.map vb)) g t (bv (puts L o l)) := by
  induction l with
  | nil => intro w L o h; exact h
  | cons x r ih => intro w L o h; exact ih (o + 1) (h.setB o x)
theorem Blk.setCells_far {cs : Array Value} {g' : Nat} (hg : g ≠ g') : ∀ (vs : List Value) {w : World} (o : Nat), Blk w g t cs → Blk (w.setCells g' o vs) g t cs
  | [], _, _, h => h
  | v :: r, _, o, h => Blk.setCells_far hg r (o + 1) (h.far (p := ⟨g', o, none⟩) hg v)
theorem Ext.setCells (hg : w0.heap.size ≤ g) : ∀ (vs : List Value) {w : World} (o : Nat), Ext w0 w → Ext w0 (w.setCells g o vs)
  | [], _, _, h => h
  | v :: r, _, o, h => Ext.setCells hg r (o + 1) (h.setCell (p := ⟨g, o, none⟩) hg v)
theorem Blk.there {L : List (BitVec 8)} (h : Blk w g t (bv L)) (o n : Nat) (hn : o + n ≤ L.length) : w.there g o n := fun j hj => by
  refine ⟨?_, h.h.frozen _⟩
  rw [h.h.cell, bv_at _ _ (by omega)]; rfl
/-- a piece of a block, as a range -/
theorem Blk.piece {L : List (BitVec 8)} (h : Blk w g t (bv L)) (o : Nat) (l : List (BitVec 8)) (hl : ∀ j, j < l.length → gb L (o + j) = gb l j) (hn : o + l.length ≤ L.length) : w.rangeAt g o (l.map vb) := fun j v hv => by
  have hj : j < l.length := by have := (List.getElem?_eq_some_iff.1 hv).1; simpa using this
  rw [h.h.cell, bv_at _ _ (by omega), ← hv, hl j hj]
  simp [gb, hj]
end
/-- the walk stands at a load of what slot k points to; at a store there of slot m: to ask first, so that a law isn't tried elsewhere -/
theorem at_load {P : Program} {ops : Array Oper} {rest : List Oper} {a : Act} {w : World} {Q : Exit → Act → World → Prop} {d ty t ps af g} (k : Nat)
    (h : wpList P ops Q (⟨d, .load ty (.tmp k), t, ps, af, g⟩ :: rest) a w) : wpList P ops Q (⟨d, .load ty (.tmp k), t, ps, af, g⟩ :: rest) a w := h
theorem at_load_to {P : Program} {ops : Array Oper} {rest : List Oper} {a : Act} {w : World} {Q : Exit → Act → World → Prop} {ty t ps af g} (d k : Nat)
    (h : wpList P ops Q (⟨some d, .load ty (.tmp k), t, ps, af, g⟩ :: rest) a w) : wpList P ops Q (⟨some d, .load ty (.tmp k), t, ps, af, g⟩ :: rest) a w := h
theorem at_store {P : Program} {ops : Array Oper} {rest : List Oper} {a : Act} {w : World} {Q : Exit → Act → World → Prop} {d ty t ps af g} (k m : Nat)
    (h : wpList P ops Q (⟨d, .store ty (.tmp k) (.tmp m), t, ps, af, g⟩ :: rest) a w) : wpList P ops Q (⟨d, .store ty (.tmp k) (.tmp m), t, ps, af, g⟩ :: rest) a w := h
theorem at_call_to {P : Program} {ops : Array Oper} {rest : List Oper} {a : Act} {w : World} {Q : Exit → Act → World → Prop} {c t ps af g} (d : Nat)
    (h : wpList P ops Q (⟨some d, .call c, t, ps, af, g⟩ :: rest) a w) : wpList P ops Q (⟨some d, .call c, t, ps, af, g⟩ :: rest) a w := h
/-- bytes that lie in the midst of a block; room there (structures: the walk compares them by their names) -/
structure Rge (w : World) (b o : Nat) (l : List (BitVec 8)) : Prop where
  r : w.rangeAt b o (l.map vb)
structure Thr (w : World) (b o n : Nat) : Prop where
  t : w.there b o n
theorem Rge.ext {w w' : World} {b o : Nat} {l : List (BitVec 8)} (h : Rge w b o l) (hx : Ext w w') : Rge w' b o l := ⟨rg_ext h.r hx⟩
theorem wpList_load_rge {P : Program} {ops : Array Oper} {rest : List Oper} {op : Oper} {a : Act} {w : World} {Q : Exit → Act → World → Prop} (hgd : op.guard = none) (ty : TypeId) (x : Operand) (ho : op.op = .load ty x)
    (b o : Nat) (l : List (BitVec 8)) (hc : Rge w b o l) (hx : a.eval x = .pointer (some ⟨b, o, none⟩)) (d : TypeDesc)
    (hu : P.underlying ty = some d) (hd : d.isRow = true) (hi : (P.info? ty).map (·.size) = some (bv l).size)
    (h : wpList P ops Q rest (a.put op.dst (.agg (bv l))) w) : wpList P ops Q (op :: rest) a w :=
  wpList_load_mid hgd ty x ho b o hx (l.map vb) d hc.r hu hd (by rw [hi, bv_size, List.length_map]) h
theorem wp_load_rge {P : Program} {op : Oper} {a : Act} {w : World} {K : Act → World → Prop} {Q : Exit → Act → World → Prop} (ty : TypeId) (x : Operand) (ho : op.op = .load ty x)
    (b o : Nat) (l : List (BitVec 8)) (hc : Rge w b o l) (hx : a.eval x = .pointer (some ⟨b, o, none⟩)) (d : TypeDesc)
    (hu : P.underlying ty = some d) (hd : d.isRow = true) (hi : (P.info? ty).map (·.size) = some (bv l).size)
    (h : K (a.put op.dst (.agg (bv l))) w) : op.wp P a w K Q :=
  wp_load_mid ty x ho b o hx (l.map vb) d hc.r hu hd (by rw [hi, bv_size, List.length_map]) h
theorem Blk.rge {w : World} {g t : Nat} {l : List (BitVec 8)} (h : Blk w g t (bv l)) : Rge w g 0 l := ⟨h.rg⟩
theorem wpList_store_thr {P : Program} {ops : Array Oper} {rest : List Oper} {op : Oper} {a : Act} {w : World} {Q : Exit → Act → World → Prop} (hgd : op.guard = none) (ty : TypeId) (x y : Operand) (ho : op.op = .store ty x y)
    (b o : Nat) (l : List (BitVec 8)) (ht : Thr w b o l.length) (hx : a.eval x = .pointer (some ⟨b, o, none⟩)) (hy : a.eval y = .agg (bv l))
    (hi : (P.info? ty).map (·.size) = some (bv l).size)
    (h : wpList P ops Q rest (a.put op.dst undef) (w.setCells b o (l.map vb))) : wpList P ops Q (op :: rest) a w :=
  wpList_store_mid hgd ty x y ho b o (bv l) hx hy (by rw [bv_size]; exact ht.t) hi (bv_one l) h
/-- a whole block is stored anew -/
theorem wpList_store_blk {P : Program} {ops : Array Oper} {rest : List Oper} {op : Oper} {a : Act} {w : World} {Q : Exit → Act → World → Prop} (hgd : op.guard = none) (ty : TypeId) (x y : Operand) (ho : op.op = .store ty x y)
    (g : Nat) (l l0 : List (BitVec 8)) (t : TypeId) (hB : Blk w g t (bv l0)) (hl : l.length = l0.length) (hx : a.eval x = .pointer (some ⟨g, 0, none⟩)) (hy : a.eval y = .agg (bv l))
    (hi : (P.info? ty).map (·.size) = some (bv l).size) (h : wpList P ops Q rest (a.put op.dst undef) (w.setRow g (bv l))) : wpList P ops Q (op :: rest) a w :=
  wpList_store_row hgd ty x y ho g (bv l) hx hy t _ hB.h hi (by rw [bv_size, bv_size, hl]) (bv_one l) h
theorem wp_store_blk {P : Program} {op : Oper} {a : Act} {w : World} {K : Act → World → Prop} {Q : Exit → Act → World → Prop} (ty : TypeId) (x y : Operand) (ho : op.op = .store ty x y)
    (g : Nat) (l l0 : List (BitVec 8)) (t : TypeId) (hB : Blk w g t (bv l0)) (hl : l.length = l0.length) (hx : a.eval x = .pointer (some ⟨g, 0, none⟩)) (hy : a.eval y = .agg (bv l))
    (hi : (P.info? ty).map (·.size) = some (bv l).size) (h : K (a.put op.dst undef) (w.setRow g (bv l))) : op.wp P a w K Q :=
  wp_store_row ty x y ho g (bv l) hx hy t _ hB.h hi (by rw [bv_size, bv_size, hl]) (bv_one l) h
/-- an array or a struct out of one part -/
theorem wpList_build1 {P : Program} {ops : Array Oper} {rest : List Oper} {o : Oper} {a : Act} {w : World} {Q : Exit → Act → World → Prop} (hgd : o.guard = none) (t i : Nat) (x : Operand) (ho : o.op = .build t #[(i, x)])
    (u : Value) (hu : a.eval x = u) (v : Value) (hr : (Instr.build t #[(i, u)]).run P w = .ok v w)
    (h : wpList P ops Q rest (a.put o.dst v) w) : wpList P ops Q (o :: rest) a w :=
  wpList_plain hgd fun _ hK => by
    subst hu
    have e : (#[(i, x)] : Array (Nat × Operand)).map (fun (i, x) => (i, a.eval x)) = #[(i, a.eval x)] := by simp
    unfold Oper.wp execOp
    simp only [ho, e, Sem.run_bind, hr, Result.andThen_ok, Sem.run_pure]
    exact hK _ _ h
theorem one_bs (w : World) (x : BitVec 8) : Bs (w.alloc (.cells #[.int .u8 (ub x)] 5)) (some ⟨w.heap.size, 0, none⟩) 1 1 [x] := (Blk.new w 5 (bv [x])).bs 0 1 1 (by simp) (Nat.le_refl _)
theorem num_bs (w : World) (v : Int) (x : BitVec 8) (h : ub x = v) : Bs (w.alloc (.cells #[.int .u8 v] 5)) (some ⟨w.heap.size, 0, none⟩) 1 1 [x] := by subst h; exact one_bs w x
/-- make([]byte, n) -/
theorem run_makeN (n : Nat) (S : Int) (hS : S = (n : Int)) (hn : n ≤ 140737488355328) (w : World) :
    (Instr.makeSlice 22 (.int .i64 S) (.int .i64 S)).run Tryz.prog w = .ok (.slice (some ⟨w.heap.size, 0, none⟩) n n) (w.alloc (.cells (bv (zb n)) 5)) := by
  subst hS
  obtain ⟨i, hi, hz, hs, hb⟩ := info_parts inB
  have hr := run_make (P := Tryz.prog) w 22 5 i (.int .u8 0) Tryz.underlying22 hi hz .i64 .i64 (n : Int) (n : Int) (by omega) (by omega) (by rw [hb]; omega) (by omega)
  rw [hr, hs]
  simp only [Int.toNat_natCast, Nat.mul_one]
  rw [show (Value.int .u8 0).cells = #[Value.int .u8 0] from rfl]
  have e : madeCells #[Value.int .u8 0] n = bv (zb n) := by
    apply Array.ext_getElem?
    intro i
    by_cases h : i < n
    · simp [madeCells, bv, zb, h, Nat.mod_one]; rfl
    · simp [madeCells, bv, zb, h]
  rw [e]
/-- a slice that is long enough, as an array -/
theorem run_arrayAt3 {P : Program} (w : World) (t n e : Nat) (h : P.underlying t = some (.array n e)) (a : Option Addr) (m c : Nat) (hl : n ≤ m) : (Instr.arrayAt t (.slice a m c)).run P w = .ok (.pointer a) w := by
  have hm : ¬ m < n := by omega
  simp [Instr.arrayAt, run_underlying h, hm]
end Go.Proofs.YthookcnkmlmgcaaGreatDoor
namespace Go.Proofs.YthookcnkmlmgcaaGreatDoor
open Go Go.RowKit
set_option maxRecDepth 4000

/-- a code as an error -/
abbrev err (n : Int) : Value := .iface 32 (.int .i64 n)
theorem code_eqIn {P : Program} (w : World) (d : Nat) {u t : TypeId} {ms : Array (String × TypeId)} {i : TypeInfo} {k : IntKind} (x y : Int) (hu : P.underlying u = some (.interface ms)) (ht : P.underlying t = some (.int k)) (hi : P.info? t = some i) (hc : i.comparable = true) :
    (Op.equalIn (d + 2) u (.iface t (.int k x)) (.iface t (.int k y))).run P w = .ok (x == y) w := by
  simp [Op.equalIn, run_underlying hu, run_underlying ht, typeInfo, hi, hc]
theorem code_eq0 {P : Program} (w : World) {u t : TypeId} {ms : Array (String × TypeId)} {i : TypeInfo} {k : IntKind} (x y : Int) (hu : P.underlying u = some (.interface ms)) (ht : P.underlying t = some (.int k)) (hi : P.info? t = some i) (hc : i.comparable = true) :
    (binOp .eql u (.iface t (.int k x)) (.iface t (.int k y))).run P w = .ok (.bool (x == y)) w := by
  simp only [binOp]
  simp [Op.equal, Op.maxDepth, code_eqIn w 9998 x y hu ht hi hc]
theorem code_eq (a b : Int) (w : World) : (binOp .eql 27 (.iface 32 (.int .i64 a)) (.iface 32 (.int .i64 b))).run Tryz.prog w = .ok (.bool (a == b)) w := by
  have hi : ((Tryz.prog.info? 32).map (·.comparable)) = some true := by kernel_rfl
  have hu : (match Tryz.prog.underlying 27 with | some (.interface _) => true | _ => false) = true := by kernel_rfl
  cases hq : Tryz.prog.info? 32 with
  | none => simp [hq] at hi
  | some i =>
    have hc : i.comparable = true := by simpa [hq] using hi
    cases hd : Tryz.prog.underlying 27 with
    | none => simp [hd] at hu
    | some d =>
      cases d with
      | interface ms => exact code_eq0 w a b hd Tryz.underlying32 hq hc
      | _ => simp [hd] at hu

end Go.Proofs.YthookcnkmlmgcaaGreatDoor
namespace Go.Proofs.YthookcnkmlmgcaaGreatDoor
open Go Go.RowKit
set_option maxRecDepth 4000

/-- a later world, in which of the elder blocks those of G alone may have turned -/
structure Mds (G : List Nat) (w w' : World) : Prop where
  os : w'.os = w.os
  tape : w'.tape = w.tape
  output : w'.output = w.output
  size : w.heap.size ≤ w'.heap.size
  block : ∀ k, k < w.heap.size → k ∉ G → w'.heap[k]? = w.heap[k]?
section
variable {G G' : List Nat} {w w' w'' w0 : World}
@[go_sem] theorem Mds.refl (G : List Nat) (w : World) : Mds G w w := ⟨rfl, rfl, rfl, Nat.le_refl _, fun _ _ _ => rfl⟩
theorem Mds.trans (h : Mds G w w') (k : Mds G w' w'') : Mds G w w'' :=
  ⟨k.os.trans h.os, k.tape.trans h.tape, k.output.trans h.output, Nat.le_trans h.size k.size, fun i hi hg => (k.block i (Nat.lt_of_lt_of_le hi h.size) hg).trans (h.block i hi hg)⟩
theorem Mds.mono (h : Mds G w w') (hG : ∀ k, k ∈ G → k ∈ G') : Mds G' w w' := ⟨h.os, h.tape, h.output, h.size, fun k hk hg => h.block k hk fun e => hg (hG k e)⟩
/-- .. or may lie behind the first world -/
theorem Mds.fit (h : Mds G w w') (hG : ∀ k, k ∈ G → k ∈ G' ∨ w.heap.size ≤ k) : Mds G' w w' := ⟨h.os, h.tape, h.output, h.size, fun k hk hg => h.block k hk fun e => by
  rcases hG k e with h1 | h1
  · exact hg h1
  · omega⟩
theorem Ext.mds (h : Ext w w') (G : List Nat) : Mds G w w' := ⟨h.b.os, h.b.tape, h.b.output, h.b.size, fun k hk _ => h.b.block k hk⟩
theorem Mds.drew (h : Mds G w w') : Mds G w w'.drew := ⟨h.os, h.tape, h.output, h.size, h.block⟩
theorem Mds.alloc (h : Mds G w w') (o : Obj) : Mds G w (w'.alloc o) := h.trans (((by (repeat (first | assumption | exact Ext.refl _ | apply Ext.drew | apply Ext.drewN | apply Ext.alloc | refine Ext.trans ?_ (by assumption))); first | done | fail) : Ext w' (w'.alloc o)).mds G)
theorem Mds.setCell (h : Mds G w w') {p : Addr} (hp : p.block ∈ G) (v : Value) : Mds G w (w'.setCell p v) :=
  h.trans ⟨rfl, rfl, rfl, by simp [World.setCell], fun k _ hg => Below.heap_setCell _ _ _ _ fun e => hg (e ▸ hp)⟩
theorem Mds.setRow (h : Mds G w w') {g : Nat} (hp : g ∈ G) (cs : Array Value) : Mds G w (w'.setRow g cs) :=
  h.trans ⟨rfl, rfl, rfl, by simp, fun k _ hg => setRow_other w' g k cs (fun e => hg (e ▸ hp))⟩
theorem Mds.ext (h : Mds G w w') (hx : Ext w0 w) (hG : ∀ k, k ∈ G → w0.heap.size ≤ k) : Ext w0 w' :=
  ⟨⟨h.os.trans hx.b.os, h.tape.trans hx.b.tape, h.output.trans hx.b.output, Nat.le_trans hx.size h.size, fun k hk => (h.block k (Nat.lt_of_lt_of_le hk hx.size) fun e => by have := hG k e; omega).trans (hx.b.block k hk)⟩⟩
theorem Blk.mds {g : Nat} {t : TypeId} {cs : Array Value} (h : Blk w g t cs) (hm : Mds G w w') (hg : g ∉ G) : Blk w' g t cs := ⟨(hm.block g h.lt hg).trans h.h⟩
theorem Blk.set_ {g : Nat} {t : TypeId} {cs : Array Value} (h : Blk w g t cs) (i : Nat) (u : Value) : Blk (w.setCell ⟨g, i, none⟩ u) g t (cs.setIfInBounds i u) := ⟨h.h.set i u⟩
theorem Blk.cell {g : Nat} {t : TypeId} {cs : Array Value} (h : Blk w g t cs) (hx : Ext w w') (i : Nat) : w'.cell? ⟨g, i, none⟩ = cs[i]? := (h.ext hx).h.cell i
theorem Blk.free {g : Nat} {t : TypeId} {cs : Array Value} (h : Blk w g t cs) (hx : Ext w w') (i : Nat) : w'.frozen? ⟨g, i, none⟩ = false := (h.ext hx).h.frozen i
end
/-- a block of one type is none of another -/
theorem blk_ne {w : World} {g g' t t' : Nat} {cs cs' : Array Value} {f f' : Nat × Nat} (h : w.heap[g]? = some (.cells cs t f)) (h' : w.heap[g']? = some (.cells cs' t' f')) (ht : t ≠ t') : g ≠ g' := fun e => by
  subst e
  rw [h] at h'
  have := Option.some.inj h'
  injection this with h1 h2
  exact ht h2
/-- the block that a slice of the call's own lies in -/
def fpv (v : Value) : List Nat := v.ownBlock.toList
theorem mem_fpv {v : Value} {k : Nat} : k ∈ fpv v ↔ v.ownBlock = some k := by
  unfold fpv
  simp
section
variable {α : Type} {T : TypeId} {e : α → Value} {G : List Nat} {w w' : World} {A : Option Addr} {B n c : Nat} {v : Value} {l : List α}
theorem Rw.mds (h : Rw T e w B v n l) (hm : Mds G w w') (ho : ∀ k, k ∈ fpv v → k ∉ G) : Rw T e w' B v n l := by
  refine ⟨h.o.1, ?_⟩
  rcases h.o.2 with h2 | ⟨g, cap, cur, h1, h3, h4, h5⟩
  · exact .inl h2
  · refine .inr ⟨g, cap, cur, h1, h3, (hm.block g (Array.getElem?_eq_some_iff.1 h4).1 (ho g ?_)).trans h4, h5⟩
    subst h1; simp [fpv, Value.ownBlock]
/-- the block's type is the row's -/
theorem Rw.ne {g t : Nat} {cs : Array Value} (h : Rw T e w B v n l) (hb : Blk w g t cs) (ht : T ≠ t) : g ∉ fpv v := fun hk => by
  rw [mem_fpv] at hk
  rcases h.o.2 with ⟨h2, _⟩ | ⟨g', cap, cur, h1, h3, h4, h5⟩
  · subst h2; simp [Value.ownBlock] at hk
  · subst h1
    have e1 : g' = g := by simpa [Value.ownBlock] using hk
    exact blk_ne h4 hb.h ht e1
theorem Rw.apart {β : Type} {T' : TypeId} {e' : β → Value} {B' n' : Nat} {v' : Value} {l' : List β} (h : Rw T e w B v n l) (h' : Rw T' e' w B' v' n' l') (ht : T ≠ T') : ∀ k, k ∈ fpv v → k ∉ fpv v' := fun k hk hk' => by
  rw [mem_fpv] at hk hk'
  rcases h.o.2 with ⟨h2, _⟩ | ⟨g, cap, cur, h1, h3, h4, h5⟩
  · subst h2; simp [Value.ownBlock] at hk
  · rcases h'.o.2 with ⟨h2, _⟩ | ⟨g', cap', cur', h1', h3', h4', h5'⟩
    · subst h2; simp [Value.ownBlock] at hk'
    · subst h1 h1'
      have e1 : g = k := by simpa [Value.ownBlock] using hk
      have e2 : g' = k := by simpa [Value.ownBlock] using hk'
      exact blk_ne h4 h4' ht (e1.trans e2.symm)
theorem Rw.fp_lt (h : Rw T e w B v n l) : ∀ k, k ∈ fpv v → k < w.heap.size := fun k hk => h.lt k (mem_fpv.1 hk)
end
theorem Own.rw {w : World} {B n : Nat} {v : Value} {l : List (BitVec 8)} (h : Own w B v n l) : Rw 5 vb w B v n l := ⟨h.o⟩
theorem Rw.own {w : World} {B n : Nat} {v : Value} {l : List (BitVec 8)} (h : Rw 5 vb w B v n l) : Own w B v n l := ⟨h.o⟩
/-- an append turns the row's own block alone -/
theorem Apd.mds {w w' : World} {v v' : Value} (h : Apd w w' v v') : Mds (fpv v) w w' := by
  refine ⟨h.grown.os, h.grown.tape, h.grown.output, h.grown.size, fun k hk hg => h.grown.block k hk fun e => hg (mem_fpv.2 e.symm)⟩
theorem Apd.fp {w w' : World} {v v' : Value} (h : Apd w w' v v') : ∀ k, k ∈ fpv v' → k ∈ fpv v ∨ w.heap.size ≤ k := fun k hk => by
  rw [mem_fpv] at hk ⊢
  rcases h.at_ with e | e
  · exact .inl (e ▸ hk)
  · right
    rw [hk] at e
    have := Option.some.inj e
    omega
/-- what a call does that turns a thing of these blocks, which lies in those then -/
structure Mvs (G G' : List Nat) (w w' : World) : Prop where
  m : Mds G w w'
  f : ∀ k, k ∈ G' → k ∈ G ∨ w.heap.size ≤ k
/-- two things lie apart -/
def Ap (G H : List Nat) : Prop := ∀ k, k ∈ G → k ∉ H
/-- it lies behind -/
def Lo (b : Nat) (G : List Nat) : Prop := ∀ k, k ∈ G → b ≤ k
def Hi (w : World) (G : List Nat) : Prop := ∀ k, k ∈ G → k < w.heap.size
section
variable {G G' G'' H : List Nat} {w w' w'' w0 : World} {b : Nat}
theorem Ap.symm (h : Ap G H) : Ap H G := fun k h1 h2 => h k h2 h1
theorem Ap.of_lo (h : Lo w.heap.size G) (h' : Hi w H) : Ap G H := fun k h1 h2 => by have := h k h1; have := h' k h2; omega
theorem Mvs.refl (G : List Nat) (w : World) : Mvs G G w w := ⟨Mds.refl _ _, fun _ h => .inl h⟩
theorem Mvs.of_ext (h : Ext w w') (G : List Nat) : Mvs G G w w' := ⟨h.mds _, fun _ h => .inl h⟩
theorem Mvs.trans (h : Mvs G G' w w') (h' : Mvs G' G'' w' w'') : Mvs G G'' w w'' := by
  refine ⟨⟨h'.m.os.trans h.m.os, h'.m.tape.trans h.m.tape, h'.m.output.trans h.m.output, Nat.le_trans h.m.size h'.m.size, fun k hk hg => (h'.m.block k (Nat.lt_of_lt_of_le hk h.m.size) fun hk' => ?_).trans (h.m.block k hk hg)⟩, fun k hk => ?_⟩
  · rcases h.f k hk' with e | e
    · exact hg e
    · omega
  · rcases h'.f k hk with e | e
    · exact h.f k e
    · exact .inr (Nat.le_trans h.m.size e)
theorem Mvs.pre (h : Ext w w') (h' : Mvs G G' w' w'') : Mvs G G' w w'' := (Mvs.of_ext h G).trans h'
theorem Mvs.post (h : Mvs G G' w w') (h' : Ext w' w'') : Mvs G G' w w'' := h.trans (Mvs.of_ext h' G')
theorem Mvs.ext (h : Mvs G G' w w') (hx : Ext w0 w) (hG : Lo w0.heap.size G) : Ext w0 w' := h.m.ext hx hG
theorem Mvs.lo (h : Mvs G G' w w') (hb : b ≤ w.heap.size) (hG : Lo b G) : Lo b G' := fun k hk => by
  rcases h.f k hk with e | e
  · exact hG k e
  · exact Nat.le_trans hb e
theorem Mvs.ap (h : Mvs G G' w w') (hH : Hi w H) (ha : Ap G H) : Ap G' H := fun k hk hk' => by
  rcases h.f k hk with e | e
  · exact ha k e hk'
  · have := hH k hk'; omega
theorem Hi.mono (h : Hi w H) (hs : w.heap.size ≤ w'.heap.size) : Hi w' H := fun k hk => Nat.lt_of_lt_of_le (h k hk) hs
theorem Lo.mono {b' : Nat} (h : Lo b G) (hb : b' ≤ b) : Lo b' G := fun k hk => Nat.le_trans hb (h k hk)
end
/-- bytes appended onto a row that lies anywhere -/
theorem wp_append_m {w : World} {o : Oper} {a : Act} {K : Act → World → Prop} {Q : Exit → Act → World → Prop} (s x : Operand)
    (ho : o.op = .call { callee := .builtin .append, args := #[s, x], argTypes := #[22, 22] })
    (v : Value) (n : Nat) (l1 : List (BitVec 8)) (hs : a.eval s = v) (hown : Own w 0 v n l1)
    (A : Option Addr) (m c : Nat) (l2 : List (BitVec 8)) (hx : a.eval x = .slice A m c) (hl : Bs w A m c l2)
    (h47 : n + m ≤ 140737488355328) (N : Nat) (hN : n + m = N) (L : List (BitVec 8)) (hL : l1 ++ l2 = L)
    (h : ∀ A' c' w', Own w' 0 (.slice A' N c') N L → Apd w w' v (.slice A' N c') → K (a.put o.dst (.slice A' N c')) w') : o.wp Tryz.prog a w K Q := by
  subst hN hL
  obtain ⟨A', c', w', hr, h2, h3⟩ := run_append_bs o.type hown hl h47 (Nat.zero_le _)
  unfold Oper.wp
  simp [execOp, ho, resolve, invoke, builtin, hs, hx, hr, Result.andThen]
  exact h A' c' w' h2 h3
theorem wpList_append_m {w : World} {ops : Array Oper} {rest : List Oper} {o : Oper} {a : Act} {Q : Exit → Act → World → Prop} (hgd : o.guard = none) (s x : Operand)
    (ho : o.op = .call { callee := .builtin .append, args := #[s, x], argTypes := #[22, 22] })
    (v : Value) (n : Nat) (l1 : List (BitVec 8)) (hs : a.eval s = v) (hown : Own w 0 v n l1)
    (A : Option Addr) (m c : Nat) (l2 : List (BitVec 8)) (hx : a.eval x = .slice A m c) (hl : Bs w A m c l2)
    (h47 : n + m ≤ 140737488355328) (N : Nat) (hN : n + m = N) (L : List (BitVec 8)) (hL : l1 ++ l2 = L)
    (h : ∀ A' c' w', Own w' 0 (.slice A' N c') N L → Apd w w' v (.slice A' N c') → wpList Tryz.prog ops Q rest (a.put o.dst (.slice A' N c')) w') : wpList Tryz.prog ops Q (o :: rest) a w :=
  wpList_plain hgd fun _ hK => wp_append_m s x ho v n l1 hs hown A m c l2 hx hl h47 N hN L hL fun A' c' w' h1 h2 => hK _ _ (h A' c' w' h1 h2)
/-- elements of one cell appended onto a row that lies anywhere -/
theorem wp_append_r {P : Program} {α : Type} {T : TypeId} {e : α → Value} (t : TypeId) (z : Value) (bytes : Nat) (ht : P.underlying t = some (.slice T)) (hi : (P.info? T).map (fun i => (i.zero, i.size, i.bytes)) = some (some z, 1, bytes))
    (hz : z.cells.size = 1) (hb0 : 0 < bytes) (he : ∀ x, (e x).oneCell' = true)
    {w : World} {o : Oper} {a : Act} {K : Act → World → Prop} {Q : Exit → Act → World → Prop} (s x : Operand)
    (ho : o.op = .call { callee := .builtin .append, args := #[s, x], argTypes := #[t, t] })
    (v : Value) (n : Nat) (l1 : List α) (hs : a.eval s = v) (hown : Rw T e w 0 v n l1)
    (A : Option Addr) (m c : Nat) (l2 : List α) (hx : a.eval x = .slice A m c) (hl : Rd e w A m c l2)
    (h47 : (n + m) * bytes ≤ 140737488355328) (N : Nat) (hN : n + m = N) (L : List α) (hL : l1 ++ l2 = L)
    (h : ∀ A' c' w', Rw T e w' 0 (.slice A' N c') N L → Apd w w' v (.slice A' N c') → K (a.put o.dst (.slice A' N c')) w') : o.wp P a w K Q := by
  subst hN hL
  obtain ⟨A', c', w', hr, h2, h3⟩ := run_append_rd t o.type z bytes ht hi hz hb0 he hown hl h47 (Nat.zero_le _)
  unfold Oper.wp
  simp [execOp, ho, resolve, invoke, builtin, hs, hx, hr, Result.andThen]
  exact h A' c' w' h2 h3
theorem wpList_append_r {P : Program} {α : Type} {T : TypeId} {e : α → Value} (t : TypeId) (z : Value) (bytes : Nat) (ht : P.underlying t = some (.slice T)) (hi : (P.info? T).map (fun i => (i.zero, i.size, i.bytes)) = some (some z, 1, bytes))
    (hz : z.cells.size = 1) (hb0 : 0 < bytes) (he : ∀ x, (e x).oneCell' = true)
    {w : World} {ops : Array Oper} {rest : List Oper} {o : Oper} {a : Act} {Q : Exit → Act → World → Prop} (hgd : o.guard = none) (s x : Operand)
    (ho : o.op = .call { callee := .builtin .append, args := #[s, x], argTypes := #[t, t] })
    (v : Value) (n : Nat) (l1 : List α) (hs : a.eval s = v) (hown : Rw T e w 0 v n l1)
    (A : Option Addr) (m c : Nat) (l2 : List α) (hx : a.eval x = .slice A m c) (hl : Rd e w A m c l2)
    (h47 : (n + m) * bytes ≤ 140737488355328) (N : Nat) (hN : n + m = N) (L : List α) (hL : l1 ++ l2 = L)
    (h : ∀ A' c' w', Rw T e w' 0 (.slice A' N c') N L → Apd w w' v (.slice A' N c') → wpList P ops Q rest (a.put o.dst (.slice A' N c')) w') : wpList P ops Q (o :: rest) a w :=
  wpList_plain hgd fun _ hK => wp_append_r t z bytes ht hi hz hb0 he s x ho v n l1 hs hown A m c l2 hx hl h47 N hN L hL fun A' c' w' h1 h2 => hK _ _ (h A' c' w' h1 h2)
theorem Apd.mv {w w' : World} {v v' : Value} (h : Apd w w' v v') : Mvs (fpv v) (fpv v') w w' := ⟨h.mds, h.fp⟩
/-- bytes that lie in none of the blocks that turn -/
def Off (A : Option Addr) (n : Nat) (G : List Nat) : Prop := ∀ ad, 0 < n → A = some ad → ad.block ∉ G
theorem Bs.mds {w w' : World} {A : Option Addr} {n c : Nat} {l : List (BitVec 8)} {G : List Nat} (h : Bs w A n c l) (hm : Mds G w w') (ho : Off A n G) : Bs w' A n c l := by
  obtain ⟨h1, h2, h3, h4⟩ := h.s
  refine ⟨⟨h1, h2, h3, fun hn => ?_⟩⟩
  obtain ⟨g, o, rfl, hc⟩ := h4 hn
  exact ⟨g, o, rfl, fun j hj => (World.cell?_of_block (w := w) (a := ⟨g, o + j, none⟩) (hm.block g (block_lt_of_cell (hc j hj)) (ho _ hn rfl))).trans (hc j hj)⟩
/-- what was there lies not in what was made since -/
theorem Bs.off {w : World} {A : Option Addr} {n c : Nat} {l : List (BitVec 8)} {G : List Nat} (h : Bs w A n c l) (hG : Lo w.heap.size G) : Off A n G := fun ad hn e hk => by
  obtain ⟨g, o, e2, hc⟩ := h.s.2.2.2 hn
  rw [e] at e2
  cases e2
  have h1 : g < w.heap.size := block_lt_of_cell (hc 0 hn)
  have := hG g hk
  omega
theorem Off.mv {G G' : List Nat} {w w' : World} {A : Option Addr} {n c : Nat} {l : List (BitVec 8)} (h : Off A n G) (hb : Bs w A n c l) (hm : Mvs G G' w w') : Off A n G' := fun ad hn e hk => by
  rcases hm.f _ hk with h1 | h1
  · exact h ad hn e h1
  · obtain ⟨g, o, e2, hc⟩ := hb.s.2.2.2 hn
    rw [e] at e2
    cases e2
    have h2 : g < w.heap.size := block_lt_of_cell (hc 0 hn)
    simp only at h1
    omega
/-- a row's own bytes lie in its block alone -/
theorem Own.off {w : World} {B n c : Nat} {A : Option Addr} {l : List (BitVec 8)} {G : List Nat} (h : Own w B (.slice A n c) n l) (hG : Ap (fpv (.slice A n c)) G) : Off A n G := fun ad hn e => by
  obtain ⟨g, e2, _, _⟩ := h.some_ hn
  rw [e] at e2
  cases e2
  exact hG g (by rw [mem_fpv, e]; rfl)
theorem one_three (A B D : Option Addr) (n c m d k f : Nat) : (#[Value.slice A n c, Value.slice B m d, Value.slice D k f]).all (·.oneCell') = true := by simp [Value.oneCell']
/-- a result that lies in a block known whole, another beside it -/
theorem results_cell_row2 {P : Program} {fn : Func} {p u : Tmp} {ty : TypeId} (h : fn.results = #[.cell p ty, .tmp u]) (tmps : Array Value) (w : World) (g : Nat) (t : TypeId) (cs : Array Value) (v : Value) (d : TypeDesc)
    (hp : tmps.getD p undef = .pointer (some ⟨g, 0, none⟩)) (hv : tmps.getD u undef = v) (hg : Blk w g t cs)
    (hu : P.underlying ty = some d) (hd : (match d with | .struct _ | .array _ _ => true | _ => false) = true) (hi : (P.info? ty).map (·.size) = some cs.size) :
    (results fn tmps).run P w = .ok (.tuple #[.agg cs, v]) w := by
  rw [results_cell_tmp h, hp, hv]
  simp [asAddr, run_loadVar_row w g t ty cs (0, 0) d hg.h hu hd hi, Result.andThen]
end Go.Proofs.YthookcnkmlmgcaaGreatDoor
