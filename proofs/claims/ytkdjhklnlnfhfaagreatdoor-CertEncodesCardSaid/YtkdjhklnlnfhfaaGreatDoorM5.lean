/-
  Slices of any elements that are one cell each: what reads as a list; rows of the call's own; append.
  Errors that are codes, compared.
  Worlds in which some blocks alone have turned; things of a call's own that are written in place: what lies in other blocks stays.
  tlv: is a byte a mark; Head. The reference's Mark, IsWhole, Head, Element. Codes of errors.
-/
import Derived.Test.YtkdjhklnlnfhfaaGreatDoorM1
import Derived.Laws.ResultCell
import Derived.Test.YtkdjhklnlnfhfaaGreatDoorM4
namespace Go.Proofs.YtkdjhklnlnfhfaaGreatDoor
open Go Go.RowKit
set_option maxRecDepth 4000

theorem ow_ext {w w' : World} {B e s n : Nat} {v : Value} {xs : List Value} (h : w.ownsRow B e s v n xs) (hx : Ext w w') : w'.ownsRow B e s v n xs := by
  refine ⟨h.1, ?_⟩
  rcases h.2 with h2 | ⟨g, cap, cur, h1, h3, h4, h5⟩
  · exact .inl h2
  · exact .inr ⟨g, cap, cur, h1, h3, (hx.b.block g (Array.getElem?_eq_some_iff.1 h4).1).trans h4, h5⟩
theorem ow_lower {w : World} {B B' e s n : Nat} {v : Value} {xs : List Value} (h : w.ownsRow B e s v n xs) (hB : B' ≤ B) : w.ownsRow B' e s v n xs := by
  refine ⟨h.1, ?_⟩
  rcases h.2 with h2 | ⟨g, cap, cur, h1, h3, h4⟩
  · exact .inl h2
  · exact .inr ⟨g, cap, cur, h1, Nat.le_trans hB h3, h4⟩
/-- a slice that reads as a list of elements -/
structure Rd {α : Type} (e : α → Value) (w : World) (A : Option Addr) (n c : Nat) (l : List α) : Prop where
  len : l.length = n
  cap : n ≤ c
  nul : A = none → n = 0 ∧ c = 0
  at_ : 0 < n → ∃ g o, A = some ⟨g, o, none⟩ ∧ ∀ (j : Nat) (x : α), l[j]? = some x → w.cell? ⟨g, o + j, none⟩ = some (e x)
/-- a row of elements of the call's own: in blocks from B on -/
structure Rw {α : Type} (T : TypeId) (e : α → Value) (w : World) (B : Nat) (v : Value) (n : Nat) (l : List α) : Prop where
  o : w.ownsRow B T 1 v n (l.map e)
section
variable {α : Type} {T : TypeId} {e : α → Value} {w w' : World} {A : Option Addr} {B B' n c : Nat} {v : Value} {l : List α}
theorem Rd.ext (h : Rd e w A n c l) (hx : Ext w w') : Rd e w' A n c l := by
  refine ⟨h.len, h.cap, h.nul, fun hn => ?_⟩
  obtain ⟨g, o, ea, hc⟩ := h.at_ hn
  exact ⟨g, o, ea, fun j x hj => (hx.b.cell (p := ⟨g, o + j, none⟩) (block_lt_of_cell (hc j x hj))).trans (hc j x hj)⟩
theorem Rd.take (h : Rd e w A n c l) (k : Nat) (hk : k ≤ n) : Rd e w A k c (l.take k) := by
  have hl := h.len
  refine ⟨by rw [List.length_take]; omega, by have := h.cap; omega, fun ea => by have := h.nul ea; omega, fun hn => ?_⟩
  obtain ⟨g, o, ea, hc⟩ := h.at_ (by omega)
  refine ⟨g, o, ea, fun j x hj => hc j x ?_⟩
  rw [List.getElem?_take] at hj
  split at hj
  · exact hj
  · cases hj
theorem Rd.nil (w : World) : Rd e w none 0 0 [] := ⟨rfl, Nat.le_refl _, fun _ => ⟨rfl, rfl⟩, fun h => absurd h (Nat.lt_irrefl 0)⟩
theorem Rw.ext (h : Rw T e w B v n l) (hx : Ext w w') : Rw T e w' B v n l := ⟨ow_ext h.o hx⟩
theorem Rw.lower (h : Rw T e w B v n l) (hB : B' ≤ B) : Rw T e w B' v n l := ⟨ow_lower h.o hB⟩
theorem Rw.len (h : Rw T e w B v n l) : l.length = n := by have := h.o.1; simpa using this
theorem Rw.base (h : Rw T e w B v n l) (k : Nat) (hk : v.ownBlock = some k) : B ≤ k := by
  rcases h.o.2 with ⟨rfl, _⟩ | ⟨g, cap, cur, rfl, h3, _⟩
  · simp [Value.ownBlock] at hk
  · simp [Value.ownBlock] at hk; omega
theorem Rw.lt (h : Rw T e w B v n l) (k : Nat) (hk : v.ownBlock = some k) : k < w.heap.size := by
  rcases h.o.2 with ⟨rfl, _⟩ | ⟨g, cap, cur, rfl, _, h4, _⟩
  · simp [Value.ownBlock] at hk
  · simp [Value.ownBlock] at hk
    subst hk
    exact (Array.getElem?_eq_some_iff.1 h4).1
theorem Rw.nil (w : World) (B : Nat) : Rw T e w B (.slice none 0 0) 0 [] := ⟨rfl, .inl ⟨rfl, rfl⟩⟩
theorem Rw.form (h : Rw T e w B v n l) : ∃ A c, v = .slice A n c := by
  rcases h.o.2 with ⟨e1, e2⟩ | ⟨g, cap, cur, e1, _⟩
  · exact ⟨none, 0, by rw [e1, e2]⟩
  · exact ⟨_, _, e1⟩
theorem Rw.some_ (h : Rw T e w B (.slice A n c) n l) (hn : 0 < n) : ∃ g, A = some ⟨g, 0, none⟩ ∧ B ≤ g ∧ g < w.heap.size := by
  rcases h.o.2 with ⟨_, e1⟩ | ⟨g, cap, cur, e1, h3, h4, _⟩
  · omega
  · cases e1; exact ⟨g, rfl, h3, (Array.getElem?_eq_some_iff.1 h4).1⟩
theorem Rw.cell {g : Nat} (h : Rw T e w B (.slice (some ⟨g, 0, none⟩) n c) n l) (j : Nat) (x : α) (hj : l[j]? = some x) : w.cell? ⟨g, j, none⟩ = some (e x) := by
  have hl := h.len
  have hjl : j < l.length := (List.getElem?_eq_some_iff.1 hj).1
  refine (h.o.cellAt j (by omega)).trans ?_
  rw [List.getElem?_map, hj]
  rfl
theorem Rw.free {g : Nat} (h : Rw T e w B (.slice (some ⟨g, 0, none⟩) n c) n l) (j : Nat) : w.frozen? ⟨g, j, none⟩ = false := h.o.frozenAt j
theorem Rw.rd (h : Rw T e w B (.slice A n c) n l) : Rd e w A n c l := by
  have hl := h.len
  have hb : n ≤ c ∧ (A = none → n = 0 ∧ c = 0) := by
    rcases h.o.2 with ⟨e1, e2⟩ | ⟨g, cap, cur, e1, _, _, h5, _⟩
    · injection e1 with e3 e4 e5
      subst e5
      exact ⟨by omega, fun _ => ⟨e2, rfl⟩⟩
    · injection e1 with e3 e4 e5
      subst e5 e3
      exact ⟨h5, fun e6 => by cases e6⟩
  refine ⟨hl, hb.1, hb.2, fun hn => ?_⟩
  obtain ⟨g, rfl, _, _⟩ := h.some_ hn
  exact ⟨g, 0, rfl, fun j x hj => by rw [Nat.zero_add]; exact h.cell j x hj⟩
theorem Rw.set {g : Nat} (h : Rw T e w B (.slice (some ⟨g, 0, none⟩) n c) n l) (j : Nat) (x : α) : Rw T e (w.setCell ⟨g, j, none⟩ (e x)) B (.slice (some ⟨g, 0, none⟩) n c) n (l.set j x) := by
  have h7 := (h.o.stored j (e x)).1
  rw [show (l.map e).set j (e x) = (l.set j x).map e by simp [List.map_set]] at h7
  exact ⟨h7⟩
theorem Rw.grown (h : Rw T e w B v n l) {row : Option Nat} (hg : w.grownBy w' row) (hr : v.ownBlock = none ∨ v.ownBlock ≠ row) : Rw T e w' B v n l := by
  refine ⟨h.o.1, ?_⟩
  rcases h.o.2 with h2 | ⟨g, cap, cur, h1, h3, h4, h5⟩
  · exact .inl h2
  · refine .inr ⟨g, cap, cur, h1, h3, (hg.block g (Array.getElem?_eq_some_iff.1 h4).1 ?_).trans h4, h5⟩
    subst h1
    rcases hr with e1 | e1
    · simp [Value.ownBlock] at e1
    · simpa [Value.ownBlock] using e1
theorem Rw.has {g : Nat} (h : Has w g T (l.map e).toArray) (hl : l.length = n) (hB : B ≤ g) (hm : n ≤ maxLen) : Rw T e w B (.slice (some ⟨g, 0, none⟩) n n) n l := by
  subst hl
  refine ⟨⟨by simp, .inr ⟨g, l.length, (l.map e).toArray, rfl, hB, h, Nat.le_refl _, hm, by simp, ?_⟩⟩⟩
  rw [List.take_of_length_le (by simp)]
theorem Rw.take (h : Rw T e w B (.slice A n c) n l) {k : Nat} (hk : k ≤ n) : Rw T e w B (.slice A k c) k (l.take k) := by
  have hl := h.len
  refine ⟨by simp [hl]; omega, ?_⟩
  rcases h.o.2 with ⟨e1, e2⟩ | ⟨g, cap, cur, e1, h3, h4, h5, h6, h7, h8⟩
  · cases e1; exact .inl ⟨by rw [show k = 0 by omega], by omega⟩
  · cases e1
    refine .inr ⟨g, c, cur, rfl, h3, h4, by omega, h6, h7, ?_⟩
    rw [List.map_take, ← h8, List.take_take, Nat.mul_one, Nat.mul_one, Nat.min_eq_left hk]
theorem Apd.keep_rw {u : Value} (h : Apd w w' u v) {z : Value} {m : Nat} {k : List α} (hu : Rw T e w B z m k) (hd : Dj z u) : Rw T e w' B z m k := hu.grown h.grown hd
end
theorem Rw.far {α : Type} {T : TypeId} {e : α → Value} {w : World} {B n : Nat} {v : Value} {l : List α} (h : Rw T e w B v n l) {p : Addr} (hp : v.ownBlock ≠ some p.block) (u : Value) : Rw T e (w.setCell p u) B v n l := by
  refine ⟨h.o.1, ?_⟩
  rcases h.o.2 with h2 | ⟨g, cap, cur, h1, h3, h4, h5⟩
  · exact .inl h2
  · refine .inr ⟨g, cap, cur, h1, h3, (Below.heap_setCell w p u g (fun e1 => hp ?_)).trans h4, h5⟩
    subst h1; simp [Value.ownBlock, e1]
/-- the new cells that an append copies -/
theorem Rd.news {α : Type} {e : α → Value} {w : World} {A : Option Addr} {n c : Nat} {l : List α} (h : Rd e w A n c l) (hp : 0 < n) : ∃ ad, A = some ad ∧ ∀ j v, (l.map e)[j]? = some v → w.cell? (ad.add j) = some v := by
  obtain ⟨g, o, rfl, hc⟩ := h.at_ hp
  refine ⟨_, rfl, fun j v hv => ?_⟩
  have hadd : (⟨g, o, none⟩ : Addr).add j = ⟨g, o + j, none⟩ := by unfold Addr.add; split <;> simp_all
  rw [List.getElem?_map] at hv
  cases hx : l[j]? with
  | none => rw [hx] at hv; cases hv
  | some x =>
    rw [hx] at hv
    rw [hadd, hc j x hx]
    simpa using hv
theorem run_append_rd {P : Program} {α : Type} {T : TypeId} {e : α → Value} (t ty : TypeId) (z : Value) (bytes : Nat) (ht : P.underlying t = some (.slice T)) (hi : (P.info? T).map (fun i => (i.zero, i.size, i.bytes)) = some (some z, 1, bytes))
    (hz : z.cells.size = 1) (hb0 : 0 < bytes) (he : ∀ x, (e x).oneCell' = true) {w : World} {B : Nat} {v : Value} {n : Nat} {l1 : List α} (hown : Rw T e w B v n l1) {A : Option Addr} {m c : Nat} {l2 : List α} (hl : Rd e w A m c l2)
    (h47 : (n + m) * bytes ≤ 140737488355328) (hBw : B ≤ w.heap.size) :
    ∃ A' c' w', (Builtin.append_ #[t, t] ty #[v, .slice A m c]).run P w = .ok (.slice A' (n + m) c') w' ∧ Rw T e w' B (.slice A' (n + m) c') (n + m) (l1 ++ l2) ∧ Apd w w' v (.slice A' (n + m) c') := by
  obtain ⟨i, hi0, hz0, hs1, hb⟩ := info_parts hi
  have hle : n + m ≤ (n + m) * bytes := Nat.le_mul_of_pos_right _ hb0
  cases A with
  | none =>
    obtain ⟨rfl, rfl⟩ := hl.nul rfl
    have hl0 : l2 = [] := List.eq_nil_of_length_eq_zero hl.len
    subst hl0
    obtain ⟨A', c', rfl⟩ := hown.form
    exact ⟨A', c', w, run_append_owned_none (P := P) (w := w) B t ty T i 1 ht hi0 _ n (l1.map e) hown.o, by simpa using hown, World.grownBy.refl w _, .inl rfl⟩
  | some ad =>
    obtain ⟨v', w', hr, h2, h3, _, h5⟩ := run_append_own_at (P := P) w B t ty T i z 1 bytes ht hi0 hz0 hs1 hb hz (by decide) v n (l1.map e) hown.o ad m c (l2.map e) (by simp [hl.len])
      (fun j u hu => by
        have hp : 0 < m := by
          have h6 := (List.getElem?_eq_some_iff.1 hu).1
          have h7 := hl.len
          rw [List.length_map] at h6
          omega
        obtain ⟨ad', e1, hc⟩ := hl.news hp
        cases e1
        exact hc j u hu)
      (fun u hu => by
        obtain ⟨x, _, rfl⟩ := List.mem_map.1 hu
        exact he x) (by unfold maxLen; omega) h47 hBw
    rw [← List.map_append] at h2
    obtain ⟨A', c', rfl⟩ := (Rw.mk h2).form
    exact ⟨A', c', w', hr, ⟨h2⟩, h3, h5⟩
theorem wp_append_rd {P : Program} {α : Type} {T : TypeId} {e : α → Value} (t : TypeId) (z : Value) (bytes : Nat) (ht : P.underlying t = some (.slice T)) (hi : (P.info? T).map (fun i => (i.zero, i.size, i.bytes)) = some (some z, 1, bytes))
    (hz : z.cells.size = 1) (hb0 : 0 < bytes) (he : ∀ x, (e x).oneCell' = true)
    {w : World} {o : Oper} {a : Act} {K : Act → World → Prop} {Q : Exit → Act → World → Prop} (s x : Operand)
    (ho : o.op = .call { callee := .builtin .append, args := #[s, x], argTypes := #[t, t] })
    (B : Nat) (v : Value) (n : Nat) (l1 : List α) (hs : a.eval s = v) (hown : Rw T e w B v n l1)
    (A : Option Addr) (m c : Nat) (l2 : List α) (hx : a.eval x = .slice A m c) (hl : Rd e w A m c l2)
    (h47 : (n + m) * bytes ≤ 140737488355328) (N : Nat) (hN : n + m = N) (L : List α) (hL : l1 ++ l2 = L) (w0 : World) (hx0 : Ext w0 w) (hB : w0.heap.size ≤ B) (hBw : B ≤ w.heap.size)
    (h : ∀ A' c' w', Rw T e w' B (.slice A' N c') N L → Ext w0 w' → Apd w w' v (.slice A' N c') → K (a.put o.dst (.slice A' N c')) w') : o.wp P a w K Q := by
  subst hN hL
  obtain ⟨A', c', w', hr, h2, h3⟩ := run_append_rd t o.type z bytes ht hi hz hb0 he hown hl h47 hBw
  unfold Oper.wp
  simp [execOp, ho, resolve, invoke, builtin, hs, hx, hr, Result.andThen]
  exact h A' c' w' h2 (hx0.grown h3.grown fun k hk => Nat.le_trans hB (hown.base k hk)) h3
theorem wpList_append_rd {P : Program} {α : Type} {T : TypeId} {e : α → Value} (t : TypeId) (z : Value) (bytes : Nat) (ht : P.underlying t = some (.slice T)) (hi : (P.info? T).map (fun i => (i.zero, i.size, i.bytes)) = some (some z, 1, bytes))
    (hz : z.cells.size = 1) (hb0 : 0 < bytes) (he : ∀ x, (e x).oneCell' = true)
    {w : World} {ops : Array Oper} {rest : List Oper} {o : Oper} {a : Act} {Q : Exit → Act → World → Prop} (hgd : o.guard = none) (s x : Operand)
    (ho : o.op = .call { callee := .builtin .append, args := #[s, x], argTypes := #[t, t] })
    (B : Nat) (v : Value) (n : Nat) (l1 : List α) (hs : a.eval s = v) (hown : Rw T e w B v n l1)
    (A : Option Addr) (m c : Nat) (l2 : List α) (hx : a.eval x = .slice A m c) (hl : Rd e w A m c l2)
    (h47 : (n + m) * bytes ≤ 140737488355328) (N : Nat) (hN : n + m = N) (L : List α) (hL : l1 ++ l2 = L) (w0 : World) (hx0 : Ext w0 w) (hB : w0.heap.size ≤ B) (hBw : B ≤ w.heap.size)
    (h : ∀ A' c' w', Rw T e w' B (.slice A' N c') N L → Ext w0 w' → Apd w w' v (.slice A' N c') → wpList P ops Q rest (a.put o.dst (.slice A' N c')) w') : wpList P ops Q (o :: rest) a w :=
  wpList_plain hgd fun _ hK => wp_append_rd t z bytes ht hi hz hb0 he s x ho B v n l1 hs hown A m c l2 hx hl h47 N hN L hL w0 hx0 hB hBw fun A' c' w' h1 h2 h3 => hK _ _ (h A' c' w' h1 h2 h3)
end Go.Proofs.YtkdjhklnlnfhfaaGreatDoor
namespace Go.Proofs.YtkdjhklnlnfhfaaGreatDoor
open Go Go.RowKit
set_option maxRecDepth 4000

/-- a code as an error -/
abbrev err (n : Int) : Value := .iface 42 (.int .i64 n)
theorem code_eqIn {P : Program} (w : World) (d : Nat) {u t : TypeId} {ms : Array (String × TypeId)} {i : TypeInfo} {k : IntKind} (x y : Int) (hu : P.underlying u = some (.interface ms)) (ht : P.underlying t = some (.int k)) (hi : P.info? t = some i) (hc : i.comparable = true) :
    (Op.equalIn (d + 2) u (.iface t (.int k x)) (.iface t (.int k y))).run P w = .ok (x == y) w := by
  simp [Op.equalIn, run_underlying hu, run_underlying ht, typeInfo, hi, hc]
theorem code_eq0 {P : Program} (w : World) {u t : TypeId} {ms : Array (String × TypeId)} {i : TypeInfo} {k : IntKind} (x y : Int) (hu : P.underlying u = some (.interface ms)) (ht : P.underlying t = some (.int k)) (hi : P.info? t = some i) (hc : i.comparable = true) :
    (binOp .eql u (.iface t (.int k x)) (.iface t (.int k y))).run P w = .ok (.bool (x == y)) w := by
  simp only [binOp]
  simp [Op.equal, Op.maxDepth, code_eqIn w 9998 x y hu ht hi hc]
theorem code_eq (a b : Int) (w : World) : (binOp .eql 37 (.iface 42 (.int .i64 a)) (.iface 42 (.int .i64 b))).run Tryz.prog w = .ok (.bool (a == b)) w := by
  have hi : ((Tryz.prog.info? 42).map (·.comparable)) = some true := by kernel_rfl
  have hu : (match Tryz.prog.underlying 37 with | some (.interface _) => true | _ => false) = true := by kernel_rfl
  cases hq : Tryz.prog.info? 42 with
  | none => simp [hq] at hi
  | some i =>
    have hc : i.comparable = true := by simpa [hq] using hi
    cases hd : Tryz.prog.underlying 37 with
    | none => simp [hd] at hu
    | some d =>
      cases d with
      | interface ms => exact code_eq0 w a b hd Tryz.underlying42 hq hc
      | _ => simp [hd] at hu

end Go.Proofs.YtkdjhklnlnfhfaaGreatDoor
namespace Go.Proofs.YtkdjhklnlnfhfaaGreatDoor
open Go Go.RowKit
set_option maxRecDepth 4000

/-- a later world, in which of the elder blocks those of G alone may have turned -/
structure Mds (G : List Nat) (w w' : World) : Prop where
  os : w'.os = w.os
  tape : w'.tape = w.tape
  output : w'.output = w.output
  size : w.heap.size ≤ w'.heap.size
  block : ∀ k, k < w.heap.size → k ∉ G → w'.heap[k]? = w.heap[k]?
section
variable {G G' : List Nat} {w w' w'' w0 : World}
@[go_sem] theorem Mds.refl (G : List Nat) (w : World) : Mds G w w := ⟨rfl, rfl, rfl, Nat.le_refl _, fun _ _ _ => rfl⟩
theorem Mds.trans (h : Mds G w w') (k : Mds G w' w'') : Mds G w w'' :=
  ⟨k.os.trans h.os, k.tape.trans h.tape, k.output.trans h.output, Nat.le_trans h.size k.size, fun i hi hg => (k.block i (Nat.lt_of_lt_of_le hi h.size) hg).trans (h.block i hi hg)⟩
theorem Mds.mono (h : Mds G w w') (hG : ∀ k, k ∈ G → k ∈ G') : Mds G' w w' := ⟨h.os, h.tape, h.output, h.size, fun k hk hg => h.block k hk fun e => hg (hG k e)⟩
/-- .. or may lie behind the first world -/
theorem Mds.fit (h : Mds G w w') (hG : ∀ k, k ∈ G → k ∈ G' ∨ w.heap.size ≤ k) : Mds G' w w' := ⟨h.os, h.tape, h.output, h.size, fun k hk hg => h.block k hk fun e => by
  rcases hG k e with h1 | h1
  · exact hg h1
  · omega⟩
theorem Ext.mds (h : Ext w w') (G : List Nat) : Mds G w w' := ⟨h.b.os, h.b.tape, h.b.output, h.b.size, fun k hk _ => h.b.block k hk⟩
theorem Mds.drew (h : Mds G w w') : Mds G w w'.drew := ⟨h.os, h.tape, h.output, h.size, h.block⟩
theorem Mds.alloc (h : Mds G w w') (o : Obj) : Mds G w (w'.alloc o) := h.trans (((by (repeat (first | assumption | exact Ext.refl _ | apply Ext.drew | apply Ext.drewN | apply Ext.alloc | refine Ext.trans ?_ (by assumption))); first | done | fail) : Ext w' (w'.alloc o)).mds G)
theorem Mds.setCell (h : Mds G w w') {p : Addr} (hp : p.block ∈ G) (v : Value) : Mds G w (w'.setCell p v) :=
  h.trans ⟨rfl, rfl, rfl, by simp [World.setCell], fun k _ hg => Below.heap_setCell _ _ _ _ fun e => hg (e ▸ hp)⟩
theorem Mds.setRow (h : Mds G w w') {g : Nat} (hp : g ∈ G) (cs : Array Value) : Mds G w (w'.setRow g cs) :=
  h.trans ⟨rfl, rfl, rfl, by simp, fun k _ hg => setRow_other w' g k cs (fun e => hg (e ▸ hp))⟩
theorem Mds.ext (h : Mds G w w') (hx : Ext w0 w) (hG : ∀ k, k ∈ G → w0.heap.size ≤ k) : Ext w0 w' :=
  ⟨⟨h.os.trans hx.b.os, h.tape.trans hx.b.tape, h.output.trans hx.b.output, Nat.le_trans hx.size h.size, fun k hk => (h.block k (Nat.lt_of_lt_of_le hk hx.size) fun e => by have := hG k e; omega).trans (hx.b.block k hk)⟩⟩
theorem Blk.mds {g : Nat} {t : TypeId} {cs : Array Value} (h : Blk w g t cs) (hm : Mds G w w') (hg : g ∉ G) : Blk w' g t cs := ⟨(hm.block g h.lt hg).trans h.h⟩
theorem Blk.set_ {g : Nat} {t : TypeId} {cs : Array Value} (h : Blk w g t cs) (i : Nat) (u : Value) : Blk (w.setCell ⟨g, i, none⟩ u) g t (cs.setIfInBounds i u) := ⟨h.h.set i u⟩
theorem Blk.cell {g : Nat} {t : TypeId} {cs : Array Value} (h : Blk w g t cs) (hx : Ext w w') (i : Nat) : w'.cell? ⟨g, i, none⟩ = cs[i]? := (h.ext hx).h.cell i
theorem Blk.free {g : Nat} {t : TypeId} {cs : Array Value} (h : Blk w g t cs) (hx : Ext w w') (i : Nat) : w'.frozen? ⟨g, i, none⟩ = false := (h.ext hx).h.frozen i
end
/-- a block of one type is none of another -/
theorem blk_ne {w : World} {g g' t t' : Nat} {cs cs' : Array Value} {f f' : Nat × Nat} (h : w.heap[g]? = some (.cells cs t f)) (h' : w.heap[g']? = some (.cells cs' t' f')) (ht : t ≠ t') : g ≠ g' := fun e => by
  subst e
  rw [h] at h'
  have := Option.some.inj h'
  injection this with h1 h2
  exact ht h2
/-- the block that a slice of the call's own lies in -/
def fpv (v : Value) : List Nat := v.ownBlock.toList
theorem mem_fpv {v : Value} {k : Nat} : k ∈ fpv v ↔ v.ownBlock = some k := by
  unfold fpv
  simp
section
variable {α : Type} {T : TypeId} {e : α → Value} {G : List Nat} {w w' : World} {A : Option Addr} {B n c : Nat} {v : Value} {l : List α}
theorem Rw.mds (h : Rw T e w B v n l) (hm : Mds G w w') (ho : ∀ k, k ∈ fpv v → k ∉ G) : Rw T e w' B v n l := by
  refine ⟨h.o.1, ?_⟩
  rcases h.o.2 with h2 | ⟨g, cap, cur, h1, h3, h4, h5⟩
  · exact .inl h2
  · refine .inr ⟨g, cap, cur, h1, h3, (hm.block g (Array.getElem?_eq_some_iff.1 h4).1 (ho g ?_)).trans h4, h5⟩
    subst h1; simp [fpv, Value.ownBlock]
/-- the block's type is the row's -/
theorem Rw.ne {g t : Nat} {cs : Array Value} (h : Rw T e w B v n l) (hb : Blk w g t cs) (ht : T ≠ t) : g ∉ fpv v := fun hk => by
  rw [mem_fpv] at hk
  rcases h.o.2 with ⟨h2, _⟩ | ⟨g', cap, cur, h1, h3, h4, h5⟩
  · subst h2; simp [Value.ownBlock] at hk
  · subst h1
    have e1 : g' = g := by simpa [Value.ownBlock] using hk
    exact blk_ne h4 hb.h ht e1
theorem Rw.apart {β : Type} {T' : TypeId} {e' : β → Value} {B' n' : Nat} {v' : Value} {l' : List β} (h : Rw T e w B v n l) (h' : Rw T' e' w B' v' n' l') (ht : T ≠ T') : ∀ k, k ∈ fpv v → k ∉ fpv v' := fun k hk hk' => by
  rw [mem_fpv] at hk hk'
  rcases h.o.2 with ⟨h2, _⟩ | ⟨g, cap, cur, h1, h3, h4, h5⟩
  · subst h2; simp [Value.ownBlock] at hk
  · rcases h'.o.2 with ⟨h2, _⟩ | ⟨g', cap', cur', h1', h3', h4', h5'⟩
    · subst h2; simp [Value.ownBlock] at hk'
    · subst h1 h1'
      have e1 : g = k := by simpa [Value.ownBlock] using hk
      have e2 : g' = k := by simpa [Value.ownBlock] using hk'
      exact blk_ne h4 h4' ht (e1.trans e2.symm)
theorem Rw.fp_lt (h : Rw T e w B v n l) : ∀ k, k ∈ fpv v → k < w.heap.size := fun k hk => h.lt k (mem_fpv.1 hk)
end
theorem Own.rw {w : World} {B n : Nat} {v : Value} {l : List (BitVec 8)} (h : Own w B v n l) : Rw 5 vb w B v n l := ⟨h.o⟩
theorem Rw.own {w : World} {B n : Nat} {v : Value} {l : List (BitVec 8)} (h : Rw 5 vb w B v n l) : Own w B v n l := ⟨h.o⟩
/-- an append turns the row's own block alone -/
theorem Apd.mds {w w' : World} {v v' : Value} (h : Apd w w' v v') : Mds (fpv v) w w' := by
  refine ⟨h.grown.os, h.grown.tape, h.grown.output, h.grown.size, fun k hk hg => h.grown.block k hk fun e => hg (mem_fpv.2 e.symm)⟩
theorem Apd.fp {w w' : World} {v v' : Value} (h : Apd w w' v v') : ∀ k, k ∈ fpv v' → k ∈ fpv v ∨ w.heap.size ≤ k := fun k hk => by
  rw [mem_fpv] at hk ⊢
  rcases h.at_ with e | e
  · exact .inl (e ▸ hk)
  · right
    rw [hk] at e
    have := Option.some.inj e
    omega
/-- what a call does that turns a thing of these blocks, which lies in those then -/
structure Mvs (G G' : List Nat) (w w' : World) : Prop where
  m : Mds G w w'
  f : ∀ k, k ∈ G' → k ∈ G ∨ w.heap.size ≤ k
/-- two things lie apart -/
def Ap (G H : List Nat) : Prop := ∀ k, k ∈ G → k ∉ H
/-- it lies behind -/
def Lo (b : Nat) (G : List Nat) : Prop := ∀ k, k ∈ G → b ≤ k
def Hi (w : World) (G : List Nat) : Prop := ∀ k, k ∈ G → k < w.heap.size
section
variable {G G' G'' H : List Nat} {w w' w'' w0 : World} {b : Nat}
theorem Ap.symm (h : Ap G H) : Ap H G := fun k h1 h2 => h k h2 h1
theorem Ap.of_lo (h : Lo w.heap.size G) (h' : Hi w H) : Ap G H := fun k h1 h2 => by have := h k h1; have := h' k h2; omega
theorem Mvs.refl (G : List Nat) (w : World) : Mvs G G w w := ⟨Mds.refl _ _, fun _ h => .inl h⟩
theorem Mvs.of_ext (h : Ext w w') (G : List Nat) : Mvs G G w w' := ⟨h.mds _, fun _ h => .inl h⟩
theorem Mvs.trans (h : Mvs G G' w w') (h' : Mvs G' G'' w' w'') : Mvs G G'' w w'' := by
  refine ⟨⟨h'.m.os.trans h.m.os, h'.m.tape.trans h.m.tape, h'.m.output.trans h.m.output, Nat.le_trans h.m.size h'.m.size, fun k hk hg => (h'.m.block k (Nat.lt_of_lt_of_le hk h.m.size) fun hk' => ?_).trans (h.m.block k hk hg)⟩, fun k hk => ?_⟩
  · rcases h.f k hk' with e | e
    · exact hg e
    · omega
  · rcases h'.f k hk with e | e
    · exact h.f k e
    · exact .inr (Nat.le_trans h.m.size e)
theorem Mvs.pre (h : Ext w w') (h' : Mvs G G' w' w'') : Mvs G G' w w'' := (Mvs.of_ext h G).trans h'
theorem Mvs.post (h : Mvs G G' w w') (h' : Ext w' w'') : Mvs G G' w w'' := h.trans (Mvs.of_ext h' G')
theorem Mvs.ext (h : Mvs G G' w w') (hx : Ext w0 w) (hG : Lo w0.heap.size G) : Ext w0 w' := h.m.ext hx hG
theorem Mvs.lo (h : Mvs G G' w w') (hb : b ≤ w.heap.size) (hG : Lo b G) : Lo b G' := fun k hk => by
  rcases h.f k hk with e | e
  · exact hG k e
  · exact Nat.le_trans hb e
theorem Mvs.ap (h : Mvs G G' w w') (hH : Hi w H) (ha : Ap G H) : Ap G' H := fun k hk hk' => by
  rcases h.f k hk with e | e
  · exact ha k e hk'
  · have := hH k hk'; omega
theorem Hi.mono (h : Hi w H) (hs : w.heap.size ≤ w'.heap.size) : Hi w' H := fun k hk => Nat.lt_of_lt_of_le (h k hk) hs
theorem Lo.mono {b' : Nat} (h : Lo b G) (hb : b' ≤ b) : Lo b' G := fun k hk => Nat.le_trans hb (h k hk)
end
/-- bytes appended onto a row that lies anywhere -/
theorem wp_append_m {w : World} {o : Oper} {a : Act} {K : Act → World → Prop} {Q : Exit → Act → World → Prop} (s x : Operand)
    (ho : o.op = .call { callee := .builtin .append, args := #[s, x], argTypes := #[39, 39] })
    (v : Value) (n : Nat) (l1 : List (BitVec 8)) (hs : a.eval s = v) (hown : Own w 0 v n l1)
    (A : Option Addr) (m c : Nat) (l2 : List (BitVec 8)) (hx : a.eval x = .slice A m c) (hl : Bs w A m c l2)
    (h47 : n + m ≤ 140737488355328) (N : Nat) (hN : n + m = N) (L : List (BitVec 8)) (hL : l1 ++ l2 = L)
    (h : ∀ A' c' w', Own w' 0 (.slice A' N c') N L → Apd w w' v (.slice A' N c') → K (a.put o.dst (.slice A' N c')) w') : o.wp Tryz.prog a w K Q := by
  subst hN hL
  obtain ⟨A', c', w', hr, h2, h3⟩ := run_append_bs o.type hown hl h47 (Nat.zero_le _)
  unfold Oper.wp
  simp [execOp, ho, resolve, invoke, builtin, hs, hx, hr, Result.andThen]
  exact h A' c' w' h2 h3
theorem wpList_append_m {w : World} {ops : Array Oper} {rest : List Oper} {o : Oper} {a : Act} {Q : Exit → Act → World → Prop} (hgd : o.guard = none) (s x : Operand)
    (ho : o.op = .call { callee := .builtin .append, args := #[s, x], argTypes := #[39, 39] })
    (v : Value) (n : Nat) (l1 : List (BitVec 8)) (hs : a.eval s = v) (hown : Own w 0 v n l1)
    (A : Option Addr) (m c : Nat) (l2 : List (BitVec 8)) (hx : a.eval x = .slice A m c) (hl : Bs w A m c l2)
    (h47 : n + m ≤ 140737488355328) (N : Nat) (hN : n + m = N) (L : List (BitVec 8)) (hL : l1 ++ l2 = L)
    (h : ∀ A' c' w', Own w' 0 (.slice A' N c') N L → Apd w w' v (.slice A' N c') → wpList Tryz.prog ops Q rest (a.put o.dst (.slice A' N c')) w') : wpList Tryz.prog ops Q (o :: rest) a w :=
  wpList_plain hgd fun _ hK => wp_append_m s x ho v n l1 hs hown A m c l2 hx hl h47 N hN L hL fun A' c' w' h1 h2 => hK _ _ (h A' c' w' h1 h2)
/-- elements of one cell appended onto a row that lies anywhere -/
theorem wp_append_r {P : Program} {α : Type} {T : TypeId} {e : α → Value} (t : TypeId) (z : Value) (bytes : Nat) (ht : P.underlying t = some (.slice T)) (hi : (P.info? T).map (fun i => (i.zero, i.size, i.bytes)) = some (some z, 1, bytes))
    (hz : z.cells.size = 1) (hb0 : 0 < bytes) (he : ∀ x, (e x).oneCell' = true)
    {w : World} {o : Oper} {a : Act} {K : Act → World → Prop} {Q : Exit → Act → World → Prop} (s x : Operand)
    (ho : o.op = .call { callee := .builtin .append, args := #[s, x], argTypes := #[t, t] })
    (v : Value) (n : Nat) (l1 : List α) (hs : a.eval s = v) (hown : Rw T e w 0 v n l1)
    (A : Option Addr) (m c : Nat) (l2 : List α) (hx : a.eval x = .slice A m c) (hl : Rd e w A m c l2)
    (h47 : (n + m) * bytes ≤ 140737488355328) (N : Nat) (hN : n + m = N) (L : List α) (hL : l1 ++ l2 = L)
    (h : ∀ A' c' w', Rw T e w' 0 (.slice A' N c') N L → Apd w w' v (.slice A' N c') → K (a.put o.dst (.slice A' N c')) w') : o.wp P a w K Q := by
  subst hN hL
  obtain ⟨A', c', w', hr, h2, h3⟩ := run_append_rd t o.type z bytes ht hi hz hb0 he hown hl h47 (Nat.zero_le _)
  unfold Oper.wp
  simp [execOp, ho, resolve, invoke, builtin, hs, hx, hr, Result.andThen]
  exact h A' c' w' h2 h3
theorem wpList_append_r {P : Program} {α : Type} {T : TypeId} {e : α → Value} (t : TypeId) (z : Value) (bytes : Nat) (ht : P.underlying t = some (.slice T)) (hi : (P.info? T).map (fun i => (i.zero, i.size, i.bytes)) = some (some z, 1, bytes))
    (hz : z.cells.size = 1) (hb0 : 0 < bytes) (he : ∀ x, (e x).oneCell' = true)
    {w : World} {ops : Array Oper} {rest : List Oper} {o : Oper} {a : Act} {Q : Exit → Act → World → Prop} (hgd : o.guard = none) (s x : Operand)
    (ho : o.op = .call { callee := .builtin .append, args := #[s, x], argTypes := #[t, t] })
    (v : Value) (n : Nat) (l1 : List α) (hs : a.eval s = v) (hown : Rw T e w 0 v n l1)
    (A : Option Addr) (m c : Nat) (l2 : List α) (hx : a.eval x = .slice A m c) (hl : Rd e w A m c l2)
    (h47 : (n + m) * bytes ≤ 140737488355328) (N : Nat) (hN : n + m = N) (L : List α) (hL : l1 ++ l2 = L)
    (h : ∀ A' c' w', Rw T e w' 0 (.slice A' N c') N L → Apd w w' v (.slice A' N c') → wpList P ops Q rest (a.put o.dst (.slice A' N c')) w') : wpList P ops Q (o :: rest) a w :=
  wpList_plain hgd fun _ hK => wp_append_r t z bytes ht hi hz hb0 he s x ho v n l1 hs hown A m c l2 hx hl h47 N hN L hL fun A' c' w' h1 h2 => hK _ _ (h A' c' w' h1 h2)
theorem Apd.mv {w w' : World} {v v' : Value} (h : Apd w w' v v') : Mvs (fpv v) (fpv v') w w' := ⟨h.mds, h.fp⟩
/-- bytes that lie in none of the blocks that turn -/
def Off (A : Option Addr) (n : Nat) (G : List Nat) : Prop := ∀ ad, 0 < n → A = some ad → ad.block ∉ G
theorem Bs.mds {w w' : World} {A : Option Addr} {n c : Nat} {l : List (BitVec 8)} {G : List Nat} (h : Bs w A n c l) (hm : Mds G w w') (ho : Off A n G) : Bs w' A n c l := by
  obtain ⟨h1, h2, h3, h4⟩ := h.s
  refine ⟨⟨h1, h2, h3, fun hn => ?_⟩⟩
  obtain ⟨g, o, rfl, hc⟩ := h4 hn
  exact ⟨g, o, rfl, fun j hj => (World.cell?_of_block (w := w) (a := ⟨g, o + j, none⟩) (hm.block g (block_lt_of_cell (hc j hj)) (ho _ hn rfl))).trans (hc j hj)⟩
/-- what was there lies not in what was made since -/
theorem Bs.off {w : World} {A : Option Addr} {n c : Nat} {l : List (BitVec 8)} {G : List Nat} (h : Bs w A n c l) (hG : Lo w.heap.size G) : Off A n G := fun ad hn e hk => by
  obtain ⟨g, o, e2, hc⟩ := h.s.2.2.2 hn
  rw [e] at e2
  cases e2
  have h1 : g < w.heap.size := block_lt_of_cell (hc 0 hn)
  have := hG g hk
  omega
theorem Off.mv {G G' : List Nat} {w w' : World} {A : Option Addr} {n c : Nat} {l : List (BitVec 8)} (h : Off A n G) (hb : Bs w A n c l) (hm : Mvs G G' w w') : Off A n G' := fun ad hn e hk => by
  rcases hm.f _ hk with h1 | h1
  · exact h ad hn e h1
  · obtain ⟨g, o, e2, hc⟩ := hb.s.2.2.2 hn
    rw [e] at e2
    cases e2
    have h2 : g < w.heap.size := block_lt_of_cell (hc 0 hn)
    simp only at h1
    omega
/-- a row's own bytes lie in its block alone -/
theorem Own.off {w : World} {B n c : Nat} {A : Option Addr} {l : List (BitVec 8)} {G : List Nat} (h : Own w B (.slice A n c) n l) (hG : Ap (fpv (.slice A n c)) G) : Off A n G := fun ad hn e => by
  obtain ⟨g, e2, _, _⟩ := h.some_ hn
  rw [e] at e2
  cases e2
  exact hG g (by rw [mem_fpv, e]; rfl)
theorem one_three (A B D : Option Addr) (n c m d k f : Nat) : (#[Value.slice A n c, Value.slice B m d, Value.slice D k f]).all (·.oneCell') = true := by simp [Value.oneCell']
/-- a result that lies in a block known whole, another beside it -/
theorem results_cell_row2 {P : Program} {fn : Func} {p u : Tmp} {ty : TypeId} (h : fn.results = #[.cell p ty, .tmp u]) (tmps : Array Value) (w : World) (g : Nat) (t : TypeId) (cs : Array Value) (v : Value) (d : TypeDesc)
    (hp : tmps.getD p undef = .pointer (some ⟨g, 0, none⟩)) (hv : tmps.getD u undef = v) (hg : Blk w g t cs)
    (hu : P.underlying ty = some d) (hd : (match d with | .struct _ | .array _ _ => true | _ => false) = true) (hi : (P.info? ty).map (·.size) = some cs.size) :
    (results fn tmps).run P w = .ok (.tuple #[.agg cs, v]) w := by
  rw [results_cell_tmp h, hp, hv]
  simp [asAddr, run_loadVar_row w g t ty cs (0, 0) d hg.h hu hd hi, Result.andThen]
end Go.Proofs.YtkdjhklnlnfhfaaGreatDoor
namespace Go.Proofs.YtkdjhklnlnfhfaaGreatDoor
open Go Go.RowKit
set_option maxRecDepth 4000

theorem and31b (x : BitVec 8) : bits .and .u8 (ub x) 31 = ((x.toNat % 32 : Nat) : Int) := by
  revert x
  refine all8 ?_
  decide +kernel
theorem and32b (x : BitVec 8) : bits .and .u8 (ub x) 32 = ((32 * (x.toNat / 32 % 2) : Nat) : Int) := by
  revert x
  refine all8 ?_
  decide +kernel
set_option maxHeartbeats 1000000 in
theorem isMark_any (m : BitVec 8) (b : Bool) (hb : mkB m = b) (w : World) : Calls Tryz.prog 150 #[.int .u8 (ub m)] w fun e w' => e = .returned (.bool b) ∧ w' = w := by
  have h1 := and31b m
  subst hb
  unfold mkB
  obtain ⟨n, hn⟩ : ∃ n, m.toNat % 32 = n := ⟨_, rfl⟩
  rw [hn] at h1 ⊢
  have h2 : (n != 31) = !((n : Int) == 31) := by
    rw [Bool.eq_iff_iff]; simp; omega
  rw [h2]
  clear h2 hn
  go_enter Tryz.func150, Tryz.ntmps150
  go_wp2
  go_ret
  exact ⟨rfl, rfl⟩
set_option maxHeartbeats 1000000 in
theorem refMark_any (m : BitVec 8) (b : Bool) (hb : mkB m = b) (w : World) : Calls Tryz.prog 158 #[.int .u8 (ub m)] w fun e w' => e = .returned (.bool b) ∧ w' = w := by
  have h1 : (ub m).tmod 32 = ((m.toNat % 32 : Nat) : Int) := by unfold ub; rw [Int.tmod_eq_emod_of_nonneg (by omega)]; omega
  have h0 : IntKind.u8.wrap ((m.toNat % 32 : Nat) : Int) = ((m.toNat % 32 : Nat) : Int) := by rw [IntKind.wrap_u8]; omega
  subst hb
  unfold mkB
  obtain ⟨n, hn⟩ : ∃ n, m.toNat % 32 = n := ⟨_, rfl⟩
  rw [hn] at h1 h0 ⊢
  have h2 : (n != 31) = !((n : Int) == 31) := by
    rw [Bool.eq_iff_iff]; simp; omega
  rw [h2]
  clear h2 hn
  go_enter Tryz.func158, Tryz.ntmps158
  go_wp2
  go_ret
  exact ⟨rfl, rfl⟩
theorem wh_cases (m : BitVec 8) : (whB m = true ∧ ((32 * (m.toNat / 32 % 2) : Nat) : Int) = 32) ∨ (whB m = false ∧ ((32 * (m.toNat / 32 % 2) : Nat) : Int) = 0) := by
  unfold whB
  rcases (by omega : m.toNat / 32 % 2 = 1 ∨ m.toNat / 32 % 2 = 0) with h | h
  · left; rw [h]; exact ⟨rfl, rfl⟩
  · right; rw [h]; exact ⟨rfl, rfl⟩
set_option maxHeartbeats 1000000 in
theorem isPart_any (m : BitVec 8) (b : Bool) (hb : isP m = b) (w : World) : Calls Tryz.prog 196 #[.int .u8 (ub m)] w fun e w' => e = .returned (.bool b) ∧ w' = w := by
  have h1 := and32b m
  unfold isP at hb
  cases hk : mkB m with
  | false =>
    rw [hk] at hb
    obtain rfl : false = b := hb
    go_enter Tryz.func196, Tryz.ntmps196
    go_wp2_with (go_at_call 150; refine (isMark_any m false hk _).mono ?_; rintro e w1 ⟨rfl, rfl⟩)
    go_ret
    exact ⟨rfl, rfl⟩
  | true =>
    rw [hk, Bool.true_and] at hb
    rcases wh_cases m with ⟨h2, h3⟩ | ⟨h2, h3⟩
    · rw [h2] at hb
      obtain rfl : false = b := hb
      rw [h3] at h1
      clear h2 h3
      go_enter Tryz.func196, Tryz.ntmps196
      go_wp2_with (go_at_call 150; refine (isMark_any m true hk _).mono ?_; rintro e w1 ⟨rfl, rfl⟩)
      go_ret
      exact ⟨rfl, rfl⟩
    · rw [h2] at hb
      obtain rfl : true = b := hb
      rw [h3] at h1
      clear h2 h3
      go_enter Tryz.func196, Tryz.ntmps196
      go_wp2_with (go_at_call 150; refine (isMark_any m true hk _).mono ?_; rintro e w1 ⟨rfl, rfl⟩)
      go_ret
      exact ⟨rfl, rfl⟩
set_option maxHeartbeats 1000000 in
theorem isWhole_any (m : BitVec 8) (b : Bool) (hb : isW m = b) (w : World) : Calls Tryz.prog 154 #[.int .u8 (ub m)] w fun e w' => e = .returned (.bool b) ∧ w' = w := by
  have h1 := and32b m
  unfold isW at hb
  cases hk : mkB m with
  | false =>
    rw [hk] at hb
    obtain rfl : false = b := hb
    go_enter Tryz.func154, Tryz.ntmps154
    go_wp2_with (go_at_call 150; refine (isMark_any m false hk _).mono ?_; rintro e w1 ⟨rfl, rfl⟩)
    go_ret
    exact ⟨rfl, rfl⟩
  | true =>
    rw [hk, Bool.true_and] at hb
    rcases wh_cases m with ⟨h2, h3⟩ | ⟨h2, h3⟩
    · rw [h2] at hb
      obtain rfl : true = b := hb
      rw [h3] at h1
      clear h2 h3
      go_enter Tryz.func154, Tryz.ntmps154
      go_wp2_with (go_at_call 150; refine (isMark_any m true hk _).mono ?_; rintro e w1 ⟨rfl, rfl⟩)
      go_ret
      exact ⟨rfl, rfl⟩
    · rw [h2] at hb
      obtain rfl : false = b := hb
      rw [h3] at h1
      clear h2 h3
      go_enter Tryz.func154, Tryz.ntmps154
      go_wp2_with (go_at_call 150; refine (isMark_any m true hk _).mono ?_; rintro e w1 ⟨rfl, rfl⟩)
      go_ret
      exact ⟨rfl, rfl⟩
/-- the new row of a literal -/
theorem lit_fresh (w : World) (l : List (BitVec 8)) (n : Nat) (hn : l.length = n) (hm : n ≤ 140737488355328) (cs : Array Value) (hcs : cs = bv l) : ∃ A c, (Value.slice (some ⟨w.heap.size, 0, none⟩) n n = .slice A n c) ∧ Bs (w.alloc (.cells cs 5)) A n c l ∧ Own (w.alloc (.cells cs 5)) w.heap.size (.slice A n c) n l ∧ Ext w (w.alloc (.cells cs 5)) := by
  subst hcs
  have ho := Own.new w w.heap.size n l hn (Nat.le_refl _) (by unfold maxLen; omega)
  exact ⟨_, _, rfl, ho.bs, ho, (by (repeat (first | assumption | exact Ext.refl _ | apply Ext.drew | apply Ext.drewN | apply Ext.alloc | refine Ext.trans ?_ (by assumption))); first | done | fail)⟩
theorem byte_id (n : Nat) (h : n < 256) : ub (BitVec.ofNat 8 n) = (n : Int) := by unfold ub; rw [BitVec.toNat_ofNat]; omega
theorem byte_lo (n : Nat) : (n : Int) % 256 = ub (BitVec.ofNat 8 (n % 256)) := by unfold ub; rw [BitVec.toNat_ofNat]; omega
/-- an error and no bytes -/
def ErrB (w : World) (c : Int) (e : Ending) (w' : World) : Prop := e = .returned (.tuple #[.slice none 0 0, err c]) ∧ Ext w w'
set_option maxHeartbeats 1000000 in
theorem Head_arg (m : BitVec 8) (n : Int) (h : mkB m = false ∨ n < 0) (w : World) : Calls Tryz.prog 101 #[.int .u8 (ub m), .int .i64 n] w (ErrB w 1) := by
  cases hk : mkB m with
  | false =>
    clear h
    go_enter Tryz.func101, Tryz.ntmps101
    go_wp2_with (go_at_call 150; refine (isMark_any m false hk _).mono ?_; rintro e w1 ⟨rfl, rfl⟩)
    go_ret2
    exact ⟨rfl, (by (repeat (first | assumption | exact Ext.refl _ | apply Ext.drew | apply Ext.drewN | apply Ext.alloc | refine Ext.trans ?_ (by assumption))); first | done | fail)⟩
  | true =>
    rw [hk] at h
    have h1 : n < 0 := h.resolve_left (by decide)
    clear h
    go_enter Tryz.func101, Tryz.ntmps101
    go_wp2_with (go_at_call 150; refine (isMark_any m true hk _).mono ?_; rintro e w1 ⟨rfl, rfl⟩)
    go_ret2
    exact ⟨rfl, (by (repeat (first | assumption | exact Ext.refl _ | apply Ext.drew | apply Ext.drewN | apply Ext.alloc | refine Ext.trans ?_ (by assumption))); first | done | fail)⟩
set_option maxHeartbeats 1000000 in
theorem Head_long (m : BitVec 8) (n : Int) (h : (65535 : Int) < n) (hk : mkB m = true) (w : World) : Calls Tryz.prog 101 #[.int .u8 (ub m), .int .i64 n] w (ErrB w 4) := by
  have h2 : decide (n < 0) = false := decide_eq_false (by omega)
  have h3 : (65535 : Int) < n := h
  clear h
  go_enter Tryz.func101, Tryz.ntmps101
  go_wp2_with (go_at_call 150; refine (isMark_any m true hk _).mono ?_; rintro e w1 ⟨rfl, rfl⟩)
  go_ret2
  exact ⟨rfl, (by (repeat (first | assumption | exact Ext.refl _ | apply Ext.drew | apply Ext.drewN | apply Ext.alloc | refine Ext.trans ?_ (by assumption))); first | done | fail)⟩
set_option maxHeartbeats 2000000 in
theorem Head_ok (m : BitVec 8) (n : Nat) (h : n ≤ 65535) (hk : mkB m = true) (w : World) : Calls Tryz.prog 101 #[.int .u8 (ub m), .int .i64 (n : Int)] w (FreshE w (hdn n) (hdr m n)) := by
  have h1 : decide ((n : Int) < 0) = false := decide_eq_false (by omega)
  have h2 : decide ((65535 : Int) < (n : Int)) = false := decide_eq_false (by omega)
  have h2' : ¬ (65535 : Int) < (n : Int) := by omega
  unfold hdr hdn
  by_cases h3 : n < 128
  · rw [if_pos h3, if_pos h3]
    have h4 : (n : Int) < 128 := by omega
    have L := Kp.mk (lit_fresh w [m, BitVec.ofNat 8 n] 2 rfl (by decide) #[.int .u8 (ub m), .int .u8 (n : Int)] (by rw [← byte_id n (by omega)]; rfl))
    clear h3 h
    go_enter Tryz.func101, Tryz.ntmps101
    go_wp2_with (go_at_call 150; refine (isMark_any m true hk _).mono ?_; rintro e w1 ⟨rfl, rfl⟩)
    go_ret2
    obtain ⟨A, c, e1, e2, e3, e4⟩ := L.out
    cases e1
    exact ⟨_, _, rfl, e2, e3, e4⟩
  · rw [if_neg h3, if_neg h3]
    have h4 : decide ((n : Int) < 128) = false := decide_eq_false (by omega)
    by_cases h6 : n < 256
    · rw [if_pos h6, if_pos h6]
      have h7 : (n : Int) < 256 := by omega
      have L := Kp.mk (lit_fresh w [m, 129, BitVec.ofNat 8 n] 3 rfl (by decide) #[.int .u8 (ub m), .int .u8 129, .int .u8 (n : Int)] (by rw [← byte_id n h6]; rfl))
      clear h3 h h6
      go_enter Tryz.func101, Tryz.ntmps101
      go_wp2_with (go_at_call 150; refine (isMark_any m true hk _).mono ?_; rintro e w1 ⟨rfl, rfl⟩)
      go_ret2
      obtain ⟨A, c, e1, e2, e3, e4⟩ := L.out
      cases e1
      exact ⟨_, _, rfl, e2, e3, e4⟩
    · rw [if_neg h6, if_neg h6]
      have h7 : decide ((n : Int) < 256) = false := decide_eq_false (by omega)
      have h5 := byte_lo n
      have L := Kp.mk (lit_fresh w [m, 130, BitVec.ofNat 8 (n / 256), BitVec.ofNat 8 (n % 256)] 4 rfl (by decide) #[.int .u8 (ub m), .int .u8 130, .int .u8 ((n : Int) / 256), .int .u8 (ub (BitVec.ofNat 8 (n % 256)))] (by rw [show (n : Int) / 256 = ub (BitVec.ofNat 8 (n / 256)) by rw [byte_id (n / 256) (by omega)]; omega]; rfl))
      clear h3 h h6
      go_enter Tryz.func101, Tryz.ntmps101
      go_wp2_with (go_at_call 150; refine (isMark_any m true hk _).mono ?_; rintro e w1 ⟨rfl, rfl⟩)
      go_ret2
      obtain ⟨A, c, e1, e2, e3, e4⟩ := L.out
      cases e1
      exact ⟨_, _, rfl, e2, e3, e4⟩
set_option maxHeartbeats 2000000 in
theorem refHead_ok (m : BitVec 8) (n : Nat) (h : n ≤ 65535) (w : World) : Calls Tryz.prog 147 #[.int .u8 (ub m), .int .i64 (n : Int)] w (Fresh w (hdn n) (hdr m n)) := by
  unfold hdr hdn
  by_cases h3 : n < 128
  · rw [if_pos h3, if_pos h3]
    have h4 : (n : Int) < 128 := by omega
    have L := Kp.mk (lit_fresh w [m, BitVec.ofNat 8 n] 2 rfl (by decide) #[.int .u8 (ub m), .int .u8 (n : Int)] (by rw [← byte_id n (by omega)]; rfl))
    clear h3 h
    go_enter Tryz.func147, Tryz.ntmps147
    go_wp2_with fail
    go_ret
    obtain ⟨A, c, e1, e2, e3, e4⟩ := L.out
    cases e1
    exact ⟨_, _, rfl, e2, e3, e4⟩
  · rw [if_neg h3, if_neg h3]
    have h4 : decide ((n : Int) < 128) = false := decide_eq_false (by omega)
    by_cases h6 : n < 256
    · rw [if_pos h6, if_pos h6]
      have h7 : (n : Int) < 256 := by omega
      have L := Kp.mk (lit_fresh w [m, 129, BitVec.ofNat 8 n] 3 rfl (by decide) #[.int .u8 (ub m), .int .u8 129, .int .u8 (n : Int)] (by rw [← byte_id n h6]; rfl))
      clear h3 h h6
      go_enter Tryz.func147, Tryz.ntmps147
      go_wp2_with fail
      go_ret
      obtain ⟨A, c, e1, e2, e3, e4⟩ := L.out
      cases e1
      exact ⟨_, _, rfl, e2, e3, e4⟩
    · rw [if_neg h6, if_neg h6]
      have h7 : decide ((n : Int) < 256) = false := decide_eq_false (by omega)
      have d1 : (n : Int).tdiv 256 = ((n / 256 : Nat) : Int) := by rw [Int.tdiv_eq_ediv_of_nonneg (by omega)]; omega
      have d2 : (n : Int).tmod 256 = ((n % 256 : Nat) : Int) := by rw [Int.tmod_eq_emod_of_nonneg (by omega)]; omega
      have d3 : IntKind.i64.wrap ((n / 256 : Nat) : Int) = ((n / 256 : Nat) : Int) := by rw [IntKind.wrap_i64]; omega
      have d4 : IntKind.i64.wrap ((n % 256 : Nat) : Int) = ((n % 256 : Nat) : Int) := by rw [IntKind.wrap_i64]; omega
      have hp : n / 256 < 256 := by omega
      have hq : n % 256 < 256 := by omega
      generalize n / 256 = p at *
      generalize n % 256 = q at *
      have L := Kp.mk (lit_fresh w [m, 130, BitVec.ofNat 8 p, BitVec.ofNat 8 q] 4 rfl (by decide) #[.int .u8 (ub m), .int .u8 130, .int .u8 (p : Int), .int .u8 (q : Int)] (by rw [← byte_id p hp, ← byte_id q hq]; rfl))
      clear h3 h h6
      go_enter Tryz.func147, Tryz.ntmps147
      go_wp2_with fail
      go_ret
      obtain ⟨A, c, e1, e2, e3, e4⟩ := L.out
      cases e1
      exact ⟨_, _, rfl, e2, e3, e4⟩
set_option maxHeartbeats 2000000 in
theorem refElement_ok (m : BitVec 8) {b : List (BitVec 8)} {A : Option Addr} {n c : Nat} {w : World} (hb : Bs w A n c b) (h : n ≤ 65535) : Calls Tryz.prog 91 #[.int .u8 (ub m), .slice A n c] w (Fresh w (hdn n + n) (elm m b)) := by
  have hhi := hdn_hi n
  have he : elm m b = hdr m n ++ b := by unfold elm; rw [hb.len]
  rw [he]
  have HB := Kp.mk hb
  have H := Kp.mk h
  obtain ⟨L, hL⟩ : ∃ L, hdr m n = L := ⟨_, rfl⟩
  obtain ⟨N, hN⟩ : ∃ N, hdn n = N := ⟨_, rfl⟩
  have C := Kp.mk (refHead_ok m n h w)
  rw [hL, hN] at C
  rw [hN] at hhi
  rw [hL, hN]
  have hx : N + n ≤ 140737488355328 := by omega
  clear he hb h hL hN hhi
  go_enter Tryz.func91, Tryz.ntmps91
  go_wp2_with (first | (go_at_call 147; refine C.out.mono ?_; rintro e w1 ⟨A1, c1, rfl, hs1, ho1, hx1⟩; have HO := Kp.mk ho1; have HX := Kp.mk hx1; clear hs1 ho1 hx1) | (at_builtin; refine wpList_append_bs rfl (.tmp 8) (.tmp 9) rfl w.heap.size _ N L rfl HO.out A n c b rfl (HB.out.ext HX.out) hx (N + n) rfl (L ++ b) rfl w HX.out (Nat.le_refl _) HX.out.size ?_; intro A5 c5 w5 ho5 hx5 _) | fail)
  go_ret
  exact ⟨_, _, rfl, ho5.bs, ho5, hx5⟩
/-- which of k things a number speaks of -/
def pk (x : Int) (k : Int) : Int := (if x < 0 then -(x + 1) else x) % k
end Go.Proofs.YtkdjhklnlnfhfaaGreatDoor
