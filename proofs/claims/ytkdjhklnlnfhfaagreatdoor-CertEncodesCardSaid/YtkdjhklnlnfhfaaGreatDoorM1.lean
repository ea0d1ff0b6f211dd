/-
  Steps of a region that draws its order and calls: one operation is next; an operation is taken first.
  Words for calls one behind the other: a later world, bytes that read so, rows of the call's own, what a call leaves that makes a new slice of bytes.
  Lists of bytes: elements, pieces; rows that are filled in place, one after another; xor of bytes. No condition.
  Rows of bytes put into the midst of a block; a piece of a block as an array's value.
-/
import Derived.Test.YtkdjhklnlnfhfaaGreatDoorM0
import Derived.Deep.RegionHeld3
import Derived.Test.YtkdjhklnlnfhfaaGreatDoorProg
import Derived.WalkSpells
import Derived.WalkLawsBesides
import Derived.Laws.OwnMore
import Derived.Laws.CopyOwn
import Derived.Lib.Hide
import Derived.Laws.MakeOwn
import Derived.Maps.AppendAt
import Derived.Lib.SlBytesConst
import Derived.Deep.QuietTactic
import Derived.BigQuiet
import Derived.Deep.DeepCutAuto
import Derived.Deep.MidRow
import Derived.Laws.Tables
namespace Go.Proofs.YtkdjhklnlnfhfaaGreatDoor
open Go Go.RowKit
set_option maxRecDepth 4000

section
variable {P : Program} {ops : Array Oper} {Q : Exit → Act → World → Prop} {md : Region.Mode} {S : World → Prop} {fuel : Nat} {listed : Array Bool} {a : Act} {w : World}
/-- one operation alone may come up -/
theorem next_one (i : Nat) {o : Oper} (hr : Region.ready md ops listed = [i]) (hi : ops[i]? = some o) (hw : Region.wanted o (yielded ops a.tmps) = true)
    (h : ∀ K' : Act → World → Prop, Hid (∀ a w, S w → wpAnyH P md ops Q S fuel (listed.setIfInBounds i true) a w → K' a w) → o.wp P a w K' Q) : wpAnyH P md ops Q S (fuel + 1) listed a w := by
  refine wpAnyH_all (rs := [i]) hr (by simp) ?_
  intro j hj
  obtain rfl := List.mem_singleton.1 hj
  unfold wpOp
  simp only [hi, hw, if_true]
  exact .inl (h _ fun a w hs hk => ⟨hs, hk⟩)
/-- one of two -/
theorem next_two (i k : Nat) {oi ok : Oper} (hr : Region.ready md ops listed = [i, k]) (hi : ops[i]? = some oi) (hk : ops[k]? = some ok) (hwi : Region.wanted oi (yielded ops a.tmps) = true) (hwk : Region.wanted ok (yielded ops a.tmps) = true)
    (h1 : ∀ K' : Act → World → Prop, Hid (∀ a w, S w → wpAnyH P md ops Q S fuel (listed.setIfInBounds i true) a w → K' a w) → oi.wp P a w K' Q)
    (h2 : ∀ K' : Act → World → Prop, Hid (∀ a w, S w → wpAnyH P md ops Q S fuel (listed.setIfInBounds k true) a w → K' a w) → ok.wp P a w K' Q) : wpAnyH P md ops Q S (fuel + 1) listed a w := by
  refine wpAnyH_all (rs := [i, k]) hr (by simp) ?_
  intro j hj
  simp only [List.mem_cons, List.not_mem_nil, or_false] at hj
  rcases hj with rfl | rfl
  · unfold wpOp
    simp only [hi, hwi, if_true]
    exact .inl (h1 _ fun a w hs hk => ⟨hs, hk⟩)
  · unfold wpOp
    simp only [hk, hwk, if_true]
    exact .inl (h2 _ fun a w hs hk => ⟨hs, hk⟩)
end
end Go.Proofs.YtkdjhklnlnfhfaaGreatDoor
namespace Go.Proofs.YtkdjhklnlnfhfaaGreatDoor
open Go Go.RowKit
set_option maxRecDepth 4000

/-- a fact put aside: nothing opens it -/
structure Kp (p : Prop) : Prop where
  out : p
theorem szB : (Tryz.prog.info? 5).map (·.size) = some 1 := by kernel_rfl
theorem inB : (Tryz.prog.info? 5).map (fun i => (i.zero, i.size, i.bytes)) = some (some (.int .u8 0), 1, 1) := by kernel_rfl
/-- a later world: what was there reads as it did -/
structure Ext (w w' : World) : Prop where
  b : Below w.heap.size w w'
section
variable {w w' w'' : World}
@[go_sem] theorem Ext.refl (w : World) : Ext w w := ⟨Below.refl _ _⟩
theorem Ext.trans (h : Ext w w') (h' : Ext w' w'') : Ext w w'' := ⟨h.b.trans (h'.b.mono h.b.size)⟩
theorem Ext.size (h : Ext w w') : w.heap.size ≤ w'.heap.size := h.b.size
@[go_sem] theorem Ext.alloc (h : Ext w w') (o : Obj) : Ext w (w'.alloc o) := ⟨h.b.alloc h.b.size o⟩
@[go_sem] theorem Ext.drew (h : Ext w w') : Ext w w'.drew := ⟨h.b.drew⟩
@[go_sem] theorem Ext.drewN (h : Ext w w') (n : Nat) : Ext w (w'.drewN n) := ⟨below_drewN h.b n⟩
theorem Ext.setCell (h : Ext w w') {p : Addr} (hp : w.heap.size ≤ p.block) (v : Value) : Ext w (w'.setCell p v) := ⟨h.b.setCell hp v⟩
theorem Ext.setRow (h : Ext w w') {g : Nat} (hg : w.heap.size ≤ g) (cs : Array Value) : Ext w (w'.setRow g cs) := ⟨h.b.trans ⟨rfl, rfl, rfl, by simp, fun k hk => setRow_other w' g k cs (by omega)⟩⟩
theorem Ext.grown (h : Ext w w') {row : Option Nat} (hg : w'.grownBy w'' row) (hr : ∀ k, row = some k → w.heap.size ≤ k) : Ext w w'' := ⟨h.b.grown hg h.b.size hr⟩
end
/-- a block known whole -/
structure Blk (w : World) (g : Nat) (t : TypeId) (cs : Array Value) : Prop where
  h : Has w g t cs
section
variable {w w' : World} {g : Nat} {t : TypeId} {cs : Array Value}
theorem Blk.ext (h : Blk w g t cs) (hx : Ext w w') : Blk w' g t cs := ⟨h.h.below hx.b h.h.lt⟩
theorem Blk.lt (h : Blk w g t cs) : g < w.heap.size := h.h.lt
theorem Blk.far (h : Blk w g t cs) {p : Addr} (hp : g ≠ p.block) (u : Value) : Blk (w.setCell p u) g t cs := ⟨h.h.far hp u⟩
theorem Blk.rowfar (h : Blk w g t cs) {g' : Nat} (hg : g ≠ g') (cs' : Array Value) : Blk (w.setRow g' cs') g t cs := ⟨h.h.rowfar hg cs'⟩
end
theorem Blk.setB {w : World} {g t : Nat} {L : List (BitVec 8)} (h : Blk w g t (bv L)) (j : Nat) (x : BitVec 8) : Blk (w.setCell ⟨g, j, none⟩ (.int .u8 (ub x))) g t (bv (L.set j x)) := by
  have h1 := h.h.set j (.int .u8 (ub x))
  rw [bv_set] at h1
  exact ⟨h1⟩
theorem Blk.row {w : World} {g : Nat} {t : TypeId} {cs : Array Value} (h : Blk w g t cs) (cs' : Array Value) : Blk (w.setRow g cs') g t cs' := ⟨h.h.row cs'⟩
theorem Blk.new (w : World) (t : TypeId) (cs : Array Value) : Blk (w.alloc (.cells cs t)) w.heap.size t cs := ⟨Has.new w t cs _ rfl⟩
/-- a slice of bytes that reads as a list -/
structure Bs (w : World) (A : Option Addr) (n c : Nat) (l : List (BitVec 8)) : Prop where
  s : Sl w A n c l
section
variable {w w' : World} {A : Option Addr} {n c : Nat} {l : List (BitVec 8)}
theorem Bs.ext (h : Bs w A n c l) (hx : Ext w w') : Bs w' A n c l := ⟨h.s.keep hx.b⟩
theorem Bs.len (h : Bs w A n c l) : l.length = n := h.s.1
theorem Bs.cap (h : Bs w A n c l) : n ≤ c := h.s.2.1
theorem Bs.take (h : Bs w A n c l) (k : Nat) (hk : k ≤ n) : Bs w A k c (l.take k) := ⟨h.s.take k hk⟩
theorem Bs.nil (w : World) : Bs w none 0 0 [] := ⟨Sl.nil w⟩
theorem Bs.str (h : Bs w A n c l) (hx : Ext w w') : (convert 39 9 (.slice A n c)).run Tryz.prog w' = .ok (.string (strOf l)) w' :=
  run_str (h.s.keep hx.b) 39 9 5 Tryz.underlying39 Tryz.underlying5 Tryz.underlying9
end
/-- cells in the midst of a block, in a later world -/
theorem rg_ext {w w' : World} {g o : Nat} {cs : List Value} (h : w.rangeAt g o cs) (hx : Ext w w') : w'.rangeAt g o cs :=
  fun j v hv => (hx.b.cell (p := ⟨g, o + j, none⟩) (block_lt_of_cell (h j v hv))).trans (h j v hv)
theorem Blk.rg {w : World} {g t : Nat} {L : List (BitVec 8)} (h : Blk w g t (bv L)) : w.rangeAt g 0 (L.map vb) := fun j v hv => by
  rw [Nat.zero_add, h.h.cell j, ← hv]
  simp [bv]
/-- a row of bytes of the call's own: in blocks from B on -/
structure Own (w : World) (B : Nat) (v : Value) (n : Nat) (l : List (BitVec 8)) : Prop where
  o : w.ownsRow B 5 1 v n (l.map vb)
section
variable {w w' : World} {B B' : Nat} {v : Value} {n : Nat} {l : List (BitVec 8)}
theorem Own.ext (h : Own w B v n l) (hx : Ext w w') : Own w' B v n l := by
  refine ⟨h.o.1, ?_⟩
  rcases h.o.2 with h2 | ⟨g, cap, cur, h1, h3, h4, h5⟩
  · exact .inl h2
  · exact .inr ⟨g, cap, cur, h1, h3, (hx.b.block g (Array.getElem?_eq_some_iff.1 h4).1).trans h4, h5⟩
theorem Own.lower (h : Own w B v n l) (hB : B' ≤ B) : Own w B' v n l := by
  refine ⟨h.o.1, ?_⟩
  rcases h.o.2 with h2 | ⟨g, cap, cur, h1, h3, h4⟩
  · exact .inl h2
  · exact .inr ⟨g, cap, cur, h1, Nat.le_trans hB h3, h4⟩
theorem Own.base (h : Own w B v n l) (k : Nat) (hk : v.ownBlock = some k) : B ≤ k := by
  rcases h.o.2 with ⟨rfl, _⟩ | ⟨g, cap, cur, rfl, h3, _⟩
  · simp [Value.ownBlock] at hk
  · simp [Value.ownBlock] at hk; omega
theorem Own.bs {A : Option Addr} {c : Nat} (h : Own w B (.slice A n c) n l) : Bs w A n c l := by
  obtain ⟨A', c', e, hs⟩ := Sl.of_own h.o
  cases e
  exact ⟨hs⟩
theorem Own.len (h : Own w B v n l) : l.length = n := by have := h.o.1; simpa using this
theorem Own.nil (w : World) (B : Nat) : Own w B (.slice none 0 0) 0 [] := ⟨rfl, .inl ⟨rfl, rfl⟩⟩
theorem Own.form (h : Own w B v n l) : ∃ A c, v = .slice A n c := by
  obtain ⟨A', c', e, _⟩ := Sl.of_own h.o
  exact ⟨A', c', e⟩
theorem Own.some_ {A : Option Addr} {c : Nat} (h : Own w B (.slice A n c) n l) (hn : 0 < n) : ∃ g, A = some ⟨g, 0, none⟩ ∧ B ≤ g ∧ g < w.heap.size := by
  rcases h.o.2 with ⟨_, e⟩ | ⟨g, cap, cur, e, h3, h4, _⟩
  · omega
  · cases e; exact ⟨g, rfl, h3, (Array.getElem?_eq_some_iff.1 h4).1⟩
theorem Own.cell {g c : Nat} (h : Own w B (.slice (some ⟨g, 0, none⟩) n c) n l) (j : Nat) (hj : j < n) : w.cell? ⟨g, j, none⟩ = some (.int .u8 (ub (gb l j))) := by
  have hl := h.len
  refine (h.o.cellAt j (by omega)).trans ?_
  rw [List.getElem?_map, List.getElem?_eq_getElem (by omega)]
  simp [gb, show j < l.length by omega]
theorem Own.free {g c : Nat} (h : Own w B (.slice (some ⟨g, 0, none⟩) n c) n l) (j : Nat) : w.frozen? ⟨g, j, none⟩ = false := h.o.frozenAt j
theorem Own.set {g c : Nat} (h : Own w B (.slice (some ⟨g, 0, none⟩) n c) n l) (j : Nat) (x : BitVec 8) : Own (w.setCell ⟨g, j, none⟩ (.int .u8 (ub x))) B (.slice (some ⟨g, 0, none⟩) n c) n (l.set j x) := by
  have h7 := (h.o.stored j (.int .u8 (ub x))).1
  rw [show (l.map vb).set j (.int .u8 (ub x)) = (l.set j x).map vb by simp [List.map_set]] at h7
  exact ⟨h7⟩
theorem Own.far (h : Own w B v n l) {p : Addr} (hp : v.ownBlock ≠ some p.block) (u : Value) : Own (w.setCell p u) B v n l := by
  refine ⟨h.o.1, ?_⟩
  rcases h.o.2 with h2 | ⟨g, cap, cur, h1, h3, h4, h5⟩
  · exact .inl h2
  · refine .inr ⟨g, cap, cur, h1, h3, (Below.heap_setCell w p u g (fun e => hp ?_)).trans h4, h5⟩
    subst h1; simp [Value.ownBlock, e]
end
/-- a made row of so many cells, of no length -/
theorem Own.made (w : World) (B n : Nat) (hB : B ≤ w.heap.size) (hn : n ≤ maxLen) : Own (w.alloc (.cells (bv (zb n)) 5)) B (.slice (some ⟨w.heap.size, 0, none⟩) 0 n) 0 [] :=
  ⟨⟨rfl, .inr ⟨w.heap.size, n, bv (zb n), rfl, hB, heap_alloc_new w _, Nat.zero_le _, hn, by rw [bv_size, zb_len, Nat.mul_one], rfl⟩⟩⟩
/-- a row made of cells that stand there -/
theorem Own.has {w : World} {B g n : Nat} {l : List (BitVec 8)} (h : Has w g 5 (bv l)) (hl : l.length = n) (hB : B ≤ g) (hm : n ≤ maxLen) : Own w B (.slice (some ⟨g, 0, none⟩) n n) n l := by
  subst hl
  refine ⟨⟨by simp, .inr ⟨g, l.length, bv l, rfl, hB, h, Nat.le_refl _, hm, by rw [bv_size, Nat.mul_one], ?_⟩⟩⟩
  rw [List.take_of_length_le (by simp [bv])]
  simp [bv]
theorem Own.new (w : World) (B n : Nat) (l : List (BitVec 8)) (hl : l.length = n) (hB : B ≤ w.heap.size) (hm : n ≤ maxLen) : Own (w.alloc (.cells (bv l) 5)) B (.slice (some ⟨w.heap.size, 0, none⟩) n n) n l :=
  Own.has (Has.new w 5 (bv l) _ rfl) hl hB hm
/-- another row is written: this one is as it was -/
theorem Own.grown {w w' : World} {B : Nat} {v : Value} {n : Nat} {l : List (BitVec 8)} (h : Own w B v n l) {row : Option Nat} (hg : w.grownBy w' row) (hr : v.ownBlock = none ∨ v.ownBlock ≠ row) : Own w' B v n l := by
  refine ⟨h.o.1, ?_⟩
  rcases h.o.2 with h2 | ⟨g, cap, cur, h1, h3, h4, h5⟩
  · exact .inl h2
  · refine .inr ⟨g, cap, cur, h1, h3, (hg.block g (Array.getElem?_eq_some_iff.1 h4).1 ?_).trans h4, h5⟩
    subst h1
    rcases hr with e | e
    · simp [Value.ownBlock] at e
    · simpa [Value.ownBlock] using e
theorem one_vb' (l : List (BitVec 8)) : ∀ v ∈ l.map vb, v.oneCell' = true := fun v hv => by
  obtain ⟨b, _, rfl⟩ := List.mem_map.1 hv
  rfl
/-- the cells of bytes that are to be copied -/
theorem Bs.news {w : World} {A : Option Addr} {n c : Nat} {l : List (BitVec 8)} (h : Bs w A n c l) (hp : 0 < (l.map vb).length) : ∃ ad, A = some ad ∧ ∀ j v, (l.map vb)[j]? = some v → w.cell? (ad.add j) = some v := by
  have hl := h.len
  rw [List.length_map] at hp
  obtain ⟨g, o, rfl, hc⟩ := h.s.2.2.2 (by omega)
  refine ⟨_, rfl, fun j v hv => ?_⟩
  have hj : j < l.length := by simpa using (List.getElem?_eq_some_iff.1 hv).1
  have hadd : (⟨g, o, none⟩ : Addr).add j = ⟨g, o + j, none⟩ := by unfold Addr.add; split <;> simp_all
  rw [hadd, hc j (by omega), ← hv]
  simp [gb, hj]
/-- two rows of the call's own share no block -/
def Dj (v u : Value) : Prop := v.ownBlock = none ∨ v.ownBlock ≠ u.ownBlock
theorem Dj.symm {v u : Value} (h : Dj v u) : Dj u v := by
  unfold Dj at h ⊢
  rcases h with h | h
  · rw [h]
    cases e : u.ownBlock with
    | none => exact .inl rfl
    | some k => exact .inr (by simp)
  · exact .inr fun e => h e.symm
theorem Dj.nil (u : Value) : Dj (.slice none 0 0) u := .inl rfl
/-- behind an append: v became v' -/
structure Apd (w w' : World) (v v' : Value) : Prop where
  grown : w.grownBy w' v.ownBlock
  at_ : v'.ownBlock = v.ownBlock ∨ v'.ownBlock = some w.heap.size
theorem Own.lt {w : World} {B : Nat} {v : Value} {n : Nat} {l : List (BitVec 8)} (h : Own w B v n l) (k : Nat) (hk : v.ownBlock = some k) : k < w.heap.size := by
  rcases h.o.2 with ⟨rfl, _⟩ | ⟨g, cap, cur, rfl, _, h4, _⟩
  · simp [Value.ownBlock] at hk
  · simp [Value.ownBlock] at hk
    subst hk
    exact (Array.getElem?_eq_some_iff.1 h4).1
section
variable {w w' : World} {v v' u : Value} {B n : Nat} {l : List (BitVec 8)}
theorem Apd.keep (h : Apd w w' v v') (hu : Own w B u n l) (hd : Dj u v) : Own w' B u n l := hu.grown h.grown hd
theorem Apd.dj (h : Apd w w' v v') (hu : Own w B u n l) (hd : Dj v u) : Dj v' u := by
  rcases h.at_ with e | e
  · unfold Dj; rw [e]; exact hd
  · refine .inr fun e2 => ?_
    have := hu.lt w.heap.size (e2.symm.trans e)
    omega
/-- a row made behind another one -/
theorem Own.dj {B' m : Nat} {l' : List (BitVec 8)} (h : Own w B v n l) (hu : Own w' B' u m l') (hB : w.heap.size ≤ B') : Dj v u := by
  cases e : v.ownBlock with
  | none => exact .inl e
  | some k =>
    refine .inr fun e2 => ?_
    have h1 := h.lt k e
    have h2 := hu.base k (e2.symm.trans e)
    omega
end
theorem run_append_bs (ty : TypeId) {w : World} {B : Nat} {v : Value} {n : Nat} {l1 : List (BitVec 8)} (hown : Own w B v n l1) {A : Option Addr} {m c : Nat} {l2 : List (BitVec 8)} (hl : Bs w A m c l2)
    (h47 : n + m ≤ 140737488355328) (hBw : B ≤ w.heap.size) :
    ∃ A' c' w', (Builtin.append_ #[39, 39] ty #[v, .slice A m c]).run Tryz.prog w = .ok (.slice A' (n + m) c') w' ∧ Own w' B (.slice A' (n + m) c') (n + m) (l1 ++ l2) ∧ Apd w w' v (.slice A' (n + m) c') := by
  obtain ⟨i, hi0, hz, hs1, hb⟩ := info_parts inB
  cases A with
  | none =>
    obtain ⟨rfl, rfl⟩ := hl.s.2.2.1 rfl
    have hl0 : l2 = [] := List.eq_nil_of_length_eq_zero hl.len
    subst hl0
    obtain ⟨A', c', rfl⟩ := hown.form
    exact ⟨A', c', w, run_append_owned_none (P := Tryz.prog) (w := w) B 39 ty 5 i 1 Tryz.underlying39 hi0 _ n (l1.map vb) hown.o, by simpa using hown, World.grownBy.refl w _, .inl rfl⟩
  | some ad =>
    obtain ⟨v', w', hr, h2, h3, _, h5⟩ := run_append_own_at (P := Tryz.prog) w B 39 ty 5 i (.int .u8 0) 1 1 Tryz.underlying39 hi0 hz hs1 hb rfl (by decide) v n (l1.map vb) hown.o ad m c (l2.map vb) (by simp [hl.len])
      (fun j u hu => by
        have hp : 0 < (l2.map vb).length := by have := (List.getElem?_eq_some_iff.1 hu).1; omega
        obtain ⟨ad', e, hc⟩ := hl.news hp
        cases e
        exact hc j u hu) (one_vb' l2) (by unfold maxLen; omega) (by omega) hBw
    rw [← List.map_append] at h2
    obtain ⟨A', c', rfl⟩ := (Own.mk h2).form
    exact ⟨A', c', w', hr, ⟨h2⟩, h3, h5⟩
/-- bytes appended onto a row of the call's own -/
theorem wp_append_bs {w : World} {o : Oper} {a : Act} {K : Act → World → Prop} {Q : Exit → Act → World → Prop} (s x : Operand)
    (ho : o.op = .call { callee := .builtin .append, args := #[s, x], argTypes := #[39, 39] })
    (B : Nat) (v : Value) (n : Nat) (l1 : List (BitVec 8)) (hs : a.eval s = v) (hown : Own w B v n l1)
    (A : Option Addr) (m c : Nat) (l2 : List (BitVec 8)) (hx : a.eval x = .slice A m c) (hl : Bs w A m c l2)
    (h47 : n + m ≤ 140737488355328) (N : Nat) (hN : n + m = N) (L : List (BitVec 8)) (hL : l1 ++ l2 = L) (w0 : World) (hx0 : Ext w0 w) (hB : w0.heap.size ≤ B) (hBw : B ≤ w.heap.size)
    (h : ∀ A' c' w', Own w' B (.slice A' N c') N L → Ext w0 w' → Apd w w' v (.slice A' N c') → K (a.put o.dst (.slice A' N c')) w') : o.wp Tryz.prog a w K Q := by
  subst hN hL
  obtain ⟨A', c', w', hr, h2, h3⟩ := run_append_bs o.type hown hl h47 hBw
  unfold Oper.wp
  simp [execOp, ho, resolve, invoke, builtin, hs, hx, hr, Result.andThen]
  exact h A' c' w' h2 (hx0.grown h3.grown fun k hk => Nat.le_trans hB (hown.base k hk)) h3
/-- the same, another row beside -/
theorem wp_append_bs2 {w : World} {o : Oper} {a : Act} {K : Act → World → Prop} {Q : Exit → Act → World → Prop} (s x : Operand)
    (ho : o.op = .call { callee := .builtin .append, args := #[s, x], argTypes := #[39, 39] })
    (B : Nat) (v : Value) (n : Nat) (l1 : List (BitVec 8)) (hs : a.eval s = v) (hown : Own w B v n l1)
    (A : Option Addr) (m c : Nat) (l2 : List (BitVec 8)) (hx : a.eval x = .slice A m c) (hl : Bs w A m c l2)
    (h47 : n + m ≤ 140737488355328) (N : Nat) (hN : n + m = N) (L : List (BitVec 8)) (hL : l1 ++ l2 = L) (w0 : World) (hx0 : Ext w0 w) (hB : w0.heap.size ≤ B) (hBw : B ≤ w.heap.size)
    (u : Value) (n' : Nat) (l' : List (BitVec 8)) (hu : Own w B u n' l') (hd : Dj u v)
    (h : ∀ A' c' w', Own w' B (.slice A' N c') N L → Ext w0 w' → Apd w w' v (.slice A' N c') → Own w' B u n' l' → K (a.put o.dst (.slice A' N c')) w') : o.wp Tryz.prog a w K Q :=
  wp_append_bs s x ho B v n l1 hs hown A m c l2 hx hl h47 N hN L hL w0 hx0 hB hBw fun A' c' w' h1 h2 h3 => h A' c' w' h1 h2 h3 (h3.keep hu hd)
theorem wpList_append_bs {w : World} {ops : Array Oper} {rest : List Oper} {o : Oper} {a : Act} {Q : Exit → Act → World → Prop} (hgd : o.guard = none) (s x : Operand)
    (ho : o.op = .call { callee := .builtin .append, args := #[s, x], argTypes := #[39, 39] })
    (B : Nat) (v : Value) (n : Nat) (l1 : List (BitVec 8)) (hs : a.eval s = v) (hown : Own w B v n l1)
    (A : Option Addr) (m c : Nat) (l2 : List (BitVec 8)) (hx : a.eval x = .slice A m c) (hl : Bs w A m c l2)
    (h47 : n + m ≤ 140737488355328) (N : Nat) (hN : n + m = N) (L : List (BitVec 8)) (hL : l1 ++ l2 = L) (w0 : World) (hx0 : Ext w0 w) (hB : w0.heap.size ≤ B) (hBw : B ≤ w.heap.size)
    (h : ∀ A' c' w', Own w' B (.slice A' N c') N L → Ext w0 w' → Apd w w' v (.slice A' N c') → wpList Tryz.prog ops Q rest (a.put o.dst (.slice A' N c')) w') : wpList Tryz.prog ops Q (o :: rest) a w :=
  wpList_plain hgd fun _ hK => wp_append_bs s x ho B v n l1 hs hown A m c l2 hx hl h47 N hN L hL w0 hx0 hB hBw fun A' c' w' h1 h2 h3 => hK _ _ (h A' c' w' h1 h2 h3)
/-- a piece of a block known whole -/
theorem Blk.bs {w : World} {g t : Nat} {L : List (BitVec 8)} (h : Blk w g t (bv L)) (o n c : Nat) (hn : o + n ≤ L.length) (hc : n ≤ c) : Bs w (some ⟨g, o, none⟩) n c ((L.drop o).take n) := by
  refine ⟨by rw [List.length_take, List.length_drop]; omega, hc, (fun e => by cases e), fun _ => ⟨g, o, rfl, fun j hj => ?_⟩⟩
  rw [gb_take _ _ _ hj, gb_drop]
  exact (h.h.cell (o + j)).trans (bv_at L (o + j) (by omega))
/-- what a call leaves that makes a new slice of n bytes -/
def Fresh (w : World) (n : Nat) (l : List (BitVec 8)) (e : Ending) (w' : World) : Prop :=
  ∃ A c, e = .returned (.slice A n c) ∧ Bs w' A n c l ∧ Own w' w.heap.size (.slice A n c) n l ∧ Ext w w'
theorem fresh_of {w w' : World} {n : Nat} {v : Value} {l : List (BitVec 8)} (ho : w'.ownsRow w.heap.size 5 1 v n (l.map vb)) (hb : Below w.heap.size w w') : Fresh w n l (.returned v) w' := by
  obtain ⟨A, c, rfl, hs⟩ := Sl.of_own ho
  exact ⟨A, c, rfl, ⟨hs⟩, ⟨ho⟩, ⟨hb⟩⟩
theorem Own.take {w : World} {B m c n : Nat} {A : Option Addr} {l : List (BitVec 8)} (h : Own w B (.slice A m c) m l) (hn : n ≤ m) : Own w B (.slice A n c) n (l.take n) := by
  have hl := h.len
  refine ⟨by simp [hl]; omega, ?_⟩
  rcases h.o.2 with ⟨e, e2⟩ | ⟨g, cap, cur, e, h3, h4, h5, h6, h7, h8⟩
  · cases e; exact .inl ⟨by rw [show n = 0 by omega], by omega⟩
  · cases e
    refine .inr ⟨g, c, cur, rfl, h3, h4, by omega, h6, h7, ?_⟩
    rw [List.map_take, ← h8, List.take_take, Nat.mul_one, Nat.mul_one, Nat.min_eq_left hn]
theorem run_uptoB {w0 : World} {B m c : Nat} {A : Option Addr} {l : List (BitVec 8)} (h : Own w0 B (.slice A m c) m l) (n : Nat) (hn : n ≤ m) (w : World) :
    (Instr.sliceAt 39 (.slice A m c) none (some (.int .i64 (n : Int))) none).run Tryz.prog w = .ok (.slice A n c) w :=
  run_upto A m c 39 5 Tryz.underlying39 szB n (n : Int) rfl (by have := h.bs.cap; omega) w
/-- a constant's bytes -/
theorem run_const (w : World) (g : Nat) (C : Array Value) (n c : Nat) (hg : g = w.heap.size) : (convert 39 39 (.slice (some ⟨g, 0, none⟩) n c)).run Tryz.prog (w.alloc (.cells C 5)) = .ok (.slice (some ⟨g, 0, none⟩) n c) (w.alloc (.cells C 5 (C.size, C.size + 1))) := by
  subst hg
  exact Lib.run_convert_bytes_const w 39 5 C n c Tryz.underlying39 Tryz.underlying5
theorem const_bs (w : World) (g : Nat) (l : List (BitVec 8)) (n c : Nat) (fr : Nat × Nat) (hg : g = w.heap.size) (hn : l.length = n) (hc : n ≤ c) : Bs (w.alloc (.cells (bv l) 5 fr)) (some ⟨g, 0, none⟩) n c l := by
  subst hn hg
  refine ⟨rfl, hc, (fun e => by cases e), fun _ => ⟨_, 0, rfl, fun j hj => ?_⟩⟩
  rw [Nat.zero_add, cell_of_row _ w.heap.size j _ 5 fr (heap_alloc_new w _)]
  exact bv_at l j hj
/-- what is held may be said more narrowly from here on -/
theorem held_more {P : Program} {md : Region.Mode} {ops : Array Oper} {Q : Exit → Act → World → Prop} {S S' : World → Prop} (h : ∀ w, S' w → S w) :
    ∀ (fuel : Nat) (listed : Array Bool) (a : Act) (w : World), wpAnyH P md ops Q S' fuel listed a w → wpAnyH P md ops Q S fuel listed a w
  | 0, _, _, _, H => H
  | fuel + 1, _, _, _, H => ⟨H.1, fun i hi => wpOp_mono (fun a' w' h' => ⟨h _ h'.1, held_more h fuel _ a' w' h'.2⟩) (H.2 i hi)⟩
theorem strOf_size (l : List (BitVec 8)) : (strOf l).size = l.length := by simp [strOf, ByteArray.size]
theorem held_go {S : World → Prop} {X : Act → World → Prop} {K' : Act → World → Prop} (HK : Hid (∀ a w, S w → X a w → K' a w)) {a : Act} {w : World} (hs : S w) (h : S w → X a w) : K' a w := HK.out a w hs (h hs)
theorem fresh_mk {w w1 w' : World} {A : Option Addr} {n c : Nat} {l : List (BitVec 8)} (hs : Bs w' A n c l) (ho : Own w' w1.heap.size (.slice A n c) n l) (hx : Ext w w1) (hx' : Ext w1 w') : Fresh w n l (.returned (.slice A n c)) w' :=
  ⟨A, c, rfl, hs, ho.lower hx.size, hx.trans hx'⟩
/-- make([]byte, 0, n) -/
theorem run_make0 (n : Nat) (S : Int) (hS : S = (n : Int)) (hn : n ≤ 140737488355328) (w : World) :
    (Instr.makeSlice 39 (.int .i64 0) (.int .i64 S)).run Tryz.prog w = .ok (.slice (some ⟨w.heap.size, 0, none⟩) 0 n) (w.alloc (.cells (bv (zb n)) 5)) := by
  subst hS
  obtain ⟨i, hi, hz, hs, hb⟩ := info_parts inB
  have hr := run_make (P := Tryz.prog) w 39 5 i (.int .u8 0) Tryz.underlying39 hi hz .i64 .i64 0 (n : Int) (by omega) (by omega) (by rw [hb]; omega) (by omega)
  rw [hr, hs]
  simp only [Int.toNat_natCast, Nat.mul_one]
  rw [show (Value.int .u8 0).cells = #[Value.int .u8 0] from rfl]
  have e : madeCells #[Value.int .u8 0] n = bv (zb n) := by
    apply Array.ext_getElem?
    intro i
    by_cases h : i < n
    · simp [madeCells, bv, zb, h, Nat.mod_one]; rfl
    · simp [madeCells, bv, zb, h]
  rw [e]
  rfl
/-- the same with no error beside -/
def FreshE (w : World) (n : Nat) (l : List (BitVec 8)) (e : Ending) (w' : World) : Prop :=
  ∃ A c, e = .returned (.tuple #[.slice A n c, .nilIface]) ∧ Bs w' A n c l ∧ Own w' w.heap.size (.slice A n c) n l ∧ Ext w w'
end Go.Proofs.YtkdjhklnlnfhfaaGreatDoor
namespace Go.Proofs.YtkdjhklnlnfhfaaGreatDoor
open Go
set_option maxRecDepth 4000

theorem ofInt8 (x : BitVec 8) : BitVec.ofInt 8 (ub x) = x := by
  unfold ub; rw [BitVec.ofInt_natCast]; simp
theorem wrap8_ub (x : BitVec 8) : IntKind.u8.wrap (x.toNat : Int) = ub x := by
  have := x.isLt
  unfold ub
  rw [IntKind.wrap_u8]; omega
@[go_sem] theorem b_xor8 (x y : BitVec 8) : bits .xor .u8 (ub x) (ub y) = ub (x ^^^ y) := by
  show IntKind.u8.wrap ((BitVec.ofInt 8 (ub x) ^^^ BitVec.ofInt 8 (ub y)).toNat : Int) = _
  rw [ofInt8, ofInt8, wrap8_ub]

theorem gbv (l : List (BitVec 8)) (i : Nat) (h : i < l.length) : gb l i = l[i] := by simp [gb, h]
theorem gb_out (l : List (BitVec 8)) (i : Nat) (h : l.length ≤ i) : gb l i = 0 := by simp [gb, h]
theorem ext_gb (x y : List (BitVec 8)) (h : x.length = y.length) (h2 : ∀ i, i < x.length → gb x i = gb y i) : x = y := by
  apply List.ext_getElem h
  intro i h1 h3
  rw [← gbv x i h1, ← gbv y i h3]
  exact h2 i h1
theorem gb_app (x y : List (BitVec 8)) (i : Nat) : gb (x ++ y) i = if i < x.length then gb x i else gb y (i - x.length) := by
  unfold gb
  rw [List.getD_eq_getElem?_getD, List.getD_eq_getElem?_getD, List.getD_eq_getElem?_getD, List.getElem?_append]
  split <;> rfl
theorem gb_set (l : List (BitVec 8)) (j i : Nat) (x : BitVec 8) (hj : j < l.length) : gb (l.set j x) i = if i = j then x else gb l i := by
  unfold gb
  rw [List.getD_eq_getElem?_getD, List.getD_eq_getElem?_getD, List.getElem?_set]
  by_cases h : i = j
  · subst h; simp [hj]
  · rw [if_neg h, if_neg (fun e => h e.symm)]
theorem gb_map_range (f : Nat → BitVec 8) (n i : Nat) (h : i < n) : gb ((List.range n).map f) i = f i := by
  simp [gb, h]
theorem gb_zb (n i : Nat) : gb (zb n) i = 0 := by
  unfold gb zb
  rw [List.getD_eq_getElem?_getD, List.getElem?_replicate]
  split <;> rfl
theorem gb_drop' (l : List (BitVec 8)) (k j : Nat) : gb (l.drop k) j = gb l (k + j) := by
  simp [gb, List.getElem?_drop]
theorem gb_take' (l : List (BitVec 8)) (k j : Nat) : gb (l.take k) j = if j < k then gb l j else 0 := by
  unfold gb
  rw [List.getD_eq_getElem?_getD, List.getD_eq_getElem?_getD, List.getElem?_take]
  split <;> rfl

/-- a row that is filled in place: the first k elements are f's -/
def li (n : Nat) (f : Nat → BitVec 8) : List (BitVec 8) := (List.range n).map f
theorem li_len (n : Nat) (f : Nat → BitVec 8) : (li n f).length = n := by simp [li]
theorem li_gb (n : Nat) (f : Nat → BitVec 8) (j : Nat) (h : j < n) : gb (li n f) j = f j := gb_map_range f n j h
theorem li_congr {n : Nat} {f g : Nat → BitVec 8} (h : ∀ j, j < n → f j = g j) : li n f = li n g := List.map_congr_left fun j hj => h j (by simpa using hj)
theorem li_succ (n : Nat) (f : Nat → BitVec 8) : li (n + 1) f = li n f ++ [f n] := by unfold li; rw [List.range_succ, List.map_append]; rfl
theorem li_self (l : List (BitVec 8)) (n : Nat) (h : l.length = n) : li n (gb l) = l := by
  apply ext_gb
  · rw [li_len, h]
  · intro i hi
    rw [li_gb _ _ _ (by rwa [li_len] at hi)]
def fl (n : Nat) (f : Nat → BitVec 8) (z : List (BitVec 8)) (k : Nat) : List (BitVec 8) := li n fun j => if j < k then f j else gb z j
theorem fl_len (n : Nat) (f : Nat → BitVec 8) (z : List (BitVec 8)) (k : Nat) : (fl n f z k).length = n := li_len _ _
theorem fl_gb (n : Nat) (f : Nat → BitVec 8) (z : List (BitVec 8)) (k j : Nat) (h : j < n) : gb (fl n f z k) j = if j < k then f j else gb z j := li_gb _ _ _ h
theorem fl_zero (n : Nat) (f : Nat → BitVec 8) (z : List (BitVec 8)) (h : z.length = n) : fl n f z 0 = z := by
  have e : fl n f z 0 = li n (gb z) := li_congr fun j _ => by rw [if_neg (Nat.not_lt_zero j)]
  rw [e, li_self z n h]
theorem fl_end (n : Nat) (f : Nat → BitVec 8) (z : List (BitVec 8)) : fl n f z n = li n f := li_congr fun j hj => by rw [if_pos hj]
theorem fl_succ (n : Nat) (f : Nat → BitVec 8) (z : List (BitVec 8)) (k : Nat) (h : k < n) : (fl n f z k).set k (f k) = fl n f z (k + 1) := by
  apply ext_gb
  · rw [List.length_set, fl_len, fl_len]
  · intro i hi
    rw [List.length_set, fl_len] at hi
    rw [gb_set _ _ _ _ (by rwa [fl_len]), fl_gb _ _ _ _ _ hi, fl_gb _ _ _ _ _ hi]
    by_cases h1 : i = k
    · subst h1; simp
    · rw [if_neg h1]
      by_cases h2 : i < k
      · rw [if_pos h2, if_pos (by omega)]
      · rw [if_neg h2, if_neg (by omega)]
/-- each byte, by its number -/
theorem all8 {p : BitVec 8 → Prop} (h : ∀ n, n < 256 → p (BitVec.ofNat 8 n)) (x : BitVec 8) : p x := by
  have := h x.toNat x.isLt
  rwa [BitVec.ofNat_toNat, BitVec.setWidth_eq] at this
end Go.Proofs.YtkdjhklnlnfhfaaGreatDoor
namespace Go.Proofs.YtkdjhklnlnfhfaaGreatDoor
open Go Go.RowKit
set_option maxRecDepth 4000

/-- a row put over a list from an element on -/
def puts : List (BitVec 8) → Nat → List (BitVec 8) → List (BitVec 8)
  | L, _, [] => L
  | L, o, x :: r => puts (L.set o x) (o + 1) r
theorem puts_len : ∀ (l : List (BitVec 8)) (L : List (BitVec 8)) (o : Nat), (puts L o l).length = L.length
  | [], _, _ => rfl
  | x :: r, L, o => by rw [puts, puts_len r, List.length_set]
theorem puts_gb : ∀ (l : List (BitVec 8)) (L : List (BitVec 8)) (o i : Nat), o + l.length ≤ L.length → gb (puts L o l) i = if o ≤ i ∧ i < o + l.length then gb l (i - o) else gb L i
  | [], L, o, i, _ => by rw [puts, if_neg (by rw [List.length_nil]; omega)]
  | x :: r, L, o, i, h => by
    rw [List.length_cons] at h
    rw [puts, puts_gb r (L.set o x) (o + 1) i (by rw [List.length_set]; omega), gb_set _ _ _ _ (by omega), List.length_cons]
    by_cases h1 : i = o
    · subst h1
      rw [if_neg (by omega), if_pos rfl, if_pos (by omega), Nat.sub_self]; rfl
    · by_cases h2 : o + 1 ≤ i ∧ i < o + 1 + r.length
      · rw [if_pos h2, if_pos (by omega), show i - o = (i - (o + 1)) + 1 by omega]; rfl
      · rw [if_neg h2, if_neg h1, if_neg (by omega)]
section
variable {w w' w0 : World} {g t : Nat}
theorem Blk.setCells (l : List (BitVec 8)) : ∀ {w : World} {L : List (BitVec 8)} (o : Nat), Blk w g t (bv L) → Blk (w.setCells g o (l.map vb)) g t (bv (puts L o l)) := by
  induction l with
  | nil => intro w L o h; exact h
  | cons x r ih => intro w L o h; exact ih (o + 1) (h.setB o x)
theorem Blk.setCells_far {cs : Array Value} {g' : Nat} (hg : g ≠ g') : ∀ (vs : List Value) {w : World} (o : Nat), Blk w g t cs → Blk (w.setCells g' o vs) g t cs
  | [], _, _, h => h
  | v :: r, _, o, h => Blk.setCells_far hg r (o + 1) (h.far (p := ⟨g', o, none⟩) hg v)
theorem Ext.setCells (hg : w0.heap.size ≤ g) : ∀ (vs : List Value) {w : World} (o : Nat), Ext w0 w → Ext w0 (w.setCells g o vs)
  | [], _, _, h => h
  | v :: r, _, o, h => Ext.setCells hg r (o + 1) (h.setCell (p := ⟨g, o, none⟩) hg v)
theorem Blk.there {L : List (BitVec 8)} (h : Blk w g t (bv L)) (o n : Nat) (hn : o + n ≤ L.length) : w.there g o n := fun j hj => by
  refine ⟨?_, h.h.frozen _⟩
  rw [h.h.cell, bv_at _ _ (by omega)]; rfl
/-- a piece of a block, as a range -/
theorem Blk.piece {L : List (BitVec 8)} (h : Blk w g t (bv L)) (o : Nat) (l : List (BitVec 8)) (hl : ∀ j, j < l.length → gb L (o + j) = gb l j) (hn : o + l.length ≤ L.length) : w.rangeAt g o (l.map vb) := fun j v hv => by
  have hj : j < l.length := by have := (List.getElem?_eq_some_iff.1 hv).1; simpa using this
  rw [h.h.cell, bv_at _ _ (by omega), ← hv, hl j hj]
  simp [gb, hj]
end
/-- the walk stands at a load of what slot k points to; at a store there of slot m: to ask first, so that a law isn't tried elsewhere -/
theorem at_load {P : Program} {ops : Array Oper} {rest : List Oper} {a : Act} {w : World} {Q : Exit → Act → World → Prop} {d ty t ps af g} (k : Nat)
    (h : wpList P ops Q (⟨d, .load ty (.tmp k), t, ps, af, g⟩ :: rest) a w) : wpList P ops Q (⟨d, .load ty (.tmp k), t, ps, af, g⟩ :: rest) a w := h
theorem at_load_to {P : Program} {ops : Array Oper} {rest : List Oper} {a : Act} {w : World} {Q : Exit → Act → World → Prop} {ty t ps af g} (d k : Nat)
    (h : wpList P ops Q (⟨some d, .load ty (.tmp k), t, ps, af, g⟩ :: rest) a w) : wpList P ops Q (⟨some d, .load ty (.tmp k), t, ps, af, g⟩ :: rest) a w := h
theorem at_store {P : Program} {ops : Array Oper} {rest : List Oper} {a : Act} {w : World} {Q : Exit → Act → World → Prop} {d ty t ps af g} (k m : Nat)
    (h : wpList P ops Q (⟨d, .store ty (.tmp k) (.tmp m), t, ps, af, g⟩ :: rest) a w) : wpList P ops Q (⟨d, .store ty (.tmp k) (.tmp m), t, ps, af, g⟩ :: rest) a w := h
theorem at_call_to {P : Program} {ops : Array Oper} {rest : List Oper} {a : Act} {w : World} {Q : Exit → Act → World → Prop} {c t ps af g} (d : Nat)
    (h : wpList P ops Q (⟨some d, .call c, t, ps, af, g⟩ :: rest) a w) : wpList P ops Q (⟨some d, .call c, t, ps, af, g⟩ :: rest) a w := h
/-- bytes that lie in the midst of a block; room there (structures: the walk compares them by their names) -/
structure Rge (w : World) (b o : Nat) (l : List (BitVec 8)) : Prop where
  r : w.rangeAt b o (l.map vb)
structure Thr (w : World) (b o n : Nat) : Prop where
  t : w.there b o n
theorem Rge.ext {w w' : World} {b o : Nat} {l : List (BitVec 8)} (h : Rge w b o l) (hx : Ext w w') : Rge w' b o l := ⟨rg_ext h.r hx⟩
theorem wpList_load_rge {P : Program} {ops : Array Oper} {rest : List Oper} {op : Oper} {a : Act} {w : World} {Q : Exit → Act → World → Prop} (hgd : op.guard = none) (ty : TypeId) (x : Operand) (ho : op.op = .load ty x)
    (b o : Nat) (l : List (BitVec 8)) (hc : Rge w b o l) (hx : a.eval x = .pointer (some ⟨b, o, none⟩)) (d : TypeDesc)
    (hu : P.underlying ty = some d) (hd : d.isRow = true) (hi : (P.info? ty).map (·.size) = some (bv l).size)
    (h : wpList P ops Q rest (a.put op.dst (.agg (bv l))) w) : wpList P ops Q (op :: rest) a w :=
  wpList_load_mid hgd ty x ho b o hx (l.map vb) d hc.r hu hd (by rw [hi, bv_size, List.length_map]) h
theorem wp_load_rge {P : Program} {op : Oper} {a : Act} {w : World} {K : Act → World → Prop} {Q : Exit → Act → World → Prop} (ty : TypeId) (x : Operand) (ho : op.op = .load ty x)
    (b o : Nat) (l : List (BitVec 8)) (hc : Rge w b o l) (hx : a.eval x = .pointer (some ⟨b, o, none⟩)) (d : TypeDesc)
    (hu : P.underlying ty = some d) (hd : d.isRow = true) (hi : (P.info? ty).map (·.size) = some (bv l).size)
    (h : K (a.put op.dst (.agg (bv l))) w) : op.wp P a w K Q :=
  wp_load_mid ty x ho b o hx (l.map vb) d hc.r hu hd (by rw [hi, bv_size, List.length_map]) h
theorem Blk.rge {w : World} {g t : Nat} {l : List (BitVec 8)} (h : Blk w g t (bv l)) : Rge w g 0 l := ⟨h.rg⟩
theorem wpList_store_thr {P : Program} {ops : Array Oper} {rest : List Oper} {op : Oper} {a : Act} {w : World} {Q : Exit → Act → World → Prop} (hgd : op.guard = none) (ty : TypeId) (x y : Operand) (ho : op.op = .store ty x y)
    (b o : Nat) (l : List (BitVec 8)) (ht : Thr w b o l.length) (hx : a.eval x = .pointer (some ⟨b, o, none⟩)) (hy : a.eval y = .agg (bv l))
    (hi : (P.info? ty).map (·.size) = some (bv l).size)
    (h : wpList P ops Q rest (a.put op.dst undef) (w.setCells b o (l.map vb))) : wpList P ops Q (op :: rest) a w :=
  wpList_store_mid hgd ty x y ho b o (bv l) hx hy (by rw [bv_size]; exact ht.t) hi (bv_one l) h
/-- a whole block is stored anew -/
theorem wpList_store_blk {P : Program} {ops : Array Oper} {rest : List Oper} {op : Oper} {a : Act} {w : World} {Q : Exit → Act → World → Prop} (hgd : op.guard = none) (ty : TypeId) (x y : Operand) (ho : op.op = .store ty x y)
    (g : Nat) (l l0 : List (BitVec 8)) (t : TypeId) (hB : Blk w g t (bv l0)) (hl : l.length = l0.length) (hx : a.eval x = .pointer (some ⟨g, 0, none⟩)) (hy : a.eval y = .agg (bv l))
    (hi : (P.info? ty).map (·.size) = some (bv l).size) (h : wpList P ops Q rest (a.put op.dst undef) (w.setRow g (bv l))) : wpList P ops Q (op :: rest) a w :=
  wpList_store_row hgd ty x y ho g (bv l) hx hy t _ hB.h hi (by rw [bv_size, bv_size, hl]) (bv_one l) h
theorem wp_store_blk {P : Program} {op : Oper} {a : Act} {w : World} {K : Act → World → Prop} {Q : Exit → Act → World → Prop} (ty : TypeId) (x y : Operand) (ho : op.op = .store ty x y)
    (g : Nat) (l l0 : List (BitVec 8)) (t : TypeId) (hB : Blk w g t (bv l0)) (hl : l.length = l0.length) (hx : a.eval x = .pointer (some ⟨g, 0, none⟩)) (hy : a.eval y = .agg (bv l))
    (hi : (P.info? ty).map (·.size) = some (bv l).size) (h : K (a.put op.dst undef) (w.setRow g (bv l))) : op.wp P a w K Q :=
  wp_store_row ty x y ho g (bv l) hx hy t _ hB.h hi (by rw [bv_size, bv_size, hl]) (bv_one l) h
/-- an array or a struct out of one part -/
theorem wpList_build1 {P : Program} {ops : Array Oper} {rest : List Oper} {o : Oper} {a : Act} {w : World} {Q : Exit → Act → World → Prop} (hgd : o.guard = none) (t i : Nat) (x : Operand) (ho : o.op = .build t #[(i, x)])
    (u : Value) (hu : a.eval x = u) (v : Value) (hr : (Instr.build t #[(i, u)]).run P w = .ok v w)
    (h : wpList P ops Q rest (a.put o.dst v) w) : wpList P ops Q (o :: rest) a w :=
  wpList_plain hgd fun _ hK => by
    subst hu
    have e : (#[(i, x)] : Array (Nat × Operand)).map (fun (i, x) => (i, a.eval x)) = #[(i, a.eval x)] := by simp
    unfold Oper.wp execOp
    simp only [ho, e, Sem.run_bind, hr, Result.andThen_ok, Sem.run_pure]
    exact hK _ _ h
theorem one_bs (w : World) (x : BitVec 8) : Bs (w.alloc (.cells #[.int .u8 (ub x)] 5)) (some ⟨w.heap.size, 0, none⟩) 1 1 [x] := (Blk.new w 5 (bv [x])).bs 0 1 1 (by simp) (Nat.le_refl _)
theorem num_bs (w : World) (v : Int) (x : BitVec 8) (h : ub x = v) : Bs (w.alloc (.cells #[.int .u8 v] 5)) (some ⟨w.heap.size, 0, none⟩) 1 1 [x] := by subst h; exact one_bs w x
/-- make([]byte, n) -/
theorem run_makeN (n : Nat) (S : Int) (hS : S = (n : Int)) (hn : n ≤ 140737488355328) (w : World) :
    (Instr.makeSlice 39 (.int .i64 S) (.int .i64 S)).run Tryz.prog w = .ok (.slice (some ⟨w.heap.size, 0, none⟩) n n) (w.alloc (.cells (bv (zb n)) 5)) := by
  subst hS
  obtain ⟨i, hi, hz, hs, hb⟩ := info_parts inB
  have hr := run_make (P := Tryz.prog) w 39 5 i (.int .u8 0) Tryz.underlying39 hi hz .i64 .i64 (n : Int) (n : Int) (by omega) (by omega) (by rw [hb]; omega) (by omega)
  rw [hr, hs]
  simp only [Int.toNat_natCast, Nat.mul_one]
  rw [show (Value.int .u8 0).cells = #[Value.int .u8 0] from rfl]
  have e : madeCells #[Value.int .u8 0] n = bv (zb n) := by
    apply Array.ext_getElem?
    intro i
    by_cases h : i < n
    · simp [madeCells, bv, zb, h, Nat.mod_one]; rfl
    · simp [madeCells, bv, zb, h]
  rw [e]
/-- a slice that is long enough, as an array -/
theorem run_arrayAt3 {P : Program} (w : World) (t n e : Nat) (h : P.underlying t = some (.array n e)) (a : Option Addr) (m c : Nat) (hl : n ≤ m) : (Instr.arrayAt t (.slice a m c)).run P w = .ok (.pointer a) w := by
  have hm : ¬ m < n := by omega
  simp [Instr.arrayAt, run_underlying h, hm]
end Go.Proofs.YtkdjhklnlnfhfaaGreatDoor
