/-
  Worlds in which some blocks alone have turned; things of a call's own that are written in place: what lies in other blocks stays.
-/
import Derived.Test.YthookcnkmlmgcaaVGo
import Derived.Test.YthookcnkmlmgcaaVBl
import Derived.Test.YthookcnkmlmgcaaVEr
import Derived.Laws.ResultCell
namespace Go.Proofs.Ythookcnkmlmgcaa
open Go Go.RowKit
set_option maxRecDepth 4000

/-- a later world, in which of the elder blocks those of G alone may have turned -/
structure Mds (G : List Nat) (w w' : World) : Prop where
  os : w'.os = w.os
  tape : w'.tape = w.tape
  output : w'.output = w.output
  size : w.heap.size ≤ w'.heap.size
  block : ∀ k, k < w.heap.size → k ∉ G → w'.heap[k]? = w.heap[k]?
section
variable {G G' : List Nat} {w w' w'' w0 : World}
@[go_sem] theorem Mds.refl (G : List Nat) (w : World) : Mds G w w := ⟨rfl, rfl, rfl, Nat.le_refl _, fun _ _ _ => rfl⟩
theorem Mds.trans (h : Mds G w w') (k : Mds G w' w'') : Mds G w w'' :=
  ⟨k.os.trans h.os, k.tape.trans h.tape, k.output.trans h.output, Nat.le_trans h.size k.size, fun i hi hg => (k.block i (Nat.lt_of_lt_of_le hi h.size) hg).trans (h.block i hi hg)⟩
theorem Mds.mono (h : Mds G w w') (hG : ∀ k, k ∈ G → k ∈ G') : Mds G' w w' := ⟨h.os, h.tape, h.output, h.size, fun k hk hg => h.block k hk fun e => hg (hG k e)⟩
/-- .. or may lie behind the first world -/
theorem Mds.fit (h : Mds G w w') (hG : ∀ k, k ∈ G → k ∈ G' ∨ w.heap.size ≤ k) : Mds G' w w' := ⟨h.os, h.tape, h.output, h.size, fun k hk hg => h.block k hk fun e => by
  rcases hG k e with h1 | h1
  · exact hg h1
  · omega⟩
theorem Ext.mds (h : Ext w w') (G : List Nat) : Mds G w w' := ⟨h.b.os, h.b.tape, h.b.output, h.b.size, fun k hk _ => h.b.block k hk⟩
theorem Mds.drew (h : Mds G w w') : Mds G w w'.drew := ⟨h.os, h.tape, h.output, h.size, h.block⟩
theorem Mds.alloc (h : Mds G w w') (o : Obj) : Mds G w (w'.alloc o) := h.trans (((by (repeat (first | assumption | exact Ext.refl _ | apply Ext.drew | apply Ext.drewN | apply Ext.alloc | refine Ext.trans ?_ (by assumption))); first | done | fail) : Ext w' (w'.alloc o)).mds G)
theorem Mds.setCell (h : Mds G w w') {p : Addr} (hp : p.block ∈ G) (v : Value) : Mds G w (w'.setCell p v) :=
  h.trans ⟨rfl, rfl, rfl, by simp [World.setCell], fun k _ hg => Below.heap_setCell _ _ _ _ fun e => hg (e ▸ hp)⟩
theorem Mds.setRow (h : Mds G w w') {g : Nat} (hp : g ∈ G) (cs : Array Value) : Mds G w (w'.setRow g cs) :=
  h.trans ⟨rfl, rfl, rfl, by simp, fun k _ hg => setRow_other w' g k cs (fun e => hg (e ▸ hp))⟩
theorem Mds.ext (h : Mds G w w') (hx : Ext w0 w) (hG : ∀ k, k ∈ G → w0.heap.size ≤ k) : Ext w0 w' :=
  ⟨⟨h.os.trans hx.b.os, h.tape.trans hx.b.tape, h.output.trans hx.b.output, Nat.le_trans hx.size h.size, fun k hk => (h.block k (Nat.lt_of_lt_of_le hk hx.size) fun e => by have := hG k e; omega).trans (hx.b.block k hk)⟩⟩
theorem Blk.mds {g : Nat} {t : TypeId} {cs : Array Value} (h : Blk w g t cs) (hm : Mds G w w') (hg : g ∉ G) : Blk w' g t cs := ⟨(hm.block g h.lt hg).trans h.h⟩
theorem Blk.set_ {g : Nat} {t : TypeId} {cs : Array Value} (h : Blk w g t cs) (i : Nat) (u : Value) : Blk (w.setCell ⟨g, i, none⟩ u) g t (cs.setIfInBounds i u) := ⟨h.h.set i u⟩
theorem Blk.cell {g : Nat} {t : TypeId} {cs : Array Value} (h : Blk w g t cs) (hx : Ext w w') (i : Nat) : w'.cell? ⟨g, i, none⟩ = cs[i]? := (h.ext hx).h.cell i
theorem Blk.free {g : Nat} {t : TypeId} {cs : Array Value} (h : Blk w g t cs) (hx : Ext w w') (i : Nat) : w'.frozen? ⟨g, i, none⟩ = false := (h.ext hx).h.frozen i
end
/-- a block of one type is none of another -/
theorem blk_ne {w : World} {g g' t t' : Nat} {cs cs' : Array Value} {f f' : Nat × Nat} (h : w.heap[g]? = some (.cells cs t f)) (h' : w.heap[g']? = some (.cells cs' t' f')) (ht : t ≠ t') : g ≠ g' := fun e => by
  subst e
  rw [h] at h'
  have := Option.some.inj h'
  injection this with h1 h2
  exact ht h2
/-- the block that a slice of the call's own lies in -/
def fpv (v : Value) : List Nat := v.ownBlock.toList
theorem mem_fpv {v : Value} {k : Nat} : k ∈ fpv v ↔ v.ownBlock = some k := by
  unfold fpv
  simp
section
variable {α : Type} {T : TypeId} {e : α → Value} {G : List Nat} {w w' : World} {A : Option Addr} {B n c : Nat} {v : Value} {l : List α}
theorem Rw.mds (h : Rw T e w B v n l) (hm : Mds G w w') (ho : ∀ k, k ∈ fpv v → k ∉ G) : Rw T e w' B v n l := by
  refine ⟨h.o.1, ?_⟩
  rcases h.o.2 with h2 | ⟨g, cap, cur, h1, h3, h4, h5⟩
  · exact .inl h2
  · refine .inr ⟨g, cap, cur, h1, h3, (hm.block g (Array.getElem?_eq_some_iff.1 h4).1 (ho g ?_)).trans h4, h5⟩
    subst h1; simp [fpv, Value.ownBlock]
/-- the block's type is the row's -/
theorem Rw.ne {g t : Nat} {cs : Array Value} (h : Rw T e w B v n l) (hb : Blk w g t cs) (ht : T ≠ t) : g ∉ fpv v := fun hk => by
  rw [mem_fpv] at hk
  rcases h.o.2 with ⟨h2, _⟩ | ⟨g', cap, cur, h1, h3, h4, h5⟩
  · subst h2; simp [Value.ownBlock] at hk
  · subst h1
    have e1 : g' = g := by simpa [Value.ownBlock] using hk
    exact blk_ne h4 hb.h ht e1
theorem Rw.apart {β : Type} {T' : TypeId} {e' : β → Value} {B' n' : Nat} {v' : Value} {l' : List β} (h : Rw T e w B v n l) (h' : Rw T' e' w B' v' n' l') (ht : T ≠ T') : ∀ k, k ∈ fpv v → k ∉ fpv v' := fun k hk hk' => by
  rw [mem_fpv] at hk hk'
  rcases h.o.2 with ⟨h2, _⟩ | ⟨g, cap, cur, h1, h3, h4, h5⟩
  · subst h2; simp [Value.ownBlock] at hk
  · rcases h'.o.2 with ⟨h2, _⟩ | ⟨g', cap', cur', h1', h3', h4', h5'⟩
    · subst h2; simp [Value.ownBlock] at hk'
    · subst h1 h1'
      have e1 : g = k := by simpa [Value.ownBlock] using hk
      have e2 : g' = k := by simpa [Value.ownBlock] using hk'
      exact blk_ne h4 h4' ht (e1.trans e2.symm)
theorem Rw.fp_lt (h : Rw T e w B v n l) : ∀ k, k ∈ fpv v → k < w.heap.size := fun k hk => h.lt k (mem_fpv.1 hk)
end
theorem Own.rw {w : World} {B n : Nat} {v : Value} {l : List (BitVec 8)} (h : Own w B v n l) : Rw 5 vb w B v n l := ⟨h.o⟩
theorem Rw.own {w : World} {B n : Nat} {v : Value} {l : List (BitVec 8)} (h : Rw 5 vb w B v n l) : Own w B v n l := ⟨h.o⟩
/-- an append turns the row's own block alone -/
theorem Apd.mds {w w' : World} {v v' : Value} (h : Apd w w' v v') : Mds (fpv v) w w' := by
  refine ⟨h.grown.os, h.grown.tape, h.grown.output, h.grown.size, fun k hk hg => h.grown.block k hk fun e => hg (mem_fpv.2 e.symm)⟩
theorem Apd.fp {w w' : World} {v v' : Value} (h : Apd w w' v v') : ∀ k, k ∈ fpv v' → k ∈ fpv v ∨ w.heap.size ≤ k := fun k hk => by
  rw [mem_fpv] at hk ⊢
  rcases h.at_ with e | e
  · exact .inl (e ▸ hk)
  · right
    rw [hk] at e
    have := Option.some.inj e
    omega
/-- what a call does that turns a thing of these blocks, which lies in those then -/
structure Mvs (G G' : List Nat) (w w' : World) : Prop where
  m : Mds G w w'
  f : ∀ k, k ∈ G' → k ∈ G ∨ w.heap.size ≤ k
/-- two things lie apart -/
def Ap (G H : List Nat) : Prop := ∀ k, k ∈ G → k ∉ H
/-- it lies behind -/
def Lo (b : Nat) (G : List Nat) : Prop := ∀ k, k ∈ G → b ≤ k
def Hi (w : World) (G : List Nat) : Prop := ∀ k, k ∈ G → k < w.heap.size
section
variable {G G' G'' H : List Nat} {w w' w'' w0 : World} {b : Nat}
theorem Ap.symm (h : Ap G H) : Ap H G := fun k h1 h2 => h k h2 h1
theorem Ap.of_lo (h : Lo w.heap.size G) (h' : Hi w H) : Ap G H := fun k h1 h2 => by have := h k h1; have := h' k h2; omega
theorem Mvs.refl (G : List Nat) (w : World) : Mvs G G w w := ⟨Mds.refl _ _, fun _ h => .inl h⟩
theorem Mvs.of_ext (h : Ext w w') (G : List Nat) : Mvs G G w w' := ⟨h.mds _, fun _ h => .inl h⟩
theorem Mvs.trans (h : Mvs G G' w w') (h' : Mvs G' G'' w' w'') : Mvs G G'' w w'' := by
  refine ⟨⟨h'.m.os.trans h.m.os, h'.m.tape.trans h.m.tape, h'.m.output.trans h.m.output, Nat.le_trans h.m.size h'.m.size, fun k hk hg => (h'.m.block k (Nat.lt_of_lt_of_le hk h.m.size) fun hk' => ?_).trans (h.m.block k hk hg)⟩, fun k hk => ?_⟩
  · rcases h.f k hk' with e | e
    · exact hg e
    · omega
  · rcases h'.f k hk with e | e
    · exact h.f k e
    · exact .inr (Nat.le_trans h.m.size e)
theorem Mvs.pre (h : Ext w w') (h' : Mvs G G' w' w'') : Mvs G G' w w'' := (Mvs.of_ext h G).trans h'
theorem Mvs.post (h : Mvs G G' w w') (h' : Ext w' w'') : Mvs G G' w w'' := h.trans (Mvs.of_ext h' G')
theorem Mvs.ext (h : Mvs G G' w w') (hx : Ext w0 w) (hG : Lo w0.heap.size G) : Ext w0 w' := h.m.ext hx hG
theorem Mvs.lo (h : Mvs G G' w w') (hb : b ≤ w.heap.size) (hG : Lo b G) : Lo b G' := fun k hk => by
  rcases h.f k hk with e | e
  · exact hG k e
  · exact Nat.le_trans hb e
theorem Mvs.ap (h : Mvs G G' w w') (hH : Hi w H) (ha : Ap G H) : Ap G' H := fun k hk hk' => by
  rcases h.f k hk with e | e
  · exact ha k e hk'
  · have := hH k hk'; omega
theorem Hi.mono (h : Hi w H) (hs : w.heap.size ≤ w'.heap.size) : Hi w' H := fun k hk => Nat.lt_of_lt_of_le (h k hk) hs
theorem Lo.mono {b' : Nat} (h : Lo b G) (hb : b' ≤ b) : Lo b' G := fun k hk => Nat.le_trans hb (h k hk)
end
/-- bytes appended onto a row that lies anywhere -/
theorem wp_append_m {w : World} {o : Oper} {a : Act} {K : Act → World → Prop} {Q : Exit → Act → World → Prop} (s x : Operand)
    (ho : o.op = .call { callee := .builtin .append, args := #[s, x], argTypes := #[22, 22] })
    (v : Value) (n : Nat) (l1 : List (BitVec 8)) (hs : a.eval s = v) (hown : Own w 0 v n l1)
    (A : Option Addr) (m c : Nat) (l2 : List (BitVec 8)) (hx : a.eval x = .slice A m c) (hl : Bs w A m c l2)
    (h47 : n + m ≤ 140737488355328) (N : Nat) (hN : n + m = N) (L : List (BitVec 8)) (hL : l1 ++ l2 = L)
    (h : ∀ A' c' w', Own w' 0 (.slice A' N c') N L → Apd w w' v (.slice A' N c') → K (a.put o.dst (.slice A' N c')) w') : o.wp Try.prog a w K Q := by
  subst hN hL
  obtain ⟨A', c', w', hr, h2, h3⟩ := run_append_bs o.type hown hl h47 (Nat.zero_le _)
  unfold Oper.wp
  simp [execOp, ho, resolve, invoke, builtin, hs, hx, hr, Result.andThen]
  exact h A' c' w' h2 h3
theorem wpList_append_m {w : World} {ops : Array Oper} {rest : List Oper} {o : Oper} {a : Act} {Q : Exit → Act → World → Prop} (hgd : o.guard = none) (s x : Operand)
    (ho : o.op = .call { callee := .builtin .append, args := #[s, x], argTypes := #[22, 22] })
    (v : Value) (n : Nat) (l1 : List (BitVec 8)) (hs : a.eval s = v) (hown : Own w 0 v n l1)
    (A : Option Addr) (m c : Nat) (l2 : List (BitVec 8)) (hx : a.eval x = .slice A m c) (hl : Bs w A m c l2)
    (h47 : n + m ≤ 140737488355328) (N : Nat) (hN : n + m = N) (L : List (BitVec 8)) (hL : l1 ++ l2 = L)
    (h : ∀ A' c' w', Own w' 0 (.slice A' N c') N L → Apd w w' v (.slice A' N c') → wpList Try.prog ops Q rest (a.put o.dst (.slice A' N c')) w') : wpList Try.prog ops Q (o :: rest) a w :=
  wpList_plain hgd fun _ hK => wp_append_m s x ho v n l1 hs hown A m c l2 hx hl h47 N hN L hL fun A' c' w' h1 h2 => hK _ _ (h A' c' w' h1 h2)
/-- elements of one cell appended onto a row that lies anywhere -/
theorem wp_append_r {P : Program} {α : Type} {T : TypeId} {e : α → Value} (t : TypeId) (z : Value) (bytes : Nat) (ht : P.underlying t = some (.slice T)) (hi : (P.info? T).map (fun i => (i.zero, i.size, i.bytes)) = some (some z, 1, bytes))
    (hz : z.cells.size = 1) (hb0 : 0 < bytes) (he : ∀ x, (e x).oneCell' = true)
    {w : World} {o : Oper} {a : Act} {K : Act → World → Prop} {Q : Exit → Act → World → Prop} (s x : Operand)
    (ho : o.op = .call { callee := .builtin .append, args := #[s, x], argTypes := #[t, t] })
    (v : Value) (n : Nat) (l1 : List α) (hs : a.eval s = v) (hown : Rw T e w 0 v n l1)
    (A : Option Addr) (m c : Nat) (l2 : List α) (hx : a.eval x = .slice A m c) (hl : Rd e w A m c l2)
    (h47 : (n + m) * bytes ≤ 140737488355328) (N : Nat) (hN : n + m = N) (L : List α) (hL : l1 ++ l2 = L)
    (h : ∀ A' c' w', Rw T e w' 0 (.slice A' N c') N L → Apd w w' v (.slice A' N c') → K (a.put o.dst (.slice A' N c')) w') : o.wp P a w K Q := by
  subst hN hL
  obtain ⟨A', c', w', hr, h2, h3⟩ := run_append_rd t o.type z bytes ht hi hz hb0 he hown hl h47 (Nat.zero_le _)
  unfold Oper.wp
  simp [execOp, ho, resolve, invoke, builtin, hs, hx, hr, Result.andThen]
  exact h A' c' w' h2 h3
theorem wpList_append_r {P : Program} {α : Type} {T : TypeId} {e : α → Value} (t : TypeId) (z : Value) (bytes : Nat) (ht : P.underlying t = some (.slice T)) (hi : (P.info? T).map (fun i => (i.zero, i.size, i.bytes)) = some (some z, 1, bytes))
    (hz : z.cells.size = 1) (hb0 : 0 < bytes) (he : ∀ x, (e x).oneCell' = true)
    {w : World} {ops : Array Oper} {rest : List Oper} {o : Oper} {a : Act} {Q : Exit → Act → World → Prop} (hgd : o.guard = none) (s x : Operand)
    (ho : o.op = .call { callee := .builtin .append, args := #[s, x], argTypes := #[t, t] })
    (v : Value) (n : Nat) (l1 : List α) (hs : a.eval s = v) (hown : Rw T e w 0 v n l1)
    (A : Option Addr) (m c : Nat) (l2 : List α) (hx : a.eval x = .slice A m c) (hl : Rd e w A m c l2)
    (h47 : (n + m) * bytes ≤ 140737488355328) (N : Nat) (hN : n + m = N) (L : List α) (hL : l1 ++ l2 = L)
    (h : ∀ A' c' w', Rw T e w' 0 (.slice A' N c') N L → Apd w w' v (.slice A' N c') → wpList P ops Q rest (a.put o.dst (.slice A' N c')) w') : wpList P ops Q (o :: rest) a w :=
  wpList_plain hgd fun _ hK => wp_append_r t z bytes ht hi hz hb0 he s x ho v n l1 hs hown A m c l2 hx hl h47 N hN L hL fun A' c' w' h1 h2 => hK _ _ (h A' c' w' h1 h2)
theorem Apd.mv {w w' : World} {v v' : Value} (h : Apd w w' v v') : Mvs (fpv v) (fpv v') w w' := ⟨h.mds, h.fp⟩
/-- bytes that lie in none of the blocks that turn -/
def Off (A : Option Addr) (n : Nat) (G : List Nat) : Prop := ∀ ad, 0 < n → A = some ad → ad.block ∉ G
theorem Bs.mds {w w' : World} {A : Option Addr} {n c : Nat} {l : List (BitVec 8)} {G : List Nat} (h : Bs w A n c l) (hm : Mds G w w') (ho : Off A n G) : Bs w' A n c l := by
  obtain ⟨h1, h2, h3, h4⟩ := h.s
  refine ⟨⟨h1, h2, h3, fun hn => ?_⟩⟩
  obtain ⟨g, o, rfl, hc⟩ := h4 hn
  exact ⟨g, o, rfl, fun j hj => (World.cell?_of_block (w := w) (a := ⟨g, o + j, none⟩) (hm.block g (block_lt_of_cell (hc j hj)) (ho _ hn rfl))).trans (hc j hj)⟩
/-- what was there lies not in what was made since -/
theorem Bs.off {w : World} {A : Option Addr} {n c : Nat} {l : List (BitVec 8)} {G : List Nat} (h : Bs w A n c l) (hG : Lo w.heap.size G) : Off A n G := fun ad hn e hk => by
  obtain ⟨g, o, e2, hc⟩ := h.s.2.2.2 hn
  rw [e] at e2
  cases e2
  have h1 : g < w.heap.size := block_lt_of_cell (hc 0 hn)
  have := hG g hk
  omega
theorem Off.mv {G G' : List Nat} {w w' : World} {A : Option Addr} {n c : Nat} {l : List (BitVec 8)} (h : Off A n G) (hb : Bs w A n c l) (hm : Mvs G G' w w') : Off A n G' := fun ad hn e hk => by
  rcases hm.f _ hk with h1 | h1
  · exact h ad hn e h1
  · obtain ⟨g, o, e2, hc⟩ := hb.s.2.2.2 hn
    rw [e] at e2
    cases e2
    have h2 : g < w.heap.size := block_lt_of_cell (hc 0 hn)
    simp only at h1
    omega
/-- a row's own bytes lie in its block alone -/
theorem Own.off {w : World} {B n c : Nat} {A : Option Addr} {l : List (BitVec 8)} {G : List Nat} (h : Own w B (.slice A n c) n l) (hG : Ap (fpv (.slice A n c)) G) : Off A n G := fun ad hn e => by
  obtain ⟨g, e2, _, _⟩ := h.some_ hn
  rw [e] at e2
  cases e2
  exact hG g (by rw [mem_fpv, e]; rfl)
theorem one_three (A B D : Option Addr) (n c m d k f : Nat) : (#[Value.slice A n c, Value.slice B m d, Value.slice D k f]).all (·.oneCell') = true := by simp [Value.oneCell']
/-- a result that lies in a block known whole, another beside it -/
theorem results_cell_row2 {P : Program} {fn : Func} {p u : Tmp} {ty : TypeId} (h : fn.results = #[.cell p ty, .tmp u]) (tmps : Array Value) (w : World) (g : Nat) (t : TypeId) (cs : Array Value) (v : Value) (d : TypeDesc)
    (hp : tmps.getD p undef = .pointer (some ⟨g, 0, none⟩)) (hv : tmps.getD u undef = v) (hg : Blk w g t cs)
    (hu : P.underlying ty = some d) (hd : (match d with | .struct _ | .array _ _ => true | _ => false) = true) (hi : (P.info? ty).map (·.size) = some cs.size) :
    (results fn tmps).run P w = .ok (.tuple #[.agg cs, v]) w := by
  rw [results_cell_tmp h, hp, hv]
  simp [asAddr, run_loadVar_row w g t ty cs (0, 0) d hg.h hu hd hi, Result.andThen]
end Go.Proofs.Ythookcnkmlmgcaa
