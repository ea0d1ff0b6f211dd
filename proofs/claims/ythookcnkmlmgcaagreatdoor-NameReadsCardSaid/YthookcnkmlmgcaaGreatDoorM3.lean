/-
  A slice of bytes that reads as a list, nil let in; cut; handed to append.
  A slice of bytes turned into a string.
  Steps of a region that draws its order and calls: one operation is next; an operation is taken first.
  Words for calls one behind the other: a later world, bytes that read so, rows of the call's own, what a call leaves that makes a new slice of bytes.
-/
import Derived.Test.YthookcnkmlmgcaaGreatDoorM0
import Derived.Test.YthookcnkmlmgcaaGreatDoorM2
import Derived.Laws.AppendOwnNone
import Derived.Laws.BytesString
import Derived.Deep.RegionHeld3
import Derived.Test.YthookcnkmlmgcaaGreatDoorProg
import Derived.WalkSpells
import Derived.WalkLawsBesides
import Derived.Laws.OwnMore
import Derived.Laws.CopyOwn
import Derived.Lib.Hide
import Derived.Laws.MakeOwn
import Derived.Maps.AppendAt
import Derived.Lib.SlBytesConst
import Derived.Deep.QuietTactic
import Derived.BigQuiet
import Derived.Deep.DeepCutAuto
namespace Go.Proofs.YthookcnkmlmgcaaGreatDoor
open Go Go.RowKit
set_option maxRecDepth 4000

/-- a slice of bytes that reads as a list -/
def Sl (w : World) (A : Option Addr) (n c : Nat) (l : List (BitVec 8)) : Prop :=
  l.length = n ∧ n ≤ c ∧ (A = none → n = 0 ∧ c = 0) ∧ (0 < n → ∃ g o, A = some ⟨g, o, none⟩ ∧ ∀ j, j < n → w.cell? ⟨g, o + j, none⟩ = some (.int .u8 (ub (gb l j))))
theorem Sl.keep {w w' : World} {A : Option Addr} {n c : Nat} {l : List (BitVec 8)} (h : Sl w A n c l) (hb : Below w.heap.size w w') : Sl w' A n c l := by
  obtain ⟨h1, h2, h3, h4⟩ := h
  refine ⟨h1, h2, h3, fun hn => ?_⟩
  obtain ⟨g, o, e, hc⟩ := h4 hn
  exact ⟨g, o, e, fun j hj => (hb.cell (p := ⟨g, o + j, none⟩) (block_lt_of_cell (hc j hj))).trans (hc j hj)⟩
theorem Sl.some_ {w : World} {A : Option Addr} {n c : Nat} {l : List (BitVec 8)} (h : Sl w A n c l) (hn : 0 < n) : ∃ g o, A = some ⟨g, o, none⟩ ∧ ∀ j, j < n → w.cell? ⟨g, o + j, none⟩ = some (.int .u8 (ub (gb l j))) := h.2.2.2 hn
theorem Sl.of_has {w : World} {g t c : Nat} {l : List (BitVec 8)} (h : Has w g t (bv l)) (hc : l.length ≤ c) : Sl w (some ⟨g, 0, none⟩) l.length c l :=
  ⟨rfl, hc, (fun e => by cases e), fun _ => ⟨g, 0, rfl, fun j hj => by rw [Nat.zero_add]; exact (h.cell j).trans (bv_at l j hj)⟩⟩
theorem Sl.nil (w : World) : Sl w none 0 0 [] := ⟨rfl, Nat.le_refl _, fun _ => ⟨rfl, rfl⟩, fun h => absurd h (Nat.lt_irrefl 0)⟩
theorem gb_drop (l : List (BitVec 8)) (k j : Nat) : gb (l.drop k) j = gb l (k + j) := by
  simp [gb, List.getElem?_drop]
theorem gb_take (l : List (BitVec 8)) (k j : Nat) (h : j < k) : gb (l.take k) j = gb l j := by
  simp [gb, h]
theorem Sl.drop {w : World} {A : Option Addr} {n c : Nat} {l : List (BitVec 8)} (h : Sl w A n c l) (k : Nat) (hk : k ≤ n) :
    Sl w (if c = k then A else A.map (·.add k)) (n - k) (c - k) (l.drop k) := by
  obtain ⟨h1, h2, h3, h4⟩ := h
  refine ⟨by rw [List.length_drop, h1], by omega, ?_, fun hn => ?_⟩
  · intro e
    have hA : A = none := by
      by_cases hck : c = k
      · rwa [if_pos hck] at e
      · rw [if_neg hck] at e; cases A with
        | none => rfl
        | some a => cases e
    have := h3 hA
    omega
  · obtain ⟨g, o, rfl, hc⟩ := h4 (by omega)
    have hck : ¬ c = k := by omega
    refine ⟨g, o + k, ?_, fun j hj => ?_⟩
    · rw [if_neg hck]
      simp only [Option.map_some, Option.some.injEq]
      unfold Addr.add
      split <;> simp_all
    · rw [gb_drop, Nat.add_assoc]
      exact hc (k + j) (by omega)
theorem Sl.take {w : World} {A : Option Addr} {n c : Nat} {l : List (BitVec 8)} (h : Sl w A n c l) (k : Nat) (hk : k ≤ n) : Sl w A k c (l.take k) := by
  obtain ⟨h1, h2, h3, h4⟩ := h
  refine ⟨by rw [List.length_take]; omega, by omega, fun e => by have := h3 e; omega, fun hn => ?_⟩
  obtain ⟨g, o, rfl, hc⟩ := h4 (by omega)
  exact ⟨g, o, rfl, fun j hj => by rw [gb_take _ _ _ hj]; exact hc j (by omega)⟩
/-- cut at its head -/
theorem run_from {P : Program} (A : Option Addr) (n c t e : Nat) (ht : P.underlying t = some (.slice e)) (hs : (P.info? e).map (·.size) = some 1) (k : Nat) (x : Int) (hx : x = (k : Int)) (hk : k ≤ n) (w : World) :
    (Instr.sliceAt t (.slice A n c) (some (.int .i64 x)) none none).run P w = .ok (.slice (if c = k then A else A.map (·.add k)) (n - k) (c - k)) w := by
  subst hx
  cases hq : P.info? e with
  | none => simp [hq] at hs
  | some i =>
    have hs1 : i.size = 1 := by simpa [hq] using hs
    simp [Instr.sliceAt, Instr.slice, run_underlying ht, Instr.sliceBounds, Instr.sliceBound, asIntOf, sizeOf, typeInfo, hq, hs1, hk]
/-- cut at its end -/
theorem run_upto {P : Program} (A : Option Addr) (n c t e : Nat) (ht : P.underlying t = some (.slice e)) (hs : (P.info? e).map (·.size) = some 1) (k : Nat) (x : Int) (hx : x = (k : Int)) (hk : k ≤ c) (w : World) :
    (Instr.sliceAt t (.slice A n c) none (some (.int .i64 x)) none).run P w = .ok (.slice A k c) w := by
  subst hx
  cases hq : P.info? e with
  | none => simp [hq] at hs
  | some i =>
    simp [Instr.sliceAt, Instr.slice, run_underlying ht, Instr.sliceBounds, Instr.sliceBound, asIntOf, sizeOf, typeInfo, hq, hk]
    intro _; cases A <;> simp [Addr.add]
/-- append a slice that reads as a list, nil let in, onto a row of the call's own -/
theorem wpList_append_sl {P : Program} {w : World} {ops : Array Oper} {rest : List Oper} {o : Oper} {a : Act} {Q : Exit → Act → World → Prop} (hgd : o.guard = none) (s x : Operand) (t : TypeId)
    (ho : o.op = .call { callee := .builtin .append, args := #[s, x], argTypes := #[t, t] })
    (base : Nat) (e : TypeId) (ht : P.underlying t = some (.slice e)) (hi : (P.info? e).map (fun i => (i.zero, i.size, i.bytes)) = some (some (.int .u8 0), 1, 1))
    (v : Value) (n : Nat) (xs : List Value) (hs : a.eval s = v) (hown : w.ownsRow base e 1 v n xs)
    (A : Option Addr) (m c : Nat) (l : List (BitVec 8)) (hx : a.eval x = .slice A m c) (hl : Sl w A m c l)
    (h47 : n + m ≤ 140737488355328) (hbase : base ≤ w.heap.size)
    (h : ∀ v' w', w'.ownsRow base e 1 v' (n + m) (xs ++ l.map vb) → w.grownBy w' v.ownBlock → wpList P ops Q rest (a.put o.dst v') w') : wpList P ops Q (o :: rest) a w := by
  obtain ⟨i, hi0, hz, hs1, hb⟩ := info_parts hi
  cases A with
  | none =>
    obtain ⟨rfl, rfl⟩ := hl.2.2.1 rfl
    have hl0 : l = [] := List.eq_nil_of_length_eq_zero hl.1
    subst hl0
    exact wpList_append_own_none hgd s x t ho base e i 1 ht hi0 v n xs hs hown hx (h v w (by simpa using hown) (World.grownBy.refl w _))
  | some ad =>
    refine wpList_append_own w hgd s x t ho base e i (.int .u8 0) 1 1 ht hi0 hz hs1 hb rfl (by decide) v n xs hs hown ad m c (l.map vb) hx (by simp [hl.1]) ?_ ?_ (by unfold maxLen; omega) (by omega) hbase (fun v' w' h1 h2 _ => h v' w' h1 h2)
    · intro j u hu
      have hj : j < m := by
        have := (List.getElem?_eq_some_iff.1 hu).1
        simpa [hl.1] using this
      obtain ⟨g, o', e1, hc⟩ := hl.2.2.2 (by omega)
      obtain rfl := Option.some.inj e1
      have hadd : (⟨g, o', none⟩ : Addr).add j = ⟨g, o' + j, none⟩ := by unfold Addr.add; split <;> simp_all
      rw [hadd, hc j hj]
      rw [List.getElem?_map] at hu
      have hjl : j < l.length := by rw [hl.1]; exact hj
      rw [List.getElem?_eq_getElem hjl] at hu
      simpa [gb, hjl] using hu
    · intro u hu
      obtain ⟨b, _, rfl⟩ := List.mem_map.1 hu
      rfl
/-- a row of the call's own reads as a list -/
theorem Sl.of_own {w : World} {base e n : Nat} {v : Value} {l : List (BitVec 8)} (h : w.ownsRow base e 1 v n (l.map vb)) : ∃ A c, v = .slice A n c ∧ Sl w A n c l := by
  have hn : l.length = n := by have := h.1; simpa using this
  rcases h.2 with ⟨rfl, rfl⟩ | ⟨g, cap, cur, rfl, _, hh, hc, _, _, ht⟩
  · exact ⟨none, 0, rfl, hn, Nat.le_refl _, fun _ => ⟨rfl, rfl⟩, fun h0 => absurd h0 (Nat.lt_irrefl 0)⟩
  · refine ⟨some ⟨g, 0, none⟩, cap, rfl, hn, hc, (fun e1 => by cases e1), fun _ => ⟨g, 0, rfl, fun j hj => ?_⟩⟩
    have hjl : j < l.length := by omega
    have e1 : cur[j]? = (l.map vb)[j]? := by
      rw [← ht, List.getElem?_take_of_lt (by omega)]; simp
    have hcell : w.cell? ⟨g, 0 + j, none⟩ = cur[j]? := by rw [Nat.zero_add]; exact cell_of_row w g j cur e (0, 0) hh
    rw [hcell, e1, List.getElem?_map, List.getElem?_eq_getElem hjl]
    simp [gb, hjl]
end Go.Proofs.YthookcnkmlmgcaaGreatDoor
namespace Go.Proofs.YthookcnkmlmgcaaGreatDoor
open Go Go.RowKit
set_option maxRecDepth 4000

/-- the string of these bytes -/
def strOf (l : List (BitVec 8)) : ByteArray := ⟨(l.map UInt8.ofBitVec).toArray⟩
theorem fold_push (l : List (BitVec 8)) : ∀ s : ByteArray, (l.map ub).foldl (fun r n => r.push (UInt8.ofNat n.toNat)) s = ⟨s.data ++ (l.map UInt8.ofBitVec).toArray⟩ := by
  induction l with
  | nil => intro s; simp
  | cons b l ih =>
    intro s
    simp only [List.map_cons, List.foldl_cons]
    rw [ih]
    have e : UInt8.ofNat (ub b).toNat = UInt8.ofBitVec b := by
      unfold ub; rw [Int.toNat_natCast]
      apply UInt8.toNat_inj.1
      have := b.isLt
      simp
    rw [e]
    congr 1
    apply Array.ext'
    simp [ByteArray.push]
theorem run_str {P : Program} {w : World} {A : Option Addr} {n c : Nat} {l : List (BitVec 8)} (h : Sl w A n c l) (src dst e : TypeId)
    (hs : P.underlying src = some (.slice e)) (he : P.underlying e = some (.int .u8)) (hd : P.underlying dst = some .string) :
    (convert src dst (.slice A n c)).run P w = .ok (.string (strOf l)) w := by
  rw [run_convert_bytes_string w src dst e A n c hs he hd]
  cases A with
  | none =>
    obtain ⟨rfl, rfl⟩ := h.2.2.1 rfl
    have hl0 : l = [] := List.eq_nil_of_length_eq_zero h.1
    subst hl0
    rfl
  | some ad =>
    have hl : (loadCells ad n).run P w = .ok ((l.map ub).map (Value.int .u8)).toArray w := by
      have hlen : ((l.map ub).map (Value.int .u8)).length = n := by simp [h.1]
      have := run_loadCells_list (P := P) w ad ((l.map ub).map (Value.int .u8)) (fun j v hv => by
        have hj : j < n := by have := (List.getElem?_eq_some_iff.1 hv).1; rwa [hlen] at this
        obtain ⟨g, o, e1, hc⟩ := h.2.2.2 (by omega)
        obtain rfl := Option.some.inj e1
        have hadd : (⟨g, o, none⟩ : Addr).add j = ⟨g, o + j, none⟩ := by unfold Addr.add; split <;> simp_all
        rw [hadd, hc j hj, ← hv]
        have hjl : j < l.length := by rw [h.1]; exact hj
        simp [gb, hjl])
      rwa [hlen] at this
    rw [run_bytesToString w _ n c (l.map ub) hl, fold_push, show ByteArray.empty.data = #[] from rfl, Array.empty_append]
    rfl
end Go.Proofs.YthookcnkmlmgcaaGreatDoor
namespace Go.Proofs.YthookcnkmlmgcaaGreatDoor
open Go Go.RowKit
set_option maxRecDepth 4000

section
variable {P : Program} {ops : Array Oper} {Q : Exit → Act → World → Prop} {md : Region.Mode} {S : World → Prop} {fuel : Nat} {listed : Array Bool} {a : Act} {w : World}
/-- one operation alone may come up -/
theorem next_one (i : Nat) {o : Oper} (hr : Region.ready md ops listed = [i]) (hi : ops[i]? = some o) (hw : Region.wanted o (yielded ops a.tmps) = true)
    (h : ∀ K' : Act → World → Prop, Hid (∀ a w, S w → wpAnyH P md ops Q S fuel (listed.setIfInBounds i true) a w → K' a w) → o.wp P a w K' Q) : wpAnyH P md ops Q S (fuel + 1) listed a w := by
  refine wpAnyH_all (rs := [i]) hr (by simp) ?_
  intro j hj
  obtain rfl := List.mem_singleton.1 hj
  unfold wpOp
  simp only [hi, hw, if_true]
  exact .inl (h _ fun a w hs hk => ⟨hs, hk⟩)
/-- one of two -/
theorem next_two (i k : Nat) {oi ok : Oper} (hr : Region.ready md ops listed = [i, k]) (hi : ops[i]? = some oi) (hk : ops[k]? = some ok) (hwi : Region.wanted oi (yielded ops a.tmps) = true) (hwk : Region.wanted ok (yielded ops a.tmps) = true)
    (h1 : ∀ K' : Act → World → Prop, Hid (∀ a w, S w → wpAnyH P md ops Q S fuel (listed.setIfInBounds i true) a w → K' a w) → oi.wp P a w K' Q)
    (h2 : ∀ K' : Act → World → Prop, Hid (∀ a w, S w → wpAnyH P md ops Q S fuel (listed.setIfInBounds k true) a w → K' a w) → ok.wp P a w K' Q) : wpAnyH P md ops Q S (fuel + 1) listed a w := by
  refine wpAnyH_all (rs := [i, k]) hr (by simp) ?_
  intro j hj
  simp only [List.mem_cons, List.not_mem_nil, or_false] at hj
  rcases hj with rfl | rfl
  · unfold wpOp
    simp only [hi, hwi, if_true]
    exact .inl (h1 _ fun a w hs hk => ⟨hs, hk⟩)
  · unfold wpOp
    simp only [hk, hwk, if_true]
    exact .inl (h2 _ fun a w hs hk => ⟨hs, hk⟩)
end
end Go.Proofs.YthookcnkmlmgcaaGreatDoor
namespace Go.Proofs.YthookcnkmlmgcaaGreatDoor
open Go Go.RowKit
set_option maxRecDepth 4000

/-- a fact put aside: nothing opens it -/
structure Kp (p : Prop) : Prop where
  out : p
theorem szB : (Tryz.prog.info? 5).map (·.size) = some 1 := by kernel_rfl
theorem inB : (Tryz.prog.info? 5).map (fun i => (i.zero, i.size, i.bytes)) = some (some (.int .u8 0), 1, 1) := by kernel_rfl
/-- a later world: what was there reads as it did -/
structure Ext (w w' : World) : Prop where
  b : Below w.heap.size w w'
section
variable {w w' w'' : World}
@[go_sem] theorem Ext.refl (w : World) : Ext w w := ⟨Below.refl _ _⟩
theorem Ext.trans (h : Ext w w') (h' : Ext w' w'') : Ext w w'' := ⟨h.b.trans (h'.b.mono h.b.size)⟩
theorem Ext.size (h : Ext w w') : w.heap.size ≤ w'.heap.size := h.b.size
@[go_sem] theorem Ext.alloc (h : Ext w w') (o : Obj) : Ext w (w'.alloc o) := ⟨h.b.alloc h.b.size o⟩
@[go_sem] theorem Ext.drew (h : Ext w w') : Ext w w'.drew := ⟨h.b.drew⟩
@[go_sem] theorem Ext.drewN (h : Ext w w') (n : Nat) : Ext w (w'.drewN n) := ⟨below_drewN h.b n⟩
theorem Ext.setCell (h : Ext w w') {p : Addr} (hp : w.heap.size ≤ p.block) (v : Value) : Ext w (w'.setCell p v) := ⟨h.b.setCell hp v⟩
theorem Ext.setRow (h : Ext w w') {g : Nat} (hg : w.heap.size ≤ g) (cs : Array Value) : Ext w (w'.setRow g cs) := ⟨h.b.trans ⟨rfl, rfl, rfl, by simp, fun k hk => setRow_other w' g k cs (by omega)⟩⟩
theorem Ext.grown (h : Ext w w') {row : Option Nat} (hg : w'.grownBy w'' row) (hr : ∀ k, row = some k → w.heap.size ≤ k) : Ext w w'' := ⟨h.b.grown hg h.b.size hr⟩
end
/-- a block known whole -/
structure Blk (w : World) (g : Nat) (t : TypeId) (cs : Array Value) : Prop where
  h : Has w g t cs
section
variable {w w' : World} {g : Nat} {t : TypeId} {cs : Array Value}
theorem Blk.ext (h : Blk w g t cs) (hx : Ext w w') : Blk w' g t cs := ⟨h.h.below hx.b h.h.lt⟩
theorem Blk.lt (h : Blk w g t cs) : g < w.heap.size := h.h.lt
theorem Blk.far (h : Blk w g t cs) {p : Addr} (hp : g ≠ p.block) (u : Value) : Blk (w.setCell p u) g t cs := ⟨h.h.far hp u⟩
theorem Blk.rowfar (h : Blk w g t cs) {g' : Nat} (hg : g ≠ g') (cs' : Array Value) : Blk (w.setRow g' cs') g t cs := ⟨h.h.rowfar hg cs'⟩
end
theorem Blk.setB {w : World} {g t : Nat} {L : List (BitVec 8)} (h : Blk w g t (bv L)) (j : Nat) (x : BitVec 8) : Blk (w.setCell ⟨g, j, none⟩ (.int .u8 (ub x))) g t (bv (L.set j x)) := by
  have h1 := h.h.set j (.int .u8 (ub x))
  rw [bv_set] at h1
  exact ⟨h1⟩
theorem Blk.row {w : World} {g : Nat} {t : TypeId} {cs : Array Value} (h : Blk w g t cs) (cs' : Array Value) : Blk (w.setRow g cs') g t cs' := ⟨h.h.row cs'⟩
theorem Blk.new (w : World) (t : TypeId) (cs : Array Value) : Blk (w.alloc (.cells cs t)) w.heap.size t cs := ⟨Has.new w t cs _ rfl⟩
/-- a slice of bytes that reads as a list -/
structure Bs (w : World) (A : Option Addr) (n c : Nat) (l : List (BitVec 8)) : Prop where
  s : Sl w A n c l
section
variable {w w' : World} {A : Option Addr} {n c : Nat} {l : List (BitVec 8)}
theorem Bs.ext (h : Bs w A n c l) (hx : Ext w w') : Bs w' A n c l := ⟨h.s.keep hx.b⟩
theorem Bs.len (h : Bs w A n c l) : l.length = n := h.s.1
theorem Bs.cap (h : Bs w A n c l) : n ≤ c := h.s.2.1
theorem Bs.take (h : Bs w A n c l) (k : Nat) (hk : k ≤ n) : Bs w A k c (l.take k) := ⟨h.s.take k hk⟩
theorem Bs.nil (w : World) : Bs w none 0 0 [] := ⟨Sl.nil w⟩
theorem Bs.str (h : Bs w A n c l) (hx : Ext w w') : (convert 22 9 (.slice A n c)).run Tryz.prog w' = .ok (.string (strOf l)) w' :=
  run_str (h.s.keep hx.b) 22 9 5 Tryz.underlying22 Tryz.underlying5 Tryz.underlying9
end
/-- cells in the midst of a block, in a later world -/
theorem rg_ext {w w' : World} {g o : Nat} {cs : List Value} (h : w.rangeAt g o cs) (hx : Ext w w') : w'.rangeAt g o cs :=
  fun j v hv => (hx.b.cell (p := ⟨g, o + j, none⟩) (block_lt_of_cell (h j v hv))).trans (h j v hv)
theorem Blk.rg {w : World} {g t : Nat} {L : List (BitVec 8)} (h : Blk w g t (bv L)) : w.rangeAt g 0 (L.map vb) := fun j v hv => by
  rw [Nat.zero_add, h.h.cell j, ← hv]
  simp [bv]
/-- a row of bytes of the call's own: in blocks from B on -/
structure Own (w : World) (B : Nat) (v : Value) (n : Nat) (l : List (BitVec 8)) : Prop where
  o : w.ownsRow B 5 1 v n (l.map vb)
section
variable {w w' : World} {B B' : Nat} {v : Value} {n : Nat} {l : List (BitVec 8)}
theorem Own.ext (h : Own w B v n l) (hx : Ext w w') : Own w' B v n l := by
  refine ⟨h.o.1, ?_⟩
  rcases h.o.2 with h2 | ⟨g, cap, cur, h1, h3, h4, h5⟩
  · exact .inl h2
  · exact .inr ⟨g, cap, cur, h1, h3, (hx.b.block g (Array.getElem?_eq_some_iff.1 h4).1).trans h4, h5⟩
theorem Own.lower (h : Own w B v n l) (hB : B' ≤ B) : Own w B' v n l := by
  refine ⟨h.o.1, ?_⟩
  rcases h.o.2 with h2 | ⟨g, cap, cur, h1, h3, h4⟩
  · exact .inl h2
  · exact .inr ⟨g, cap, cur, h1, Nat.le_trans hB h3, h4⟩
theorem Own.base (h : Own w B v n l) (k : Nat) (hk : v.ownBlock = some k) : B ≤ k := by
  rcases h.o.2 with ⟨rfl, _⟩ | ⟨g, cap, cur, rfl, h3, _⟩
  · simp [Value.ownBlock] at hk
  · simp [Value.ownBlock] at hk; omega
theorem Own.bs {A : Option Addr} {c : Nat} (h : Own w B (.slice A n c) n l) : Bs w A n c l := by
  obtain ⟨A', c', e, hs⟩ := Sl.of_own h.o
  cases e
  exact ⟨hs⟩
theorem Own.len (h : Own w B v n l) : l.length = n := by have := h.o.1; simpa using this
theorem Own.nil (w : World) (B : Nat) : Own w B (.slice none 0 0) 0 [] := ⟨rfl, .inl ⟨rfl, rfl⟩⟩
theorem Own.form (h : Own w B v n l) : ∃ A c, v = .slice A n c := by
  obtain ⟨A', c', e, _⟩ := Sl.of_own h.o
  exact ⟨A', c', e⟩
theorem Own.some_ {A : Option Addr} {c : Nat} (h : Own w B (.slice A n c) n l) (hn : 0 < n) : ∃ g, A = some ⟨g, 0, none⟩ ∧ B ≤ g ∧ g < w.heap.size := by
  rcases h.o.2 with ⟨_, e⟩ | ⟨g, cap, cur, e, h3, h4, _⟩
  · omega
  · cases e; exact ⟨g, rfl, h3, (Array.getElem?_eq_some_iff.1 h4).1⟩
theorem Own.cell {g c : Nat} (h : Own w B (.slice (some ⟨g, 0, none⟩) n c) n l) (j : Nat) (hj : j < n) : w.cell? ⟨g, j, none⟩ = some (.int .u8 (ub (gb l j))) := by
  have hl := h.len
  refine (h.o.cellAt j (by omega)).trans ?_
  rw [List.getElem?_map, List.getElem?_eq_getElem (by omega)]
  simp [gb, show j < l.length by omega]
theorem Own.free {g c : Nat} (h : Own w B (.slice (some ⟨g, 0, none⟩) n c) n l) (j : Nat) : w.frozen? ⟨g, j, none⟩ = false := h.o.frozenAt j
theorem Own.set {g c : Nat} (h : Own w B (.slice (some ⟨g, 0, none⟩) n c) n l) (j : Nat) (x : BitVec 8) : Own (w.setCell ⟨g, j, none⟩ (.int .u8 (ub x))) B (.slice (some ⟨g, 0, none⟩) n c) n (l.set j x) := by
  have h7 := (h.o.stored j (.int .u8 (ub x))).1
  rw [show (l.map vb).set j (.int .u8 (ub x)) = (l.set j x).map vb by simp [List.map_set]] at h7
  exact ⟨h7⟩
theorem Own.far (h : Own w B v n l) {p : Addr} (hp : v.ownBlock ≠ some p.block) (u : Value) : Own (w.setCell p u) B v n l := by
  refine ⟨h.o.1, ?_⟩
  rcases h.o.2 with h2 | ⟨g, cap, cur, h1, h3, h4, h5⟩
  · exact .inl h2
  · refine .inr ⟨g, cap, cur, h1, h3, (Below.heap_setCell w p u g (fun e => hp ?_)).trans h4, h5⟩
    subst h1; simp [Value.ownBlock, e]
end
/-- a made row of so many cells, of no length -/
theorem Own.made (w : World) (B n : Nat) (hB : B ≤ w.heap.size) (hn : n ≤ maxLen) : Own (w.alloc (.cells (bv (zb n)) 5)) B (.slice (some ⟨w.heap.size, 0, none⟩) 0 n) 0 [] :=
  ⟨⟨rfl, .inr ⟨w.heap.size, n, bv (zb n), rfl, hB, heap_alloc_new w _, Nat.zero_le _, hn, by rw [bv_size, zb_len, Nat.mul_one], rfl⟩⟩⟩
/-- a row made of cells that stand there -/
theorem Own.has {w : World} {B g n : Nat} {l : List (BitVec 8)} (h : Has w g 5 (bv l)) (hl : l.length = n) (hB : B ≤ g) (hm : n ≤ maxLen) : Own w B (.slice (some ⟨g, 0, none⟩) n n) n l := by
  subst hl
  refine ⟨⟨by simp, .inr ⟨g, l.length, bv l, rfl, hB, h, Nat.le_refl _, hm, by rw [bv_size, Nat.mul_one], ?_⟩⟩⟩
  rw [List.take_of_length_le (by simp [bv])]
  simp [bv]
theorem Own.new (w : World) (B n : Nat) (l : List (BitVec 8)) (hl : l.length = n) (hB : B ≤ w.heap.size) (hm : n ≤ maxLen) : Own (w.alloc (.cells (bv l) 5)) B (.slice (some ⟨w.heap.size, 0, none⟩) n n) n l :=
  Own.has (Has.new w 5 (bv l) _ rfl) hl hB hm
/-- another row is written: this one is as it was -/
theorem Own.grown {w w' : World} {B : Nat} {v : Value} {n : Nat} {l : List (BitVec 8)} (h : Own w B v n l) {row : Option Nat} (hg : w.grownBy w' row) (hr : v.ownBlock = none ∨ v.ownBlock ≠ row) : Own w' B v n l := by
  refine ⟨h.o.1, ?_⟩
  rcases h.o.2 with h2 | ⟨g, cap, cur, h1, h3, h4, h5⟩
  · exact .inl h2
  · refine .inr ⟨g, cap, cur, h1, h3, (hg.block g (Array.getElem?_eq_some_iff.1 h4).1 ?_).trans h4, h5⟩
    subst h1
    rcases hr with e | e
    · simp [Value.ownBlock] at e
    · simpa [Value.ownBlock] using e
theorem one_vb' (l : List (BitVec 8)) : ∀ v ∈ l.map vb, v.oneCell' = true := fun v hv => by
  obtain ⟨b, _, rfl⟩ := List.mem_map.1 hv
  rfl
/-- the cells of bytes that are to be copied -/
theorem Bs.news {w : World} {A : Option Addr} {n c : Nat} {l : List (BitVec 8)} (h : Bs w A n c l) (hp : 0 < (l.map vb).length) : ∃ ad, A = some ad ∧ ∀ j v, (l.map vb)[j]? = some v → w.cell? (ad.add j) = some v := by
  have hl := h.len
  rw [List.length_map] at hp
  obtain ⟨g, o, rfl, hc⟩ := h.s.2.2.2 (by omega)
  refine ⟨_, rfl, fun j v hv => ?_⟩
  have hj : j < l.length := by simpa using (List.getElem?_eq_some_iff.1 hv).1
  have hadd : (⟨g, o, none⟩ : Addr).add j = ⟨g, o + j, none⟩ := by unfold Addr.add; split <;> simp_all
  rw [hadd, hc j (by omega), ← hv]
  simp [gb, hj]
/-- two rows of the call's own share no block -/
def Dj (v u : Value) : Prop := v.ownBlock = none ∨ v.ownBlock ≠ u.ownBlock
theorem Dj.symm {v u : Value} (h : Dj v u) : Dj u v := by
  unfold Dj at h ⊢
  rcases h with h | h
  · rw [h]
    cases e : u.ownBlock with
    | none => exact .inl rfl
    | some k => exact .inr (by simp)
  · exact .inr fun e => h e.symm
theorem Dj.nil (u : Value) : Dj (.slice none 0 0) u := .inl rfl
/-- behind an append: v became v' -/
structure Apd (w w' : World) (v v' : Value) : Prop where
  grown : w.grownBy w' v.ownBlock
  at_ : v'.ownBlock = v.ownBlock ∨ v'.ownBlock = some w.heap.size
theorem Own.lt {w : World} {B : Nat} {v : Value} {n : Nat} {l : List (BitVec 8)} (h : Own w B v n l) (k : Nat) (hk : v.ownBlock = some k) : k < w.heap.size := by
  rcases h.o.2 with ⟨rfl, _⟩ | ⟨g, cap, cur, rfl, _, h4, _⟩
  · simp [Value.ownBlock] at hk
  · simp [Value.ownBlock] at hk
    subst hk
    exact (Array.getElem?_eq_some_iff.1 h4).1
section
variable {w w' : World} {v v' u : Value} {B n : Nat} {l : List (BitVec 8)}
theorem Apd.keep (h : Apd w w' v v') (hu : Own w B u n l) (hd : Dj u v) : Own w' B u n l := hu.grown h.grown hd
theorem Apd.dj (h : Apd w w' v v') (hu : Own w B u n l) (hd : Dj v u) : Dj v' u := by
  rcases h.at_ with e | e
  · unfold Dj; rw [e]; exact hd
  · refine .inr fun e2 => ?_
    have := hu.lt w.heap.size (e2.symm.trans e)
    omega
/-- a row made behind another one -/
theorem Own.dj {B' m : Nat} {l' : List (BitVec 8)} (h : Own w B v n l) (hu : Own w' B' u m l') (hB : w.heap.size ≤ B') : Dj v u := by
  cases e : v.ownBlock with
  | none => exact .inl e
  | some k =>
    refine .inr fun e2 => ?_
    have h1 := h.lt k e
    have h2 := hu.base k (e2.symm.trans e)
    omega
end
theorem run_append_bs (ty : TypeId) {w : World} {B : Nat} {v : Value} {n : Nat} {l1 : List (BitVec 8)} (hown : Own w B v n l1) {A : Option Addr} {m c : Nat} {l2 : List (BitVec 8)} (hl : Bs w A m c l2)
    (h47 : n + m ≤ 140737488355328) (hBw : B ≤ w.heap.size) :
    ∃ A' c' w', (Builtin.append_ #[22, 22] ty #[v, .slice A m c]).run Tryz.prog w = .ok (.slice A' (n + m) c') w' ∧ Own w' B (.slice A' (n + m) c') (n + m) (l1 ++ l2) ∧ Apd w w' v (.slice A' (n + m) c') := by
  obtain ⟨i, hi0, hz, hs1, hb⟩ := info_parts inB
  cases A with
  | none =>
    obtain ⟨rfl, rfl⟩ := hl.s.2.2.1 rfl
    have hl0 : l2 = [] := List.eq_nil_of_length_eq_zero hl.len
    subst hl0
    obtain ⟨A', c', rfl⟩ := hown.form
    exact ⟨A', c', w, run_append_owned_none (P := Tryz.prog) (w := w) B 22 ty 5 i 1 Tryz.underlying22 hi0 _ n (l1.map vb) hown.o, by simpa using hown, World.grownBy.refl w _, .inl rfl⟩
  | some ad =>
    obtain ⟨v', w', hr, h2, h3, _, h5⟩ := run_append_own_at (P := Tryz.prog) w B 22 ty 5 i (.int .u8 0) 1 1 Tryz.underlying22 hi0 hz hs1 hb rfl (by decide) v n (l1.map vb) hown.o ad m c (l2.map vb) (by simp [hl.len])
      (fun j u hu => by
        have hp : 0 < (l2.map vb).length := by have := (List.getElem?_eq_some_iff.1 hu).1; omega
        obtain ⟨ad', e, hc⟩ := hl.news hp
        cases e
        exact hc j u hu) (one_vb' l2) (by unfold maxLen; omega) (by omega) hBw
    rw [← List.map_append] at h2
    obtain ⟨A', c', rfl⟩ := (Own.mk h2).form
    exact ⟨A', c', w', hr, ⟨h2⟩, h3, h5⟩
/-- bytes appended onto a row of the call's own -/
theorem wp_append_bs {w : World} {o : Oper} {a : Act} {K : Act → World → Prop} {Q : Exit → Act → World → Prop} (s x : Operand)
    (ho : o.op = .call { callee := .builtin .append, args := #[s, x], argTypes := #[22, 22] })
    (B : Nat) (v : Value) (n : Nat) (l1 : List (BitVec 8)) (hs : a.eval s = v) (hown : Own w B v n l1)
    (A : Option Addr) (m c : Nat) (l2 : List (BitVec 8)) (hx : a.eval x = .slice A m c) (hl : Bs w A m c l2)
    (h47 : n + m ≤ 140737488355328) (N : Nat) (hN : n + m = N) (L : List (BitVec 8)) (hL : l1 ++ l2 = L) (w0 : World) (hx0 : Ext w0 w) (hB : w0.heap.size ≤ B) (hBw : B ≤ w.heap.size)
    (h : ∀ A' c' w', Own w' B (.slice A' N c') N L → Ext w0 w' → Apd w w' v (.slice A' N c') → K (a.put o.dst (.slice A' N c')) w') : o.wp Tryz.prog a w K Q := by
  subst hN hL
  obtain ⟨A', c', w', hr, h2, h3⟩ := run_append_bs o.type hown hl h47 hBw
  unfold Oper.wp
  simp [execOp, ho, resolve, invoke, builtin, hs, hx, hr, Result.andThen]
  exact h A' c' w' h2 (hx0.grown h3.grown fun k hk => Nat.le_trans hB (hown.base k hk)) h3
/-- the same, another row beside -/
theorem wp_append_bs2 {w : World} {o : Oper} {a : Act} {K : Act → World → Prop} {Q : Exit → Act → World → Prop} (s x : Operand)
    (ho : o.op = .call { callee := .builtin .append, args := #[s, x], argTypes := #[22, 22] })
    (B : Nat) (v : Value) (n : Nat) (l1 : List (BitVec 8)) (hs : a.eval s = v) (hown : Own w B v n l1)
    (A : Option Addr) (m c : Nat) (l2 : List (BitVec 8)) (hx : a.eval x = .slice A m c) (hl : Bs w A m c l2)
    (h47 : n + m ≤ 140737488355328) (N : Nat) (hN : n + m = N) (L : List (BitVec 8)) (hL : l1 ++ l2 = L) (w0 : World) (hx0 : Ext w0 w) (hB : w0.heap.size ≤ B) (hBw : B ≤ w.heap.size)
    (u : Value) (n' : Nat) (l' : List (BitVec 8)) (hu : Own w B u n' l') (hd : Dj u v)
    (h : ∀ A' c' w', Own w' B (.slice A' N c') N L → Ext w0 w' → Apd w w' v (.slice A' N c') → Own w' B u n' l' → K (a.put o.dst (.slice A' N c')) w') : o.wp Tryz.prog a w K Q :=
  wp_append_bs s x ho B v n l1 hs hown A m c l2 hx hl h47 N hN L hL w0 hx0 hB hBw fun A' c' w' h1 h2 h3 => h A' c' w' h1 h2 h3 (h3.keep hu hd)
theorem wpList_append_bs {w : World} {ops : Array Oper} {rest : List Oper} {o : Oper} {a : Act} {Q : Exit → Act → World → Prop} (hgd : o.guard = none) (s x : Operand)
    (ho : o.op = .call { callee := .builtin .append, args := #[s, x], argTypes := #[22, 22] })
    (B : Nat) (v : Value) (n : Nat) (l1 : List (BitVec 8)) (hs : a.eval s = v) (hown : Own w B v n l1)
    (A : Option Addr) (m c : Nat) (l2 : List (BitVec 8)) (hx : a.eval x = .slice A m c) (hl : Bs w A m c l2)
    (h47 : n + m ≤ 140737488355328) (N : Nat) (hN : n + m = N) (L : List (BitVec 8)) (hL : l1 ++ l2 = L) (w0 : World) (hx0 : Ext w0 w) (hB : w0.heap.size ≤ B) (hBw : B ≤ w.heap.size)
    (h : ∀ A' c' w', Own w' B (.slice A' N c') N L → Ext w0 w' → Apd w w' v (.slice A' N c') → wpList Tryz.prog ops Q rest (a.put o.dst (.slice A' N c')) w') : wpList Tryz.prog ops Q (o :: rest) a w :=
  wpList_plain hgd fun _ hK => wp_append_bs s x ho B v n l1 hs hown A m c l2 hx hl h47 N hN L hL w0 hx0 hB hBw fun A' c' w' h1 h2 h3 => hK _ _ (h A' c' w' h1 h2 h3)
/-- a piece of a block known whole -/
theorem Blk.bs {w : World} {g t : Nat} {L : List (BitVec 8)} (h : Blk w g t (bv L)) (o n c : Nat) (hn : o + n ≤ L.length) (hc : n ≤ c) : Bs w (some ⟨g, o, none⟩) n c ((L.drop o).take n) := by
  refine ⟨by rw [List.length_take, List.length_drop]; omega, hc, (fun e => by cases e), fun _ => ⟨g, o, rfl, fun j hj => ?_⟩⟩
  rw [gb_take _ _ _ hj, gb_drop]
  exact (h.h.cell (o + j)).trans (bv_at L (o + j) (by omega))
/-- what a call leaves that makes a new slice of n bytes -/
def Fresh (w : World) (n : Nat) (l : List (BitVec 8)) (e : Ending) (w' : World) : Prop :=
  ∃ A c, e = .returned (.slice A n c) ∧ Bs w' A n c l ∧ Own w' w.heap.size (.slice A n c) n l ∧ Ext w w'
theorem fresh_of {w w' : World} {n : Nat} {v : Value} {l : List (BitVec 8)} (ho : w'.ownsRow w.heap.size 5 1 v n (l.map vb)) (hb : Below w.heap.size w w') : Fresh w n l (.returned v) w' := by
  obtain ⟨A, c, rfl, hs⟩ := Sl.of_own ho
  exact ⟨A, c, rfl, ⟨hs⟩, ⟨ho⟩, ⟨hb⟩⟩
theorem Own.take {w : World} {B m c n : Nat} {A : Option Addr} {l : List (BitVec 8)} (h : Own w B (.slice A m c) m l) (hn : n ≤ m) : Own w B (.slice A n c) n (l.take n) := by
  have hl := h.len
  refine ⟨by simp [hl]; omega, ?_⟩
  rcases h.o.2 with ⟨e, e2⟩ | ⟨g, cap, cur, e, h3, h4, h5, h6, h7, h8⟩
  · cases e; exact .inl ⟨by rw [show n = 0 by omega], by omega⟩
  · cases e
    refine .inr ⟨g, c, cur, rfl, h3, h4, by omega, h6, h7, ?_⟩
    rw [List.map_take, ← h8, List.take_take, Nat.mul_one, Nat.mul_one, Nat.min_eq_left hn]
theorem run_uptoB {w0 : World} {B m c : Nat} {A : Option Addr} {l : List (BitVec 8)} (h : Own w0 B (.slice A m c) m l) (n : Nat) (hn : n ≤ m) (w : World) :
    (Instr.sliceAt 22 (.slice A m c) none (some (.int .i64 (n : Int))) none).run Tryz.prog w = .ok (.slice A n c) w :=
  run_upto A m c 22 5 Tryz.underlying22 szB n (n : Int) rfl (by have := h.bs.cap; omega) w
/-- a constant's bytes -/
theorem run_const (w : World) (g : Nat) (C : Array Value) (n c : Nat) (hg : g = w.heap.size) : (convert 22 22 (.slice (some ⟨g, 0, none⟩) n c)).run Tryz.prog (w.alloc (.cells C 5)) = .ok (.slice (some ⟨g, 0, none⟩) n c) (w.alloc (.cells C 5 (C.size, C.size + 1))) := by
  subst hg
  exact Lib.run_convert_bytes_const w 22 5 C n c Tryz.underlying22 Tryz.underlying5
theorem const_bs (w : World) (g : Nat) (l : List (BitVec 8)) (n c : Nat) (fr : Nat × Nat) (hg : g = w.heap.size) (hn : l.length = n) (hc : n ≤ c) : Bs (w.alloc (.cells (bv l) 5 fr)) (some ⟨g, 0, none⟩) n c l := by
  subst hn hg
  refine ⟨rfl, hc, (fun e => by cases e), fun _ => ⟨_, 0, rfl, fun j hj => ?_⟩⟩
  rw [Nat.zero_add, cell_of_row _ w.heap.size j _ 5 fr (heap_alloc_new w _)]
  exact bv_at l j hj
/-- what is held may be said more narrowly from here on -/
theorem held_more {P : Program} {md : Region.Mode} {ops : Array Oper} {Q : Exit → Act → World → Prop} {S S' : World → Prop} (h : ∀ w, S' w → S w) :
    ∀ (fuel : Nat) (listed : Array Bool) (a : Act) (w : World), wpAnyH P md ops Q S' fuel listed a w → wpAnyH P md ops Q S fuel listed a w
  | 0, _, _, _, H => H
  | fuel + 1, _, _, _, H => ⟨H.1, fun i hi => wpOp_mono (fun a' w' h' => ⟨h _ h'.1, held_more h fuel _ a' w' h'.2⟩) (H.2 i hi)⟩
theorem strOf_size (l : List (BitVec 8)) : (strOf l).size = l.length := by simp [strOf, ByteArray.size]
theorem held_go {S : World → Prop} {X : Act → World → Prop} {K' : Act → World → Prop} (HK : Hid (∀ a w, S w → X a w → K' a w)) {a : Act} {w : World} (hs : S w) (h : S w → X a w) : K' a w := HK.out a w hs (h hs)
theorem fresh_mk {w w1 w' : World} {A : Option Addr} {n c : Nat} {l : List (BitVec 8)} (hs : Bs w' A n c l) (ho : Own w' w1.heap.size (.slice A n c) n l) (hx : Ext w w1) (hx' : Ext w1 w') : Fresh w n l (.returned (.slice A n c)) w' :=
  ⟨A, c, rfl, hs, ho.lower hx.size, hx.trans hx'⟩
/-- make([]byte, 0, n) -/
theorem run_make0 (n : Nat) (S : Int) (hS : S = (n : Int)) (hn : n ≤ 140737488355328) (w : World) :
    (Instr.makeSlice 22 (.int .i64 0) (.int .i64 S)).run Tryz.prog w = .ok (.slice (some ⟨w.heap.size, 0, none⟩) 0 n) (w.alloc (.cells (bv (zb n)) 5)) := by
  subst hS
  obtain ⟨i, hi, hz, hs, hb⟩ := info_parts inB
  have hr := run_make (P := Tryz.prog) w 22 5 i (.int .u8 0) Tryz.underlying22 hi hz .i64 .i64 0 (n : Int) (by omega) (by omega) (by rw [hb]; omega) (by omega)
  rw [hr, hs]
  simp only [Int.toNat_natCast, Nat.mul_one]
  rw [show (Value.int .u8 0).cells = #[Value.int .u8 0] from rfl]
  have e : madeCells #[Value.int .u8 0] n = bv (zb n) := by
    apply Array.ext_getElem?
    intro i
    by_cases h : i < n
    · simp [madeCells, bv, zb, h, Nat.mod_one]; rfl
    · simp [madeCells, bv, zb, h]
  rw [e]
  rfl
/-- the same with no error beside -/
def FreshE (w : World) (n : Nat) (l : List (BitVec 8)) (e : Ending) (w' : World) : Prop :=
  ∃ A c, e = .returned (.tuple #[.slice A n c, .nilIface]) ∧ Bs w' A n c l ∧ Own w' w.heap.size (.slice A n c) n l ∧ Ext w w'
end Go.Proofs.YthookcnkmlmgcaaGreatDoor
