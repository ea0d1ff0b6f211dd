/-
  slices.CompactFunc at what attributes that are alike have in common: of those side by side that are the same the first.
  What attributes have in common, in a row of the call's own; one more appended.
  slices.SortFunc at what attributes that are alike have in common, by the shelf's contract.
-/
import Derived.Test.YthookcnkmlmgcaaDoorW3
import Derived.Test.YthookcnkmlmgcaaDoorM5
import Derived.Laws.IdiomCopy
import Derived.Test.YthookcnkmlmgcaaDoorM11
import Derived.Maps.AppendAt
import Derived.Shelf.SlSortCmp.WholeK
import Derived.Shelf.SlSortCmp.NoneTotal
namespace Go.Proofs.YthookcnkmlmgcaaDoor
open Go Go.RowKit Go.Sort
set_option maxRecDepth 4000

theorem szSn : (Tryd.prog.info? 96).map (·.size) = some 2 := by kernel_rfl
theorem zeroSn (w : World) : (zeroValue 96).run Tryd.prog w = .ok (.agg #[.slice none 0 0, .slice none 0 0]) w := by kernel_rfl
theorem run_uptoK {P : Program} (A : Option Addr) (n c t e sz : Nat) (ht : P.underlying t = some (.slice e)) (hs : (P.info? e).map (·.size) = some sz) (k : Nat) (x : Int) (hx : x = (k : Int)) (hk : k ≤ c) (w : World) :
    (Instr.sliceAt t (.slice A n c) none (some (.int .i64 x)) none).run P w = .ok (.slice A k c) w := by
  subst hx
  cases hq : P.info? e with
  | none => simp [hq] at hs
  | some i =>
    simp [Instr.sliceAt, Instr.slice, run_underlying ht, Instr.sliceBounds, Instr.sliceBound, asIntOf, sizeOf, typeInfo, hq, hk]
    intro _; cases A <;> simp [Addr.add]
theorem run_from2 {P : Program} (g n c t e : Nat) (ht : P.underlying t = some (.slice e)) (hs : (P.info? e).map (·.size) = some 2) (k r d : Nat) (x : Int) (hx : x = (k : Int)) (hk : k < n) (hc : n ≤ c) (hr : n - k = r) (hd : c - k = d) (w : World) :
    (Instr.sliceAt t (.slice (some ⟨g, 0, none⟩) n c) (some (.int .i64 x)) none none).run P w = .ok (.slice (some ⟨g, k * 2, none⟩) r d) w := by
  subst hx hr hd
  cases hq : P.info? e with
  | none => simp [hq] at hs
  | some i =>
    have hs1 : i.size = 2 := by simpa [hq] using hs
    have hk' : k ≤ n := by omega
    have hck : ¬ c = k := by omega
    simp [Instr.sliceAt, Instr.slice, run_underlying ht, Instr.sliceBounds, Instr.sliceBound, asIntOf, sizeOf, typeInfo, hq, hs1, hk', hck, Addr.add]
    intro h
    omega
/-- clear, at elements of two cells -/
theorem run_clear2 {P : Program} (w : World) (t e : TypeId) (z : Value) (ht : P.underlying t = some (.slice e)) (hv : ∀ w, (zeroValue e).run P w = .ok z w) (hz : z.cells.size = 2) (h1 : ∀ u ∈ z.cells, u.oneCell' = true) (b o n c : Nat) (hn : 0 < n)
    (hc : ∀ j, j < n * 2 → (w.cell? ⟨b, o + j, none⟩).isSome = true) (hf : ∀ j, j < n * 2 → w.frozen? ⟨b, o + j, none⟩ = false) :
    ∃ L : List Value, L.length = n * 2 ∧ ∀ ty, (Builtin.clear_ #[t] ty #[.slice (some ⟨b, o, none⟩) n c]).run P w = .ok (.tuple #[]) (w.setCells b o L) := by
  have hlen : (Builtin.zeroCells z.cells n).toList.length = n * 2 := by simp [Builtin.zeroCells, hz]
  have hst := run_storeCells_cells (P := P) b o (Builtin.zeroCells z.cells n).toList 0 w (by simpa [hlen] using hc) (by simpa [hlen] using hf) (by
    intro v hv'
    simp [Builtin.zeroCells] at hv'
    obtain ⟨i, _, rfl⟩ := hv'
    refine h1 _ ?_
    have hi : i % z.cells.size < z.cells.size := Nat.mod_lt _ (by omega)
    simp [hi])
  simp only [Nat.add_zero] at hst
  obtain ⟨m, rfl⟩ : ∃ m, n = m + 1 := ⟨n - 1, by omega⟩
  exact ⟨_, hlen, fun ty => by simp [Builtin.clear_, run_underlying ht, hv, hst]⟩
/-- what attributes have in common, apart from block g -/
structure SnF (w : World) (g : Nat) (v : SV) (s : Sns) : Prop where
  r : SnR w v s
  ok : Off v.1.1 v.1.2.1 [g]
  ot : Off v.2.1 v.2.2.1 [g]
theorem Rd.mds {α : Type} {e : α → Value} {w w' : World} {A : Option Addr} {n c : Nat} {l : List α} {G : List Nat} (h : Rd e w A n c l) (hm : Mds G w w') (ho : Off A n G) : Rd e w' A n c l := by
  refine ⟨h.len, h.cap, h.nul, fun hn => ?_⟩
  obtain ⟨g, o, rfl, hc⟩ := h.at_ hn
  exact ⟨g, o, rfl, fun j x hj => (World.cell?_of_block (w := w) (a := ⟨g, o + j, none⟩) (hm.block g (block_lt_of_cell (hc j x hj)) (ho _ hn rfl))).trans (hc j x hj)⟩
theorem SnF.mds {w w' : World} {g : Nat} {v : SV} {s : Sns} (h : SnF w g v s) (hm : Mds [g] w w') : SnF w' g v s :=
  ⟨⟨h.r.kd.mds hm h.ok, h.r.hk, h.r.tx.mds hm h.ot⟩, h.ok, h.ot⟩
/-- between rounds: those that are kept lie ahead, behind them what was there -/
structure CmI (w W : World) (g : Nat) (ps qs : List SSn) : Prop where
  m : Mds [g] w W
  lo : ∀ (k : Nat) (p : SSn), qs[k]? = some p → W.cell? ⟨g, k * 2, none⟩ = some (kdV p.1) ∧ W.cell? ⟨g, k * 2 + 1, none⟩ = some (txV p.1)
  hi : ∀ (k : Nat) (p : SSn), qs.length ≤ k → ps[k]? = some p → W.cell? ⟨g, k * 2, none⟩ = some (kdV p.1) ∧ W.cell? ⟨g, k * 2 + 1, none⟩ = some (txV p.1)
  fr : ∀ i, i < ps.length * 2 → W.frozen? ⟨g, i, none⟩ = false
theorem CmI.ext {w W W' : World} {g : Nat} {ps qs : List SSn} (h : CmI w W g ps qs) (hx : Ext W W') (hg : g < W.heap.size) : CmI w W' g ps qs :=
  ⟨h.m.trans (hx.mds _), fun k p hk => ⟨cell_fwd (h.lo k p hk).1 hx, cell_fwd (h.lo k p hk).2 hx⟩, fun k p hl hk => ⟨cell_fwd (h.hi k p hl hk).1 hx, cell_fwd (h.hi k p hl hk).2 hx⟩, fun i hi => by
    have := h.fr i hi
    rw [← this]
    exact hx.b.frozen hg⟩
theorem CmI.put {w W : World} {g : Nat} {ps qs : List SSn} (h : CmI w W g ps qs) {x y : SSn} (hy : ps[qs.length]? = some y) (K : Nat) (hK : qs.length = K) :
    CmI w ((W.setCell ⟨g, K * 2, none⟩ (kdV x.1)).setCell ⟨g, K * 2 + 1, none⟩ (txV x.1)) g ps (qs ++ [x]) := by
  subst hK
  obtain ⟨c1, c2⟩ := h.hi _ _ (Nat.le_refl _) hy
  have far : ∀ (i : Nat), i ≠ qs.length * 2 → i ≠ qs.length * 2 + 1 → ((W.setCell ⟨g, qs.length * 2, none⟩ (kdV x.1)).setCell ⟨g, qs.length * 2 + 1, none⟩ (txV x.1)).cell? ⟨g, i, none⟩ = W.cell? ⟨g, i, none⟩ := fun i h1 h2 => by
    rw [World.cell?_setCell_other _ _ _ _ (fun e => by injection e with _ e; omega), World.cell?_setCell_other _ _ _ _ (fun e => by injection e with _ e; omega)]
  refine ⟨(h.m.setCell (p := ⟨g, qs.length * 2, none⟩) (by simp) _).setCell (p := ⟨g, qs.length * 2 + 1, none⟩) (by simp) _, fun k p hk => ?_, fun k p hl hk => ?_, fun i hi => ?_⟩
  · rcases Nat.lt_or_ge k qs.length with h1 | h1
    · rw [List.getElem?_append_left h1] at hk
      rw [far _ (by omega) (by omega), far _ (by omega) (by omega)]
      exact h.lo k p hk
    · have hk0 : k = qs.length := by
        have := (List.getElem?_eq_some_iff.1 hk).1
        simp at this
        omega
      subst hk0
      rw [List.getElem?_append_right (Nat.le_refl _), Nat.sub_self] at hk
      simp at hk
      subst hk
      constructor
      · rw [World.cell?_setCell_other _ _ _ _ (fun e => by injection e with _ e; omega)]
        exact World.cell?_setCell_same _ _ _ c1
      · refine World.cell?_setCell_same _ _ _ (u := txV y.1) ?_
        rw [World.cell?_setCell_other _ _ _ _ (fun e => by injection e with _ e; omega)]
        exact c2
  · rw [List.length_append, List.length_singleton] at hl
    rw [far _ (by omega) (by omega), far _ (by omega) (by omega)]
    exact h.hi k p (by omega) hk
  · rw [World.frozen?_setCell, World.frozen?_setCell]
    exact h.fr i hi
theorem Mds.setCells {G : List Nat} {w : World} {g : Nat} (hg : g ∈ G) : ∀ (L : List Value) (o : Nat) {W : World}, Mds G w W → Mds G w (W.setCells g o L)
  | [], _, _, h => h
  | v :: r, o, _, h => Mds.setCells hg r (o + 1) (h.setCell (p := ⟨g, o, none⟩) hg v)
/-- behind a clear of what is behind -/
theorem CmI.cut {w W : World} {g : Nat} {ps qs : List SSn} (h : CmI w W g ps qs) (L : List Value) (K : Nat) (hK : qs.length = K) :
    Mds [g] w (W.setCells g (K * 2) L) ∧ ∀ (k : Nat) (p : SSn), qs[k]? = some p → (W.setCells g (K * 2) L).cell? ⟨g, k * 2, none⟩ = some (kdV p.1) ∧ (W.setCells g (K * 2) L).cell? ⟨g, k * 2 + 1, none⟩ = some (txV p.1) := by
  subst hK
  refine ⟨Mds.setCells (by simp) L _ h.m, fun k p hk => ?_⟩
  have hkl := (List.getElem?_eq_some_iff.1 hk).1
  obtain ⟨c1, c2⟩ := h.lo k p hk
  rw [World.cell?_setCells_out _ _ _ _ _ (fun _ _ => .inl (by show k * 2 < _; omega)), World.cell?_setCells_out _ _ _ _ _ (fun _ _ => .inl (by show k * 2 + 1 < _; omega))]
  exact ⟨c1, c2⟩
theorem cpt_take {α κ : Type} [DecidableEq κ] {key : α → κ} {l : List α} {j : Nat} {x y : α} (hx : l[j + 1]? = some x) (hy : l[j]? = some y) : cpt key (l.take (j + 1 + 1)) = cpt key (l.take (j + 1)) ++ (if key x = key y then [] else [x]) := by
  cases l with
  | nil => simp at hx
  | cons a t =>
    rw [List.take_succ_cons, List.take_succ_cons]
    show a :: cpA key (key a) (t.take (j + 1)) = (a :: cpA key (key a) (t.take j)) ++ _
    rw [cpA_take t (key a) j x (by simpa using hx), List.cons_append]
    congr 2
    cases j with
    | zero =>
      simp at hy
      subst hy
      simp
    | succ j =>
      have : t[j]? = some y := by simpa using hy
      simp [this]
theorem cpt_len_le {α κ : Type} [DecidableEq κ] {key : α → κ} : ∀ (l : List α), (cpt key l).length ≤ l.length
  | [] => Nat.le_refl _
  | x :: t => by
    have : ∀ (t : List α) (p : κ), (cpA key p t).length ≤ t.length := by
      intro t
      induction t with
      | nil => intro p; exact Nat.le_refl _
      | cons y t ih =>
        intro p
        unfold cpA
        split
        · have := ih (key y); simp; omega
        · have := ih (key y); simp; omega
    have := this t (key x)
    unfold cpt
    simp
    omega
theorem cpt_sub {α κ : Type} [DecidableEq κ] {key : α → κ} : ∀ (l : List α), ∀ p ∈ cpt key l, p ∈ l
  | [], p, h => by cases h
  | x :: t, p, h => by
    have : ∀ (t : List α) (k : κ), ∀ p ∈ cpA key k t, p ∈ t := by
      intro t
      induction t with
      | nil => intro k p h; cases h
      | cons y t ih =>
        intro k p h
        unfold cpA at h
        split at h
        · exact List.mem_cons_of_mem _ (ih _ p h)
        · rcases List.mem_cons.1 h with rfl | h
          · simp
          · exact List.mem_cons_of_mem _ (ih _ p h)
    unfold cpt at h
    rcases List.mem_cons.1 h with rfl | h
    · simp
    · exact List.mem_cons_of_mem _ (this t _ p h)
end Go.Proofs.YthookcnkmlmgcaaDoor
namespace Go.Proofs.YthookcnkmlmgcaaDoor
open Go Go.RowKit Go.Sort
set_option maxRecDepth 4000

/-- the cells of them, one behind the other -/
def cellsS : List SSn → List Value
  | [] => []
  | p :: t => kdV p.1 :: txV p.1 :: cellsS t
theorem cellsS_len : ∀ ps : List SSn, (cellsS ps).length = ps.length * 2
  | [] => rfl
  | p :: t => by
    have := cellsS_len t
    simp [cellsS]
    omega
theorem cellsS_app : ∀ (a b : List SSn), cellsS (a ++ b) = cellsS a ++ cellsS b
  | [], b => rfl
  | p :: t, b => by
    show kdV p.1 :: txV p.1 :: cellsS (t ++ b) = _
    rw [cellsS_app t b]
    rfl
theorem cellsS_get : ∀ (ps : List SSn) (k : Nat) (p : SSn), ps[k]? = some p → (cellsS ps)[k * 2]? = some (kdV p.1) ∧ (cellsS ps)[k * 2 + 1]? = some (txV p.1)
  | [], k, p, h => by simp at h
  | a :: t, 0, p, h => by
    simp at h
    subst h
    exact ⟨rfl, rfl⟩
  | a :: t, k + 1, p, h => by
    have := cellsS_get t k p (by simpa using h)
    rw [show (k + 1) * 2 = k * 2 + 1 + 1 by omega, show k * 2 + 1 + 1 + 1 = (k * 2 + 1) + 1 + 1 by omega]
    exact this
theorem inSn : (Tryd.prog.info? 96).map (fun i => (i.zero, i.size, i.bytes)) = some (some (.agg #[.slice none 0 0, .slice none 0 0]), 2, 48) := by kernel_rfl
/-- a row of them of the call's own -/
structure SnW (w0 w : World) (v : Value) (n : Nat) (ps : List SSn) : Prop where
  len : ps.length = n
  row : w.ownsRow w0.heap.size 96 2 v n (cellsS ps)
  kd : ∀ p ∈ ps, Rd vL w0 p.1.1.1 p.1.1.2.1 p.1.1.2.2 p.2.1 ∧ p.1.1.2.1 ≤ 1000000
  tx : ∀ p ∈ ps, Own w w0.heap.size (txV p.1) p.1.2.2.1 p.2.2
theorem SnW.nil (w0 w : World) : SnW w0 w (.slice none 0 0) 0 [] := ⟨rfl, ⟨rfl, .inl ⟨rfl, rfl⟩⟩, (fun p h => by cases h), fun p h => by cases h⟩
theorem SnW.ext {w0 w w' : World} {v : Value} {n : Nat} {ps : List SSn} (h : SnW w0 w v n ps) (hx : Ext w w') : SnW w0 w' v n ps :=
  ⟨h.len, ow_ext h.row hx, h.kd, fun p hp => (h.tx p hp).ext hx⟩
theorem own_apart {w : World} {B B' n m s : Nat} {T : TypeId} {u v : Value} {l : List (BitVec 8)} {xs : List Value} (hu : Own w B u m l) (h : w.ownsRow B' T s v n xs) (hT : 5 ≠ T) : u.ownBlock = none ∨ u.ownBlock ≠ v.ownBlock := by
  rcases hu.o.2 with ⟨rfl, _⟩ | ⟨g, cap, cur, rfl, _, hh, _⟩
  · exact .inl rfl
  · rcases h.2 with ⟨rfl, _⟩ | ⟨g', cap', cur', rfl, _, hh', _⟩
    · exact .inr (by simp [Value.ownBlock])
    · refine .inr fun e => ?_
      obtain rfl : g = g' := by simpa [Value.ownBlock] using e
      rw [hh] at hh'
      exact absurd (congrArg (fun (o : Option Obj) => match o with | some (.cells _ t _) => t | _ => 0) hh') hT
theorem wp_append_sn {w0 w : World} {o : Oper} {a : Act} {K : Act → World → Prop} {Q : Exit → Act → World → Prop} (s x : Operand)
    (ho : o.op = .call { callee := .builtin .append, args := #[s, x], argTypes := #[94, 94] })
    (v : Value) (n : Nat) (ps : List SSn) (hs : a.eval s = v) (hown : SnW w0 w v n ps) (hx0 : Ext w0 w)
    (g c : Nat) (p : SSn) (hx : a.eval x = .slice (some ⟨g, 0, none⟩) 1 c) (h0 : w.cell? ⟨g, 0, none⟩ = some (kdV p.1)) (h1 : w.cell? ⟨g, 1, none⟩ = some (txV p.1))
    (hk : Rd vL w0 p.1.1.1 p.1.1.2.1 p.1.1.2.2 p.2.1 ∧ p.1.1.2.1 ≤ 1000000) (ht : Own w w0.heap.size (txV p.1) p.1.2.2.1 p.2.2) (hn : n ≤ 1000000)
    (h : ∀ A' c' w', SnW w0 w' (.slice A' (n + 1) c') (n + 1) (ps ++ [p]) → Ext w0 w' → w.grownBy w' v.ownBlock → K (a.put o.dst (.slice A' (n + 1) c')) w') : o.wp Tryd.prog a w K Q := by
  obtain ⟨i, hi0, hz0, hs1, hb⟩ := info_parts inSn
  obtain ⟨v', w', hr, h2, h3, _, _⟩ := run_append_own_at (P := Tryd.prog) w w0.heap.size 94 o.type 96 i (.agg #[.slice none 0 0, .slice none 0 0]) 2 48 Tryd.underlying94 hi0 hz0 hs1 hb rfl (by decide) v n (cellsS ps) hown.row ⟨g, 0, none⟩ 1 c [kdV p.1, txV p.1] rfl
    (fun j u hu => by
      match j with
      | 0 =>
        simp at hu
        subst hu
        exact h0
      | 1 =>
        simp at hu
        subst hu
        exact h1
      | j + 2 => simp at hu)
    (fun u hu => by
      rcases List.mem_cons.1 hu with rfl | hu
      · rfl
      · rcases List.mem_cons.1 hu with rfl | hu
        · rfl
        · cases hu) (by unfold maxLen; omega) (by omega) hx0.size
  rw [show cellsS ps ++ [kdV p.1, txV p.1] = cellsS (ps ++ [p]) from (cellsS_app ps [p]).symm] at h2
  obtain ⟨A', c', rfl⟩ : ∃ A c, v' = .slice A (n + 1) c := by
    rcases h2.2 with ⟨_, e⟩ | ⟨g', cap, _, rfl, _⟩
    · omega
    · exact ⟨_, cap, rfl⟩
  have hbase : ∀ k, v.ownBlock = some k → w0.heap.size ≤ k := fun k hk => by
    rcases hown.row.2 with ⟨rfl, _⟩ | ⟨g', cap, cur, rfl, h3, _⟩
    · simp [Value.ownBlock] at hk
    · simp [Value.ownBlock] at hk
      omega
  have hx' : Ext w0 w' := hx0.grown h3 hbase
  have keep : ∀ (q : SSn), Own w w0.heap.size (txV q.1) q.1.2.2.1 q.2.2 → Own w' w0.heap.size (txV q.1) q.1.2.2.1 q.2.2 := fun q hq => hq.grown h3 (own_apart hq hown.row (by decide))
  unfold Oper.wp
  simp [execOp, ho, resolve, invoke, builtin, hs, hx, hr, Result.andThen]
  refine h A' c' w' ⟨by simp [hown.len], h2, fun q hq => ?_, fun q hq => ?_⟩ hx' h3
  · rcases List.mem_append.1 hq with hq | hq
    · exact hown.kd q hq
    · rw [List.mem_singleton.1 hq]; exact hk
  · rcases List.mem_append.1 hq with hq | hq
    · exact keep q (hown.tx q hq)
    · rw [List.mem_singleton.1 hq]; exact keep p ht
/-- a box beside such a row -/
abbrev BxS (w : World) (bx : Nat) (T : Value) (mk : Value) (B : Value) (W : World) : Prop := Ext w W ∧ Blk W bx 42 #[T, mk, B] ∧ W.cell? ⟨bx, 0, none⟩ = some T ∧ W.cell? ⟨bx, 2, none⟩ = some B
theorem BxS.ext {w W W' : World} {bx : Nat} {T mk B : Value} (h : BxS w bx T mk B W) (hx : Ext W W') : BxS w bx T mk B W' := ⟨h.1.trans hx, h.2.1.ext hx, cell_fwd h.2.2.1 hx, cell_fwd h.2.2.2 hx⟩
theorem BxS.grown {w W W' : World} {bx : Nat} {T mk B : Value} {v : Value} {n : Nat} {ps : List SSn} (h : BxS w bx T mk B W) (hx : Ext w W') (hs : SnW w W v n ps) (hg : W.grownBy W' v.ownBlock) : BxS w bx T mk B W' := by
  have hne : v.ownBlock ≠ some bx := by
    rcases hs.row.2 with ⟨e, _⟩ | ⟨g, cap, cur, e, _, hh, _⟩
    · rw [e]; simp [Value.ownBlock]
    · intro e2
      rw [e] at e2
      simp [Value.ownBlock] at e2
      exact blk_ne hh h.2.1.h (by decide) e2
  have hb : W'.heap[bx]? = W.heap[bx]? := hg.block bx h.2.1.lt fun e => hne e.symm
  have hB : Blk W' bx 42 #[T, mk, B] := ⟨hb.trans h.2.1.h⟩
  exact ⟨hx, hB, hB.h.cell 0, hB.h.cell 2⟩
end Go.Proofs.YthookcnkmlmgcaaDoor
namespace Go.Proofs.YthookcnkmlmgcaaDoor
open Go Go.RowKit Go.Shelf Go.Sort
set_option maxRecDepth 4000

def SortLaidK_ren : Go.Shelf.Ren := ⟨fun | 6 => 69 | 15 => 84 | 14 => 83 | 28 => 72 | 29 => 100 | 20 => 92 | 21 => 93 | 22 => 94 | 23 => 95 | 24 => 96 | 25 => 97 | 26 => 98 | 27 => 99 | 46 => 105 | 47 => 106 | 48 => 107 | 49 => 108 | 50 => 109 | 57 => 112 | n => n, fun | 22 => 94 | 24 => 96 | 25 => 110 | 3 => 3 | 39 => 82 | 0 => 0 | 53 => 72 | 55 => 137 | 4 => 4 | 46 => 130 | 45 => 129 | 50 => 134 | 5 => 5 | 9 => 9 | 66 => 141 | 70 => 145 | 76 => 148 | 77 => 149 | n => n, fun | n => n⟩
theorem SortLaidK : Go.Proofs.SlLaysF0.n6 Tryd.prog SortLaidK_ren := {
  mixed := by kernel_rfl
  f6 := ⟨Tryd.f69.name, by decide, Tryd.func69.trans (congrArg some (by kernel_rfl))⟩
  f14 := ⟨Tryd.f83.name, by decide, Tryd.func83.trans (congrArg some (by kernel_rfl))⟩
  f15 := Tryd.func84.trans (congrArg some (by kernel_rfl))
  f20 := ⟨Tryd.f92.name, by decide, Tryd.func92.trans (congrArg some (by kernel_rfl))⟩
  f21 := ⟨Tryd.f93.name, by decide, Tryd.func93.trans (congrArg some (by kernel_rfl))⟩
  f22 := ⟨Tryd.f94.name, by decide, Tryd.func94.trans (congrArg some (by kernel_rfl))⟩
  f23 := ⟨Tryd.f95.name, by decide, Tryd.func95.trans (congrArg some (by kernel_rfl))⟩
  f24 := ⟨Tryd.f96.name, by decide, Tryd.func96.trans (congrArg some (by kernel_rfl))⟩
  f25 := ⟨Tryd.f97.name, by decide, Tryd.func97.trans (congrArg some (by kernel_rfl))⟩
  f26 := ⟨Tryd.f98.name, by decide, Tryd.func98.trans (congrArg some (by kernel_rfl))⟩
  f27 := ⟨Tryd.f99.name, by decide, Tryd.func99.trans (congrArg some (by kernel_rfl))⟩
  f28 := Tryd.func72.trans (congrArg some (by kernel_rfl))
  f29 := Tryd.func100.trans (congrArg some (by kernel_rfl))
  f46 := ⟨Tryd.f105.name, by decide, Tryd.func105.trans (congrArg some (by kernel_rfl))⟩
  f47 := Tryd.func106.trans (congrArg some (by kernel_rfl))
  f48 := Tryd.func107.trans (congrArg some (by kernel_rfl))
  f49 := ⟨Tryd.f108.name, by decide, Tryd.func108.trans (congrArg some (by kernel_rfl))⟩
  f50 := ⟨Tryd.f109.name, by decide, Tryd.func109.trans (congrArg some (by kernel_rfl))⟩
  f57 := ⟨Tryd.f112.name, by decide, Tryd.func112.trans (congrArg some (by kernel_rfl))⟩
  t0 := Tryd.underlying0
  a0 := Tryd.isAgg0
  z0 := Tryd.sizeOf0
  v0 := Tryd.zeroValue0
  t3 := Tryd.underlying3
  a3 := Tryd.isAgg3
  z3 := Tryd.sizeOf3
  v3 := Tryd.zeroValue3
  t4 := Tryd.underlying4
  a4 := Tryd.isAgg4
  z4 := Tryd.sizeOf4
  v4 := Tryd.zeroValue4
  t5 := Tryd.underlying5
  a5 := Tryd.isAgg5
  z5 := Tryd.sizeOf5
  v5 := Tryd.zeroValue5
  t9 := Tryd.underlying9
  a9 := Tryd.isAgg9
  z9 := Tryd.sizeOf9
  v9 := Tryd.zeroValue9
  t22 := Tryd.underlying94
  a22 := Tryd.isAgg94
  z22 := Tryd.sizeOf94
  v22 := Tryd.zeroValue94
  t25 := Tryd.underlying110
  a25 := Tryd.isAgg110
  z25 := Tryd.sizeOf110
  v25 := Tryd.zeroValue110
  t39 := Tryd.underlying82
  a39 := Tryd.isAgg82
  z39 := Tryd.sizeOf82
  v39 := Tryd.zeroValue82
  t45 := Tryd.underlying129
  a45 := Tryd.isAgg129
  z45 := Tryd.sizeOf129
  v45 := Tryd.zeroValue129
  t46 := Tryd.underlying130
  a46 := Tryd.isAgg130
  z46 := Tryd.sizeOf130
  v46 := Tryd.zeroValue130
  t50 := Tryd.underlying134
  a50 := Tryd.isAgg134
  z50 := Tryd.sizeOf134
  v50 := Tryd.zeroValue134
  t53 := Tryd.underlying72
  a53 := Tryd.isAgg72
  z53 := Tryd.sizeOf72
  v53 := Tryd.zeroValue72
  t55 := Tryd.underlying137
  a55 := Tryd.isAgg137
  z55 := Tryd.sizeOf137
  v55 := Tryd.zeroValue137
  t66 := Tryd.underlying141
  a66 := Tryd.isAgg141
  z66 := Tryd.sizeOf141
  v66 := Tryd.zeroValue141
  t70 := Tryd.underlying145
  a70 := Tryd.isAgg145
  z70 := Tryd.sizeOf145
  v70 := Tryd.zeroValue145
  t76 := Tryd.underlying148
  a76 := Tryd.isAgg148
  z76 := Tryd.sizeOf148
  v76 := Tryd.zeroValue148
  t77 := Tryd.underlying149
  a77 := Tryd.isAgg149
  z77 := Tryd.sizeOf149
  v77 := Tryd.zeroValue149 }
/-- the elements, as the sort has them -/
def SlK (w : World) (g : Nat) : Type := {p : SSn // SnF w g p.1 p.2}
instance (w : World) (g : Nat) : Inhabited (SlK w g) := ⟨⟨(((none, 0, 0), (none, 0, 0)), ([], [])), ⟨⟨Rd.nil w, Nat.zero_le _, Bs.nil w⟩, fun _ h => absurd h (Nat.lt_irrefl 0), fun _ h => absurd h (Nat.lt_irrefl 0)⟩⟩⟩
def SlK.val {w : World} {g : Nat} (x : SlK w g) : SSn := x.1
def SlK.enc {w : World} {g : Nat} (x : SlK w g) : List Value := [kdV x.1.1, txV x.1.1]
def SlK.cf {w : World} {g : Nat} (x y : SlK w g) : Int := cmpS x.1.2 y.1.2
theorem SlK.of {w : World} {g : Nat} : ∀ (ps : List SSn), (∀ p ∈ ps, SnF w g p.1 p.2) → ∃ d : List (SlK w g), d.map SlK.val = ps
  | [], _ => ⟨[], rfl⟩
  | p :: ps, h => by
    obtain ⟨d, hd⟩ := SlK.of ps fun q hq => h q (List.mem_cons_of_mem _ hq)
    exact ⟨⟨p, h p (List.mem_cons_self ..)⟩ :: d, congrArg (p :: ·) hd⟩
theorem SlK.swo {w : World} {g : Nat} : SWO (ltOf (SlK.cf (w := w) (g := g))) where
  irrefl x := by
    unfold ltOf SlK.cf
    rw [cmpS_is.refl]
    rfl
  trans x y z h1 h2 := by
    unfold ltOf SlK.cf at *
    rw [decide_eq_true_eq] at *
    exact cmpS_is.tr _ _ _ h1 h2
  ntrans x y z h1 h2 := by
    unfold ltOf SlK.cf at *
    rw [decide_eq_false_iff_not] at *
    intro h3
    have a1 := cmpS_is.anti x.1.2 y.1.2
    have a2 := cmpS_is.anti y.1.2 z.1.2
    by_cases e1 : cmpS x.1.2 y.1.2 = 0
    · rw [(cmpS_is.zero _ _).1 e1] at h3
      exact h2 h3
    · have b1 : cmpS y.1.2 x.1.2 < 0 := by omega
      exact h2 (cmpS_is.tr _ _ _ b1 h3)
theorem get_listK {α : Type} [Inhabited α] (d : List α) (j : Nat) (hj : j < d.length) : d.toArray[j]! = d[j] := by simp [hj]
theorem grownBy_sortK {α : Type} [Inhabited α] (enc : α → List Value) (k : Nat) (w : World) (blk off n : Nat) (d : Array α) (os : Array Obj) : w.grownBy (sortWorldK enc k w blk off n d os) (some blk) := by
  refine ⟨rfl, rfl, rfl, ?_, fun j hj hne => ?_⟩
  · unfold sortWorldK
    rw [size_grow, size_putRowK]
    exact Nat.le_add_right _ _
  · unfold sortWorldK
    rw [heap_grow_old _ _ (by rw [size_putRowK]; exact hj)]
    have : blk ≠ j := fun e => hne (by rw [e])
    simp [putRowK, putRow, mapBlock, Go.Sort.ahead, Array.getElem?_modify, this]
theorem mds_sortK {α : Type} [Inhabited α] (enc : α → List Value) (k : Nat) (w : World) (blk off n : Nat) (d : Array α) (os : Array Obj) : Mds [blk] w (sortWorldK enc k w blk off n d os) := by
  have hg := grownBy_sortK enc k w blk off n d os
  exact ⟨hg.os, hg.tape, hg.output, hg.size, fun j hj hn => hg.block j hj fun e => hn (by rw [Option.some.inj e.symm]; simp)⟩
theorem aggSn (w : World) : (isAgg 96).run Tryd.prog w = .ok true w := by
  unfold isAgg
  rw [Sem.run_bind, run_underlying Tryd.underlying96 w]
  rfl
theorem sizSn (w : World) : (Go.sizeOf 96).run Tryd.prog w = .ok 2 w := by
  have h := szSn
  cases hq : Tryd.prog.info? 96 with
  | none => rw [hq] at h; cases h
  | some i =>
    rw [hq] at h
    have h1 : i.size = 2 := by simpa using h
    simp [Go.sizeOf, typeInfo, hq, h1]
theorem SortSn_some {w : World} (ps : List SSn) (g cap n : Nat) (hr : ∀ p ∈ ps, SnF w g p.1 p.2) (hl : ps.length = n) (hg : g < w.heap.size)
    (hc : ∀ (k : Nat) (p : SSn), ps[k]? = some p → w.cell? ⟨g, k * 2, none⟩ = some (kdV p.1) ∧ w.cell? ⟨g, k * 2 + 1, none⟩ = some (txV p.1)) (hf : ∀ k, w.frozen? ⟨g, k, none⟩ = false) (hn : n ≤ 1000000) :
    Calls Tryd.prog 69 #[.slice (some ⟨g, 0, none⟩) n cap, .func (.func 70) #[] #[]] w fun e w' => e = .returned (.tuple #[]) ∧
      ∃ qs : List SSn, qs.Perm ps ∧ Sor cmpS (qs.map Prod.snd) ∧ Mds [g] w w' ∧ CmI w' w' g qs [] ∧ ∀ p ∈ qs, SnF w' g p.1 p.2 := by
  obtain ⟨d, hd⟩ := SlK.of ps hr
  have hdl : d.length = n := by rw [← hl, ← hd, List.length_map]
  have hget : ∀ (j : Nat) (h : j < d.length), ps[j]? = some d[j].1 := fun j h => by rw [← hd, List.getElem?_map, List.getElem?_eq_getElem h]; rfl
  have hH : HoldsK SlK.enc 2 w g 0 d.toArray := fun t ht => by
    rw [size_flatK] at ht
    have ht2 : t < d.length * 2 := by simpa using ht
    have hj : t / 2 < d.length := by omega
    rw [get_flatK _ _ _ _ ht, get_listK d _ hj, Nat.zero_add]
    obtain ⟨c1, c2⟩ := hc _ _ (hget _ hj)
    refine ⟨?_, hf t⟩
    rcases Nat.mod_two_eq_zero_or_one t with h2 | h2
    · rw [h2]
      have e : t / 2 * 2 = t := by omega
      rw [e] at c1
      exact c1
    · rw [h2]
      have e : t / 2 * 2 + 1 = t := by omega
      rw [e] at c2
      exact c2
  have hcmp : CmpLays Tryd.prog 70 #[] (SlK.enc (w := w) (g := g)) 2 SlK.cf g 0 d.toArray.size w := fun m os dk _ x y => by
    have hw := mds_sortK SlK.enc 2 w g 0 m dk os
    exact compareSenses_any (x.2.mds hw).r (y.2.mds hw).r
  have h := AnyQ.slices_SortFunc SortLaidK 2 aggSn sizSn SlK.enc (fun _ => rfl) (fun x v hv => by
    unfold SlK.enc at hv
    rcases List.mem_cons.1 hv with rfl | hv
    · rfl
    · rcases List.mem_cons.1 hv with rfl | hv
      · rfl
      · cases hv) SlK.cf SlK.swo 70 #[] g 0 cap d.toArray w (enters_of Tryd.func70 (by kernel_rfl) rfl) hcmp hH hg (by simp; omega)
  have hsz : d.toArray.size = n := by simp [hdl]
  rw [hsz] at h
  refine h.mono ?_
  rintro e w' ⟨rfl, d', m, os, ⟨hp1, _, hp2⟩, hs, rfl⟩
  have hd's : d'.size = n := hp1.trans hsz
  have hm := mds_sortK SlK.enc 2 w g 0 m d' os
  have hperm : (d'.toList.map SlK.val).Perm ps := by
    rw [← hd]
    refine List.Perm.map _ ?_
    have e1 : d'.extract 0 n = d' := by rw [← hd's]; exact Array.extract_size
    have e2 : d.toArray.extract 0 n = d.toArray := by rw [← hsz]; exact Array.extract_size
    rw [e1, e2] at hp2
    exact hp2
  have hh := holdsK_sortWorldK SlK.enc 2 w g 0 m d.toArray d' os hg hH hp1
  have hql : (d'.toList.map SlK.val).length = n := by rw [List.length_map, Array.length_toList, hd's]
  refine ⟨rfl, d'.toList.map SlK.val, hperm, ?_, hm, ⟨Mds.refl _ _, (fun k p hk => by simp at hk), fun k q _ hk => ?_, fun i hi => ?_⟩, fun p hp => (hr p (hperm.mem_iff.1 hp)).mds hm⟩
  · rw [List.map_map]
    refine List.pairwise_iff_getElem.2 fun i j hi hj hij => ?_
    rw [List.length_map, Array.length_toList] at hi hj
    have hq := hs i j (Nat.zero_le _) hij (by omega)
    rw [getElem!_pos d' j hj, getElem!_pos d' i hi] at hq
    unfold ltOf SlK.cf at hq
    rw [decide_eq_false_iff_not] at hq
    simp only [List.getElem_map, Array.getElem_toList]
    exact hq
  · rw [List.getElem?_map] at hk
    have hkl : k < d'.size := by
      rcases Nat.lt_or_ge k d'.size with h1 | h1
      · exact h1
      · rw [List.getElem?_eq_none (by simpa using h1)] at hk; cases hk
    have h1 := (hh.cell hkl (show 0 < 2 by omega)).1
    have h2 := (hh.cell hkl (show 1 < 2 by omega)).1
    rw [getElem!_pos d' k hkl, Nat.zero_add] at h1 h2
    rw [Array.getElem?_toList, Array.getElem?_eq_getElem hkl] at hk
    cases hk
    exact ⟨h1, h2⟩
  · rw [hql] at hi
    have hkl : i / 2 < d'.size := by omega
    have h1 := (hh.cell hkl (show i % 2 < 2 by omega)).2
    rw [Nat.zero_add, show i / 2 * 2 + i % 2 = i by omega] at h1
    exact h1
theorem SortSn_none (A : Option Addr) (c : Nat) (w : World) :
    Calls Tryd.prog 69 #[.slice A 0 c, .func (.func 70) #[] #[]] w fun e w' => e = .returned (.tuple #[]) ∧ w' = w :=
  AnyF.slices_SortFunc_none SortLaidK A c _ w
end Go.Proofs.YthookcnkmlmgcaaDoor
