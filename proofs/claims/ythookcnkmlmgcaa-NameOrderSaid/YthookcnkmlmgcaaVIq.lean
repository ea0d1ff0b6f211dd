/-
  slices.CompactFunc at what attributes that are alike have in common: of those side by side that are the same the first.
-/
import Derived.Test.YthookcnkmlmgcaaVIp
import Derived.Test.YthookcnkmlmgcaaVHa
import Derived.Laws.IdiomCopy
namespace Go.Proofs.Ythookcnkmlmgcaa
open Go Go.RowKit Go.Sort
set_option maxRecDepth 4000

theorem szSn : (Try.prog.info? 42).map (·.size) = some 2 := by kernel_rfl
theorem zeroSn (w : World) : (zeroValue 42).run Try.prog w = .ok (.agg #[.slice none 0 0, .slice none 0 0]) w := by kernel_rfl
theorem run_uptoK {P : Program} (A : Option Addr) (n c t e sz : Nat) (ht : P.underlying t = some (.slice e)) (hs : (P.info? e).map (·.size) = some sz) (k : Nat) (x : Int) (hx : x = (k : Int)) (hk : k ≤ c) (w : World) :
    (Instr.sliceAt t (.slice A n c) none (some (.int .i64 x)) none).run P w = .ok (.slice A k c) w := by
  subst hx
  cases hq : P.info? e with
  | none => simp [hq] at hs
  | some i =>
    simp [Instr.sliceAt, Instr.slice, run_underlying ht, Instr.sliceBounds, Instr.sliceBound, asIntOf, sizeOf, typeInfo, hq, hk]
    intro _; cases A <;> simp [Addr.add]
theorem run_from2 {P : Program} (g n c t e : Nat) (ht : P.underlying t = some (.slice e)) (hs : (P.info? e).map (·.size) = some 2) (k r d : Nat) (x : Int) (hx : x = (k : Int)) (hk : k < n) (hc : n ≤ c) (hr : n - k = r) (hd : c - k = d) (w : World) :
    (Instr.sliceAt t (.slice (some ⟨g, 0, none⟩) n c) (some (.int .i64 x)) none none).run P w = .ok (.slice (some ⟨g, k * 2, none⟩) r d) w := by
  subst hx hr hd
  cases hq : P.info? e with
  | none => simp [hq] at hs
  | some i =>
    have hs1 : i.size = 2 := by simpa [hq] using hs
    have hk' : k ≤ n := by omega
    have hck : ¬ c = k := by omega
    simp [Instr.sliceAt, Instr.slice, run_underlying ht, Instr.sliceBounds, Instr.sliceBound, asIntOf, sizeOf, typeInfo, hq, hs1, hk', hck, Addr.add]
    intro h
    omega
/-- clear, at elements of two cells -/
theorem run_clear2 {P : Program} (w : World) (t e : TypeId) (z : Value) (ht : P.underlying t = some (.slice e)) (hv : ∀ w, (zeroValue e).run P w = .ok z w) (hz : z.cells.size = 2) (h1 : ∀ u ∈ z.cells, u.oneCell' = true) (b o n c : Nat) (hn : 0 < n)
    (hc : ∀ j, j < n * 2 → (w.cell? ⟨b, o + j, none⟩).isSome = true) (hf : ∀ j, j < n * 2 → w.frozen? ⟨b, o + j, none⟩ = false) :
    ∃ L : List Value, L.length = n * 2 ∧ ∀ ty, (Builtin.clear_ #[t] ty #[.slice (some ⟨b, o, none⟩) n c]).run P w = .ok (.tuple #[]) (w.setCells b o L) := by
  have hlen : (Builtin.zeroCells z.cells n).toList.length = n * 2 := by simp [Builtin.zeroCells, hz]
  have hst := run_storeCells_cells (P := P) b o (Builtin.zeroCells z.cells n).toList 0 w (by simpa [hlen] using hc) (by simpa [hlen] using hf) (by
    intro v hv'
    simp [Builtin.zeroCells] at hv'
    obtain ⟨i, _, rfl⟩ := hv'
    refine h1 _ ?_
    have hi : i % z.cells.size < z.cells.size := Nat.mod_lt _ (by omega)
    simp [hi])
  simp only [Nat.add_zero] at hst
  obtain ⟨m, rfl⟩ : ∃ m, n = m + 1 := ⟨n - 1, by omega⟩
  exact ⟨_, hlen, fun ty => by simp [Builtin.clear_, run_underlying ht, hv, hst]⟩
/-- what attributes have in common, apart from block g -/
structure SnF (w : World) (g : Nat) (v : SV) (s : Sns) : Prop where
  r : SnR w v s
  ok : Off v.1.1 v.1.2.1 [g]
  ot : Off v.2.1 v.2.2.1 [g]
theorem Rd.mds {α : Type} {e : α → Value} {w w' : World} {A : Option Addr} {n c : Nat} {l : List α} {G : List Nat} (h : Rd e w A n c l) (hm : Mds G w w') (ho : Off A n G) : Rd e w' A n c l := by
  refine ⟨h.len, h.cap, h.nul, fun hn => ?_⟩
  obtain ⟨g, o, rfl, hc⟩ := h.at_ hn
  exact ⟨g, o, rfl, fun j x hj => (World.cell?_of_block (w := w) (a := ⟨g, o + j, none⟩) (hm.block g (block_lt_of_cell (hc j x hj)) (ho _ hn rfl))).trans (hc j x hj)⟩
theorem SnF.mds {w w' : World} {g : Nat} {v : SV} {s : Sns} (h : SnF w g v s) (hm : Mds [g] w w') : SnF w' g v s :=
  ⟨⟨h.r.kd.mds hm h.ok, h.r.hk, h.r.tx.mds hm h.ot⟩, h.ok, h.ot⟩
/-- between rounds: those that are kept lie ahead, behind them what was there -/
structure CmI (w W : World) (g : Nat) (ps qs : List SSn) : Prop where
  m : Mds [g] w W
  lo : ∀ (k : Nat) (p : SSn), qs[k]? = some p → W.cell? ⟨g, k * 2, none⟩ = some (kdV p.1) ∧ W.cell? ⟨g, k * 2 + 1, none⟩ = some (txV p.1)
  hi : ∀ (k : Nat) (p : SSn), qs.length ≤ k → ps[k]? = some p → W.cell? ⟨g, k * 2, none⟩ = some (kdV p.1) ∧ W.cell? ⟨g, k * 2 + 1, none⟩ = some (txV p.1)
  fr : ∀ i, i < ps.length * 2 → W.frozen? ⟨g, i, none⟩ = false
theorem CmI.ext {w W W' : World} {g : Nat} {ps qs : List SSn} (h : CmI w W g ps qs) (hx : Ext W W') (hg : g < W.heap.size) : CmI w W' g ps qs :=
  ⟨h.m.trans (hx.mds _), fun k p hk => ⟨cell_fwd (h.lo k p hk).1 hx, cell_fwd (h.lo k p hk).2 hx⟩, fun k p hl hk => ⟨cell_fwd (h.hi k p hl hk).1 hx, cell_fwd (h.hi k p hl hk).2 hx⟩, fun i hi => by
    have := h.fr i hi
    rw [← this]
    exact hx.b.frozen hg⟩
theorem CmI.put {w W : World} {g : Nat} {ps qs : List SSn} (h : CmI w W g ps qs) {x y : SSn} (hy : ps[qs.length]? = some y) (K : Nat) (hK : qs.length = K) :
    CmI w ((W.setCell ⟨g, K * 2, none⟩ (kdV x.1)).setCell ⟨g, K * 2 + 1, none⟩ (txV x.1)) g ps (qs ++ [x]) := by
  subst hK
  obtain ⟨c1, c2⟩ := h.hi _ _ (Nat.le_refl _) hy
  have far : ∀ (i : Nat), i ≠ qs.length * 2 → i ≠ qs.length * 2 + 1 → ((W.setCell ⟨g, qs.length * 2, none⟩ (kdV x.1)).setCell ⟨g, qs.length * 2 + 1, none⟩ (txV x.1)).cell? ⟨g, i, none⟩ = W.cell? ⟨g, i, none⟩ := fun i h1 h2 => by
    rw [World.cell?_setCell_other _ _ _ _ (fun e => by injection e with _ e; omega), World.cell?_setCell_other _ _ _ _ (fun e => by injection e with _ e; omega)]
  refine ⟨(h.m.setCell (p := ⟨g, qs.length * 2, none⟩) (by simp) _).setCell (p := ⟨g, qs.length * 2 + 1, none⟩) (by simp) _, fun k p hk => ?_, fun k p hl hk => ?_, fun i hi => ?_⟩
  · rcases Nat.lt_or_ge k qs.length with h1 | h1
    · rw [List.getElem?_append_left h1] at hk
      rw [far _ (by omega) (by omega), far _ (by omega) (by omega)]
      exact h.lo k p hk
    · have hk0 : k = qs.length := by
        have := (List.getElem?_eq_some_iff.1 hk).1
        simp at this
        omega
      subst hk0
      rw [List.getElem?_append_right (Nat.le_refl _), Nat.sub_self] at hk
      simp at hk
      subst hk
      constructor
      · rw [World.cell?_setCell_other _ _ _ _ (fun e => by injection e with _ e; omega)]
        exact World.cell?_setCell_same _ _ _ c1
      · refine World.cell?_setCell_same _ _ _ (u := txV y.1) ?_
        rw [World.cell?_setCell_other _ _ _ _ (fun e => by injection e with _ e; omega)]
        exact c2
  · rw [List.length_append, List.length_singleton] at hl
    rw [far _ (by omega) (by omega), far _ (by omega) (by omega)]
    exact h.hi k p (by omega) hk
  · rw [World.frozen?_setCell, World.frozen?_setCell]
    exact h.fr i hi
theorem Mds.setCells {G : List Nat} {w : World} {g : Nat} (hg : g ∈ G) : ∀ (L : List Value) (o : Nat) {W : World}, Mds G w W → Mds G w (W.setCells g o L)
  | [], _, _, h => h
  | v :: r, o, _, h => Mds.setCells hg r (o + 1) (h.setCell (p := ⟨g, o, none⟩) hg v)
/-- behind a clear of what is behind -/
theorem CmI.cut {w W : World} {g : Nat} {ps qs : List SSn} (h : CmI w W g ps qs) (L : List Value) (K : Nat) (hK : qs.length = K) :
    Mds [g] w (W.setCells g (K * 2) L) ∧ ∀ (k : Nat) (p : SSn), qs[k]? = some p → (W.setCells g (K * 2) L).cell? ⟨g, k * 2, none⟩ = some (kdV p.1) ∧ (W.setCells g (K * 2) L).cell? ⟨g, k * 2 + 1, none⟩ = some (txV p.1) := by
  subst hK
  refine ⟨Mds.setCells (by simp) L _ h.m, fun k p hk => ?_⟩
  have hkl := (List.getElem?_eq_some_iff.1 hk).1
  obtain ⟨c1, c2⟩ := h.lo k p hk
  rw [World.cell?_setCells_out _ _ _ _ _ (fun _ _ => .inl (by show k * 2 < _; omega)), World.cell?_setCells_out _ _ _ _ _ (fun _ _ => .inl (by show k * 2 + 1 < _; omega))]
  exact ⟨c1, c2⟩
theorem cpt_take {α κ : Type} [DecidableEq κ] {key : α → κ} {l : List α} {j : Nat} {x y : α} (hx : l[j + 1]? = some x) (hy : l[j]? = some y) : cpt key (l.take (j + 1 + 1)) = cpt key (l.take (j + 1)) ++ (if key x = key y then [] else [x]) := by
  cases l with
  | nil => simp at hx
  | cons a t =>
    rw [List.take_succ_cons, List.take_succ_cons]
    show a :: cpA key (key a) (t.take (j + 1)) = (a :: cpA key (key a) (t.take j)) ++ _
    rw [cpA_take t (key a) j x (by simpa using hx), List.cons_append]
    congr 2
    cases j with
    | zero =>
      simp at hy
      subst hy
      simp
    | succ j =>
      have : t[j]? = some y := by simpa using hy
      simp [this]
theorem cpt_len_le {α κ : Type} [DecidableEq κ] {key : α → κ} : ∀ (l : List α), (cpt key l).length ≤ l.length
  | [] => Nat.le_refl _
  | x :: t => by
    have : ∀ (t : List α) (p : κ), (cpA key p t).length ≤ t.length := by
      intro t
      induction t with
      | nil => intro p; exact Nat.le_refl _
      | cons y t ih =>
        intro p
        unfold cpA
        split
        · have := ih (key y); simp; omega
        · have := ih (key y); simp; omega
    have := this t (key x)
    unfold cpt
    simp
    omega
theorem cpt_sub {α κ : Type} [DecidableEq κ] {key : α → κ} : ∀ (l : List α), ∀ p ∈ cpt key l, p ∈ l
  | [], p, h => by cases h
  | x :: t, p, h => by
    have : ∀ (t : List α) (k : κ), ∀ p ∈ cpA key k t, p ∈ t := by
      intro t
      induction t with
      | nil => intro k p h; cases h
      | cons y t ih =>
        intro k p h
        unfold cpA at h
        split at h
        · exact List.mem_cons_of_mem _ (ih _ p h)
        · rcases List.mem_cons.1 h with rfl | h
          · simp
          · exact List.mem_cons_of_mem _ (ih _ p h)
    unfold cpt at h
    rcases List.mem_cons.1 h with rfl | h
    · simp
    · exact List.mem_cons_of_mem _ (this t _ p h)
end Go.Proofs.Ythookcnkmlmgcaa
