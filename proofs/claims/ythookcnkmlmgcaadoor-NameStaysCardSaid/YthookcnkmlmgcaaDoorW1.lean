/-
  Slices of slices of bytes of the call's own: the rows lie in blocks of their own.
  tlv's reader: what it holds, what stays of it; NewReader, Next, End, Leave.
  tlv's reader: Leave.
  tlv's reader: marked.
  tlv's reader: Take.
-/
import Derived.Test.YthookcnkmlmgcaaDoorM4
import Derived.Test.YthookcnkmlmgcaaDoorM5
import Derived.Test.YthookcnkmlmgcaaDoorW0
import Derived.Test.YthookcnkmlmgcaaDoorVCb
import Derived.Test.YthookcnkmlmgcaaDoorM11
namespace Go.Proofs.YthookcnkmlmgcaaDoor
open Go Go.RowKit
set_option maxRecDepth 4000

theorem inR : (Tryd.prog.info? 29).map (fun i => (i.zero, i.size, i.bytes)) = some (some (.slice none 0 0), 1, 24) := by kernel_rfl
/-- rows in a slice of the call's own -/
structure Rws (w : World) (B : Nat) (v : Value) (ls : List (List (BitVec 8))) : Prop where
  r : ∃ xs, w.ownsRow B 29 1 v ls.length xs ∧ ∀ (j : Nat) (l : List (BitVec 8)), ls[j]? = some l → ∃ x : Value, xs[j]? = some x ∧ Own w B x l.length l
section
variable {w w' : World} {B B' : Nat} {v : Value} {ls : List (List (BitVec 8))}
theorem Rws.ext (h : Rws w B v ls) (hx : Ext w w') : Rws w' B v ls := by
  obtain ⟨xs, h1, h2⟩ := h.r
  refine ⟨xs, ow_ext h1 hx, fun j l hj => ?_⟩
  obtain ⟨x, h3, h4⟩ := h2 j l hj
  exact ⟨x, h3, h4.ext hx⟩
theorem Rws.lower (h : Rws w B v ls) (hB : B' ≤ B) : Rws w B' v ls := by
  obtain ⟨xs, h1, h2⟩ := h.r
  refine ⟨xs, ow_lower h1 hB, fun j l hj => ?_⟩
  obtain ⟨x, h3, h4⟩ := h2 j l hj
  exact ⟨x, h3, h4.lower hB⟩
theorem Rws.nil (w : World) (B : Nat) : Rws w B (.slice none 0 0) [] := ⟨[], ⟨rfl, .inl ⟨rfl, rfl⟩⟩, fun _ _ h => by simp at h⟩
theorem Rws.form (h : Rws w B v ls) : ∃ A c, v = .slice A ls.length c := by
  obtain ⟨xs, h1, _⟩ := h.r
  rcases h1.2 with ⟨e, e2⟩ | ⟨g, cap, cur, e, _⟩
  · exact ⟨none, 0, by rw [e, e2]⟩
  · exact ⟨_, _, e⟩
/-- a row, and where it is told -/
theorem Rws.get (h : Rws w B v ls) (j : Nat) (l : List (BitVec 8)) (hj : ls[j]? = some l) :
    ∃ g c A d, v = .slice (some ⟨g, 0, none⟩) ls.length c ∧ B ≤ g ∧ g < w.heap.size ∧ w.cell? ⟨g, j, none⟩ = some (.slice A l.length d) ∧ Own w B (.slice A l.length d) l.length l ∧ A.map (·.block) ≠ some g := by
  obtain ⟨xs, h1, h2⟩ := h.r
  obtain ⟨x, h3, h4⟩ := h2 j l hj
  have hjl : j < ls.length := (List.getElem?_eq_some_iff.1 hj).1
  obtain ⟨A, d, rfl⟩ := h4.form
  rcases h1.2 with ⟨e, e2⟩ | ⟨g, cap, cur, rfl, hB, hh, hc, _, _, ht⟩
  · omega
  · refine ⟨g, cap, A, d, rfl, hB, (Array.getElem?_eq_some_iff.1 hh).1, ?_, h4, ?_⟩
    · rw [cell_of_row w g j cur _ (0, 0) hh, ← h3, ← ht, List.getElem?_take_of_lt (by omega)]
      simp
    · intro e
      rcases h4.o.2 with ⟨e1, _⟩ | ⟨g', cap', cur', e1, _, hh', _⟩
      · have e5 : A = none := by injection e1
        rw [e5] at e; simp at e
      · cases e1
        obtain rfl : g' = g := by simpa using e
        rw [hh] at hh'
        exact absurd (congrArg (fun (o : Option Obj) => match o with | some (.cells _ t _) => t | _ => 0) hh') (show ¬ ((29 : Nat) = 5) by decide)
theorem Own.apart {n m : Nat} {u : Value} {l : List (BitVec 8)} {xs : List Value} (hu : Own w B u m l) (h : w.ownsRow B' 29 1 v n xs) : u.ownBlock = none ∨ u.ownBlock ≠ v.ownBlock := by
  rcases hu.o.2 with ⟨rfl, _⟩ | ⟨g, cap, cur, rfl, _, hh, _⟩
  · exact .inl rfl
  · rcases h.2 with ⟨rfl, _⟩ | ⟨g', cap', cur', rfl, _, hh', _⟩
    · exact .inr (by simp [Value.ownBlock])
    · refine .inr fun e => ?_
      obtain rfl : g = g' := by simpa [Value.ownBlock] using e
      rw [hh] at hh'
      exact absurd (congrArg (fun (o : Option Obj) => match o with | some (.cells _ t _) => t | _ => 0) hh') (show ¬ ((5 : Nat) = 29) by decide)
/-- a literal of one row -/
theorem Rws.one {x : Value} {l : List (BitVec 8)} {g : Nat} (hx : Own w B x l.length l) (hg : B ≤ g) (hh : Has w g 29 #[x]) : Rws w B (.slice (some ⟨g, 0, none⟩) 1 1) [l] :=
  ⟨[x], ⟨rfl, .inr ⟨g, 1, #[x], rfl, hg, hh, Nat.le_refl _, by decide, rfl, rfl⟩⟩, fun j l' hj => by
    match j with
    | 0 => obtain rfl : l = l' := by simpa using hj
           exact ⟨x, rfl, hx⟩
    | j + 1 => simp at hj⟩
end
theorem wpList_append_rw {w : World} {ops : Array Oper} {rest : List Oper} {o : Oper} {a : Act} {Q : Exit → Act → World → Prop} (hgd : o.guard = none) (s x : Operand)
    (ho : o.op = .call { callee := .builtin .append, args := #[s, x], argTypes := #[63, 63] })
    (B : Nat) (v : Value) (ls : List (List (BitVec 8))) (hs : a.eval s = v) (hown : Rws w B v ls) (ad : Addr) (c : Nat) (u : Value) (l : List (BitVec 8)) (hx : a.eval x = .slice (some ad) 1 c) (hc : w.cell? ad = some u) (hu : Own w B u l.length l)
    (h47 : ls.length ≤ 1000000) (N : Nat) (hN : ls.length + 1 = N) (w0 : World) (hx0 : Ext w0 w) (hB : w0.heap.size ≤ B) (hBw : B ≤ w.heap.size)
    (h : ∀ A' c' w', Rws w' B (.slice A' N c') (ls ++ [l]) → Ext w0 w' → wpList Tryd.prog ops Q rest (a.put o.dst (.slice A' N c')) w') : wpList Tryd.prog ops Q (o :: rest) a w := by
  subst hN
  obtain ⟨i, hi0, hz, hs1, hb⟩ := info_parts inR
  obtain ⟨xs, h1, h2⟩ := hown.r
  have hxl : xs.length = ls.length := by have := h1.1; omega
  obtain ⟨v', w', hr, ho', hg', _, _⟩ := run_append_own_at (P := Tryd.prog) w B 63 o.type 29 i (.slice none 0 0) 1 24 Tryd.underlying63 hi0 hz hs1 hb rfl (by decide) v ls.length xs h1 ad 1 c [u] rfl
    (fun j y hj => by
      match j with
      | 0 => obtain rfl : u = y := by simpa using hj
             rw [show ad.add 0 = ad by unfold Addr.add; split <;> simp_all]; exact hc
      | j + 1 => simp at hj)
    (fun y hy => by
      obtain rfl : y = u := by simpa using hy
      obtain ⟨A, d, rfl⟩ := hu.form
      rfl) (by unfold maxLen; omega) (by omega) hBw
  have hnew : Rws w' B v' (ls ++ [l]) := by
    refine ⟨xs ++ [u], by simpa using ho', fun j l' hj => ?_⟩
    have keep : ∀ y m lm, Own w B y m lm → Own w' B y m lm := fun y m lm hy => hy.grown hg' (hy.apart h1)
    by_cases hjl : j < ls.length
    · rw [List.getElem?_append_left hjl] at hj
      obtain ⟨y, h3, h4⟩ := h2 j l' hj
      exact ⟨y, by rw [List.getElem?_append_left (by omega)]; exact h3, keep _ _ _ h4⟩
    · rw [List.getElem?_append_right (by omega)] at hj
      have hj0 : j - ls.length = 0 := by
        have := (List.getElem?_eq_some_iff.1 hj).1
        simp at this; omega
      rw [hj0] at hj
      obtain rfl : l = l' := by simpa using hj
      exact ⟨u, by rw [List.getElem?_append_right (by omega), hxl, hj0]; rfl, keep _ _ _ hu⟩
  obtain ⟨A', c', rfl⟩ := hnew.form
  rw [List.length_append, List.length_singleton] at hnew hr
  have hext : Ext w0 w' := hx0.grown hg' fun k hk => by
    rcases h1.2 with ⟨rfl, _⟩ | ⟨g, cap, cur, rfl, h3, _⟩
    · simp [Value.ownBlock] at hk
    · obtain rfl : g = k := by simpa [Value.ownBlock] using hk
      omega
  refine wpList_plain hgd fun _ hK => ?_
  unfold Oper.wp
  simp [execOp, ho, resolve, invoke, builtin, hs, hx, hr, Result.andThen]
  exact hK _ _ (h A' c' w' hnew hext)
/-- a piece of an array's cells as its element -/
theorem run_index_piece {w : World} {t e n sz : Nat} {L l : List (BitVec 8)} (k : Nat) (x : Int) (h : Tryd.prog.underlying t = some (.array n e)) (d : TypeDesc) (he : Tryd.prog.underlying e = some d) (hd : d.isRow = true) (hs : (Tryd.prog.info? e).map (·.size) = some sz)
    (hx : x = (k : Int)) (hk : k < n) (hl : l.length = sz) (hL : ∀ j, j < sz → gb L (k * sz + j) = gb l j) (hn : k * sz + sz ≤ L.length) :
    (Instr.index t (.agg (bv L)) (.int .i64 x)).run Tryd.prog w = .ok (.agg (bv l)) w := by
  subst hx hl
  cases hq : Tryd.prog.info? e with
  | none => simp [hq] at hs
  | some i =>
    have hs1 : i.size = l.length := by simpa [hq] using hs
    have hagg : (isAgg e).run Tryd.prog w = .ok true w := by
      unfold isAgg
      rw [Sem.run_bind, run_underlying he w]
      cases d <;> simp_all
    have hc : (bv L).extract (k * l.length) (k * l.length + l.length) = bv l := by
      apply Array.ext_getElem?
      intro j
      rw [Array.getElem?_extract]
      by_cases hj : j < l.length
      · rw [if_pos (by rw [bv_size]; omega), bv_at _ _ (by omega), bv_at _ _ hj, hL j hj]
      · rw [if_neg (by rw [bv_size]; omega), Array.getElem?_eq_none (by rw [bv_size]; omega)]
    have hkn : (k : Int) < (n : Int) := by omega
    simp [Instr.index, run_underlying h, asIntOf, sizeOf, typeInfo, hq, hs1, part, hagg, hk, hc, Sem.run_bind]
end Go.Proofs.YthookcnkmlmgcaaDoor
namespace Go.Proofs.YthookcnkmlmgcaaDoor
open Go Go.RowKit
set_option maxRecDepth 4000

abbrev rdt : TypeId := 65
theorem szRd : (Tryd.prog.info? rdt).map (·.size) = some 2 := by kernel_rfl
theorem szSl : (Tryd.prog.info? 29).map (·.size) = some 1 := by kernel_rfl
/-- a slice as an element -/
def eSl (t : Option Addr × Nat × Nat) : Value := .slice t.1 t.2.1 t.2.2
theorem eSl_one (t : Option Addr × Nat × Nat) : (eSl t).oneCell' = true := rfl
/-- a reader's cells, and what they lead to: what stands there, what stands behind each whole from the outermost on -/
structure Rt (w : World) (p : Nat) (ds : List Nat) (A : Option Addr) (n c : Nat) (vb : Value) (rest : List (BitVec 8)) (ts : List (Option Addr × Nat × Nat)) (bs : List (List (BitVec 8))) : Prop where
  blk : Blk w p rdt #[.slice A n c, vb]
  rs : Bs w A n c rest
  ri : In A n ds
  bo : Rw 29 eSl w 0 vb ts.length ts
  len : ts.length = bs.length
  each : ∀ (j : Nat) (t : Option Addr × Nat × Nat) (l : List (BitVec 8)), ts[j]? = some t → bs[j]? = some l → Bs w t.1 t.2.1 t.2.2 l ∧ In t.1 t.2.1 ds
  apd : Ap ds (p :: fpv vb)
  hid : Hi w ds
def fpR (p : Nat) (vb : Value) (ds : List Nat) : List Nat := p :: (fpv vb ++ ds)
theorem mem_fpR {p k : Nat} {vb : Value} {ds : List Nat} : k ∈ fpR p vb ds ↔ k = p ∨ k ∈ fpv vb ∨ k ∈ ds := by unfold fpR; simp
/-- a reader in its blocks -/
def Rr (w : World) (p : Nat) (G : List Nat) (rest : List (BitVec 8)) (bs : List (List (BitVec 8))) : Prop :=
  ∃ ds A n c vb ts, Rt w p ds A n c vb rest ts bs ∧ G = fpR p vb ds
section
variable {w w' : World} {p : Nat} {ds : List Nat} {A : Option Addr} {n c : Nat} {vb : Value} {rest : List (BitVec 8)} {ts : List (Option Addr × Nat × Nat)} {bs : List (List (BitVec 8))} {G H : List Nat}
theorem Rt.hi (h : Rt w p ds A n c vb rest ts bs) : Hi w (fpR p vb ds) := fun k hk => by
  rcases mem_fpR.1 hk with rfl | hk | hk
  · exact h.blk.lt
  · exact h.bo.fp_lt k hk
  · exact h.hid k hk
theorem Rt.mds (h : Rt w p ds A n c vb rest ts bs) (hm : Mds H w w') (ha : Ap (fpR p vb ds) H) : Rt w' p ds A n c vb rest ts bs := by
  have hd : Ap ds H := fun k hk => ha k (mem_fpR.2 (.inr (.inr hk)))
  refine ⟨h.blk.mds hm (ha p (mem_fpR.2 (.inl rfl))), h.rs.mds hm (h.ri.off hd), h.ri, h.bo.mds hm fun k hk => ha k (mem_fpR.2 (.inr (.inl hk))), h.len, fun j t l h1 h2 => ?_, h.apd, h.hid.mono hm.size⟩
  obtain ⟨h3, h4⟩ := h.each j t l h1 h2
  exact ⟨h3.mds hm (h4.off hd), h4⟩
theorem Rt.ext (h : Rt w p ds A n c vb rest ts bs) (hx : Ext w w') : Rt w' p ds A n c vb rest ts bs := h.mds (hx.mds []) (fun _ _ h => by cases h)
theorem Rr.hi (h : Rr w p G rest bs) : Hi w G := by
  obtain ⟨ds, A, n, c, vb, ts, h, rfl⟩ := h
  exact h.hi
theorem Rr.mds (h : Rr w p G rest bs) (hm : Mds H w w') (ha : Ap G H) : Rr w' p G rest bs := by
  obtain ⟨ds, A, n, c, vb, ts, h, rfl⟩ := h
  exact ⟨ds, A, n, c, vb, ts, h.mds hm ha, rfl⟩
theorem Rr.ext (h : Rr w p G rest bs) (hx : Ext w w') : Rr w' p G rest bs := h.mds (hx.mds []) (fun _ _ h => by cases h)
/-- what stands there is another piece -/
theorem Rt.put {A' : Option Addr} {n' c' : Nat} {rest' : List (BitVec 8)} (h : Rt w p ds A n c vb rest ts bs) (hr : Bs w A' n' c' rest') (hi : In A' n' ds) :
    Rt (w.setCell ⟨p, 0, none⟩ (.slice A' n' c')) p ds A' n' c' vb rest' ts bs ∧ Mvs (fpR p vb ds) (fpR p vb ds) w (w.setCell ⟨p, 0, none⟩ (.slice A' n' c')) := by
  have hm : Mds [p] w (w.setCell ⟨p, 0, none⟩ (.slice A' n' c')) := (Mds.refl [p] w).setCell (p := ⟨p, 0, none⟩) (by simp) _
  have hd : Ap ds [p] := fun k hk h1 => h.apd k hk (by rw [List.mem_singleton.1 h1]; simp)
  refine ⟨⟨h.blk.set_ 0 _, hr.mds hm (hi.off hd), hi, h.bo.mds hm (fun k hk h1 => h.bo.ne h.blk (by decide) (by rwa [List.mem_singleton.1 h1] at hk)), h.len, fun j t l h1 h2 => ?_, h.apd, h.hid.mono hm.size⟩, hm.mono fun k hk => mem_fpR.2 (.inl (List.mem_singleton.1 hk)), fun k hk => .inl hk⟩
  obtain ⟨h3, h4⟩ := h.each j t l h1 h2
  exact ⟨h3.mds hm (h4.off hd), h4⟩
theorem Mvs.same {w : World} {v v' : Value} (h : v'.ownBlock = v.ownBlock ∨ v'.ownBlock = none) : Mvs (fpv v) (fpv v') w w := ⟨Mds.refl _ _, fun k hk => .inl (by
  rw [mem_fpv] at hk ⊢
  rcases h with e | e
  · rw [← e]; exact hk
  · rw [e] at hk; cases hk)⟩
/-- another row of what stands behind -/
theorem Rt.hold {vb' : Value} {ts' : List (Option Addr × Nat × Nat)} {bs' : List (List (BitVec 8))} (h : Rt w p ds A n c vb rest ts bs) (hm : Mvs (fpv vb) (fpv vb') w w') (ho : Rw 29 eSl w' 0 vb' ts'.length ts') (hlen : ts'.length = bs'.length)
    (he : ∀ (j : Nat) (t : Option Addr × Nat × Nat) (l : List (BitVec 8)), ts'[j]? = some t → bs'[j]? = some l → Bs w t.1 t.2.1 t.2.2 l ∧ In t.1 t.2.1 ds) :
    Rt (w'.setCell ⟨p, 1, none⟩ vb') p ds A n c vb' rest ts' bs' ∧ Mvs (fpR p vb ds) (fpR p vb' ds) w (w'.setCell ⟨p, 1, none⟩ vb') := by
  have hm2 : Mds (p :: fpv vb) w (w'.setCell ⟨p, 1, none⟩ vb') := (hm.m.mono fun k hk => List.mem_cons_of_mem _ hk).setCell (p := ⟨p, 1, none⟩) (by simp) _
  have h1 := h.blk.mds hm.m (h.bo.ne h.blk (by decide))
  refine ⟨⟨h1.set_ 1 _, h.rs.mds hm2 (h.ri.off h.apd), h.ri, ho.far (p := ⟨p, 1, none⟩) (fun e => ho.ne h1 (by decide) (mem_fpv.2 e)) _, hlen, fun j t l h2 h3 => ?_, fun k hk hk2 => ?_, h.hid.mono hm2.size⟩, hm2.mono fun k hk => ?_, fun k hk => ?_⟩
  · obtain ⟨h4, h5⟩ := he j t l h2 h3
    exact ⟨h4.mds hm2 (h5.off h.apd), h5⟩
  · rcases List.mem_cons.1 hk2 with e | e
    · exact h.apd k hk (e ▸ by simp)
    · rcases hm.f k e with e2 | e2
      · exact h.apd k hk (List.mem_cons_of_mem _ e2)
      · have := h.hid k hk; omega
  · rcases List.mem_cons.1 hk with e | e
    · exact mem_fpR.2 (.inl e)
    · exact mem_fpR.2 (.inr (.inl e))
  · rcases mem_fpR.1 hk with e | e | e
    · exact .inl (mem_fpR.2 (.inl e))
    · rcases hm.f k e with e2 | e2
      · exact .inl (mem_fpR.2 (.inr (.inl e2)))
      · exact .inr e2
    · exact .inl (mem_fpR.2 (.inr (.inr e)))
end
section
variable {w : World} {p : Nat} {G : List Nat} {rest : List (BitVec 8)} {bs : List (List (BitVec 8))}
set_option maxHeartbeats 1000000 in
theorem NewReader_any {b : List (BitVec 8)} {A : Option Addr} {n c : Nat} {w : World} (h : Bs w A n c b) (hn : n ≤ 140737488351232) : Calls Tryd.prog 19 #[.slice A n c] w fun e w' => ∃ p, e = .returned (.pointer (some ⟨p, 0, none⟩)) ∧ (∃ G, Rr w' p G b [] ∧ Lo w.heap.size G) ∧ Ext w w' := by
  have C := Kp.mk (Clone_any h hn)
  clear h hn
  go_enter Tryd.func19, Tryd.ntmps19
  go_wp2_with (first | (go_at_call 33; refine C.out.mono ?_; rintro e w1 ⟨A1, c1, rfl, hs1, ho1, hx1⟩; have HS1 := Kp.mk hs1; have HO1 := Kp.mk ho1; have HX1 := Kp.mk hx1; clear hs1 ho1 hx1) | fail)
  go_ret
  have hB := Blk.new w1 rdt #[.slice A1 n c1, .slice none 0 0]
  have hx2 : Ext w1 (w1.alloc (.cells #[.slice A1 n c1, .slice none 0 0] rdt)) := (by (repeat (first | assumption | exact Ext.refl _ | apply Ext.drew | apply Ext.drewN | apply Ext.alloc | refine Ext.trans ?_ (by assumption))); first | done | fail)
  have hlt := HO1.out.rw.fp_lt
  refine ⟨w1.heap.size, rfl, ⟨_, ⟨fpv (.slice A1 n c1), A1, n, c1, .slice none 0 0, [], ⟨hB, HS1.out.ext hx2, fun ad hn e => ?_, Rw.nil _ _, rfl, fun j t l h1 => by simp at h1, fun k hk h1 => ?_, fun k hk => Nat.lt_of_lt_of_le (hlt k hk) hx2.size⟩, rfl⟩, fun k hk => ?_⟩, HX1.out.trans hx2⟩
  · obtain ⟨g, e2, _, _⟩ := HO1.out.some_ hn
    rw [e] at e2
    cases e2
    rw [mem_fpv, e]; rfl
  · have h2 := hlt k hk
    simp [fpv, Value.ownBlock] at h1
    omega
  · rcases mem_fpR.1 hk with rfl | hk | hk
    · exact HX1.out.size
    · simp [fpv, Value.ownBlock] at hk
    · exact HO1.out.rw.base k (mem_fpv.1 hk)
/-- how Next answers -/
def nxV (rest : List (BitVec 8)) : Value := if rest.length = 0 then .tuple #[.int .u8 0, .bool false] else .tuple #[.int .u8 (ub (gb rest 0)), .bool true]
set_option maxHeartbeats 1000000 in
theorem Next_any (h : Rr w p G rest bs) : Calls Tryd.prog 35 #[.pointer (some ⟨p, 0, none⟩)] w fun e w' => e = .returned (nxV rest) ∧ w' = w := by
  obtain ⟨ds, A, n, c, vb, ts, h, rfl⟩ := h
  have hc0 := fun (w' : World) (hx : Ext w w') => h.blk.cell hx 0
  have hl := h.rs.len
  unfold nxV
  by_cases hn : n = 0
  · rw [if_pos (by omega)]
    subst hn
    clear h hl
    go_enter Tryd.func35, Tryd.ntmps35
    go_wp2_with fail
    go_ret2
    exact ⟨rfl, rfl⟩
  · rw [if_neg (by omega)]
    obtain ⟨g, o, rfl, hc⟩ := h.rs.s.2.2.2 (by omega)
    have k0 := hc 0 (by omega)
    rw [Nat.add_zero] at k0
    have b1 : 0 < (n : Int) := by omega
    have b2 : ((n : Int) == 0) = false := beq_eq_false_iff_ne.2 (by omega)
    clear h hl hc
    go_enter Tryd.func35, Tryd.ntmps35
    go_wp2_with fail
    go_ret2
    exact ⟨rfl, rfl⟩
/-- what End tells -/
def endC (rest : List (BitVec 8)) (bs : List (List (BitVec 8))) : Nat := if 0 < bs.length then 17 else if 0 < rest.length then 3 else 0
def errW (n : Nat) : Value := if n = 0 then .nilIface else err n
set_option maxHeartbeats 1000000 in
theorem End_any (h : Rr w p G rest bs) : Calls Tryd.prog 22 #[.pointer (some ⟨p, 0, none⟩)] w fun e w' => e = .returned (errW (endC rest bs)) ∧ w' = w := by
  obtain ⟨ds, A, n, c, vb, ts, h, rfl⟩ := h
  obtain ⟨Ab, cb, rfl⟩ := h.bo.form
  have hc0 := fun (w' : World) (hx : Ext w w') => h.blk.cell hx 0
  have hc1 := fun (w' : World) (hx : Ext w w') => h.blk.cell hx 1
  have hl := h.rs.len
  have hl2 := h.len
  unfold endC errW
  obtain ⟨M, hM⟩ : ∃ M, ts.length = M := ⟨_, rfl⟩
  rw [hM] at hl2 hc0 hc1
  by_cases hb : 0 < M
  · rw [if_pos (show 0 < bs.length by omega), if_neg (by decide)]
    have b1 : 0 < (M : Int) := by omega
    clear h hl hl2 hM
    go_enter Tryd.func22, Tryd.ntmps22
    go_wp2_with fail
    go_ret
    exact ⟨rfl, rfl⟩
  · rw [if_neg (show ¬ 0 < bs.length by omega)]
    obtain rfl : M = 0 := by omega
    by_cases hn : 0 < n
    · rw [if_pos (show 0 < rest.length by omega), if_neg (by decide)]
      have b1 : 0 < (n : Int) := by omega
      clear h hl hl2 hM hb
      go_enter Tryd.func22, Tryd.ntmps22
      go_wp2_with fail
      go_ret
      exact ⟨rfl, rfl⟩
    · rw [if_neg (show ¬ 0 < rest.length by omega), if_pos rfl]
      obtain rfl : n = 0 := by omega
      clear h hl hl2 hM hb hn
      go_enter Tryd.func22, Tryd.ntmps22
      go_wp2_with fail
      go_ret
      exact ⟨rfl, rfl⟩
end
end Go.Proofs.YthookcnkmlmgcaaDoor
namespace Go.Proofs.YthookcnkmlmgcaaDoor
open Go Go.RowKit
set_option maxRecDepth 4000

section
variable {w : World} {p : Nat} {G : List Nat} {rest : List (BitVec 8)} {bs : List (List (BitVec 8))}
set_option maxHeartbeats 1000000 in
theorem Leave_none (h : Rr w p G rest []) : Calls Tryd.prog 36 #[.pointer (some ⟨p, 0, none⟩)] w fun e w' => e = .returned (err 17) ∧ w' = w := by
  obtain ⟨ds, A, n, c, vb, ts, h, rfl⟩ := h
  obtain ⟨Ab, cb, rfl⟩ := h.bo.form
  have hc1 := fun (w' : World) (hx : Ext w w') => h.blk.cell hx 1
  have hl2 := h.len
  rw [show ts.length = 0 from hl2] at hc1
  clear h hl2
  go_enter Tryd.func36, Tryd.ntmps36
  go_wp2_with fail
  go_ret
  exact ⟨rfl, rfl⟩
set_option maxHeartbeats 1000000 in
theorem Leave_more {x : List (BitVec 8)} (h : Rr w p G rest (bs ++ [x])) (hr : rest ≠ []) (hlt : bs.length < 1000000) : Calls Tryd.prog 36 #[.pointer (some ⟨p, 0, none⟩)] w fun e w' => e = .returned (err 3) ∧ w' = w := by
  obtain ⟨ds, A, n, c, vb, ts, h, rfl⟩ := h
  obtain ⟨Ab, cb, rfl⟩ := h.bo.form
  have hc0 := fun (w' : World) (hx : Ext w w') => h.blk.cell hx 0
  have hc1 := fun (w' : World) (hx : Ext w w') => h.blk.cell hx 1
  have hl2 := h.len
  have hl := h.rs.len
  have hn : 0 < n := by
    have := List.length_pos_iff.2 hr
    omega
  rw [List.length_append, List.length_singleton] at hl2
  obtain ⟨M, hM⟩ : ∃ M, ts.length = M := ⟨_, rfl⟩
  rw [hM] at hl2 hc1
  have b1 : IntKind.i64.wrap ((M : Int) - 1) = (bs.length : Int) := by rw [IntKind.wrap_i64]; omega
  have b2 : decide ((bs.length : Int) < 0) = false := decide_eq_false (by omega)
  have b3 : 0 < (n : Int) := by omega
  generalize bs.length = D at *
  clear h hl2 hl hM hn
  go_enter Tryd.func36, Tryd.ntmps36
  go_wp2_with fail
  go_ret
  exact ⟨rfl, rfl⟩
theorem szSl' : (Tryd.prog.info? 29).map (·.size) = some 1 := szSl
set_option maxHeartbeats 4000000 in
theorem Leave_ok {x : List (BitVec 8)} (h : Rr w p G [] (bs ++ [x])) (hlt : bs.length < 1000000) : Calls Tryd.prog 36 #[.pointer (some ⟨p, 0, none⟩)] w fun e w' => e = .returned .nilIface ∧ ∃ G', Rr w' p G' x bs ∧ Mvs G G' w w' := by
  obtain ⟨ds, A, n, c, vb, ts, h, rfl⟩ := h
  obtain ⟨Ab, cb, rfl⟩ := h.bo.form
  have hl2 := h.len
  rw [List.length_append, List.length_singleton] at hl2
  obtain rfl : n = 0 := by have := h.rs.len; simpa using this.symm
  obtain ⟨M, hM⟩ : ∃ M, ts.length = M := ⟨_, rfl⟩
  obtain ⟨D, hD⟩ : ∃ D, bs.length = D := ⟨_, rfl⟩
  have hDM : D < M := by omega
  obtain ⟨t, ht⟩ : ∃ t, ts[D]? = some t := ⟨ts[D]'(by omega), by simp [show D < ts.length by omega]⟩
  obtain ⟨At, nt, ct⟩ := t
  have hx := h.each D (At, nt, ct) x ht (by rw [List.getElem?_append_right (by omega), ← hD, Nat.sub_self]; rfl)
  rw [hM] at h hl2 ⊢
  rw [hD] at hl2 hlt
  obtain ⟨gb', rfl, _, _⟩ := (by have h1 := h.bo; rw [hM] at h1; exact h1.some_ (by omega) : ∃ g, Ab = some ⟨g, 0, none⟩ ∧ 0 ≤ g ∧ g < w.heap.size)
  have hcap : M ≤ cb := by
    have h1 := h.bo
    rw [hM] at h1
    exact h1.rd.cap
  have hc0 := fun (w' : World) (hx : Ext w w') => h.blk.cell hx 0
  have hc1 := fun (w' : World) (hx : Ext w w') => h.blk.cell hx 1
  have hcb : ∀ (w' : World), Ext w w' → w'.cell? ⟨gb', D, none⟩ = some (.slice At nt ct) := fun w' hx => by
    have h1 := (h.ext hx).bo
    rw [hM] at h1
    exact h1.cell D (At, nt, ct) ht
  have b1 : IntKind.i64.wrap ((M : Int) - 1) = (D : Int) := by rw [IntKind.wrap_i64]; omega
  have b2 : decide ((D : Int) < 0) = false := decide_eq_false (by omega)
  have b3 : (D : Int) < (M : Int) := by omega
  have hs1 := fun W => run_upto (P := Tryd.prog) (some ⟨gb', 0, none⟩) M cb 63 29 Tryd.underlying63 szSl' D (D : Int) rfl (by omega) W
  have H := Kp.mk h
  have HX := Kp.mk hx
  have HM := Kp.mk hM
  have HD := Kp.mk hD
  have HDM : Kp (D ≤ M) := ⟨by omega⟩
  have f0 := fun (w' : World) (hx : Ext w w') => h.blk.free hx 0
  have f1 := fun (w' : World) (hx : Ext w w') => h.blk.free hx 1
  clear h hx hM hD hDM hl2 ht hcap hlt
  go_enter Tryd.func36, Tryd.ntmps36
  go_wp2_with fail
  refine wp_region_R (st := fun s => s == 17 || s == 20) (R := fun w' => Ext w w') (by kernel_rfl) (Ext.refl w).drew (fun hR => ?_)
  refine wpAnyR_take0 (i := 0) (oi := ⟨some 20, _, _, _, _, _⟩) (v := ?_) rfl (by kernel_rfl) (by kernel_rfl) (by kernel_rfl) rfl (fun _ _ _ h => h) (Or.inl ⟨by rfl, ?_⟩) (by first | exact .inr (by assumption) | exact .inl (by kernel_rfl)) ?_
  rotate_left
  · (intro w hSw; (try dsimp only at hSw); go_simp; try with_reducible rfl)
  try simp only [Act.put, List.setIfInBounds_toArray, List.set_cons_zero, List.set_cons_succ]
  refine wpAnyR_take0 (i := 1) (oi := ⟨some 21, _, _, _, _, _⟩) (v := ?_) rfl (by kernel_rfl) (by kernel_rfl) (by kernel_rfl) rfl (fun _ _ _ h => h) (Or.inl ⟨by rfl, ?_⟩) (by first | exact .inr (by assumption) | exact .inl (by kernel_rfl)) ?_
  rotate_left
  · (intro w hSw; (try dsimp only at hSw); go_simp; try with_reducible rfl)
  try simp only [Act.put, List.setIfInBounds_toArray, List.set_cons_zero, List.set_cons_succ]
  refine wpAnyR_take0 (i := 2) (oi := ⟨some 22, _, _, _, _, _⟩) (v := ?_) rfl (by kernel_rfl) (by kernel_rfl) (by kernel_rfl) rfl (fun _ _ _ h => h) (Or.inl ⟨by rfl, ?_⟩) (by first | exact .inr (by assumption) | exact .inl (by kernel_rfl)) ?_
  rotate_left
  · (intro w hSw; (try dsimp only at hSw); go_simp; try with_reducible rfl)
  try simp only [Act.put, List.setIfInBounds_toArray, List.set_cons_zero, List.set_cons_succ]
  refine wpAnyR_take0 (i := 3) (oi := ⟨some 23, _, _, _, _, _⟩) (v := ?_) rfl (by kernel_rfl) (by kernel_rfl) (by kernel_rfl) rfl (fun _ _ _ h => h) (Or.inl ⟨by rfl, ?_⟩) (by first | exact .inr (by assumption) | exact .inl (by kernel_rfl)) ?_
  rotate_left
  · (intro w hSw; (try dsimp only at hSw); go_simp; try with_reducible rfl)
  try simp only [Act.put, List.setIfInBounds_toArray, List.set_cons_zero, List.set_cons_succ]
  refine wpAnyR_take0 (i := 4) (oi := ⟨some 24, _, _, _, _, _⟩) (v := ?_) rfl (by kernel_rfl) (by kernel_rfl) (by kernel_rfl) rfl (fun _ _ _ h => h) (Or.inl ⟨by rfl, ?_⟩) (by first | exact .inr (by assumption) | exact .inl (by kernel_rfl)) ?_
  rotate_left
  · (intro w hSw; (try dsimp only at hSw); go_simp; try with_reducible rfl)
  try simp only [Act.put, List.setIfInBounds_toArray, List.set_cons_zero, List.set_cons_succ]
  refine wpAnyR_take (i := 5) (oi := ⟨some 25, _, _, _, _, _⟩) (v := ?_) rfl (by kernel_rfl) (by kernel_rfl) (by kernel_rfl) rfl (by kernel_rfl) (by kernel_rfl) (fun _ _ _ h => h) (Or.inl ⟨by rfl, ?_⟩) (by assumption) ?_
  rotate_left
  · (intro w hSw; (try dsimp only at hSw); go_simp; try with_reducible rfl)
  try simp only [Act.put, List.setIfInBounds_toArray, List.set_cons_zero, List.set_cons_succ]
  refine wpAnyR_take0 (i := 6) (oi := ⟨some 26, _, _, _, _, _⟩) (v := ?_) rfl (by kernel_rfl) (by kernel_rfl) (by kernel_rfl) rfl (fun _ _ _ h => h) (Or.inl ⟨by rfl, ?_⟩) (by first | exact .inr (by assumption) | exact .inl (by kernel_rfl)) ?_
  rotate_left
  · (intro w hSw; (try dsimp only at hSw); go_simp; try with_reducible rfl)
  try simp only [Act.put, List.setIfInBounds_toArray, List.set_cons_zero, List.set_cons_succ]
  refine wpAnyR_take0 (i := 7) (oi := ⟨some 27, _, _, _, _, _⟩) (v := ?_) rfl (by kernel_rfl) (by kernel_rfl) (by kernel_rfl) rfl (fun _ _ _ h => h) (Or.inl ⟨by rfl, ?_⟩) (by first | exact .inr (by assumption) | exact .inl (by kernel_rfl)) ?_
  rotate_left
  · (intro w hSw; (try dsimp only at hSw); go_simp; try with_reducible rfl)
  try simp only [Act.put, List.setIfInBounds_toArray, List.set_cons_zero, List.set_cons_succ]
  refine wpAnyR_take (i := 8) (oi := ⟨some 28, _, _, _, _, _⟩) (v := ?_) rfl (by kernel_rfl) (by kernel_rfl) (by kernel_rfl) rfl (by kernel_rfl) (by kernel_rfl) (fun _ _ _ h => h) (Or.inl ⟨by rfl, ?_⟩) (by assumption) ?_
  rotate_left
  · (intro w hSw; (try dsimp only at hSw); go_simp; try with_reducible rfl)
  try simp only [Act.put, List.setIfInBounds_toArray, List.set_cons_zero, List.set_cons_succ]
  refine wpAnyR_take0 (i := 9) (oi := ⟨some 29, _, _, _, _, _⟩) (v := ?_) rfl (by kernel_rfl) (by kernel_rfl) (by kernel_rfl) rfl (fun _ _ _ h => h) (Or.inl ⟨by rfl, ?_⟩) (by first | exact .inr (by assumption) | exact .inl (by kernel_rfl)) ?_
  rotate_left
  · (intro w hSw; (try dsimp only at hSw); go_simp; try with_reducible rfl)
  try simp only [Act.put, List.setIfInBounds_toArray, List.set_cons_zero, List.set_cons_succ]
  refine wpAnyR_take0 (i := 10) (oi := ⟨some 30, _, _, _, _, _⟩) (v := ?_) rfl (by kernel_rfl) (by kernel_rfl) (by kernel_rfl) rfl (fun _ _ _ h => h) (Or.inl ⟨by rfl, ?_⟩) (by first | exact .inr (by assumption) | exact .inl (by kernel_rfl)) ?_
  rotate_left
  · (intro w hSw; (try dsimp only at hSw); go_simp; try with_reducible rfl)
  try simp only [Act.put, List.setIfInBounds_toArray, List.set_cons_zero, List.set_cons_succ]
  refine wpAnyR_take0 (i := 11) (oi := ⟨some 31, _, _, _, _, _⟩) (v := ?_) rfl (by kernel_rfl) (by kernel_rfl) (by kernel_rfl) rfl (fun _ _ _ h => h) (Or.inl ⟨by rfl, ?_⟩) (by first | exact .inr (by assumption) | exact .inl (by kernel_rfl)) ?_
  rotate_left
  · (intro w hSw; (try dsimp only at hSw); go_simp; try with_reducible rfl)
  try simp only [Act.put, List.setIfInBounds_toArray, List.set_cons_zero, List.set_cons_succ]
  refine wpAnyR_take (i := 12) (oi := ⟨some 32, _, _, _, _, _⟩) (v := ?_) rfl (by kernel_rfl) (by kernel_rfl) (by kernel_rfl) rfl (by kernel_rfl) (by kernel_rfl) (fun _ _ _ h => h) (Or.inl ⟨by rfl, ?_⟩) (by assumption) ?_
  rotate_left
  · (intro w hSw; (try dsimp only at hSw); go_simp; try with_reducible rfl)
  try simp only [Act.put, List.setIfInBounds_toArray, List.set_cons_zero, List.set_cons_succ]
  refine wpAnyR_take0 (i := 13) (oi := ⟨some 33, _, _, _, _, _⟩) (v := ?_) rfl (by kernel_rfl) (by kernel_rfl) (by kernel_rfl) rfl (fun _ _ _ h => h) (Or.inl ⟨by rfl, ?_⟩) (by first | exact .inr (by assumption) | exact .inl (by kernel_rfl)) ?_
  rotate_left
  · (intro w hSw; (try dsimp only at hSw); go_simp; try with_reducible rfl)
  try simp only [Act.put, List.setIfInBounds_toArray, List.set_cons_zero, List.set_cons_succ]
  refine wpAnyR_take0 (i := 14) (oi := ⟨some 34, _, _, _, _, _⟩) (v := ?_) rfl (by kernel_rfl) (by kernel_rfl) (by kernel_rfl) rfl (fun _ _ _ h => h) (Or.inl ⟨by rfl, ?_⟩) (by first | exact .inr (by assumption) | exact .inl (by kernel_rfl)) ?_
  rotate_left
  · (intro w hSw; (try dsimp only at hSw); go_simp; try with_reducible rfl)
  try simp only [Act.put, List.setIfInBounds_toArray, List.set_cons_zero, List.set_cons_succ]
  refine nextR 15 (by kernel_rfl) rfl (by rfl) fun K' HK' => ?_
  go_simp
  refine held_go HK' (.inr (hR)) (fun _ => ?_)
  clear HK'
  try simp only [Act.put, List.setIfInBounds_toArray, List.set_cons_zero, List.set_cons_succ]
  refine nextR 16 (by kernel_rfl) rfl (by rfl) fun K' HK' => ?_
  go_simp
  refine held_go HK' (.inr (hR)) (fun _ => ?_)
  clear HK'
  try simp only [Act.put, List.setIfInBounds_toArray, List.set_cons_zero, List.set_cons_succ]
  have hcd := hc0 _ hR
  have hfd := f0 _ hR
  have hcd1 := hc1 _ hR
  have hfd1 := f1 _ hR
  refine nextR 17 (by kernel_rfl) rfl (by rfl) fun K' HK' => ?_
  go_simp
  refine held_go HK' (.inl (by kernel_rfl)) (fun _ => ?_)
  clear HK'
  try simp only [Act.put, List.setIfInBounds_toArray, List.set_cons_zero, List.set_cons_succ]
  refine nextR 18 (by kernel_rfl) rfl (by rfl) fun K' HK' => ?_
  go_simp
  refine held_go HK' (.inl (by kernel_rfl)) (fun _ => ?_)
  clear HK'
  try simp only [Act.put, List.setIfInBounds_toArray, List.set_cons_zero, List.set_cons_succ]
  refine nextR 19 (by kernel_rfl) rfl (by rfl) fun K' HK' => ?_
  go_simp
  refine held_go HK' (.inl (by kernel_rfl)) (fun _ => ?_)
  clear HK'
  try simp only [Act.put, List.setIfInBounds_toArray, List.set_cons_zero, List.set_cons_succ]
  refine nextR 20 (by kernel_rfl) rfl (by rfl) fun K' HK' => ?_
  go_simp
  refine held_go HK' (.inl (by kernel_rfl)) (fun _ => ?_)
  clear HK'
  try simp only [Act.put, List.setIfInBounds_toArray, List.set_cons_zero, List.set_cons_succ]
  refine wpAnyR_done (by kernel_rfl) ?_ _
  clear hc0 hc1 hcb f0 f1 hcd hfd hcd1 hfd1 hR
  go_wp2_with fail
  go_ret
  have P1 := H.out.put HX.out.1 HX.out.2
  have P2 := P1.1.hold (vb' := .slice (some ⟨gb', 0, none⟩) D cb) (ts' := ts.take D) (bs' := bs) (Mvs.same (.inl rfl)) (by
    have h1 := P1.1.bo
    rw [HM.out] at h1
    have h2 := h1.take HDM.out
    rw [show (ts.take D).length = D by rw [List.length_take, HM.out]; exact Nat.min_eq_left HDM.out]
    exact h2) (by rw [List.length_take, HM.out, HD.out]; exact Nat.min_eq_left HDM.out) (fun j t l h1 h2 => by
    have hj : j < D := by have := (List.getElem?_eq_some_iff.1 h2).1; rwa [HD.out] at this
    rw [List.getElem?_take, if_pos hj] at h1
    exact P1.1.each j t l h1 (by rw [List.getElem?_append_left (by rw [HD.out]; exact hj)]; exact h2))
  refine ⟨rfl, _, ⟨_, _, _, _, _, _, P2.1.ext (by (repeat (first | assumption | exact Ext.refl _ | apply Ext.drew | apply Ext.drewN | apply Ext.alloc | refine Ext.trans ?_ (by assumption))); first | done | fail), rfl⟩, (P1.2.trans P2.2).post (by (repeat (first | assumption | exact Ext.refl _ | apply Ext.drew | apply Ext.drewN | apply Ext.alloc | refine Ext.trans ?_ (by assumption))); first | done | fail)⟩
end
end Go.Proofs.YthookcnkmlmgcaaDoor
namespace Go.Proofs.YthookcnkmlmgcaaDoor
open Go Go.RowKit
set_option maxRecDepth 4000

section
variable {w : World} {p : Nat} {m : BitVec 8} {G : List Nat} {rest : List (BitVec 8)} {bs : List (List (BitVec 8))} {kd : Bool}
set_option maxHeartbeats 4000000 in
theorem marked_none (h : Rr w p G [] bs) : Calls Tryd.prog 52 #[.pointer (some ⟨p, 0, none⟩), .int .u8 (ub m), .bool kd] w (ElN w 13) := by
  have hx0 : Ext w (w.alloc (.cells #[.slice none 0 0, .slice none 0 0, .slice none 0 0] elt)) := (by (repeat (first | assumption | exact Ext.refl _ | apply Ext.drew | apply Ext.drewN | apply Ext.alloc | refine Ext.trans ?_ (by assumption))); first | done | fail)
  have HB0 := Kp.mk (Blk.new w elt #[.slice none 0 0, .slice none 0 0, .slice none 0 0])
  have HX0 := Kp.mk hx0
  have NX := Kp.mk (fun u (hx : Ext w u) => Next_any (h.ext hx))
  obtain ⟨ds, A, n, c, vb, ts, h, rfl⟩ := h
  have hc0 := fun (w' : World) (hx : Ext w w') => h.blk.cell hx 0
  have hc00 := hc0 _ hx0
  have hl := h.rs.len
  obtain rfl : n = 0 := by simpa using hl.symm
  have EO := Kp.mk (fun u (_ : Ext w u) => elementOf_none (A := A) (c := c) (w := u))
  clear h hl
  have hnx : nxV [] = .tuple #[.int .u8 0, .bool false] := rfl
  rw [hnx] at NX
  go_enter Tryd.func52, Tryd.ntmps52
  go_wp2_with (first | (go_at_call 35; refine (NX.out _ HX0.out).mono ?_; rintro e w1 ⟨rfl, rfl⟩) | (go_at_call 66; refine (EO.out _ HX0.out).mono ?_; rintro e w2 ⟨rfl, hx2⟩; have HX2 := Kp.mk (HX0.out.trans hx2); have hx3 : Ext (w.alloc (.cells #[.slice none 0 0, .slice none 0 0, .slice none 0 0] elt)) ((w2.alloc (.cells #[.slice none 0 0, .slice none 0 0, .slice none 0 0] elt)).setRow w2.heap.size #[.slice none 0 0, .slice none 0 0, .slice none 0 0]) := (hx2.alloc _).setRow hx2.size _; have HX3 := Kp.mk (HX0.out.trans hx3); have HB3 := Kp.mk (HB0.out.ext hx3); have HN2 := Kp.mk (Blk.new w2 elt #[.slice none 0 0, .slice none 0 0, .slice none 0 0]); have HN3 := Kp.mk ((Blk.new w2 elt #[.slice none 0 0, .slice none 0 0, .slice none 0 0]).row #[.slice none 0 0, .slice none 0 0, .slice none 0 0]); have HY3 := Kp.mk (Ext.setRow ((by (repeat (first | assumption | exact Ext.refl _ | apply Ext.drew | apply Ext.drewN | apply Ext.alloc | refine Ext.trans ?_ (by assumption))); first | done | fail) : Ext w2 (w2.alloc (.cells #[.slice none 0 0, .slice none 0 0, .slice none 0 0] elt))) (Nat.le_refl _) #[.slice none 0 0, .slice none 0 0, .slice none 0 0]); clear hx2 hx3) | ((with_reducible refine at_store 10 31 ?_); refine wpList_store_row rfl elt _ _ rfl w2.heap.size #[.slice none 0 0, .slice none 0 0, .slice none 0 0] rfl rfl elt _ HN2.out.h szEl rfl (one_three _ _ _ _ _ _ _ _ _) ?_) | ((with_reducible refine at_store 6 35 ?_); refine wpList_store_row rfl elt _ _ rfl w.heap.size #[.slice none 0 0, .slice none 0 0, .slice none 0 0] rfl rfl elt _ HB3.out.h szEl rfl (one_three _ _ _ _ _ _ _ _ _) ?_) | fail)
  refine bodyPost_ret (results_el rfl _ _ w.heap.size _ _ _ _ rfl rfl (HB3.out.row _)) rfl ?_
  exact ⟨rfl, HX3.out.setRow (Nat.le_refl _) _⟩
set_option maxHeartbeats 4000000 in
/-- what stands there begins otherwise -/
theorem marked_kind (h : Rr w p G rest bs) (hr : rest ≠ []) (hm : gb rest 0 ≠ m) : Calls Tryd.prog 52 #[.pointer (some ⟨p, 0, none⟩), .int .u8 (ub m), .bool kd] w (ElN w 6) := by
  have hx0 : Ext w (w.alloc (.cells #[.slice none 0 0, .slice none 0 0, .slice none 0 0] elt)) := (by (repeat (first | assumption | exact Ext.refl _ | apply Ext.drew | apply Ext.drewN | apply Ext.alloc | refine Ext.trans ?_ (by assumption))); first | done | fail)
  have HB0 := Kp.mk (Blk.new w elt #[.slice none 0 0, .slice none 0 0, .slice none 0 0])
  have HX0 := Kp.mk hx0
  have NX := Kp.mk (fun u (hx : Ext w u) => Next_any (h.ext hx))
  obtain ⟨ds, A, n, c, vb, ts, h, rfl⟩ := h
  have hc0 := fun (w' : World) (hx : Ext w w') => h.blk.cell hx 0
  have hc00 := hc0 _ hx0
  have hl := h.rs.len
  have hnx : nxV rest = .tuple #[.int .u8 (ub (gb rest 0)), .bool true] := by
    unfold nxV
    rw [if_neg (fun e => hr (List.eq_nil_of_length_eq_zero e))]
  rw [hnx] at NX
  obtain ⟨d1, d2⟩ := ub_ne hm (ub m) rfl
  generalize gb rest 0 = x0 at *
  clear h hl hnx hm hr
  go_enter Tryd.func52, Tryd.ntmps52
  go_wp2_with (first | (go_at_call 35; refine (NX.out _ HX0.out).mono ?_; rintro e w1 ⟨rfl, rfl⟩) | ((with_reducible refine at_store 6 23 ?_); refine wpList_store_row rfl elt _ _ rfl w.heap.size #[.slice none 0 0, .slice none 0 0, .slice none 0 0] rfl rfl elt _ HB0.out.h szEl rfl (one_three _ _ _ _ _ _ _ _ _) ?_) | fail)
  refine bodyPost_ret (results_el rfl _ _ w.heap.size _ _ _ _ rfl rfl (HB0.out.row _)) rfl ?_
  exact ⟨rfl, HX0.out.setRow (Nat.le_refl _) _⟩
set_option maxHeartbeats 4000000 in
/-- it begins so, and no element is there -/
theorem marked_form (h : Rr w p G rest bs) (hr : rest ≠ []) (hm : gb rest 0 = m) (hx : rest.length ≤ 1000000000000) (he : ¬ ∃ m x r, El rest m x r) : Calls Tryd.prog 52 #[.pointer (some ⟨p, 0, none⟩), .int .u8 (ub m), .bool kd] w (ElN w 2) := by
  have hx0 : Ext w (w.alloc (.cells #[.slice none 0 0, .slice none 0 0, .slice none 0 0] elt)) := (by (repeat (first | assumption | exact Ext.refl _ | apply Ext.drew | apply Ext.drewN | apply Ext.alloc | refine Ext.trans ?_ (by assumption))); first | done | fail)
  have HB0 := Kp.mk (Blk.new w elt #[.slice none 0 0, .slice none 0 0, .slice none 0 0])
  have HX0 := Kp.mk hx0
  have NX := Kp.mk (fun u (hx : Ext w u) => Next_any (h.ext hx))
  obtain ⟨ds, A, n, c, vb, ts, h, rfl⟩ := h
  have hc0 := fun (w' : World) (hx : Ext w w') => h.blk.cell hx 0
  have hc00 := hc0 _ hx0
  have hl := h.rs.len
  have hnx : nxV rest = .tuple #[.int .u8 (ub m), .bool true] := by
    unfold nxV
    rw [if_neg (fun e => hr (List.eq_nil_of_length_eq_zero e)), hm]
  rw [hnx] at NX
  have hn : 0 < n := by have := List.length_pos_iff.2 hr; omega
  have EO := Kp.mk (fun u (hx : Ext w u) => elementOf_form (h.rs.ext hx) hn (by omega) he)
  clear h hl hnx hm hr hn hx he
  go_enter Tryd.func52, Tryd.ntmps52
  go_wp2_with (first | (go_at_call 35; refine (NX.out _ HX0.out).mono ?_; rintro e w1 ⟨rfl, rfl⟩) | (go_at_call 66; refine (EO.out _ HX0.out).mono ?_; rintro e w2 ⟨rfl, hx2⟩; have HX2 := Kp.mk (HX0.out.trans hx2); have hx3 : Ext (w.alloc (.cells #[.slice none 0 0, .slice none 0 0, .slice none 0 0] elt)) ((w2.alloc (.cells #[.slice none 0 0, .slice none 0 0, .slice none 0 0] elt)).setRow w2.heap.size #[.slice none 0 0, .slice none 0 0, .slice none 0 0]) := (hx2.alloc _).setRow hx2.size _; have HX3 := Kp.mk (HX0.out.trans hx3); have HB3 := Kp.mk (HB0.out.ext hx3); have HN2 := Kp.mk (Blk.new w2 elt #[.slice none 0 0, .slice none 0 0, .slice none 0 0]); have HN3 := Kp.mk ((Blk.new w2 elt #[.slice none 0 0, .slice none 0 0, .slice none 0 0]).row #[.slice none 0 0, .slice none 0 0, .slice none 0 0]); have HY3 := Kp.mk (Ext.setRow ((by (repeat (first | assumption | exact Ext.refl _ | apply Ext.drew | apply Ext.drewN | apply Ext.alloc | refine Ext.trans ?_ (by assumption))); first | done | fail) : Ext w2 (w2.alloc (.cells #[.slice none 0 0, .slice none 0 0, .slice none 0 0] elt))) (Nat.le_refl _) #[.slice none 0 0, .slice none 0 0, .slice none 0 0]); clear hx2 hx3) | ((with_reducible refine at_store 10 31 ?_); refine wpList_store_row rfl elt _ _ rfl w2.heap.size #[.slice none 0 0, .slice none 0 0, .slice none 0 0] rfl rfl elt _ HN2.out.h szEl rfl (one_three _ _ _ _ _ _ _ _ _) ?_) | ((with_reducible refine at_store 6 35 ?_); refine wpList_store_row rfl elt _ _ rfl w.heap.size #[.slice none 0 0, .slice none 0 0, .slice none 0 0] rfl rfl elt _ HB3.out.h szEl rfl (one_three _ _ _ _ _ _ _ _ _) ?_) | fail)
  refine bodyPost_ret (results_el rfl _ _ w.heap.size _ _ _ _ rfl rfl (HB3.out.row _)) rfl ?_
  exact ⟨rfl, HX3.out.setRow (Nat.le_refl _) _⟩
set_option maxHeartbeats 4000000 in
/-- an element is there, of the other kind -/
theorem marked_other {x r : List (BitVec 8)} (h : Rr w p G rest bs) (hx : rest.length ≤ 1000000000000) (he : El rest m x r) : Calls Tryd.prog 52 #[.pointer (some ⟨p, 0, none⟩), .int .u8 (ub m), .bool false] w (ElN w 2) := by
  have hx0 : Ext w (w.alloc (.cells #[.slice none 0 0, .slice none 0 0, .slice none 0 0] elt)) := (by (repeat (first | assumption | exact Ext.refl _ | apply Ext.drew | apply Ext.drewN | apply Ext.alloc | refine Ext.trans ?_ (by assumption))); first | done | fail)
  have HB0 := Kp.mk (Blk.new w elt #[.slice none 0 0, .slice none 0 0, .slice none 0 0])
  have HX0 := Kp.mk hx0
  have NX := Kp.mk (fun u (hx : Ext w u) => Next_any (h.ext hx))
  obtain ⟨ds, A, n, c, vb, ts, h, rfl⟩ := h
  have hc0 := fun (w' : World) (hx : Ext w w') => h.blk.cell hx 0
  have hc00 := hc0 _ hx0
  have hl := h.rs.len
  have hp := el_parts he
  have hlo := hdn_lo x.length
  have hnx : nxV rest = .tuple #[.int .u8 (ub m), .bool true] := by
    unfold nxV
    rw [if_neg (by omega), hp.1]
  rw [hnx] at NX
  have EO := Kp.mk (fun u (hx : Ext w u) => elementOf_ok (h.rs.ext hx) h.ri (by omega) he)
  clear h hl hnx hp hlo hx he
  go_enter Tryd.func52, Tryd.ntmps52
  go_wp2_with (first | (go_at_call 35; refine (NX.out _ HX0.out).mono ?_; rintro e w1 ⟨rfl, rfl⟩) | (go_at_call 66; refine (EO.out _ HX0.out).mono ?_; rintro e w2 ⟨A1, n1, c1, A2, n2, c2, A3, n3, c3, rfl, q1, q2, q3, j1, j2, j3, hx2⟩; have Q1 := Kp.mk q1; have Q2 := Kp.mk q2; have Q3 := Kp.mk q3; clear q1 q2 q3; have HX2 := Kp.mk (HX0.out.trans hx2); have hx3 : Ext (w.alloc (.cells #[.slice none 0 0, .slice none 0 0, .slice none 0 0] elt)) ((w2.alloc (.cells #[.slice none 0 0, .slice none 0 0, .slice none 0 0] elt)).setRow w2.heap.size #[.slice A1 n1 c1, .slice A2 n2 c2, .slice A3 n3 c3]) := (hx2.alloc _).setRow hx2.size _; have HX3 := Kp.mk (HX0.out.trans hx3); have HB3 := Kp.mk (HB0.out.ext hx3); have HN2 := Kp.mk (Blk.new w2 elt #[.slice none 0 0, .slice none 0 0, .slice none 0 0]); have HN3 := Kp.mk ((Blk.new w2 elt #[.slice none 0 0, .slice none 0 0, .slice none 0 0]).row #[.slice A1 n1 c1, .slice A2 n2 c2, .slice A3 n3 c3]); have HY3 := Kp.mk (Ext.setRow ((by (repeat (first | assumption | exact Ext.refl _ | apply Ext.drew | apply Ext.drewN | apply Ext.alloc | refine Ext.trans ?_ (by assumption))); first | done | fail) : Ext w2 (w2.alloc (.cells #[.slice none 0 0, .slice none 0 0, .slice none 0 0] elt))) (Nat.le_refl _) #[.slice A1 n1 c1, .slice A2 n2 c2, .slice A3 n3 c3]); clear hx2 hx3) | ((with_reducible refine at_store 10 31 ?_); refine wpList_store_row rfl elt _ _ rfl w2.heap.size #[.slice A1 n1 c1, .slice A2 n2 c2, .slice A3 n3 c3] rfl rfl elt _ HN2.out.h szEl rfl (one_three _ _ _ _ _ _ _ _ _) ?_) | ((with_reducible refine at_store 6 39 ?_); refine wpList_store_row rfl elt _ _ rfl w.heap.size #[.slice none 0 0, .slice none 0 0, .slice none 0 0] rfl rfl elt _ HB3.out.h szEl rfl (one_three _ _ _ _ _ _ _ _ _) ?_) | fail)
  refine bodyPost_ret (results_el rfl _ _ w.heap.size _ _ _ _ rfl rfl (HB3.out.row _)) rfl ?_
  exact ⟨rfl, HX3.out.setRow (Nat.le_refl _) _⟩
set_option maxHeartbeats 4000000 in
/-- an element is there, of the kind that is asked for -/
theorem marked_ok {x r : List (BitVec 8)} {ds : List Nat} {A : Option Addr} {n c : Nat} {vb : Value} {ts : List (Option Addr × Nat × Nat)} (h : Rt w p ds A n c vb rest ts bs) (hx : rest.length ≤ 1000000000000) (he : El rest m x r) : Calls Tryd.prog 52 #[.pointer (some ⟨p, 0, none⟩), .int .u8 (ub m), .bool true] w (ElR w ds m x r) := by
  have hx0 : Ext w (w.alloc (.cells #[.slice none 0 0, .slice none 0 0, .slice none 0 0] elt)) := (by (repeat (first | assumption | exact Ext.refl _ | apply Ext.drew | apply Ext.drewN | apply Ext.alloc | refine Ext.trans ?_ (by assumption))); first | done | fail)
  have HB0 := Kp.mk (Blk.new w elt #[.slice none 0 0, .slice none 0 0, .slice none 0 0])
  have HX0 := Kp.mk hx0
  have NX := Kp.mk (fun u (hx : Ext w u) => Next_any (⟨_, _, _, _, _, _, h.ext hx, rfl⟩ : Rr u p (fpR p vb ds) rest bs))
  have hc0 := fun (w' : World) (hx : Ext w w') => h.blk.cell hx 0
  have hc00 := hc0 _ hx0
  have hl := h.rs.len
  have hp := el_parts he
  have hlo := hdn_lo x.length
  have hnx : nxV rest = .tuple #[.int .u8 (ub m), .bool true] := by
    unfold nxV
    rw [if_neg (by omega), hp.1]
  rw [hnx] at NX
  have HI := Kp.mk h.hid
  have EO := Kp.mk (fun u (hx : Ext w u) => elementOf_ok (h.rs.ext hx) h.ri (by omega) he)
  clear h hl hnx hp hlo hx he
  go_enter Tryd.func52, Tryd.ntmps52
  go_wp2_with (first | (go_at_call 35; refine (NX.out _ HX0.out).mono ?_; rintro e w1 ⟨rfl, rfl⟩) | (go_at_call 66; refine (EO.out _ HX0.out).mono ?_; rintro e w2 ⟨A1, n1, c1, A2, n2, c2, A3, n3, c3, rfl, q1, q2, q3, j1, j2, j3, hx2⟩; have Q1 := Kp.mk q1; have Q2 := Kp.mk q2; have Q3 := Kp.mk q3; clear q1 q2 q3; have HX2 := Kp.mk (HX0.out.trans hx2); have hx3 : Ext (w.alloc (.cells #[.slice none 0 0, .slice none 0 0, .slice none 0 0] elt)) ((w2.alloc (.cells #[.slice none 0 0, .slice none 0 0, .slice none 0 0] elt)).setRow w2.heap.size #[.slice A1 n1 c1, .slice A2 n2 c2, .slice A3 n3 c3]) := (hx2.alloc _).setRow hx2.size _; have HX3 := Kp.mk (HX0.out.trans hx3); have HB3 := Kp.mk (HB0.out.ext hx3); have HN2 := Kp.mk (Blk.new w2 elt #[.slice none 0 0, .slice none 0 0, .slice none 0 0]); have HN3 := Kp.mk ((Blk.new w2 elt #[.slice none 0 0, .slice none 0 0, .slice none 0 0]).row #[.slice A1 n1 c1, .slice A2 n2 c2, .slice A3 n3 c3]); have HY3 := Kp.mk (Ext.setRow ((by (repeat (first | assumption | exact Ext.refl _ | apply Ext.drew | apply Ext.drewN | apply Ext.alloc | refine Ext.trans ?_ (by assumption))); first | done | fail) : Ext w2 (w2.alloc (.cells #[.slice none 0 0, .slice none 0 0, .slice none 0 0] elt))) (Nat.le_refl _) #[.slice A1 n1 c1, .slice A2 n2 c2, .slice A3 n3 c3]); clear hx2 hx3) | ((with_reducible refine at_store 10 31 ?_); refine wpList_store_row rfl elt _ _ rfl w2.heap.size #[.slice A1 n1 c1, .slice A2 n2 c2, .slice A3 n3 c3] rfl rfl elt _ HN2.out.h szEl rfl (one_three _ _ _ _ _ _ _ _ _) ?_) | ((with_reducible refine at_load_to 41 10 ?_); refine wpList_load_row rfl elt _ rfl w2.heap.size rfl elt #[.slice A1 n1 c1, .slice A2 n2 c2, .slice A3 n3 c3] (0, 0) _ HN3.out.h Tryd.underlying86 rfl szEl ?_) | ((with_reducible refine at_store 6 41 ?_); refine wpList_store_row rfl elt _ _ rfl w.heap.size #[.slice A1 n1 c1, .slice A2 n2 c2, .slice A3 n3 c3] rfl rfl elt _ HB3.out.h szEl rfl (one_three _ _ _ _ _ _ _ _ _) ?_) | fail)
  refine bodyPost_ret (results_el rfl _ _ w.heap.size _ _ _ _ rfl rfl (HB3.out.row _)) rfl ?_
  have hz := HX3.out.setRow (Nat.le_refl _) #[Value.slice A1 n1 c1, .slice A2 n2 c2, .slice A3 n3 c3]
  have hy := (HY3.out.mds [w.heap.size]).setRow (g := w.heap.size) (by simp) #[Value.slice A1 n1 c1, .slice A2 n2 c2, .slice A3 n3 c3]
  have ha : Ap ds [w.heap.size] := fun k hk h1 => by
    have := HI.out k hk
    rw [List.mem_singleton.1 h1] at this
    exact Nat.lt_irrefl _ this
  exact ⟨_, _, _, _, _, _, _, _, _, rfl, Q1.out.mds hy (j1.off ha), Q2.out.mds hy (j2.off ha), Q3.out.mds hy (j3.off ha), j1, j2, j3, hz⟩
end
end Go.Proofs.YthookcnkmlmgcaaDoor
namespace Go.Proofs.YthookcnkmlmgcaaDoor
open Go Go.RowKit
set_option maxRecDepth 4000

section
variable {w : World} {p : Nat} {m : BitVec 8} {G : List Nat} {rest : List (BitVec 8)} {bs : List (List (BitVec 8))}
/-- what marked tells where the element that is asked for isn't there -/
def erC (rest : List (BitVec 8)) (m : BitVec 8) : Nat := if rest.length = 0 then 13 else if gb rest 0 = m then 2 else 6
theorem marked_bad (kd : Bool) (h : Rr w p G rest bs) (hx : rest.length ≤ 1000000000000) (he : ¬ (kd = true ∧ ∃ x r, El rest m x r)) : Calls Tryd.prog 52 #[.pointer (some ⟨p, 0, none⟩), .int .u8 (ub m), .bool kd] w (ElN w (erC rest m)) := by
  unfold erC
  by_cases h0 : rest.length = 0
  · obtain rfl : rest = [] := List.eq_nil_of_length_eq_zero h0
    rw [if_pos h0]
    exact marked_none h
  · rw [if_neg h0]
    have hr : rest ≠ [] := fun e => h0 (by rw [e]; rfl)
    by_cases hm : gb rest 0 = m
    · rw [if_pos hm]
      by_cases hel : ∃ m' x r, El rest m' x r
      · obtain ⟨m', x, r, hel⟩ := hel
        obtain rfl : m = m' := by rw [← hm]; exact (el_parts hel).1
        cases kd with
        | false => exact marked_other h hx hel
        | true => exact absurd ⟨rfl, x, r, hel⟩ he
      · exact marked_form h hr hm hx hel
    · rw [if_neg hm]
      exact marked_kind h hr hm
set_option maxHeartbeats 2000000 in
theorem Take_err (h : Rr w p G rest bs) (hx : rest.length ≤ 1000000000000) (he : ¬ (isP m = true ∧ ∃ x r, El rest m x r)) : Calls Tryd.prog 54 #[.pointer (some ⟨p, 0, none⟩), .int .u8 (ub m)] w fun e w' => e = .returned (.tuple #[.slice none 0 0, err (erC rest m)]) ∧ Ext w w' := by
  have C := Kp.mk (marked_bad (m := m) (isP m) h hx he)
  generalize erC rest m = k at *
  obtain ⟨kd, hk⟩ : ∃ kd, isP m = kd := ⟨_, rfl⟩
  rw [hk] at C
  clear h hx he
  go_enter Tryd.func54, Tryd.ntmps54
  go_wp2_with (first | (go_at_call 63; refine (isPart_any m kd hk _).mono ?_; rintro e w1 ⟨rfl, rfl⟩) | (go_at_call 52; refine C.out.mono ?_; rintro e w2 ⟨rfl, hx2⟩; have HX2 := Kp.mk hx2; have HN2 := Kp.mk (Blk.new w2 elt #[.slice none 0 0, .slice none 0 0, .slice none 0 0]); clear hx2) | ((with_reducible refine at_store 6 14 ?_); refine wpList_store_row rfl elt _ _ rfl w2.heap.size #[.slice none 0 0, .slice none 0 0, .slice none 0 0] rfl rfl elt _ HN2.out.h szEl rfl (one_three _ _ _ _ _ _ _ _ _) ?_) | fail)
  go_ret2
  exact ⟨rfl, HX2.out.trans (Ext.setRow ((by (repeat (first | assumption | exact Ext.refl _ | apply Ext.drew | apply Ext.drewN | apply Ext.alloc | refine Ext.trans ?_ (by assumption))); first | done | fail) : Ext w2 (w2.alloc (.cells #[.slice none 0 0, .slice none 0 0, .slice none 0 0] elt))) (Nat.le_refl _) _)⟩
/-- how Take answers where it takes -/
def TakR (w : World) (p : Nat) (G : List Nat) (x r : List (BitVec 8)) (bs : List (List (BitVec 8))) (e : Ending) (w' : World) : Prop :=
  ∃ A n c, e = .returned (.tuple #[.slice A n c, .nilIface]) ∧ Own w' w.heap.size (.slice A n c) n x ∧ Rr w' p G r bs ∧ Mds G w w'
set_option maxHeartbeats 4000000 in
theorem Take_ok {x r : List (BitVec 8)} (h : Rr w p G rest bs) (hx : rest.length ≤ 1000000000000) (hm : isP m = true) (he : El rest m x r) : Calls Tryd.prog 54 #[.pointer (some ⟨p, 0, none⟩), .int .u8 (ub m)] w (TakR w p G x r bs) := by
  obtain ⟨ds, A, n, c, vb, ts, h, rfl⟩ := h
  have C := Kp.mk (marked_ok h hx he)
  have hc0 := fun (w' : World) (hx : Ext w w') => h.blk.cell hx 0
  have hf0 := fun (w' : World) (hx : Ext w w') => h.blk.free hx 0
  have hxl := Kp.mk he.2.1
  have H := Kp.mk h
  have HPL := Kp.mk h.blk.lt
  clear h hx he
  go_enter Tryd.func54, Tryd.ntmps54
  go_wp2_with (first | (go_at_call 63; refine (isPart_any m true hm _).mono ?_; rintro e w1 ⟨rfl, rfl⟩) | (go_at_call 52; refine C.out.mono ?_; rintro e w2 ⟨A1, n1, c1, A2, n2, c2, A3, n3, c3, rfl, q1, q2, q3, j1, j2, j3, hx2⟩; have HX2 := Kp.mk hx2; have HN2 := Kp.mk (Blk.new w2 elt #[.slice none 0 0, .slice none 0 0, .slice none 0 0]); have HN3 := Kp.mk ((Blk.new w2 elt #[.slice none 0 0, .slice none 0 0, .slice none 0 0]).row #[.slice A1 n1 c1, .slice A2 n2 c2, .slice A3 n3 c3]); have HY3 := Kp.mk (Ext.setRow ((by (repeat (first | assumption | exact Ext.refl _ | apply Ext.drew | apply Ext.drewN | apply Ext.alloc | refine Ext.trans ?_ (by assumption))); first | done | fail) : Ext w2 (w2.alloc (.cells #[.slice none 0 0, .slice none 0 0, .slice none 0 0] elt))) (Nat.le_refl _) #[.slice A1 n1 c1, .slice A2 n2 c2, .slice A3 n3 c3]); have Q2 := Kp.mk q2; have Q3 := Kp.mk q3; have J2 := Kp.mk j2; have J3 := Kp.mk j3; clear q1 q2 q3 j1 j2 j3 hx2) | ((with_reducible refine at_store 6 14 ?_); refine wpList_store_row rfl elt _ _ rfl w2.heap.size #[.slice A1 n1 c1, .slice A2 n2 c2, .slice A3 n3 c3] rfl rfl elt _ HN2.out.h szEl rfl (one_three _ _ _ _ _ _ _ _ _) ?_; generalize (w2.alloc (.cells #[.slice none 0 0, .slice none 0 0, .slice none 0 0] elt)).setRow w2.heap.size #[.slice A1 n1 c1, .slice A2 n2 c2, .slice A3 n3 c3] = w3 at *; have HX3 := Kp.mk (HX2.out.trans HY3.out); have hk2 := HN3.out.h.cell 2; have hc3 := hc0 w3 HX3.out; have hf3 := hf0 w3 HX3.out; have hne : w2.heap.size ≠ p := fun e => Nat.lt_irrefl _ (Nat.lt_of_lt_of_le HPL.out (e ▸ HX2.out.size)); have hk1 := (HN3.out.far (p := ⟨p, 0, none⟩) hne (.slice A3 n3 c3)).h.cell 1; have W4 := Kp.mk ((H.out.ext HX3.out).put (Q3.out.ext HY3.out) J3.out); have CL := Kp.mk (Clone_any ((Q2.out.ext HY3.out).mds ((Mds.refl [p] w3).setCell (p := ⟨p, 0, none⟩) (by simp) (.slice A3 n3 c3)) (J2.out.off (fun k hk h1 => H.out.apd k hk (by rw [List.mem_singleton.1 h1]; simp)))) (by have h1 := Q2.out.len; have h2 := hxl.out; omega)); clear hne) | (go_at_call 33; refine CL.out.mono ?_; rintro e w5 ⟨A5, c5, rfl, hs5, ho5, hx5⟩) | fail)
  go_ret2
  exact ⟨_, _, _, rfl, ho5.lower (Nat.le_trans HX3.out.size W4.out.2.m.size), ⟨_, _, _, _, _, _, W4.out.1.ext hx5, rfl⟩, (HX3.out.mds _).trans (W4.out.2.m.trans (hx5.mds _))⟩
end
end Go.Proofs.YthookcnkmlmgcaaDoor
