/-
  Slices of slices of bytes of the call's own: the rows lie in blocks of their own.
  tlv's reader: what it holds, what stays of it; NewReader, Next, End, Leave.
  A region that draws its order and writes in place at its end: what reads is taken first, as long as none of the last stores has come up.
  tlv's reader: Leave.
-/
import Derived.Test.YtkdjhklnlnfhfaaGreatDoorM5
import Derived.Test.YtkdjhklnlnfhfaaGreatDoorM1
import Derived.Test.YtkdjhklnlnfhfaaGreatDoorM11
import Derived.Test.YtkdjhklnlnfhfaaGreatDoorM4
import Derived.OrdersHeld
namespace Go.Proofs.YtkdjhklnlnfhfaaGreatDoor
open Go Go.RowKit
set_option maxRecDepth 4000

theorem inR : (Tryz.prog.info? 39).map (fun i => (i.zero, i.size, i.bytes)) = some (some (.slice none 0 0), 1, 24) := by kernel_rfl
/-- rows in a slice of the call's own -/
structure Rws (w : World) (B : Nat) (v : Value) (ls : List (List (BitVec 8))) : Prop where
  r : ∃ xs, w.ownsRow B 39 1 v ls.length xs ∧ ∀ (j : Nat) (l : List (BitVec 8)), ls[j]? = some l → ∃ x : Value, xs[j]? = some x ∧ Own w B x l.length l
section
variable {w w' : World} {B B' : Nat} {v : Value} {ls : List (List (BitVec 8))}
theorem Rws.ext (h : Rws w B v ls) (hx : Ext w w') : Rws w' B v ls := by
  obtain ⟨xs, h1, h2⟩ := h.r
  refine ⟨xs, ow_ext h1 hx, fun j l hj => ?_⟩
  obtain ⟨x, h3, h4⟩ := h2 j l hj
  exact ⟨x, h3, h4.ext hx⟩
theorem Rws.lower (h : Rws w B v ls) (hB : B' ≤ B) : Rws w B' v ls := by
  obtain ⟨xs, h1, h2⟩ := h.r
  refine ⟨xs, ow_lower h1 hB, fun j l hj => ?_⟩
  obtain ⟨x, h3, h4⟩ := h2 j l hj
  exact ⟨x, h3, h4.lower hB⟩
theorem Rws.nil (w : World) (B : Nat) : Rws w B (.slice none 0 0) [] := ⟨[], ⟨rfl, .inl ⟨rfl, rfl⟩⟩, fun _ _ h => by simp at h⟩
theorem Rws.form (h : Rws w B v ls) : ∃ A c, v = .slice A ls.length c := by
  obtain ⟨xs, h1, _⟩ := h.r
  rcases h1.2 with ⟨e, e2⟩ | ⟨g, cap, cur, e, _⟩
  · exact ⟨none, 0, by rw [e, e2]⟩
  · exact ⟨_, _, e⟩
/-- a row, and where it is told -/
theorem Rws.get (h : Rws w B v ls) (j : Nat) (l : List (BitVec 8)) (hj : ls[j]? = some l) :
    ∃ g c A d, v = .slice (some ⟨g, 0, none⟩) ls.length c ∧ B ≤ g ∧ g < w.heap.size ∧ w.cell? ⟨g, j, none⟩ = some (.slice A l.length d) ∧ Own w B (.slice A l.length d) l.length l ∧ A.map (·.block) ≠ some g := by
  obtain ⟨xs, h1, h2⟩ := h.r
  obtain ⟨x, h3, h4⟩ := h2 j l hj
  have hjl : j < ls.length := (List.getElem?_eq_some_iff.1 hj).1
  obtain ⟨A, d, rfl⟩ := h4.form
  rcases h1.2 with ⟨e, e2⟩ | ⟨g, cap, cur, rfl, hB, hh, hc, _, _, ht⟩
  · omega
  · refine ⟨g, cap, A, d, rfl, hB, (Array.getElem?_eq_some_iff.1 hh).1, ?_, h4, ?_⟩
    · rw [cell_of_row w g j cur _ (0, 0) hh, ← h3, ← ht, List.getElem?_take_of_lt (by omega)]
      simp
    · intro e
      rcases h4.o.2 with ⟨e1, _⟩ | ⟨g', cap', cur', e1, _, hh', _⟩
      · have e5 : A = none := by injection e1
        rw [e5] at e; simp at e
      · cases e1
        obtain rfl : g' = g := by simpa using e
        rw [hh] at hh'
        exact absurd (congrArg (fun (o : Option Obj) => match o with | some (.cells _ t _) => t | _ => 0) hh') (show ¬ ((39 : Nat) = 5) by decide)
theorem Own.apart {n m : Nat} {u : Value} {l : List (BitVec 8)} {xs : List Value} (hu : Own w B u m l) (h : w.ownsRow B' 39 1 v n xs) : u.ownBlock = none ∨ u.ownBlock ≠ v.ownBlock := by
  rcases hu.o.2 with ⟨rfl, _⟩ | ⟨g, cap, cur, rfl, _, hh, _⟩
  · exact .inl rfl
  · rcases h.2 with ⟨rfl, _⟩ | ⟨g', cap', cur', rfl, _, hh', _⟩
    · exact .inr (by simp [Value.ownBlock])
    · refine .inr fun e => ?_
      obtain rfl : g = g' := by simpa [Value.ownBlock] using e
      rw [hh] at hh'
      exact absurd (congrArg (fun (o : Option Obj) => match o with | some (.cells _ t _) => t | _ => 0) hh') (show ¬ ((5 : Nat) = 39) by decide)
/-- a literal of one row -/
theorem Rws.one {x : Value} {l : List (BitVec 8)} {g : Nat} (hx : Own w B x l.length l) (hg : B ≤ g) (hh : Has w g 39 #[x]) : Rws w B (.slice (some ⟨g, 0, none⟩) 1 1) [l] :=
  ⟨[x], ⟨rfl, .inr ⟨g, 1, #[x], rfl, hg, hh, Nat.le_refl _, by decide, rfl, rfl⟩⟩, fun j l' hj => by
    match j with
    | 0 => obtain rfl : l = l' := by simpa using hj
           exact ⟨x, rfl, hx⟩
    | j + 1 => simp at hj⟩
end
theorem wpList_append_rw {w : World} {ops : Array Oper} {rest : List Oper} {o : Oper} {a : Act} {Q : Exit → Act → World → Prop} (hgd : o.guard = none) (s x : Operand)
    (ho : o.op = .call { callee := .builtin .append, args := #[s, x], argTypes := #[108, 108] })
    (B : Nat) (v : Value) (ls : List (List (BitVec 8))) (hs : a.eval s = v) (hown : Rws w B v ls) (ad : Addr) (c : Nat) (u : Value) (l : List (BitVec 8)) (hx : a.eval x = .slice (some ad) 1 c) (hc : w.cell? ad = some u) (hu : Own w B u l.length l)
    (h47 : ls.length ≤ 1000000) (N : Nat) (hN : ls.length + 1 = N) (w0 : World) (hx0 : Ext w0 w) (hB : w0.heap.size ≤ B) (hBw : B ≤ w.heap.size)
    (h : ∀ A' c' w', Rws w' B (.slice A' N c') (ls ++ [l]) → Ext w0 w' → wpList Tryz.prog ops Q rest (a.put o.dst (.slice A' N c')) w') : wpList Tryz.prog ops Q (o :: rest) a w := by
  subst hN
  obtain ⟨i, hi0, hz, hs1, hb⟩ := info_parts inR
  obtain ⟨xs, h1, h2⟩ := hown.r
  have hxl : xs.length = ls.length := by have := h1.1; omega
  obtain ⟨v', w', hr, ho', hg', _, _⟩ := run_append_own_at (P := Tryz.prog) w B 108 o.type 39 i (.slice none 0 0) 1 24 Tryz.underlying108 hi0 hz hs1 hb rfl (by decide) v ls.length xs h1 ad 1 c [u] rfl
    (fun j y hj => by
      match j with
      | 0 => obtain rfl : u = y := by simpa using hj
             rw [show ad.add 0 = ad by unfold Addr.add; split <;> simp_all]; exact hc
      | j + 1 => simp at hj)
    (fun y hy => by
      obtain rfl : y = u := by simpa using hy
      obtain ⟨A, d, rfl⟩ := hu.form
      rfl) (by unfold maxLen; omega) (by omega) hBw
  have hnew : Rws w' B v' (ls ++ [l]) := by
    refine ⟨xs ++ [u], by simpa using ho', fun j l' hj => ?_⟩
    have keep : ∀ y m lm, Own w B y m lm → Own w' B y m lm := fun y m lm hy => hy.grown hg' (hy.apart h1)
    by_cases hjl : j < ls.length
    · rw [List.getElem?_append_left hjl] at hj
      obtain ⟨y, h3, h4⟩ := h2 j l' hj
      exact ⟨y, by rw [List.getElem?_append_left (by omega)]; exact h3, keep _ _ _ h4⟩
    · rw [List.getElem?_append_right (by omega)] at hj
      have hj0 : j - ls.length = 0 := by
        have := (List.getElem?_eq_some_iff.1 hj).1
        simp at this; omega
      rw [hj0] at hj
      obtain rfl : l = l' := by simpa using hj
      exact ⟨u, by rw [List.getElem?_append_right (by omega), hxl, hj0]; rfl, keep _ _ _ hu⟩
  obtain ⟨A', c', rfl⟩ := hnew.form
  rw [List.length_append, List.length_singleton] at hnew hr
  have hext : Ext w0 w' := hx0.grown hg' fun k hk => by
    rcases h1.2 with ⟨rfl, _⟩ | ⟨g, cap, cur, rfl, h3, _⟩
    · simp [Value.ownBlock] at hk
    · obtain rfl : g = k := by simpa [Value.ownBlock] using hk
      omega
  refine wpList_plain hgd fun _ hK => ?_
  unfold Oper.wp
  simp [execOp, ho, resolve, invoke, builtin, hs, hx, hr, Result.andThen]
  exact hK _ _ (h A' c' w' hnew hext)
/-- a piece of an array's cells as its element -/
theorem run_index_piece {w : World} {t e n sz : Nat} {L l : List (BitVec 8)} (k : Nat) (x : Int) (h : Tryz.prog.underlying t = some (.array n e)) (d : TypeDesc) (he : Tryz.prog.underlying e = some d) (hd : d.isRow = true) (hs : (Tryz.prog.info? e).map (·.size) = some sz)
    (hx : x = (k : Int)) (hk : k < n) (hl : l.length = sz) (hL : ∀ j, j < sz → gb L (k * sz + j) = gb l j) (hn : k * sz + sz ≤ L.length) :
    (Instr.index t (.agg (bv L)) (.int .i64 x)).run Tryz.prog w = .ok (.agg (bv l)) w := by
  subst hx hl
  cases hq : Tryz.prog.info? e with
  | none => simp [hq] at hs
  | some i =>
    have hs1 : i.size = l.length := by simpa [hq] using hs
    have hagg : (isAgg e).run Tryz.prog w = .ok true w := by
      unfold isAgg
      rw [Sem.run_bind, run_underlying he w]
      cases d <;> simp_all
    have hc : (bv L).extract (k * l.length) (k * l.length + l.length) = bv l := by
      apply Array.ext_getElem?
      intro j
      rw [Array.getElem?_extract]
      by_cases hj : j < l.length
      · rw [if_pos (by rw [bv_size]; omega), bv_at _ _ (by omega), bv_at _ _ hj, hL j hj]
      · rw [if_neg (by rw [bv_size]; omega), Array.getElem?_eq_none (by rw [bv_size]; omega)]
    have hkn : (k : Int) < (n : Int) := by omega
    simp [Instr.index, run_underlying h, asIntOf, sizeOf, typeInfo, hq, hs1, part, hagg, hk, hc, Sem.run_bind]
end Go.Proofs.YtkdjhklnlnfhfaaGreatDoor
namespace Go.Proofs.YtkdjhklnlnfhfaaGreatDoor
open Go Go.RowKit
set_option maxRecDepth 4000

abbrev rdt : TypeId := 186
theorem szRd : (Tryz.prog.info? rdt).map (·.size) = some 2 := by kernel_rfl
theorem szSl : (Tryz.prog.info? 39).map (·.size) = some 1 := by kernel_rfl
/-- a slice as an element -/
def eSl (t : Option Addr × Nat × Nat) : Value := .slice t.1 t.2.1 t.2.2
theorem eSl_one (t : Option Addr × Nat × Nat) : (eSl t).oneCell' = true := rfl
/-- a reader's cells, and what they lead to: what stands there, what stands behind each whole from the outermost on -/
structure Rt (w : World) (p : Nat) (ds : List Nat) (A : Option Addr) (n c : Nat) (vb : Value) (rest : List (BitVec 8)) (ts : List (Option Addr × Nat × Nat)) (bs : List (List (BitVec 8))) : Prop where
  blk : Blk w p rdt #[.slice A n c, vb]
  rs : Bs w A n c rest
  ri : In A n ds
  bo : Rw 39 eSl w 0 vb ts.length ts
  len : ts.length = bs.length
  each : ∀ (j : Nat) (t : Option Addr × Nat × Nat) (l : List (BitVec 8)), ts[j]? = some t → bs[j]? = some l → Bs w t.1 t.2.1 t.2.2 l ∧ In t.1 t.2.1 ds
  apd : Ap ds (p :: fpv vb)
  hid : Hi w ds
def fpR (p : Nat) (vb : Value) (ds : List Nat) : List Nat := p :: (fpv vb ++ ds)
theorem mem_fpR {p k : Nat} {vb : Value} {ds : List Nat} : k ∈ fpR p vb ds ↔ k = p ∨ k ∈ fpv vb ∨ k ∈ ds := by unfold fpR; simp
/-- a reader in its blocks -/
def Rr (w : World) (p : Nat) (G : List Nat) (rest : List (BitVec 8)) (bs : List (List (BitVec 8))) : Prop :=
  ∃ ds A n c vb ts, Rt w p ds A n c vb rest ts bs ∧ G = fpR p vb ds
section
variable {w w' : World} {p : Nat} {ds : List Nat} {A : Option Addr} {n c : Nat} {vb : Value} {rest : List (BitVec 8)} {ts : List (Option Addr × Nat × Nat)} {bs : List (List (BitVec 8))} {G H : List Nat}
theorem Rt.hi (h : Rt w p ds A n c vb rest ts bs) : Hi w (fpR p vb ds) := fun k hk => by
  rcases mem_fpR.1 hk with rfl | hk | hk
  · exact h.blk.lt
  · exact h.bo.fp_lt k hk
  · exact h.hid k hk
theorem Rt.mds (h : Rt w p ds A n c vb rest ts bs) (hm : Mds H w w') (ha : Ap (fpR p vb ds) H) : Rt w' p ds A n c vb rest ts bs := by
  have hd : Ap ds H := fun k hk => ha k (mem_fpR.2 (.inr (.inr hk)))
  refine ⟨h.blk.mds hm (ha p (mem_fpR.2 (.inl rfl))), h.rs.mds hm (h.ri.off hd), h.ri, h.bo.mds hm fun k hk => ha k (mem_fpR.2 (.inr (.inl hk))), h.len, fun j t l h1 h2 => ?_, h.apd, h.hid.mono hm.size⟩
  obtain ⟨h3, h4⟩ := h.each j t l h1 h2
  exact ⟨h3.mds hm (h4.off hd), h4⟩
theorem Rt.ext (h : Rt w p ds A n c vb rest ts bs) (hx : Ext w w') : Rt w' p ds A n c vb rest ts bs := h.mds (hx.mds []) (fun _ _ h => by cases h)
theorem Rr.hi (h : Rr w p G rest bs) : Hi w G := by
  obtain ⟨ds, A, n, c, vb, ts, h, rfl⟩ := h
  exact h.hi
theorem Rr.mds (h : Rr w p G rest bs) (hm : Mds H w w') (ha : Ap G H) : Rr w' p G rest bs := by
  obtain ⟨ds, A, n, c, vb, ts, h, rfl⟩ := h
  exact ⟨ds, A, n, c, vb, ts, h.mds hm ha, rfl⟩
theorem Rr.ext (h : Rr w p G rest bs) (hx : Ext w w') : Rr w' p G rest bs := h.mds (hx.mds []) (fun _ _ h => by cases h)
/-- what stands there is another piece -/
theorem Rt.put {A' : Option Addr} {n' c' : Nat} {rest' : List (BitVec 8)} (h : Rt w p ds A n c vb rest ts bs) (hr : Bs w A' n' c' rest') (hi : In A' n' ds) :
    Rt (w.setCell ⟨p, 0, none⟩ (.slice A' n' c')) p ds A' n' c' vb rest' ts bs ∧ Mvs (fpR p vb ds) (fpR p vb ds) w (w.setCell ⟨p, 0, none⟩ (.slice A' n' c')) := by
  have hm : Mds [p] w (w.setCell ⟨p, 0, none⟩ (.slice A' n' c')) := (Mds.refl [p] w).setCell (p := ⟨p, 0, none⟩) (by simp) _
  have hd : Ap ds [p] := fun k hk h1 => h.apd k hk (by rw [List.mem_singleton.1 h1]; simp)
  refine ⟨⟨h.blk.set_ 0 _, hr.mds hm (hi.off hd), hi, h.bo.mds hm (fun k hk h1 => h.bo.ne h.blk (by decide) (by rwa [List.mem_singleton.1 h1] at hk)), h.len, fun j t l h1 h2 => ?_, h.apd, h.hid.mono hm.size⟩, hm.mono fun k hk => mem_fpR.2 (.inl (List.mem_singleton.1 hk)), fun k hk => .inl hk⟩
  obtain ⟨h3, h4⟩ := h.each j t l h1 h2
  exact ⟨h3.mds hm (h4.off hd), h4⟩
theorem Mvs.same {w : World} {v v' : Value} (h : v'.ownBlock = v.ownBlock ∨ v'.ownBlock = none) : Mvs (fpv v) (fpv v') w w := ⟨Mds.refl _ _, fun k hk => .inl (by
  rw [mem_fpv] at hk ⊢
  rcases h with e | e
  · rw [← e]; exact hk
  · rw [e] at hk; cases hk)⟩
/-- another row of what stands behind -/
theorem Rt.hold {vb' : Value} {ts' : List (Option Addr × Nat × Nat)} {bs' : List (List (BitVec 8))} (h : Rt w p ds A n c vb rest ts bs) (hm : Mvs (fpv vb) (fpv vb') w w') (ho : Rw 39 eSl w' 0 vb' ts'.length ts') (hlen : ts'.length = bs'.length)
    (he : ∀ (j : Nat) (t : Option Addr × Nat × Nat) (l : List (BitVec 8)), ts'[j]? = some t → bs'[j]? = some l → Bs w t.1 t.2.1 t.2.2 l ∧ In t.1 t.2.1 ds) :
    Rt (w'.setCell ⟨p, 1, none⟩ vb') p ds A n c vb' rest ts' bs' ∧ Mvs (fpR p vb ds) (fpR p vb' ds) w (w'.setCell ⟨p, 1, none⟩ vb') := by
  have hm2 : Mds (p :: fpv vb) w (w'.setCell ⟨p, 1, none⟩ vb') := (hm.m.mono fun k hk => List.mem_cons_of_mem _ hk).setCell (p := ⟨p, 1, none⟩) (by simp) _
  have h1 := h.blk.mds hm.m (h.bo.ne h.blk (by decide))
  refine ⟨⟨h1.set_ 1 _, h.rs.mds hm2 (h.ri.off h.apd), h.ri, ho.far (p := ⟨p, 1, none⟩) (fun e => ho.ne h1 (by decide) (mem_fpv.2 e)) _, hlen, fun j t l h2 h3 => ?_, fun k hk hk2 => ?_, h.hid.mono hm2.size⟩, hm2.mono fun k hk => ?_, fun k hk => ?_⟩
  · obtain ⟨h4, h5⟩ := he j t l h2 h3
    exact ⟨h4.mds hm2 (h5.off h.apd), h5⟩
  · rcases List.mem_cons.1 hk2 with e | e
    · exact h.apd k hk (e ▸ by simp)
    · rcases hm.f k e with e2 | e2
      · exact h.apd k hk (List.mem_cons_of_mem _ e2)
      · have := h.hid k hk; omega
  · rcases List.mem_cons.1 hk with e | e
    · exact mem_fpR.2 (.inl e)
    · exact mem_fpR.2 (.inr (.inl e))
  · rcases mem_fpR.1 hk with e | e | e
    · exact .inl (mem_fpR.2 (.inl e))
    · rcases hm.f k e with e2 | e2
      · exact .inl (mem_fpR.2 (.inr (.inl e2)))
      · exact .inr e2
    · exact .inl (mem_fpR.2 (.inr (.inr e)))
end
section
variable {w : World} {p : Nat} {G : List Nat} {rest : List (BitVec 8)} {bs : List (List (BitVec 8))}
set_option maxHeartbeats 1000000 in
theorem NewReader_any {b : List (BitVec 8)} {A : Option Addr} {n c : Nat} {w : World} (h : Bs w A n c b) (hn : n ≤ 140737488351232) : Calls Tryz.prog 104 #[.slice A n c] w fun e w' => ∃ p, e = .returned (.pointer (some ⟨p, 0, none⟩)) ∧ (∃ G, Rr w' p G b [] ∧ Lo w.heap.size G) ∧ Ext w w' := by
  have C := Kp.mk (Clone_any h hn)
  clear h hn
  go_enter Tryz.func104, Tryz.ntmps104
  go_wp2_with (first | (go_at_call 152; refine C.out.mono ?_; rintro e w1 ⟨A1, c1, rfl, hs1, ho1, hx1⟩; have HS1 := Kp.mk hs1; have HO1 := Kp.mk ho1; have HX1 := Kp.mk hx1; clear hs1 ho1 hx1) | fail)
  go_ret
  have hB := Blk.new w1 rdt #[.slice A1 n c1, .slice none 0 0]
  have hx2 : Ext w1 (w1.alloc (.cells #[.slice A1 n c1, .slice none 0 0] rdt)) := (by (repeat (first | assumption | exact Ext.refl _ | apply Ext.drew | apply Ext.drewN | apply Ext.alloc | refine Ext.trans ?_ (by assumption))); first | done | fail)
  have hlt := HO1.out.rw.fp_lt
  refine ⟨w1.heap.size, rfl, ⟨_, ⟨fpv (.slice A1 n c1), A1, n, c1, .slice none 0 0, [], ⟨hB, HS1.out.ext hx2, fun ad hn e => ?_, Rw.nil _ _, rfl, fun j t l h1 => by simp at h1, fun k hk h1 => ?_, fun k hk => Nat.lt_of_lt_of_le (hlt k hk) hx2.size⟩, rfl⟩, fun k hk => ?_⟩, HX1.out.trans hx2⟩
  · obtain ⟨g, e2, _, _⟩ := HO1.out.some_ hn
    rw [e] at e2
    cases e2
    rw [mem_fpv, e]; rfl
  · have h2 := hlt k hk
    simp [fpv, Value.ownBlock] at h1
    omega
  · rcases mem_fpR.1 hk with rfl | hk | hk
    · exact HX1.out.size
    · simp [fpv, Value.ownBlock] at hk
    · exact HO1.out.rw.base k (mem_fpv.1 hk)
/-- how Next answers -/
def nxV (rest : List (BitVec 8)) : Value := if rest.length = 0 then .tuple #[.int .u8 0, .bool false] else .tuple #[.int .u8 (ub (gb rest 0)), .bool true]
set_option maxHeartbeats 1000000 in
theorem Next_any (h : Rr w p G rest bs) : Calls Tryz.prog 155 #[.pointer (some ⟨p, 0, none⟩)] w fun e w' => e = .returned (nxV rest) ∧ w' = w := by
  obtain ⟨ds, A, n, c, vb, ts, h, rfl⟩ := h
  have hc0 := fun (w' : World) (hx : Ext w w') => h.blk.cell hx 0
  have hl := h.rs.len
  unfold nxV
  by_cases hn : n = 0
  · rw [if_pos (by omega)]
    subst hn
    clear h hl
    go_enter Tryz.func155, Tryz.ntmps155
    go_wp2_with fail
    go_ret2
    exact ⟨rfl, rfl⟩
  · rw [if_neg (by omega)]
    obtain ⟨g, o, rfl, hc⟩ := h.rs.s.2.2.2 (by omega)
    have k0 := hc 0 (by omega)
    rw [Nat.add_zero] at k0
    have b1 : 0 < (n : Int) := by omega
    have b2 : ((n : Int) == 0) = false := beq_eq_false_iff_ne.2 (by omega)
    clear h hl hc
    go_enter Tryz.func155, Tryz.ntmps155
    go_wp2_with fail
    go_ret2
    exact ⟨rfl, rfl⟩
/-- what End tells -/
def endC (rest : List (BitVec 8)) (bs : List (List (BitVec 8))) : Nat := if 0 < bs.length then 17 else if 0 < rest.length then 3 else 0
def errW (n : Nat) : Value := if n = 0 then .nilIface else err n
set_option maxHeartbeats 1000000 in
theorem End_any (h : Rr w p G rest bs) : Calls Tryz.prog 112 #[.pointer (some ⟨p, 0, none⟩)] w fun e w' => e = .returned (errW (endC rest bs)) ∧ w' = w := by
  obtain ⟨ds, A, n, c, vb, ts, h, rfl⟩ := h
  obtain ⟨Ab, cb, rfl⟩ := h.bo.form
  have hc0 := fun (w' : World) (hx : Ext w w') => h.blk.cell hx 0
  have hc1 := fun (w' : World) (hx : Ext w w') => h.blk.cell hx 1
  have hl := h.rs.len
  have hl2 := h.len
  unfold endC errW
  obtain ⟨M, hM⟩ : ∃ M, ts.length = M := ⟨_, rfl⟩
  rw [hM] at hl2 hc0 hc1
  by_cases hb : 0 < M
  · rw [if_pos (show 0 < bs.length by omega), if_neg (by decide)]
    have b1 : 0 < (M : Int) := by omega
    clear h hl hl2 hM
    go_enter Tryz.func112, Tryz.ntmps112
    go_wp2_with fail
    go_ret
    exact ⟨rfl, rfl⟩
  · rw [if_neg (show ¬ 0 < bs.length by omega)]
    obtain rfl : M = 0 := by omega
    by_cases hn : 0 < n
    · rw [if_pos (show 0 < rest.length by omega), if_neg (by decide)]
      have b1 : 0 < (n : Int) := by omega
      clear h hl hl2 hM hb
      go_enter Tryz.func112, Tryz.ntmps112
      go_wp2_with fail
      go_ret
      exact ⟨rfl, rfl⟩
    · rw [if_neg (show ¬ 0 < rest.length by omega), if_pos rfl]
      obtain rfl : n = 0 := by omega
      clear h hl hl2 hM hb hn
      go_enter Tryz.func112, Tryz.ntmps112
      go_wp2_with fail
      go_ret
      exact ⟨rfl, rfl⟩
end
end Go.Proofs.YtkdjhklnlnfhfaaGreatDoor
namespace Go.Proofs.YtkdjhklnlnfhfaaGreatDoor
open Go Go.RowKit
set_option maxRecDepth 4000

/-- one of the stores has come up -/
def stlB (st : Nat → Bool) (listed : Array Bool) : Bool := (List.range listed.size).any fun s => st s && listed.getD s false
theorem stlB_set {st : Nat → Bool} {listed : Array Bool} {i : Nat} (hi : st i = false) : stlB st (listed.setIfInBounds i true) = stlB st listed := by
  unfold stlB
  rw [Array.size_setIfInBounds, Bool.eq_iff_iff, List.any_eq_true, List.any_eq_true]
  constructor
  · rintro ⟨s, h1, h2⟩
    refine ⟨s, h1, ?_⟩
    rw [Bool.and_eq_true] at h2 ⊢
    have hne : i ≠ s := fun e => by rw [e, h2.1] at hi; cases hi
    rw [getD_set_ne false hne] at h2
    exact h2
  · rintro ⟨s, h1, h2⟩
    refine ⟨s, h1, ?_⟩
    rw [Bool.and_eq_true] at h2 ⊢
    have hne : i ≠ s := fun e => by rw [e, h2.1] at hi; cases hi
    rw [getD_set_ne false hne]
    exact h2
section
variable (P : Program) (md : Region.Mode) (ops : Array Oper) (Q : Exit → Act → World → Prop) (st : Nat → Bool) (R : World → Prop)
/-- whatever order is picked; R holds till a store has come up -/
def wpAnyR : Nat → Array Bool → Act → World → Prop
  | 0, listed, a, w => Region.ready md ops listed = [] ∧ Q .normal a w
  | fuel + 1, listed, a, w =>
    (Region.ready md ops listed = [] → Q .normal a w) ∧
    ∀ i ∈ Region.ready md ops listed, wpOp P ops Q i (fun a' w' => (stlB st (listed.setIfInBounds i true) = true ∨ R w') ∧ wpAnyR fuel (listed.setIfInBounds i true) a' w') a w
end
section
variable {P : Program} {md : Region.Mode} {ops : Array Oper} {Q : Exit → Act → World → Prop} {st : Nat → Bool} {R : World → Prop}
theorem wpAny_of_R : ∀ (fuel : Nat) (listed : Array Bool) (a : Act) (w : World), wpAnyR P md ops Q st R fuel listed a w → wpAny P md ops Q fuel listed a w
  | 0, _, _, _, h => h
  | fuel + 1, _, _, _, h => ⟨h.1, fun i hi => wpOp_mono (fun a' w' h' => wpAny_of_R fuel _ a' w' h'.2) (h.2 i hi)⟩
theorem wpAnyR_first {i : Nat} {oi : Oper} {v : Value} (hi : ops[i]? = some oi) (hsel : ∀ (j : Nat) (o : Oper) cs b, ops[j]? = some o → o.op ≠ .select cs b)
    (hQ : ∀ c a w, Q (.panic c) (a.put oi.dst v) w → Q (.panic c) a w) (hst : st i = false)
    (hdep : ∀ (s : Nat) (os : Oper), st s = true → ops[s]? = some os → ∃ e ∈ os.after, Region.binds md e = true ∧ e.on = i) :
    ∀ (fuel : Nat) (listed : Array Bool) (a : Act) (w : World),
      (∀ j oj, ops[j]? = some oj → j ≠ i → listed.getD j true = false → (∀ e ∈ oj.after, Region.binds md e = true → e.on ≠ i) → oi.apart ops oj = true) →
      i ∈ Region.ready md ops listed → YieldsIf P ops R oi v a → R w → stlB st listed = false →
      wpAnyR P md ops Q st R fuel (listed.setIfInBounds i true) (a.put oi.dst v) w → wpAnyR P md ops Q st R (fuel + 1) listed a w := by
  intro fuel
  induction fuel with
  | zero =>
    intro listed a w _ hr hy hS _ H
    refine ⟨fun h => (by rw [h] at hr; cases hr), fun j hj => ?_⟩
    by_cases hji : j = i
    · subst hji; exact hy.wpOp hi hS ⟨.inr hS, H⟩
    · have := ready_mono hj hji
      rw [H.1] at this
      cases this
  | succ fuel ih =>
    intro listed a w hfree hr hy hS hl H
    refine ⟨fun h => (by rw [h] at hr; cases hr), fun j hj => ?_⟩
    by_cases hji : j = i
    · subst hji; exact hy.wpOp hi hS ⟨.inr hS, H⟩
    · have h1 := H.2 j (ready_mono hj hji)
      obtain ⟨hjun, oj, hoj, hall⟩ := mem_ready.1 hj
      have hnot : ∀ e ∈ oj.after, Region.binds md e = true → e.on ≠ i := fun e he hb heq => by
        have h1 := hall e he hb
        have h0 := (mem_ready.1 hr).1
        rw [heq] at h1
        rcases Nat.lt_or_ge i listed.size with h' | h'
        · simp [h'] at h0 h1; rw [h0] at h1; cases h1
        · simp [Array.getElem?_eq_none h'] at h1
      have hsj : st j = false := by
        cases hq : st j with
        | false => rfl
        | true =>
          obtain ⟨e, he, hb, heq⟩ := hdep j oj hq hoj
          exact absurd heq (hnot e he hb)
      have h2 := wpOp_putIf hoj (hfree j oj hoj hji hjun hnot) (fun cs b => hsel i oi cs b hi) (fun cs b => hsel j oj cs b hoj) hQ hy h1
      have hfree' : ∀ k ok, ops[k]? = some ok → k ≠ i → (listed.setIfInBounds j true).getD k true = false →
          (∀ e ∈ ok.after, Region.binds md e = true → e.on ≠ i) → oi.apart ops ok = true := fun k ok hk hki hun hno => by
        refine hfree k ok hk hki ?_ hno
        by_cases hjk : j = k
        · subst hjk; exact hjun
        · rw [getD_set_ne true hjk] at hun; exact hun
      refine wpOp_mono (fun a' w' h3 => ?_) h2
      obtain ⟨h4, h5, h6⟩ := h3
      rw [stlB_set hsj, stlB_set hst, hl] at h5
      have hR : R w' := h5.resolve_left (by simp)
      refine ⟨.inr hR, ih (listed.setIfInBounds j true) a' w' hfree' (ready_mono hr (Ne.symm hji)) h4 hR (by rw [stlB_set hsj]; exact hl) ?_⟩
      rw [Array.setIfInBounds_comm _ _ hji]
      exact h6
theorem wpAnyR_first0 {i : Nat} {oi : Oper} {v : Value} (hi : ops[i]? = some oi) (hsel : ∀ (j : Nat) (o : Oper) cs b, ops[j]? = some o → o.op ≠ .select cs b)
    (hQ : ∀ c a w, Q (.panic c) (a.put oi.dst v) w → Q (.panic c) a w) (hst : st i = false) :
    ∀ (fuel : Nat) (listed : Array Bool) (a : Act) (w : World),
      (∀ j oj, ops[j]? = some oj → j ≠ i → listed.getD j true = false → (∀ e ∈ oj.after, Region.binds md e = true → e.on ≠ i) → oi.apart ops oj = true) →
      i ∈ Region.ready md ops listed → YieldsIf P ops (fun _ => True) oi v a → (stlB st listed = true ∨ R w) →
      wpAnyR P md ops Q st R fuel (listed.setIfInBounds i true) (a.put oi.dst v) w → wpAnyR P md ops Q st R (fuel + 1) listed a w := by
  intro fuel
  induction fuel with
  | zero =>
    intro listed a w _ hr hy hS H
    refine ⟨fun h => (by rw [h] at hr; cases hr), fun j hj => ?_⟩
    by_cases hji : j = i
    · subst hji; exact hy.wpOp hi trivial ⟨by rw [stlB_set hst]; exact hS, H⟩
    · have := ready_mono hj hji
      rw [H.1] at this
      cases this
  | succ fuel ih =>
    intro listed a w hfree hr hy hS H
    refine ⟨fun h => (by rw [h] at hr; cases hr), fun j hj => ?_⟩
    by_cases hji : j = i
    · subst hji; exact hy.wpOp hi trivial ⟨by rw [stlB_set hst]; exact hS, H⟩
    · have h1 := H.2 j (ready_mono hj hji)
      obtain ⟨hjun, oj, hoj, hall⟩ := mem_ready.1 hj
      have hnot : ∀ e ∈ oj.after, Region.binds md e = true → e.on ≠ i := fun e he hb heq => by
        have h1 := hall e he hb
        have h0 := (mem_ready.1 hr).1
        rw [heq] at h1
        rcases Nat.lt_or_ge i listed.size with h' | h'
        · simp [h'] at h0 h1; rw [h0] at h1; cases h1
        · simp [Array.getElem?_eq_none h'] at h1
      have h2 := wpOp_putIf hoj (hfree j oj hoj hji hjun hnot) (fun cs b => hsel i oi cs b hi) (fun cs b => hsel j oj cs b hoj) hQ hy h1
      have hfree' : ∀ k ok, ops[k]? = some ok → k ≠ i → (listed.setIfInBounds j true).getD k true = false →
          (∀ e ∈ ok.after, Region.binds md e = true → e.on ≠ i) → oi.apart ops ok = true := fun k ok hk hki hun hno => by
        refine hfree k ok hk hki ?_ hno
        by_cases hjk : j = k
        · subst hjk; exact hjun
        · rw [getD_set_ne true hjk] at hun; exact hun
      refine wpOp_mono (fun a' w' h3 => ?_) h2
      obtain ⟨h4, h5, h6⟩ := h3
      rw [Array.setIfInBounds_comm _ _ (fun e => hji e.symm), stlB_set hst] at h5
      refine ⟨h5, ih (listed.setIfInBounds j true) a' w' hfree' (ready_mono hr (Ne.symm hji)) h4 h5 ?_⟩
      rw [Array.setIfInBounds_comm _ _ hji]
      exact h6
/-- each store waits for this operation -/
def depB (md : Region.Mode) (ops : Array Oper) (st : Nat → Bool) (i : Nat) : Bool :=
  (List.range ops.size).all fun s => !st s || (match ops[s]? with | some os => os.after.toList.any fun e => Region.binds md e && e.on == i | none => true)
theorem depB_spec {i : Nat} (h : depB md ops st i = true) : ∀ (s : Nat) (os : Oper), st s = true → ops[s]? = some os → ∃ e ∈ os.after, Region.binds md e = true ∧ e.on = i := fun s os hs ho => by
  unfold depB at h
  rw [List.all_eq_true] at h
  have h1 := h s (by simp; exact (Array.getElem?_eq_some_iff.1 ho).1)
  rw [hs, ho] at h1
  simp only [Bool.not_true, Bool.false_or, List.any_eq_true, Bool.and_eq_true, beq_iff_eq] at h1
  obtain ⟨e, he, h2, h3⟩ := h1
  exact ⟨e, by simpa using he, h2, h3⟩
theorem wpAnyR_take {i : Nat} {oi : Oper} {v : Value} {fuel : Nat} {listed : Array Bool} {a : Act} {w : World} (hi : ops[i]? = some oi)
    (hs : Region.noSelect ops = true) (hf : Region.free md ops listed i = true) (hr : (Region.ready md ops listed).contains i = true) (hst : st i = false) (hd : depB md ops st i = true) (hl : stlB st listed = false)
    (hQ : ∀ c a w, Q (.panic c) (a.put oi.dst v) w → Q (.panic c) a w) (hy : YieldsIf P ops R oi v a) (hR : R w)
    (h : wpAnyR P md ops Q st R fuel (listed.setIfInBounds i true) (a.put oi.dst v) w) : wpAnyR P md ops Q st R (fuel + 1) listed a w :=
  wpAnyR_first hi (Region.noSelect_spec hs) hQ hst (depB_spec hd) fuel listed a w (Region.free_spec hi hf) (by simpa using hr) hy hR hl h
/-- .. an operation that tells the same in whatever world -/
theorem wpAnyR_take0 {i : Nat} {oi : Oper} {v : Value} {fuel : Nat} {listed : Array Bool} {a : Act} {w : World} (hi : ops[i]? = some oi)
    (hs : Region.noSelect ops = true) (hf : Region.free md ops listed i = true) (hr : (Region.ready md ops listed).contains i = true) (hst : st i = false)
    (hQ : ∀ c a w, Q (.panic c) (a.put oi.dst v) w → Q (.panic c) a w) (hy : YieldsIf P ops (fun _ => True) oi v a) (hR : stlB st listed = true ∨ R w)
    (h : wpAnyR P md ops Q st R fuel (listed.setIfInBounds i true) (a.put oi.dst v) w) : wpAnyR P md ops Q st R (fuel + 1) listed a w :=
  wpAnyR_first0 hi (Region.noSelect_spec hs) hQ hst fuel listed a w (Region.free_spec hi hf) (by simpa using hr) hy hR h
theorem wpAnyR_done {listed : Array Bool} {a : Act} {w : World} (hr : Region.ready md ops listed = []) (h : Q .normal a w) : ∀ fuel, wpAnyR P md ops Q st R fuel listed a w
  | 0 => ⟨hr, h⟩
  | _ + 1 => ⟨fun _ => h, by rw [hr]; simp⟩
theorem wp_region_R {id : Nat} {a : Act} {w : World} (hm : P.follows .mixedOrders = true) (hR : R w.drew)
    (h : R w.drew → wpAnyR P .any ops Q st R ops.size (Array.replicate ops.size false) a w.drew) : (Code.region id ops true).wp P Q a w :=
  wp_region_any hm (wpAny_of_R _ _ _ _ (h hR))
theorem nextR {fuel : Nat} {listed : Array Bool} {a : Act} {w : World} (i : Nat) {o : Oper} (hr : Region.ready md ops listed = [i]) (hi : ops[i]? = some o) (hw : Region.wanted o (yielded ops a.tmps) = true)
    (h : ∀ K' : Act → World → Prop, Hid (∀ a w, (stlB st (listed.setIfInBounds i true) = true ∨ R w) → wpAnyR P md ops Q st R fuel (listed.setIfInBounds i true) a w → K' a w) → o.wp P a w K' Q) : wpAnyR P md ops Q st R (fuel + 1) listed a w := by
  refine ⟨fun h0 => (by rw [hr] at h0; cases h0), fun j hj => ?_⟩
  rw [hr] at hj
  obtain rfl := List.mem_singleton.1 hj
  unfold wpOp
  simp only [hi, hw, if_true]
  exact .inl (h _ fun a w hs hk => ⟨hs, hk⟩)
theorem nextR2 {fuel : Nat} {listed : Array Bool} {a : Act} {w : World} (i k : Nat) {oi ok : Oper} (hr : Region.ready md ops listed = [i, k]) (hi : ops[i]? = some oi) (hk : ops[k]? = some ok) (hwi : Region.wanted oi (yielded ops a.tmps) = true) (hwk : Region.wanted ok (yielded ops a.tmps) = true)
    (h1 : ∀ K' : Act → World → Prop, Hid (∀ a w, (stlB st (listed.setIfInBounds i true) = true ∨ R w) → wpAnyR P md ops Q st R fuel (listed.setIfInBounds i true) a w → K' a w) → oi.wp P a w K' Q)
    (h2 : ∀ K' : Act → World → Prop, Hid (∀ a w, (stlB st (listed.setIfInBounds k true) = true ∨ R w) → wpAnyR P md ops Q st R fuel (listed.setIfInBounds k true) a w → K' a w) → ok.wp P a w K' Q) : wpAnyR P md ops Q st R (fuel + 1) listed a w := by
  refine ⟨fun h0 => (by rw [hr] at h0; cases h0), fun j hj => ?_⟩
  rw [hr] at hj
  simp only [List.mem_cons, List.not_mem_nil, or_false] at hj
  rcases hj with rfl | rfl
  · unfold wpOp
    simp only [hi, hwi, if_true]
    exact .inl (h1 _ fun a w hs hk => ⟨hs, hk⟩)
  · unfold wpOp
    simp only [hk, hwk, if_true]
    exact .inl (h2 _ fun a w hs hk => ⟨hs, hk⟩)
end
end Go.Proofs.YtkdjhklnlnfhfaaGreatDoor
namespace Go.Proofs.YtkdjhklnlnfhfaaGreatDoor
open Go Go.RowKit
set_option maxRecDepth 4000

section
variable {w : World} {p : Nat} {G : List Nat} {rest : List (BitVec 8)} {bs : List (List (BitVec 8))}
set_option maxHeartbeats 1000000 in
theorem Leave_none (h : Rr w p G rest []) : Calls Tryz.prog 111 #[.pointer (some ⟨p, 0, none⟩)] w fun e w' => e = .returned (err 17) ∧ w' = w := by
  obtain ⟨ds, A, n, c, vb, ts, h, rfl⟩ := h
  obtain ⟨Ab, cb, rfl⟩ := h.bo.form
  have hc1 := fun (w' : World) (hx : Ext w w') => h.blk.cell hx 1
  have hl2 := h.len
  rw [show ts.length = 0 from hl2] at hc1
  clear h hl2
  go_enter Tryz.func111, Tryz.ntmps111
  go_wp2_with fail
  go_ret
  exact ⟨rfl, rfl⟩
set_option maxHeartbeats 1000000 in
theorem Leave_more {x : List (BitVec 8)} (h : Rr w p G rest (bs ++ [x])) (hr : rest ≠ []) (hlt : bs.length < 1000000) : Calls Tryz.prog 111 #[.pointer (some ⟨p, 0, none⟩)] w fun e w' => e = .returned (err 3) ∧ w' = w := by
  obtain ⟨ds, A, n, c, vb, ts, h, rfl⟩ := h
  obtain ⟨Ab, cb, rfl⟩ := h.bo.form
  have hc0 := fun (w' : World) (hx : Ext w w') => h.blk.cell hx 0
  have hc1 := fun (w' : World) (hx : Ext w w') => h.blk.cell hx 1
  have hl2 := h.len
  have hl := h.rs.len
  have hn : 0 < n := by
    have := List.length_pos_iff.2 hr
    omega
  rw [List.length_append, List.length_singleton] at hl2
  obtain ⟨M, hM⟩ : ∃ M, ts.length = M := ⟨_, rfl⟩
  rw [hM] at hl2 hc1
  have b1 : IntKind.i64.wrap ((M : Int) - 1) = (bs.length : Int) := by rw [IntKind.wrap_i64]; omega
  have b2 : decide ((bs.length : Int) < 0) = false := decide_eq_false (by omega)
  have b3 : 0 < (n : Int) := by omega
  generalize bs.length = D at *
  clear h hl2 hl hM hn
  go_enter Tryz.func111, Tryz.ntmps111
  go_wp2_with fail
  go_ret
  exact ⟨rfl, rfl⟩
theorem szSl' : (Tryz.prog.info? 39).map (·.size) = some 1 := szSl
set_option maxHeartbeats 4000000 in
theorem Leave_ok {x : List (BitVec 8)} (h : Rr w p G [] (bs ++ [x])) (hlt : bs.length < 1000000) : Calls Tryz.prog 111 #[.pointer (some ⟨p, 0, none⟩)] w fun e w' => e = .returned .nilIface ∧ ∃ G', Rr w' p G' x bs ∧ Mvs G G' w w' := by
  obtain ⟨ds, A, n, c, vb, ts, h, rfl⟩ := h
  obtain ⟨Ab, cb, rfl⟩ := h.bo.form
  have hl2 := h.len
  rw [List.length_append, List.length_singleton] at hl2
  obtain rfl : n = 0 := by have := h.rs.len; simpa using this.symm
  obtain ⟨M, hM⟩ : ∃ M, ts.length = M := ⟨_, rfl⟩
  obtain ⟨D, hD⟩ : ∃ D, bs.length = D := ⟨_, rfl⟩
  have hDM : D < M := by omega
  obtain ⟨t, ht⟩ : ∃ t, ts[D]? = some t := ⟨ts[D]'(by omega), by simp [show D < ts.length by omega]⟩
  obtain ⟨At, nt, ct⟩ := t
  have hx := h.each D (At, nt, ct) x ht (by rw [List.getElem?_append_right (by omega), ← hD, Nat.sub_self]; rfl)
  rw [hM] at h hl2 ⊢
  rw [hD] at hl2 hlt
  obtain ⟨gb', rfl, _, _⟩ := (by have h1 := h.bo; rw [hM] at h1; exact h1.some_ (by omega) : ∃ g, Ab = some ⟨g, 0, none⟩ ∧ 0 ≤ g ∧ g < w.heap.size)
  have hcap : M ≤ cb := by
    have h1 := h.bo
    rw [hM] at h1
    exact h1.rd.cap
  have hc0 := fun (w' : World) (hx : Ext w w') => h.blk.cell hx 0
  have hc1 := fun (w' : World) (hx : Ext w w') => h.blk.cell hx 1
  have hcb : ∀ (w' : World), Ext w w' → w'.cell? ⟨gb', D, none⟩ = some (.slice At nt ct) := fun w' hx => by
    have h1 := (h.ext hx).bo
    rw [hM] at h1
    exact h1.cell D (At, nt, ct) ht
  have b1 : IntKind.i64.wrap ((M : Int) - 1) = (D : Int) := by rw [IntKind.wrap_i64]; omega
  have b2 : decide ((D : Int) < 0) = false := decide_eq_false (by omega)
  have b3 : (D : Int) < (M : Int) := by omega
  have hs1 := fun W => run_upto (P := Tryz.prog) (some ⟨gb', 0, none⟩) M cb 108 39 Tryz.underlying108 szSl' D (D : Int) rfl (by omega) W
  have H := Kp.mk h
  have HX := Kp.mk hx
  have HM := Kp.mk hM
  have HD := Kp.mk hD
  have HDM : Kp (D ≤ M) := ⟨by omega⟩
  have f0 := fun (w' : World) (hx : Ext w w') => h.blk.free hx 0
  have f1 := fun (w' : World) (hx : Ext w w') => h.blk.free hx 1
  clear h hx hM hD hDM hl2 ht hcap hlt
  go_enter Tryz.func111, Tryz.ntmps111
  go_wp2_with fail
  refine wp_region_R (st := fun s => s == 17 || s == 20) (R := fun w' => Ext w w') (by kernel_rfl) (Ext.refl w).drew (fun hR => ?_)
  refine wpAnyR_take0 (i := 0) (oi := ⟨some 20, _, _, _, _, _⟩) (v := ?_) rfl (by kernel_rfl) (by kernel_rfl) (by kernel_rfl) rfl (fun _ _ _ h => h) (Or.inl ⟨by rfl, ?_⟩) (by first | exact .inr (by assumption) | exact .inl (by kernel_rfl)) ?_
  rotate_left
  · (intro w hSw; (try dsimp only at hSw); go_simp; try with_reducible rfl)
  try simp only [Act.put, List.setIfInBounds_toArray, List.set_cons_zero, List.set_cons_succ]
  refine wpAnyR_take0 (i := 1) (oi := ⟨some 21, _, _, _, _, _⟩) (v := ?_) rfl (by kernel_rfl) (by kernel_rfl) (by kernel_rfl) rfl (fun _ _ _ h => h) (Or.inl ⟨by rfl, ?_⟩) (by first | exact .inr (by assumption) | exact .inl (by kernel_rfl)) ?_
  rotate_left
  · (intro w hSw; (try dsimp only at hSw); go_simp; try with_reducible rfl)
  try simp only [Act.put, List.setIfInBounds_toArray, List.set_cons_zero, List.set_cons_succ]
  refine wpAnyR_take0 (i := 2) (oi := ⟨some 22, _, _, _, _, _⟩) (v := ?_) rfl (by kernel_rfl) (by kernel_rfl) (by kernel_rfl) rfl (fun _ _ _ h => h) (Or.inl ⟨by rfl, ?_⟩) (by first | exact .inr (by assumption) | exact .inl (by kernel_rfl)) ?_
  rotate_left
  · (intro w hSw; (try dsimp only at hSw); go_simp; try with_reducible rfl)
  try simp only [Act.put, List.setIfInBounds_toArray, List.set_cons_zero, List.set_cons_succ]
  refine wpAnyR_take0 (i := 3) (oi := ⟨some 23, _, _, _, _, _⟩) (v := ?_) rfl (by kernel_rfl) (by kernel_rfl) (by kernel_rfl) rfl (fun _ _ _ h => h) (Or.inl ⟨by rfl, ?_⟩) (by first | exact .inr (by assumption) | exact .inl (by kernel_rfl)) ?_
  rotate_left
  · (intro w hSw; (try dsimp only at hSw); go_simp; try with_reducible rfl)
  try simp only [Act.put, List.setIfInBounds_toArray, List.set_cons_zero, List.set_cons_succ]
  refine wpAnyR_take0 (i := 4) (oi := ⟨some 24, _, _, _, _, _⟩) (v := ?_) rfl (by kernel_rfl) (by kernel_rfl) (by kernel_rfl) rfl (fun _ _ _ h => h) (Or.inl ⟨by rfl, ?_⟩) (by first | exact .inr (by assumption) | exact .inl (by kernel_rfl)) ?_
  rotate_left
  · (intro w hSw; (try dsimp only at hSw); go_simp; try with_reducible rfl)
  try simp only [Act.put, List.setIfInBounds_toArray, List.set_cons_zero, List.set_cons_succ]
  refine wpAnyR_take (i := 5) (oi := ⟨some 25, _, _, _, _, _⟩) (v := ?_) rfl (by kernel_rfl) (by kernel_rfl) (by kernel_rfl) rfl (by kernel_rfl) (by kernel_rfl) (fun _ _ _ h => h) (Or.inl ⟨by rfl, ?_⟩) (by assumption) ?_
  rotate_left
  · (intro w hSw; (try dsimp only at hSw); go_simp; try with_reducible rfl)
  try simp only [Act.put, List.setIfInBounds_toArray, List.set_cons_zero, List.set_cons_succ]
  refine wpAnyR_take0 (i := 6) (oi := ⟨some 26, _, _, _, _, _⟩) (v := ?_) rfl (by kernel_rfl) (by kernel_rfl) (by kernel_rfl) rfl (fun _ _ _ h => h) (Or.inl ⟨by rfl, ?_⟩) (by first | exact .inr (by assumption) | exact .inl (by kernel_rfl)) ?_
  rotate_left
  · (intro w hSw; (try dsimp only at hSw); go_simp; try with_reducible rfl)
  try simp only [Act.put, List.setIfInBounds_toArray, List.set_cons_zero, List.set_cons_succ]
  refine wpAnyR_take0 (i := 7) (oi := ⟨some 27, _, _, _, _, _⟩) (v := ?_) rfl (by kernel_rfl) (by kernel_rfl) (by kernel_rfl) rfl (fun _ _ _ h => h) (Or.inl ⟨by rfl, ?_⟩) (by first | exact .inr (by assumption) | exact .inl (by kernel_rfl)) ?_
  rotate_left
  · (intro w hSw; (try dsimp only at hSw); go_simp; try with_reducible rfl)
  try simp only [Act.put, List.setIfInBounds_toArray, List.set_cons_zero, List.set_cons_succ]
  refine wpAnyR_take (i := 8) (oi := ⟨some 28, _, _, _, _, _⟩) (v := ?_) rfl (by kernel_rfl) (by kernel_rfl) (by kernel_rfl) rfl (by kernel_rfl) (by kernel_rfl) (fun _ _ _ h => h) (Or.inl ⟨by rfl, ?_⟩) (by assumption) ?_
  rotate_left
  · (intro w hSw; (try dsimp only at hSw); go_simp; try with_reducible rfl)
  try simp only [Act.put, List.setIfInBounds_toArray, List.set_cons_zero, List.set_cons_succ]
  refine wpAnyR_take0 (i := 9) (oi := ⟨some 29, _, _, _, _, _⟩) (v := ?_) rfl (by kernel_rfl) (by kernel_rfl) (by kernel_rfl) rfl (fun _ _ _ h => h) (Or.inl ⟨by rfl, ?_⟩) (by first | exact .inr (by assumption) | exact .inl (by kernel_rfl)) ?_
  rotate_left
  · (intro w hSw; (try dsimp only at hSw); go_simp; try with_reducible rfl)
  try simp only [Act.put, List.setIfInBounds_toArray, List.set_cons_zero, List.set_cons_succ]
  refine wpAnyR_take0 (i := 10) (oi := ⟨some 30, _, _, _, _, _⟩) (v := ?_) rfl (by kernel_rfl) (by kernel_rfl) (by kernel_rfl) rfl (fun _ _ _ h => h) (Or.inl ⟨by rfl, ?_⟩) (by first | exact .inr (by assumption) | exact .inl (by kernel_rfl)) ?_
  rotate_left
  · (intro w hSw; (try dsimp only at hSw); go_simp; try with_reducible rfl)
  try simp only [Act.put, List.setIfInBounds_toArray, List.set_cons_zero, List.set_cons_succ]
  refine wpAnyR_take0 (i := 11) (oi := ⟨some 31, _, _, _, _, _⟩) (v := ?_) rfl (by kernel_rfl) (by kernel_rfl) (by kernel_rfl) rfl (fun _ _ _ h => h) (Or.inl ⟨by rfl, ?_⟩) (by first | exact .inr (by assumption) | exact .inl (by kernel_rfl)) ?_
  rotate_left
  · (intro w hSw; (try dsimp only at hSw); go_simp; try with_reducible rfl)
  try simp only [Act.put, List.setIfInBounds_toArray, List.set_cons_zero, List.set_cons_succ]
  refine wpAnyR_take (i := 12) (oi := ⟨some 32, _, _, _, _, _⟩) (v := ?_) rfl (by kernel_rfl) (by kernel_rfl) (by kernel_rfl) rfl (by kernel_rfl) (by kernel_rfl) (fun _ _ _ h => h) (Or.inl ⟨by rfl, ?_⟩) (by assumption) ?_
  rotate_left
  · (intro w hSw; (try dsimp only at hSw); go_simp; try with_reducible rfl)
  try simp only [Act.put, List.setIfInBounds_toArray, List.set_cons_zero, List.set_cons_succ]
  refine wpAnyR_take0 (i := 13) (oi := ⟨some 33, _, _, _, _, _⟩) (v := ?_) rfl (by kernel_rfl) (by kernel_rfl) (by kernel_rfl) rfl (fun _ _ _ h => h) (Or.inl ⟨by rfl, ?_⟩) (by first | exact .inr (by assumption) | exact .inl (by kernel_rfl)) ?_
  rotate_left
  · (intro w hSw; (try dsimp only at hSw); go_simp; try with_reducible rfl)
  try simp only [Act.put, List.setIfInBounds_toArray, List.set_cons_zero, List.set_cons_succ]
  refine wpAnyR_take0 (i := 14) (oi := ⟨some 34, _, _, _, _, _⟩) (v := ?_) rfl (by kernel_rfl) (by kernel_rfl) (by kernel_rfl) rfl (fun _ _ _ h => h) (Or.inl ⟨by rfl, ?_⟩) (by first | exact .inr (by assumption) | exact .inl (by kernel_rfl)) ?_
  rotate_left
  · (intro w hSw; (try dsimp only at hSw); go_simp; try with_reducible rfl)
  try simp only [Act.put, List.setIfInBounds_toArray, List.set_cons_zero, List.set_cons_succ]
  refine nextR 15 (by kernel_rfl) rfl (by rfl) fun K' HK' => ?_
  go_simp
  refine held_go HK' (.inr (hR)) (fun _ => ?_)
  clear HK'
  try simp only [Act.put, List.setIfInBounds_toArray, List.set_cons_zero, List.set_cons_succ]
  refine nextR 16 (by kernel_rfl) rfl (by rfl) fun K' HK' => ?_
  go_simp
  refine held_go HK' (.inr (hR)) (fun _ => ?_)
  clear HK'
  try simp only [Act.put, List.setIfInBounds_toArray, List.set_cons_zero, List.set_cons_succ]
  have hcd := hc0 _ hR
  have hfd := f0 _ hR
  have hcd1 := hc1 _ hR
  have hfd1 := f1 _ hR
  refine nextR 17 (by kernel_rfl) rfl (by rfl) fun K' HK' => ?_
  go_simp
  refine held_go HK' (.inl (by kernel_rfl)) (fun _ => ?_)
  clear HK'
  try simp only [Act.put, List.setIfInBounds_toArray, List.set_cons_zero, List.set_cons_succ]
  refine nextR 18 (by kernel_rfl) rfl (by rfl) fun K' HK' => ?_
  go_simp
  refine held_go HK' (.inl (by kernel_rfl)) (fun _ => ?_)
  clear HK'
  try simp only [Act.put, List.setIfInBounds_toArray, List.set_cons_zero, List.set_cons_succ]
  refine nextR 19 (by kernel_rfl) rfl (by rfl) fun K' HK' => ?_
  go_simp
  refine held_go HK' (.inl (by kernel_rfl)) (fun _ => ?_)
  clear HK'
  try simp only [Act.put, List.setIfInBounds_toArray, List.set_cons_zero, List.set_cons_succ]
  refine nextR 20 (by kernel_rfl) rfl (by rfl) fun K' HK' => ?_
  go_simp
  refine held_go HK' (.inl (by kernel_rfl)) (fun _ => ?_)
  clear HK'
  try simp only [Act.put, List.setIfInBounds_toArray, List.set_cons_zero, List.set_cons_succ]
  refine wpAnyR_done (by kernel_rfl) ?_ _
  clear hc0 hc1 hcb f0 f1 hcd hfd hcd1 hfd1 hR
  go_wp2_with fail
  go_ret
  have P1 := H.out.put HX.out.1 HX.out.2
  have P2 := P1.1.hold (vb' := .slice (some ⟨gb', 0, none⟩) D cb) (ts' := ts.take D) (bs' := bs) (Mvs.same (.inl rfl)) (by
    have h1 := P1.1.bo
    rw [HM.out] at h1
    have h2 := h1.take HDM.out
    rw [show (ts.take D).length = D by rw [List.length_take, HM.out]; exact Nat.min_eq_left HDM.out]
    exact h2) (by rw [List.length_take, HM.out, HD.out]; exact Nat.min_eq_left HDM.out) (fun j t l h1 h2 => by
    have hj : j < D := by have := (List.getElem?_eq_some_iff.1 h2).1; rwa [HD.out] at this
    rw [List.getElem?_take, if_pos hj] at h1
    exact P1.1.each j t l h1 (by rw [List.getElem?_append_left (by rw [HD.out]; exact hj)]; exact h2))
  refine ⟨rfl, _, ⟨_, _, _, _, _, _, P2.1.ext (by (repeat (first | assumption | exact Ext.refl _ | apply Ext.drew | apply Ext.drewN | apply Ext.alloc | refine Ext.trans ?_ (by assumption))); first | done | fail), rfl⟩, (P1.2.trans P2.2).post (by (repeat (first | assumption | exact Ext.refl _ | apply Ext.drew | apply Ext.drewN | apply Ext.alloc | refine Ext.trans ?_ (by assumption))); first | done | fail)⟩
end
end Go.Proofs.YtkdjhklnlnfhfaaGreatDoor
