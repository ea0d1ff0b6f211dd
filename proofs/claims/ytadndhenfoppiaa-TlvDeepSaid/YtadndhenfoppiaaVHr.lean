/-
  tlv's reader: what it holds, what stays of it; NewReader, Next, End, Leave.
-/
import Derived.Test.YtadndhenfoppiaaVHq
import Derived.Test.YtadndhenfoppiaaVRo
import Derived.Test.YtadndhenfoppiaaVCb
namespace Go.Proofs.Ytadndhenfoppiaa
open Go Go.RowKit
set_option maxRecDepth 4000

abbrev rdt : TypeId := 68
theorem szRd : (Try.prog.info? rdt).map (·.size) = some 2 := by kernel_rfl
theorem szSl : (Try.prog.info? 23).map (·.size) = some 1 := by kernel_rfl
/-- a slice as an element -/
def eSl (t : Option Addr × Nat × Nat) : Value := .slice t.1 t.2.1 t.2.2
theorem eSl_one (t : Option Addr × Nat × Nat) : (eSl t).oneCell' = true := rfl
/-- a reader's cells, and what they lead to: what stands there, what stands behind each whole from the outermost on -/
structure Rt (w : World) (p : Nat) (ds : List Nat) (A : Option Addr) (n c : Nat) (vb : Value) (rest : List (BitVec 8)) (ts : List (Option Addr × Nat × Nat)) (bs : List (List (BitVec 8))) : Prop where
  blk : Blk w p rdt #[.slice A n c, vb]
  rs : Bs w A n c rest
  ri : In A n ds
  bo : Rw 23 eSl w 0 vb ts.length ts
  len : ts.length = bs.length
  each : ∀ (j : Nat) (t : Option Addr × Nat × Nat) (l : List (BitVec 8)), ts[j]? = some t → bs[j]? = some l → Bs w t.1 t.2.1 t.2.2 l ∧ In t.1 t.2.1 ds
  apd : Ap ds (p :: fpv vb)
  hid : Hi w ds
def fpR (p : Nat) (vb : Value) (ds : List Nat) : List Nat := p :: (fpv vb ++ ds)
theorem mem_fpR {p k : Nat} {vb : Value} {ds : List Nat} : k ∈ fpR p vb ds ↔ k = p ∨ k ∈ fpv vb ∨ k ∈ ds := by unfold fpR; simp
/-- a reader in its blocks -/
def Rr (w : World) (p : Nat) (G : List Nat) (rest : List (BitVec 8)) (bs : List (List (BitVec 8))) : Prop :=
  ∃ ds A n c vb ts, Rt w p ds A n c vb rest ts bs ∧ G = fpR p vb ds
section
variable {w w' : World} {p : Nat} {ds : List Nat} {A : Option Addr} {n c : Nat} {vb : Value} {rest : List (BitVec 8)} {ts : List (Option Addr × Nat × Nat)} {bs : List (List (BitVec 8))} {G H : List Nat}
theorem Rt.hi (h : Rt w p ds A n c vb rest ts bs) : Hi w (fpR p vb ds) := fun k hk => by
  rcases mem_fpR.1 hk with rfl | hk | hk
  · exact h.blk.lt
  · exact h.bo.fp_lt k hk
  · exact h.hid k hk
theorem Rt.mds (h : Rt w p ds A n c vb rest ts bs) (hm : Mds H w w') (ha : Ap (fpR p vb ds) H) : Rt w' p ds A n c vb rest ts bs := by
  have hd : Ap ds H := fun k hk => ha k (mem_fpR.2 (.inr (.inr hk)))
  refine ⟨h.blk.mds hm (ha p (mem_fpR.2 (.inl rfl))), h.rs.mds hm (h.ri.off hd), h.ri, h.bo.mds hm fun k hk => ha k (mem_fpR.2 (.inr (.inl hk))), h.len, fun j t l h1 h2 => ?_, h.apd, h.hid.mono hm.size⟩
  obtain ⟨h3, h4⟩ := h.each j t l h1 h2
  exact ⟨h3.mds hm (h4.off hd), h4⟩
theorem Rt.ext (h : Rt w p ds A n c vb rest ts bs) (hx : Ext w w') : Rt w' p ds A n c vb rest ts bs := h.mds (hx.mds []) (fun _ _ h => by cases h)
theorem Rr.hi (h : Rr w p G rest bs) : Hi w G := by
  obtain ⟨ds, A, n, c, vb, ts, h, rfl⟩ := h
  exact h.hi
theorem Rr.mds (h : Rr w p G rest bs) (hm : Mds H w w') (ha : Ap G H) : Rr w' p G rest bs := by
  obtain ⟨ds, A, n, c, vb, ts, h, rfl⟩ := h
  exact ⟨ds, A, n, c, vb, ts, h.mds hm ha, rfl⟩
theorem Rr.ext (h : Rr w p G rest bs) (hx : Ext w w') : Rr w' p G rest bs := h.mds (hx.mds []) (fun _ _ h => by cases h)
/-- what stands there is another piece -/
theorem Rt.put {A' : Option Addr} {n' c' : Nat} {rest' : List (BitVec 8)} (h : Rt w p ds A n c vb rest ts bs) (hr : Bs w A' n' c' rest') (hi : In A' n' ds) :
    Rt (w.setCell ⟨p, 0, none⟩ (.slice A' n' c')) p ds A' n' c' vb rest' ts bs ∧ Mvs (fpR p vb ds) (fpR p vb ds) w (w.setCell ⟨p, 0, none⟩ (.slice A' n' c')) := by
  have hm : Mds [p] w (w.setCell ⟨p, 0, none⟩ (.slice A' n' c')) := (Mds.refl [p] w).setCell (p := ⟨p, 0, none⟩) (by simp) _
  have hd : Ap ds [p] := fun k hk h1 => h.apd k hk (by rw [List.mem_singleton.1 h1]; simp)
  refine ⟨⟨h.blk.set_ 0 _, hr.mds hm (hi.off hd), hi, h.bo.mds hm (fun k hk h1 => h.bo.ne h.blk (by decide) (by rwa [List.mem_singleton.1 h1] at hk)), h.len, fun j t l h1 h2 => ?_, h.apd, h.hid.mono hm.size⟩, hm.mono fun k hk => mem_fpR.2 (.inl (List.mem_singleton.1 hk)), fun k hk => .inl hk⟩
  obtain ⟨h3, h4⟩ := h.each j t l h1 h2
  exact ⟨h3.mds hm (h4.off hd), h4⟩
theorem Mvs.same {w : World} {v v' : Value} (h : v'.ownBlock = v.ownBlock ∨ v'.ownBlock = none) : Mvs (fpv v) (fpv v') w w := ⟨Mds.refl _ _, fun k hk => .inl (by
  rw [mem_fpv] at hk ⊢
  rcases h with e | e
  · rw [← e]; exact hk
  · rw [e] at hk; cases hk)⟩
/-- another row of what stands behind -/
theorem Rt.hold {vb' : Value} {ts' : List (Option Addr × Nat × Nat)} {bs' : List (List (BitVec 8))} (h : Rt w p ds A n c vb rest ts bs) (hm : Mvs (fpv vb) (fpv vb') w w') (ho : Rw 23 eSl w' 0 vb' ts'.length ts') (hlen : ts'.length = bs'.length)
    (he : ∀ (j : Nat) (t : Option Addr × Nat × Nat) (l : List (BitVec 8)), ts'[j]? = some t → bs'[j]? = some l → Bs w t.1 t.2.1 t.2.2 l ∧ In t.1 t.2.1 ds) :
    Rt (w'.setCell ⟨p, 1, none⟩ vb') p ds A n c vb' rest ts' bs' ∧ Mvs (fpR p vb ds) (fpR p vb' ds) w (w'.setCell ⟨p, 1, none⟩ vb') := by
  have hm2 : Mds (p :: fpv vb) w (w'.setCell ⟨p, 1, none⟩ vb') := (hm.m.mono fun k hk => List.mem_cons_of_mem _ hk).setCell (p := ⟨p, 1, none⟩) (by simp) _
  have h1 := h.blk.mds hm.m (h.bo.ne h.blk (by decide))
  refine ⟨⟨h1.set_ 1 _, h.rs.mds hm2 (h.ri.off h.apd), h.ri, ho.far (p := ⟨p, 1, none⟩) (fun e => ho.ne h1 (by decide) (mem_fpv.2 e)) _, hlen, fun j t l h2 h3 => ?_, fun k hk hk2 => ?_, h.hid.mono hm2.size⟩, hm2.mono fun k hk => ?_, fun k hk => ?_⟩
  · obtain ⟨h4, h5⟩ := he j t l h2 h3
    exact ⟨h4.mds hm2 (h5.off h.apd), h5⟩
  · rcases List.mem_cons.1 hk2 with e | e
    · exact h.apd k hk (e ▸ by simp)
    · rcases hm.f k e with e2 | e2
      · exact h.apd k hk (List.mem_cons_of_mem _ e2)
      · have := h.hid k hk; omega
  · rcases List.mem_cons.1 hk with e | e
    · exact mem_fpR.2 (.inl e)
    · exact mem_fpR.2 (.inr (.inl e))
  · rcases mem_fpR.1 hk with e | e | e
    · exact .inl (mem_fpR.2 (.inl e))
    · rcases hm.f k e with e2 | e2
      · exact .inl (mem_fpR.2 (.inr (.inl e2)))
      · exact .inr e2
    · exact .inl (mem_fpR.2 (.inr (.inr e)))
end
section
variable {w : World} {p : Nat} {G : List Nat} {rest : List (BitVec 8)} {bs : List (List (BitVec 8))}
set_option maxHeartbeats 1000000 in
theorem NewReader_any {b : List (BitVec 8)} {A : Option Addr} {n c : Nat} {w : World} (h : Bs w A n c b) (hn : n ≤ 140737488351232) : Calls Try.prog 24 #[.slice A n c] w fun e w' => ∃ p, e = .returned (.pointer (some ⟨p, 0, none⟩)) ∧ (∃ G, Rr w' p G b [] ∧ Lo w.heap.size G) ∧ Ext w w' := by
  have C := Kp.mk (Clone_any h hn)
  clear h hn
  go_enter Try.func24, Try.ntmps24
  go_wp2_with (first | (go_at_call 38; refine C.out.mono ?_; rintro e w1 ⟨A1, c1, rfl, hs1, ho1, hx1⟩; have HS1 := Kp.mk hs1; have HO1 := Kp.mk ho1; have HX1 := Kp.mk hx1; clear hs1 ho1 hx1) | fail)
  go_ret
  have hB := Blk.new w1 rdt #[.slice A1 n c1, .slice none 0 0]
  have hx2 : Ext w1 (w1.alloc (.cells #[.slice A1 n c1, .slice none 0 0] rdt)) := (by (repeat (first | assumption | exact Ext.refl _ | apply Ext.drew | apply Ext.drewN | apply Ext.alloc | refine Ext.trans ?_ (by assumption))); first | done | fail)
  have hlt := HO1.out.rw.fp_lt
  refine ⟨w1.heap.size, rfl, ⟨_, ⟨fpv (.slice A1 n c1), A1, n, c1, .slice none 0 0, [], ⟨hB, HS1.out.ext hx2, fun ad hn e => ?_, Rw.nil _ _, rfl, fun j t l h1 => by simp at h1, fun k hk h1 => ?_, fun k hk => Nat.lt_of_lt_of_le (hlt k hk) hx2.size⟩, rfl⟩, fun k hk => ?_⟩, HX1.out.trans hx2⟩
  · obtain ⟨g, e2, _, _⟩ := HO1.out.some_ hn
    rw [e] at e2
    cases e2
    rw [mem_fpv, e]; rfl
  · have h2 := hlt k hk
    simp [fpv, Value.ownBlock] at h1
    omega
  · rcases mem_fpR.1 hk with rfl | hk | hk
    · exact HX1.out.size
    · simp [fpv, Value.ownBlock] at hk
    · exact HO1.out.rw.base k (mem_fpv.1 hk)
/-- how Next answers -/
def nxV (rest : List (BitVec 8)) : Value := if rest.length = 0 then .tuple #[.int .u8 0, .bool false] else .tuple #[.int .u8 (ub (gb rest 0)), .bool true]
set_option maxHeartbeats 1000000 in
theorem Next_any (h : Rr w p G rest bs) : Calls Try.prog 40 #[.pointer (some ⟨p, 0, none⟩)] w fun e w' => e = .returned (nxV rest) ∧ w' = w := by
  obtain ⟨ds, A, n, c, vb, ts, h, rfl⟩ := h
  have hc0 := fun (w' : World) (hx : Ext w w') => h.blk.cell hx 0
  have hl := h.rs.len
  unfold nxV
  by_cases hn : n = 0
  · rw [if_pos (by omega)]
    subst hn
    clear h hl
    go_enter Try.func40, Try.ntmps40
    go_wp2_with fail
    go_ret2
    exact ⟨rfl, rfl⟩
  · rw [if_neg (by omega)]
    obtain ⟨g, o, rfl, hc⟩ := h.rs.s.2.2.2 (by omega)
    have k0 := hc 0 (by omega)
    rw [Nat.add_zero] at k0
    have b1 : 0 < (n : Int) := by omega
    have b2 : ((n : Int) == 0) = false := beq_eq_false_iff_ne.2 (by omega)
    clear h hl hc
    go_enter Try.func40, Try.ntmps40
    go_wp2_with fail
    go_ret2
    exact ⟨rfl, rfl⟩
/-- what End tells -/
def endC (rest : List (BitVec 8)) (bs : List (List (BitVec 8))) : Nat := if 0 < bs.length then 17 else if 0 < rest.length then 3 else 0
def errW (n : Nat) : Value := if n = 0 then .nilIface else err n
set_option maxHeartbeats 1000000 in
theorem End_any (h : Rr w p G rest bs) : Calls Try.prog 26 #[.pointer (some ⟨p, 0, none⟩)] w fun e w' => e = .returned (errW (endC rest bs)) ∧ w' = w := by
  obtain ⟨ds, A, n, c, vb, ts, h, rfl⟩ := h
  obtain ⟨Ab, cb, rfl⟩ := h.bo.form
  have hc0 := fun (w' : World) (hx : Ext w w') => h.blk.cell hx 0
  have hc1 := fun (w' : World) (hx : Ext w w') => h.blk.cell hx 1
  have hl := h.rs.len
  have hl2 := h.len
  unfold endC errW
  obtain ⟨M, hM⟩ : ∃ M, ts.length = M := ⟨_, rfl⟩
  rw [hM] at hl2 hc0 hc1
  by_cases hb : 0 < M
  · rw [if_pos (show 0 < bs.length by omega), if_neg (by decide)]
    have b1 : 0 < (M : Int) := by omega
    clear h hl hl2 hM
    go_enter Try.func26, Try.ntmps26
    go_wp2_with fail
    go_ret
    exact ⟨rfl, rfl⟩
  · rw [if_neg (show ¬ 0 < bs.length by omega)]
    obtain rfl : M = 0 := by omega
    by_cases hn : 0 < n
    · rw [if_pos (show 0 < rest.length by omega), if_neg (by decide)]
      have b1 : 0 < (n : Int) := by omega
      clear h hl hl2 hM hb
      go_enter Try.func26, Try.ntmps26
      go_wp2_with fail
      go_ret
      exact ⟨rfl, rfl⟩
    · rw [if_neg (show ¬ 0 < rest.length by omega), if_pos rfl]
      obtain rfl : n = 0 := by omega
      clear h hl hl2 hM hb hn
      go_enter Try.func26, Try.ntmps26
      go_wp2_with fail
      go_ret
      exact ⟨rfl, rfl⟩
end
end Go.Proofs.Ytadndhenfoppiaa
