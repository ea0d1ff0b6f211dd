/-
  tlv's reader: marked.
-/
import Derived.Test.YtadndhenfoppiaaVHs
namespace Go.Proofs.Ytadndhenfoppiaa
open Go Go.RowKit
set_option maxRecDepth 4000

section
variable {w : World} {p : Nat} {m : BitVec 8} {G : List Nat} {rest : List (BitVec 8)} {bs : List (List (BitVec 8))} {kd : Bool}
set_option maxHeartbeats 4000000 in
theorem marked_none (h : Rr w p G [] bs) : Calls Try.prog 39 #[.pointer (some ⟨p, 0, none⟩), .int .u8 (ub m), .bool kd] w (ElN w 13) := by
  have hx0 : Ext w (w.alloc (.cells #[.slice none 0 0, .slice none 0 0, .slice none 0 0] elt)) := (by (repeat (first | assumption | exact Ext.refl _ | apply Ext.drew | apply Ext.drewN | apply Ext.alloc | refine Ext.trans ?_ (by assumption))); first | done | fail)
  have HB0 := Kp.mk (Blk.new w elt #[.slice none 0 0, .slice none 0 0, .slice none 0 0])
  have HX0 := Kp.mk hx0
  have NX := Kp.mk (fun u (hx : Ext w u) => Next_any (h.ext hx))
  obtain ⟨ds, A, n, c, vb, ts, h, rfl⟩ := h
  have hc0 := fun (w' : World) (hx : Ext w w') => h.blk.cell hx 0
  have hc00 := hc0 _ hx0
  have hl := h.rs.len
  obtain rfl : n = 0 := by simpa using hl.symm
  have EO := Kp.mk (fun u (_ : Ext w u) => elementOf_none (A := A) (c := c) (w := u))
  clear h hl
  have hnx : nxV [] = .tuple #[.int .u8 0, .bool false] := rfl
  rw [hnx] at NX
  go_enter Try.func39, Try.ntmps39
  go_wp2_with (first | (go_at_call 40; refine (NX.out _ HX0.out).mono ?_; rintro e w1 ⟨rfl, rfl⟩) | (go_at_call 45; refine (EO.out _ HX0.out).mono ?_; rintro e w2 ⟨rfl, hx2⟩; have HX2 := Kp.mk (HX0.out.trans hx2); have hx3 : Ext (w.alloc (.cells #[.slice none 0 0, .slice none 0 0, .slice none 0 0] elt)) ((w2.alloc (.cells #[.slice none 0 0, .slice none 0 0, .slice none 0 0] elt)).setRow w2.heap.size #[.slice none 0 0, .slice none 0 0, .slice none 0 0]) := (hx2.alloc _).setRow hx2.size _; have HX3 := Kp.mk (HX0.out.trans hx3); have HB3 := Kp.mk (HB0.out.ext hx3); have HN2 := Kp.mk (Blk.new w2 elt #[.slice none 0 0, .slice none 0 0, .slice none 0 0]); have HN3 := Kp.mk ((Blk.new w2 elt #[.slice none 0 0, .slice none 0 0, .slice none 0 0]).row #[.slice none 0 0, .slice none 0 0, .slice none 0 0]); have HY3 := Kp.mk (Ext.setRow ((by (repeat (first | assumption | exact Ext.refl _ | apply Ext.drew | apply Ext.drewN | apply Ext.alloc | refine Ext.trans ?_ (by assumption))); first | done | fail) : Ext w2 (w2.alloc (.cells #[.slice none 0 0, .slice none 0 0, .slice none 0 0] elt))) (Nat.le_refl _) #[.slice none 0 0, .slice none 0 0, .slice none 0 0]); clear hx2 hx3) | ((with_reducible refine at_store 10 31 ?_); refine wpList_store_row rfl elt _ _ rfl w2.heap.size #[.slice none 0 0, .slice none 0 0, .slice none 0 0] rfl rfl elt _ HN2.out.h szEl rfl (one_three _ _ _ _ _ _ _ _ _) ?_) | ((with_reducible refine at_store 6 35 ?_); refine wpList_store_row rfl elt _ _ rfl w.heap.size #[.slice none 0 0, .slice none 0 0, .slice none 0 0] rfl rfl elt _ HB3.out.h szEl rfl (one_three _ _ _ _ _ _ _ _ _) ?_) | fail)
  refine bodyPost_ret (results_el rfl _ _ w.heap.size _ _ _ _ rfl rfl (HB3.out.row _)) rfl ?_
  exact ⟨rfl, HX3.out.setRow (Nat.le_refl _) _⟩
set_option maxHeartbeats 4000000 in
/-- what stands there begins otherwise -/
theorem marked_kind (h : Rr w p G rest bs) (hr : rest ≠ []) (hm : gb rest 0 ≠ m) : Calls Try.prog 39 #[.pointer (some ⟨p, 0, none⟩), .int .u8 (ub m), .bool kd] w (ElN w 6) := by
  have hx0 : Ext w (w.alloc (.cells #[.slice none 0 0, .slice none 0 0, .slice none 0 0] elt)) := (by (repeat (first | assumption | exact Ext.refl _ | apply Ext.drew | apply Ext.drewN | apply Ext.alloc | refine Ext.trans ?_ (by assumption))); first | done | fail)
  have HB0 := Kp.mk (Blk.new w elt #[.slice none 0 0, .slice none 0 0, .slice none 0 0])
  have HX0 := Kp.mk hx0
  have NX := Kp.mk (fun u (hx : Ext w u) => Next_any (h.ext hx))
  obtain ⟨ds, A, n, c, vb, ts, h, rfl⟩ := h
  have hc0 := fun (w' : World) (hx : Ext w w') => h.blk.cell hx 0
  have hc00 := hc0 _ hx0
  have hl := h.rs.len
  have hnx : nxV rest = .tuple #[.int .u8 (ub (gb rest 0)), .bool true] := by
    unfold nxV
    rw [if_neg (fun e => hr (List.eq_nil_of_length_eq_zero e))]
  rw [hnx] at NX
  obtain ⟨d1, d2⟩ := ub_ne hm (ub m) rfl
  generalize gb rest 0 = x0 at *
  clear h hl hnx hm hr
  go_enter Try.func39, Try.ntmps39
  go_wp2_with (first | (go_at_call 40; refine (NX.out _ HX0.out).mono ?_; rintro e w1 ⟨rfl, rfl⟩) | ((with_reducible refine at_store 6 23 ?_); refine wpList_store_row rfl elt _ _ rfl w.heap.size #[.slice none 0 0, .slice none 0 0, .slice none 0 0] rfl rfl elt _ HB0.out.h szEl rfl (one_three _ _ _ _ _ _ _ _ _) ?_) | fail)
  refine bodyPost_ret (results_el rfl _ _ w.heap.size _ _ _ _ rfl rfl (HB0.out.row _)) rfl ?_
  exact ⟨rfl, HX0.out.setRow (Nat.le_refl _) _⟩
set_option maxHeartbeats 4000000 in
/-- it begins so, and no element is there -/
theorem marked_form (h : Rr w p G rest bs) (hr : rest ≠ []) (hm : gb rest 0 = m) (hx : rest.length ≤ 1000000000000) (he : ¬ ∃ m x r, El rest m x r) : Calls Try.prog 39 #[.pointer (some ⟨p, 0, none⟩), .int .u8 (ub m), .bool kd] w (ElN w 2) := by
  have hx0 : Ext w (w.alloc (.cells #[.slice none 0 0, .slice none 0 0, .slice none 0 0] elt)) := (by (repeat (first | assumption | exact Ext.refl _ | apply Ext.drew | apply Ext.drewN | apply Ext.alloc | refine Ext.trans ?_ (by assumption))); first | done | fail)
  have HB0 := Kp.mk (Blk.new w elt #[.slice none 0 0, .slice none 0 0, .slice none 0 0])
  have HX0 := Kp.mk hx0
  have NX := Kp.mk (fun u (hx : Ext w u) => Next_any (h.ext hx))
  obtain ⟨ds, A, n, c, vb, ts, h, rfl⟩ := h
  have hc0 := fun (w' : World) (hx : Ext w w') => h.blk.cell hx 0
  have hc00 := hc0 _ hx0
  have hl := h.rs.len
  have hnx : nxV rest = .tuple #[.int .u8 (ub m), .bool true] := by
    unfold nxV
    rw [if_neg (fun e => hr (List.eq_nil_of_length_eq_zero e)), hm]
  rw [hnx] at NX
  have hn : 0 < n := by have := List.length_pos_iff.2 hr; omega
  have EO := Kp.mk (fun u (hx : Ext w u) => elementOf_form (h.rs.ext hx) hn (by omega) he)
  clear h hl hnx hm hr hn hx he
  go_enter Try.func39, Try.ntmps39
  go_wp2_with (first | (go_at_call 40; refine (NX.out _ HX0.out).mono ?_; rintro e w1 ⟨rfl, rfl⟩) | (go_at_call 45; refine (EO.out _ HX0.out).mono ?_; rintro e w2 ⟨rfl, hx2⟩; have HX2 := Kp.mk (HX0.out.trans hx2); have hx3 : Ext (w.alloc (.cells #[.slice none 0 0, .slice none 0 0, .slice none 0 0] elt)) ((w2.alloc (.cells #[.slice none 0 0, .slice none 0 0, .slice none 0 0] elt)).setRow w2.heap.size #[.slice none 0 0, .slice none 0 0, .slice none 0 0]) := (hx2.alloc _).setRow hx2.size _; have HX3 := Kp.mk (HX0.out.trans hx3); have HB3 := Kp.mk (HB0.out.ext hx3); have HN2 := Kp.mk (Blk.new w2 elt #[.slice none 0 0, .slice none 0 0, .slice none 0 0]); have HN3 := Kp.mk ((Blk.new w2 elt #[.slice none 0 0, .slice none 0 0, .slice none 0 0]).row #[.slice none 0 0, .slice none 0 0, .slice none 0 0]); have HY3 := Kp.mk (Ext.setRow ((by (repeat (first | assumption | exact Ext.refl _ | apply Ext.drew | apply Ext.drewN | apply Ext.alloc | refine Ext.trans ?_ (by assumption))); first | done | fail) : Ext w2 (w2.alloc (.cells #[.slice none 0 0, .slice none 0 0, .slice none 0 0] elt))) (Nat.le_refl _) #[.slice none 0 0, .slice none 0 0, .slice none 0 0]); clear hx2 hx3) | ((with_reducible refine at_store 10 31 ?_); refine wpList_store_row rfl elt _ _ rfl w2.heap.size #[.slice none 0 0, .slice none 0 0, .slice none 0 0] rfl rfl elt _ HN2.out.h szEl rfl (one_three _ _ _ _ _ _ _ _ _) ?_) | ((with_reducible refine at_store 6 35 ?_); refine wpList_store_row rfl elt _ _ rfl w.heap.size #[.slice none 0 0, .slice none 0 0, .slice none 0 0] rfl rfl elt _ HB3.out.h szEl rfl (one_three _ _ _ _ _ _ _ _ _) ?_) | fail)
  refine bodyPost_ret (results_el rfl _ _ w.heap.size _ _ _ _ rfl rfl (HB3.out.row _)) rfl ?_
  exact ⟨rfl, HX3.out.setRow (Nat.le_refl _) _⟩
set_option maxHeartbeats 4000000 in
/-- an element is there, of the other kind -/
theorem marked_other {x r : List (BitVec 8)} (h : Rr w p G rest bs) (hx : rest.length ≤ 1000000000000) (he : El rest m x r) : Calls Try.prog 39 #[.pointer (some ⟨p, 0, none⟩), .int .u8 (ub m), .bool false] w (ElN w 2) := by
  have hx0 : Ext w (w.alloc (.cells #[.slice none 0 0, .slice none 0 0, .slice none 0 0] elt)) := (by (repeat (first | assumption | exact Ext.refl _ | apply Ext.drew | apply Ext.drewN | apply Ext.alloc | refine Ext.trans ?_ (by assumption))); first | done | fail)
  have HB0 := Kp.mk (Blk.new w elt #[.slice none 0 0, .slice none 0 0, .slice none 0 0])
  have HX0 := Kp.mk hx0
  have NX := Kp.mk (fun u (hx : Ext w u) => Next_any (h.ext hx))
  obtain ⟨ds, A, n, c, vb, ts, h, rfl⟩ := h
  have hc0 := fun (w' : World) (hx : Ext w w') => h.blk.cell hx 0
  have hc00 := hc0 _ hx0
  have hl := h.rs.len
  have hp := el_parts he
  have hlo := hdn_lo x.length
  have hnx : nxV rest = .tuple #[.int .u8 (ub m), .bool true] := by
    unfold nxV
    rw [if_neg (by omega), hp.1]
  rw [hnx] at NX
  have EO := Kp.mk (fun u (hx : Ext w u) => elementOf_ok (h.rs.ext hx) h.ri (by omega) he)
  clear h hl hnx hp hlo hx he
  go_enter Try.func39, Try.ntmps39
  go_wp2_with (first | (go_at_call 40; refine (NX.out _ HX0.out).mono ?_; rintro e w1 ⟨rfl, rfl⟩) | (go_at_call 45; refine (EO.out _ HX0.out).mono ?_; rintro e w2 ⟨A1, n1, c1, A2, n2, c2, A3, n3, c3, rfl, q1, q2, q3, j1, j2, j3, hx2⟩; have Q1 := Kp.mk q1; have Q2 := Kp.mk q2; have Q3 := Kp.mk q3; clear q1 q2 q3; have HX2 := Kp.mk (HX0.out.trans hx2); have hx3 : Ext (w.alloc (.cells #[.slice none 0 0, .slice none 0 0, .slice none 0 0] elt)) ((w2.alloc (.cells #[.slice none 0 0, .slice none 0 0, .slice none 0 0] elt)).setRow w2.heap.size #[.slice A1 n1 c1, .slice A2 n2 c2, .slice A3 n3 c3]) := (hx2.alloc _).setRow hx2.size _; have HX3 := Kp.mk (HX0.out.trans hx3); have HB3 := Kp.mk (HB0.out.ext hx3); have HN2 := Kp.mk (Blk.new w2 elt #[.slice none 0 0, .slice none 0 0, .slice none 0 0]); have HN3 := Kp.mk ((Blk.new w2 elt #[.slice none 0 0, .slice none 0 0, .slice none 0 0]).row #[.slice A1 n1 c1, .slice A2 n2 c2, .slice A3 n3 c3]); have HY3 := Kp.mk (Ext.setRow ((by (repeat (first | assumption | exact Ext.refl _ | apply Ext.drew | apply Ext.drewN | apply Ext.alloc | refine Ext.trans ?_ (by assumption))); first | done | fail) : Ext w2 (w2.alloc (.cells #[.slice none 0 0, .slice none 0 0, .slice none 0 0] elt))) (Nat.le_refl _) #[.slice A1 n1 c1, .slice A2 n2 c2, .slice A3 n3 c3]); clear hx2 hx3) | ((with_reducible refine at_store 10 31 ?_); refine wpList_store_row rfl elt _ _ rfl w2.heap.size #[.slice A1 n1 c1, .slice A2 n2 c2, .slice A3 n3 c3] rfl rfl elt _ HN2.out.h szEl rfl (one_three _ _ _ _ _ _ _ _ _) ?_) | ((with_reducible refine at_store 6 39 ?_); refine wpList_store_row rfl elt _ _ rfl w.heap.size #[.slice none 0 0, .slice none 0 0, .slice none 0 0] rfl rfl elt _ HB3.out.h szEl rfl (one_three _ _ _ _ _ _ _ _ _) ?_) | fail)
  refine bodyPost_ret (results_el rfl _ _ w.heap.size _ _ _ _ rfl rfl (HB3.out.row _)) rfl ?_
  exact ⟨rfl, HX3.out.setRow (Nat.le_refl _) _⟩
set_option maxHeartbeats 4000000 in
/-- an element is there, of the kind that is asked for -/
theorem marked_ok {x r : List (BitVec 8)} {ds : List Nat} {A : Option Addr} {n c : Nat} {vb : Value} {ts : List (Option Addr × Nat × Nat)} (h : Rt w p ds A n c vb rest ts bs) (hx : rest.length ≤ 1000000000000) (he : El rest m x r) : Calls Try.prog 39 #[.pointer (some ⟨p, 0, none⟩), .int .u8 (ub m), .bool true] w (ElR w ds m x r) := by
  have hx0 : Ext w (w.alloc (.cells #[.slice none 0 0, .slice none 0 0, .slice none 0 0] elt)) := (by (repeat (first | assumption | exact Ext.refl _ | apply Ext.drew | apply Ext.drewN | apply Ext.alloc | refine Ext.trans ?_ (by assumption))); first | done | fail)
  have HB0 := Kp.mk (Blk.new w elt #[.slice none 0 0, .slice none 0 0, .slice none 0 0])
  have HX0 := Kp.mk hx0
  have NX := Kp.mk (fun u (hx : Ext w u) => Next_any (⟨_, _, _, _, _, _, h.ext hx, rfl⟩ : Rr u p (fpR p vb ds) rest bs))
  have hc0 := fun (w' : World) (hx : Ext w w') => h.blk.cell hx 0
  have hc00 := hc0 _ hx0
  have hl := h.rs.len
  have hp := el_parts he
  have hlo := hdn_lo x.length
  have hnx : nxV rest = .tuple #[.int .u8 (ub m), .bool true] := by
    unfold nxV
    rw [if_neg (by omega), hp.1]
  rw [hnx] at NX
  have HI := Kp.mk h.hid
  have EO := Kp.mk (fun u (hx : Ext w u) => elementOf_ok (h.rs.ext hx) h.ri (by omega) he)
  clear h hl hnx hp hlo hx he
  go_enter Try.func39, Try.ntmps39
  go_wp2_with (first | (go_at_call 40; refine (NX.out _ HX0.out).mono ?_; rintro e w1 ⟨rfl, rfl⟩) | (go_at_call 45; refine (EO.out _ HX0.out).mono ?_; rintro e w2 ⟨A1, n1, c1, A2, n2, c2, A3, n3, c3, rfl, q1, q2, q3, j1, j2, j3, hx2⟩; have Q1 := Kp.mk q1; have Q2 := Kp.mk q2; have Q3 := Kp.mk q3; clear q1 q2 q3; have HX2 := Kp.mk (HX0.out.trans hx2); have hx3 : Ext (w.alloc (.cells #[.slice none 0 0, .slice none 0 0, .slice none 0 0] elt)) ((w2.alloc (.cells #[.slice none 0 0, .slice none 0 0, .slice none 0 0] elt)).setRow w2.heap.size #[.slice A1 n1 c1, .slice A2 n2 c2, .slice A3 n3 c3]) := (hx2.alloc _).setRow hx2.size _; have HX3 := Kp.mk (HX0.out.trans hx3); have HB3 := Kp.mk (HB0.out.ext hx3); have HN2 := Kp.mk (Blk.new w2 elt #[.slice none 0 0, .slice none 0 0, .slice none 0 0]); have HN3 := Kp.mk ((Blk.new w2 elt #[.slice none 0 0, .slice none 0 0, .slice none 0 0]).row #[.slice A1 n1 c1, .slice A2 n2 c2, .slice A3 n3 c3]); have HY3 := Kp.mk (Ext.setRow ((by (repeat (first | assumption | exact Ext.refl _ | apply Ext.drew | apply Ext.drewN | apply Ext.alloc | refine Ext.trans ?_ (by assumption))); first | done | fail) : Ext w2 (w2.alloc (.cells #[.slice none 0 0, .slice none 0 0, .slice none 0 0] elt))) (Nat.le_refl _) #[.slice A1 n1 c1, .slice A2 n2 c2, .slice A3 n3 c3]); clear hx2 hx3) | ((with_reducible refine at_store 10 31 ?_); refine wpList_store_row rfl elt _ _ rfl w2.heap.size #[.slice A1 n1 c1, .slice A2 n2 c2, .slice A3 n3 c3] rfl rfl elt _ HN2.out.h szEl rfl (one_three _ _ _ _ _ _ _ _ _) ?_) | ((with_reducible refine at_load_to 41 10 ?_); refine wpList_load_row rfl elt _ rfl w2.heap.size rfl elt #[.slice A1 n1 c1, .slice A2 n2 c2, .slice A3 n3 c3] (0, 0) _ HN3.out.h Try.underlying70 rfl szEl ?_) | ((with_reducible refine at_store 6 41 ?_); refine wpList_store_row rfl elt _ _ rfl w.heap.size #[.slice A1 n1 c1, .slice A2 n2 c2, .slice A3 n3 c3] rfl rfl elt _ HB3.out.h szEl rfl (one_three _ _ _ _ _ _ _ _ _) ?_) | fail)
  refine bodyPost_ret (results_el rfl _ _ w.heap.size _ _ _ _ rfl rfl (HB3.out.row _)) rfl ?_
  have hz := HX3.out.setRow (Nat.le_refl _) #[Value.slice A1 n1 c1, .slice A2 n2 c2, .slice A3 n3 c3]
  have hy := (HY3.out.mds [w.heap.size]).setRow (g := w.heap.size) (by simp) #[Value.slice A1 n1 c1, .slice A2 n2 c2, .slice A3 n3 c3]
  have ha : Ap ds [w.heap.size] := fun k hk h1 => by
    have := HI.out k hk
    rw [List.mem_singleton.1 h1] at this
    exact Nat.lt_irrefl _ this
  exact ⟨_, _, _, _, _, _, _, _, _, rfl, Q1.out.mds hy (j1.off ha), Q2.out.mds hy (j2.off ha), Q3.out.mds hy (j3.off ha), j1, j2, j3, hz⟩
end
end Go.Proofs.Ytadndhenfoppiaa
