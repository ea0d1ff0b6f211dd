/-
  tlv's reader: marked.
  tlv's reader: Take.
  tlv's reader: Enter.
  Numbers as lists of digits, the lowest first, to any base: values, shortest forms, and what sums, differences, products leave. No condition.
-/
import Derived.Test.YtkdjhklnlnfhfaaGreatDoorM12
import Derived.WalkKit
namespace Go.Proofs.YtkdjhklnlnfhfaaGreatDoor
open Go Go.RowKit
set_option maxRecDepth 4000

section
variable {w : World} {p : Nat} {m : BitVec 8} {G : List Nat} {rest : List (BitVec 8)} {bs : List (List (BitVec 8))} {kd : Bool}
set_option maxHeartbeats 4000000 in
theorem marked_none (h : Rr w p G [] bs) : Calls Tryz.prog 153 #[.pointer (some ⟨p, 0, none⟩), .int .u8 (ub m), .bool kd] w (ElN w 13) := by
  have hx0 : Ext w (w.alloc (.cells #[.slice none 0 0, .slice none 0 0, .slice none 0 0] elt)) := (by (repeat (first | assumption | exact Ext.refl _ | apply Ext.drew | apply Ext.drewN | apply Ext.alloc | refine Ext.trans ?_ (by assumption))); first | done | fail)
  have HB0 := Kp.mk (Blk.new w elt #[.slice none 0 0, .slice none 0 0, .slice none 0 0])
  have HX0 := Kp.mk hx0
  have NX := Kp.mk (fun u (hx : Ext w u) => Next_any (h.ext hx))
  obtain ⟨ds, A, n, c, vb, ts, h, rfl⟩ := h
  have hc0 := fun (w' : World) (hx : Ext w w') => h.blk.cell hx 0
  have hc00 := hc0 _ hx0
  have hl := h.rs.len
  obtain rfl : n = 0 := by simpa using hl.symm
  have EO := Kp.mk (fun u (_ : Ext w u) => elementOf_none (A := A) (c := c) (w := u))
  clear h hl
  have hnx : nxV [] = .tuple #[.int .u8 0, .bool false] := rfl
  rw [hnx] at NX
  go_enter Tryz.func153, Tryz.ntmps153
  go_wp2_with (first | (go_at_call 155; refine (NX.out _ HX0.out).mono ?_; rintro e w1 ⟨rfl, rfl⟩) | (go_at_call 156; refine (EO.out _ HX0.out).mono ?_; rintro e w2 ⟨rfl, hx2⟩; have HX2 := Kp.mk (HX0.out.trans hx2); have hx3 : Ext (w.alloc (.cells #[.slice none 0 0, .slice none 0 0, .slice none 0 0] elt)) ((w2.alloc (.cells #[.slice none 0 0, .slice none 0 0, .slice none 0 0] elt)).setRow w2.heap.size #[.slice none 0 0, .slice none 0 0, .slice none 0 0]) := (hx2.alloc _).setRow hx2.size _; have HX3 := Kp.mk (HX0.out.trans hx3); have HB3 := Kp.mk (HB0.out.ext hx3); have HN2 := Kp.mk (Blk.new w2 elt #[.slice none 0 0, .slice none 0 0, .slice none 0 0]); have HN3 := Kp.mk ((Blk.new w2 elt #[.slice none 0 0, .slice none 0 0, .slice none 0 0]).row #[.slice none 0 0, .slice none 0 0, .slice none 0 0]); have HY3 := Kp.mk (Ext.setRow ((by (repeat (first | assumption | exact Ext.refl _ | apply Ext.drew | apply Ext.drewN | apply Ext.alloc | refine Ext.trans ?_ (by assumption))); first | done | fail) : Ext w2 (w2.alloc (.cells #[.slice none 0 0, .slice none 0 0, .slice none 0 0] elt))) (Nat.le_refl _) #[.slice none 0 0, .slice none 0 0, .slice none 0 0]); clear hx2 hx3) | ((with_reducible refine at_store 10 31 ?_); refine wpList_store_row rfl elt _ _ rfl w2.heap.size #[.slice none 0 0, .slice none 0 0, .slice none 0 0] rfl rfl elt _ HN2.out.h szEl rfl (one_three _ _ _ _ _ _ _ _ _) ?_) | ((with_reducible refine at_store 6 35 ?_); refine wpList_store_row rfl elt _ _ rfl w.heap.size #[.slice none 0 0, .slice none 0 0, .slice none 0 0] rfl rfl elt _ HB3.out.h szEl rfl (one_three _ _ _ _ _ _ _ _ _) ?_) | fail)
  refine bodyPost_ret (results_el rfl _ _ w.heap.size _ _ _ _ rfl rfl (HB3.out.row _)) rfl ?_
  exact ⟨rfl, HX3.out.setRow (Nat.le_refl _) _⟩
set_option maxHeartbeats 4000000 in
/-- what stands there begins otherwise -/
theorem marked_kind (h : Rr w p G rest bs) (hr : rest ≠ []) (hm : gb rest 0 ≠ m) : Calls Tryz.prog 153 #[.pointer (some ⟨p, 0, none⟩), .int .u8 (ub m), .bool kd] w (ElN w 6) := by
  have hx0 : Ext w (w.alloc (.cells #[.slice none 0 0, .slice none 0 0, .slice none 0 0] elt)) := (by (repeat (first | assumption | exact Ext.refl _ | apply Ext.drew | apply Ext.drewN | apply Ext.alloc | refine Ext.trans ?_ (by assumption))); first | done | fail)
  have HB0 := Kp.mk (Blk.new w elt #[.slice none 0 0, .slice none 0 0, .slice none 0 0])
  have HX0 := Kp.mk hx0
  have NX := Kp.mk (fun u (hx : Ext w u) => Next_any (h.ext hx))
  obtain ⟨ds, A, n, c, vb, ts, h, rfl⟩ := h
  have hc0 := fun (w' : World) (hx : Ext w w') => h.blk.cell hx 0
  have hc00 := hc0 _ hx0
  have hl := h.rs.len
  have hnx : nxV rest = .tuple #[.int .u8 (ub (gb rest 0)), .bool true] := by
    unfold nxV
    rw [if_neg (fun e => hr (List.eq_nil_of_length_eq_zero e))]
  rw [hnx] at NX
  obtain ⟨d1, d2⟩ := ub_ne hm (ub m) rfl
  generalize gb rest 0 = x0 at *
  clear h hl hnx hm hr
  go_enter Tryz.func153, Tryz.ntmps153
  go_wp2_with (first | (go_at_call 155; refine (NX.out _ HX0.out).mono ?_; rintro e w1 ⟨rfl, rfl⟩) | ((with_reducible refine at_store 6 23 ?_); refine wpList_store_row rfl elt _ _ rfl w.heap.size #[.slice none 0 0, .slice none 0 0, .slice none 0 0] rfl rfl elt _ HB0.out.h szEl rfl (one_three _ _ _ _ _ _ _ _ _) ?_) | fail)
  refine bodyPost_ret (results_el rfl _ _ w.heap.size _ _ _ _ rfl rfl (HB0.out.row _)) rfl ?_
  exact ⟨rfl, HX0.out.setRow (Nat.le_refl _) _⟩
set_option maxHeartbeats 4000000 in
/-- it begins so, and no element is there -/
theorem marked_form (h : Rr w p G rest bs) (hr : rest ≠ []) (hm : gb rest 0 = m) (hx : rest.length ≤ 1000000000000) (he : ¬ ∃ m x r, El rest m x r) : Calls Tryz.prog 153 #[.pointer (some ⟨p, 0, none⟩), .int .u8 (ub m), .bool kd] w (ElN w 2) := by
  have hx0 : Ext w (w.alloc (.cells #[.slice none 0 0, .slice none 0 0, .slice none 0 0] elt)) := (by (repeat (first | assumption | exact Ext.refl _ | apply Ext.drew | apply Ext.drewN | apply Ext.alloc | refine Ext.trans ?_ (by assumption))); first | done | fail)
  have HB0 := Kp.mk (Blk.new w elt #[.slice none 0 0, .slice none 0 0, .slice none 0 0])
  have HX0 := Kp.mk hx0
  have NX := Kp.mk (fun u (hx : Ext w u) => Next_any (h.ext hx))
  obtain ⟨ds, A, n, c, vb, ts, h, rfl⟩ := h
  have hc0 := fun (w' : World) (hx : Ext w w') => h.blk.cell hx 0
  have hc00 := hc0 _ hx0
  have hl := h.rs.len
  have hnx : nxV rest = .tuple #[.int .u8 (ub m), .bool true] := by
    unfold nxV
    rw [if_neg (fun e => hr (List.eq_nil_of_length_eq_zero e)), hm]
  rw [hnx] at NX
  have hn : 0 < n := by have := List.length_pos_iff.2 hr; omega
  have EO := Kp.mk (fun u (hx : Ext w u) => elementOf_form (h.rs.ext hx) hn (by omega) he)
  clear h hl hnx hm hr hn hx he
  go_enter Tryz.func153, Tryz.ntmps153
  go_wp2_with (first | (go_at_call 155; refine (NX.out _ HX0.out).mono ?_; rintro e w1 ⟨rfl, rfl⟩) | (go_at_call 156; refine (EO.out _ HX0.out).mono ?_; rintro e w2 ⟨rfl, hx2⟩; have HX2 := Kp.mk (HX0.out.trans hx2); have hx3 : Ext (w.alloc (.cells #[.slice none 0 0, .slice none 0 0, .slice none 0 0] elt)) ((w2.alloc (.cells #[.slice none 0 0, .slice none 0 0, .slice none 0 0] elt)).setRow w2.heap.size #[.slice none 0 0, .slice none 0 0, .slice none 0 0]) := (hx2.alloc _).setRow hx2.size _; have HX3 := Kp.mk (HX0.out.trans hx3); have HB3 := Kp.mk (HB0.out.ext hx3); have HN2 := Kp.mk (Blk.new w2 elt #[.slice none 0 0, .slice none 0 0, .slice none 0 0]); have HN3 := Kp.mk ((Blk.new w2 elt #[.slice none 0 0, .slice none 0 0, .slice none 0 0]).row #[.slice none 0 0, .slice none 0 0, .slice none 0 0]); have HY3 := Kp.mk (Ext.setRow ((by (repeat (first | assumption | exact Ext.refl _ | apply Ext.drew | apply Ext.drewN | apply Ext.alloc | refine Ext.trans ?_ (by assumption))); first | done | fail) : Ext w2 (w2.alloc (.cells #[.slice none 0 0, .slice none 0 0, .slice none 0 0] elt))) (Nat.le_refl _) #[.slice none 0 0, .slice none 0 0, .slice none 0 0]); clear hx2 hx3) | ((with_reducible refine at_store 10 31 ?_); refine wpList_store_row rfl elt _ _ rfl w2.heap.size #[.slice none 0 0, .slice none 0 0, .slice none 0 0] rfl rfl elt _ HN2.out.h szEl rfl (one_three _ _ _ _ _ _ _ _ _) ?_) | ((with_reducible refine at_store 6 35 ?_); refine wpList_store_row rfl elt _ _ rfl w.heap.size #[.slice none 0 0, .slice none 0 0, .slice none 0 0] rfl rfl elt _ HB3.out.h szEl rfl (one_three _ _ _ _ _ _ _ _ _) ?_) | fail)
  refine bodyPost_ret (results_el rfl _ _ w.heap.size _ _ _ _ rfl rfl (HB3.out.row _)) rfl ?_
  exact ⟨rfl, HX3.out.setRow (Nat.le_refl _) _⟩
set_option maxHeartbeats 4000000 in
/-- an element is there, of the other kind -/
theorem marked_other {x r : List (BitVec 8)} (h : Rr w p G rest bs) (hx : rest.length ≤ 1000000000000) (he : El rest m x r) : Calls Tryz.prog 153 #[.pointer (some ⟨p, 0, none⟩), .int .u8 (ub m), .bool false] w (ElN w 2) := by
  have hx0 : Ext w (w.alloc (.cells #[.slice none 0 0, .slice none 0 0, .slice none 0 0] elt)) := (by (repeat (first | assumption | exact Ext.refl _ | apply Ext.drew | apply Ext.drewN | apply Ext.alloc | refine Ext.trans ?_ (by assumption))); first | done | fail)
  have HB0 := Kp.mk (Blk.new w elt #[.slice none 0 0, .slice none 0 0, .slice none 0 0])
  have HX0 := Kp.mk hx0
  have NX := Kp.mk (fun u (hx : Ext w u) => Next_any (h.ext hx))
  obtain ⟨ds, A, n, c, vb, ts, h, rfl⟩ := h
  have hc0 := fun (w' : World) (hx : Ext w w') => h.blk.cell hx 0
  have hc00 := hc0 _ hx0
  have hl := h.rs.len
  have hp := el_parts he
  have hlo := hdn_lo x.length
  have hnx : nxV rest = .tuple #[.int .u8 (ub m), .bool true] := by
    unfold nxV
    rw [if_neg (by omega), hp.1]
  rw [hnx] at NX
  have EO := Kp.mk (fun u (hx : Ext w u) => elementOf_ok (h.rs.ext hx) h.ri (by omega) he)
  clear h hl hnx hp hlo hx he
  go_enter Tryz.func153, Tryz.ntmps153
  go_wp2_with (first | (go_at_call 155; refine (NX.out _ HX0.out).mono ?_; rintro e w1 ⟨rfl, rfl⟩) | (go_at_call 156; refine (EO.out _ HX0.out).mono ?_; rintro e w2 ⟨A1, n1, c1, A2, n2, c2, A3, n3, c3, rfl, q1, q2, q3, j1, j2, j3, hx2⟩; have Q1 := Kp.mk q1; have Q2 := Kp.mk q2; have Q3 := Kp.mk q3; clear q1 q2 q3; have HX2 := Kp.mk (HX0.out.trans hx2); have hx3 : Ext (w.alloc (.cells #[.slice none 0 0, .slice none 0 0, .slice none 0 0] elt)) ((w2.alloc (.cells #[.slice none 0 0, .slice none 0 0, .slice none 0 0] elt)).setRow w2.heap.size #[.slice A1 n1 c1, .slice A2 n2 c2, .slice A3 n3 c3]) := (hx2.alloc _).setRow hx2.size _; have HX3 := Kp.mk (HX0.out.trans hx3); have HB3 := Kp.mk (HB0.out.ext hx3); have HN2 := Kp.mk (Blk.new w2 elt #[.slice none 0 0, .slice none 0 0, .slice none 0 0]); have HN3 := Kp.mk ((Blk.new w2 elt #[.slice none 0 0, .slice none 0 0, .slice none 0 0]).row #[.slice A1 n1 c1, .slice A2 n2 c2, .slice A3 n3 c3]); have HY3 := Kp.mk (Ext.setRow ((by (repeat (first | assumption | exact Ext.refl _ | apply Ext.drew | apply Ext.drewN | apply Ext.alloc | refine Ext.trans ?_ (by assumption))); first | done | fail) : Ext w2 (w2.alloc (.cells #[.slice none 0 0, .slice none 0 0, .slice none 0 0] elt))) (Nat.le_refl _) #[.slice A1 n1 c1, .slice A2 n2 c2, .slice A3 n3 c3]); clear hx2 hx3) | ((with_reducible refine at_store 10 31 ?_); refine wpList_store_row rfl elt _ _ rfl w2.heap.size #[.slice A1 n1 c1, .slice A2 n2 c2, .slice A3 n3 c3] rfl rfl elt _ HN2.out.h szEl rfl (one_three _ _ _ _ _ _ _ _ _) ?_) | ((with_reducible refine at_store 6 39 ?_); refine wpList_store_row rfl elt _ _ rfl w.heap.size #[.slice none 0 0, .slice none 0 0, .slice none 0 0] rfl rfl elt _ HB3.out.h szEl rfl (one_three _ _ _ _ _ _ _ _ _) ?_) | fail)
  refine bodyPost_ret (results_el rfl _ _ w.heap.size _ _ _ _ rfl rfl (HB3.out.row _)) rfl ?_
  exact ⟨rfl, HX3.out.setRow (Nat.le_refl _) _⟩
set_option maxHeartbeats 4000000 in
/-- an element is there, of the kind that is asked for -/
theorem marked_ok {x r : List (BitVec 8)} {ds : List Nat} {A : Option Addr} {n c : Nat} {vb : Value} {ts : List (Option Addr × Nat × Nat)} (h : Rt w p ds A n c vb rest ts bs) (hx : rest.length ≤ 1000000000000) (he : El rest m x r) : Calls Tryz.prog 153 #[.pointer (some ⟨p, 0, none⟩), .int .u8 (ub m), .bool true] w (ElR w ds m x r) := by
  have hx0 : Ext w (w.alloc (.cells #[.slice none 0 0, .slice none 0 0, .slice none 0 0] elt)) := (by (repeat (first | assumption | exact Ext.refl _ | apply Ext.drew | apply Ext.drewN | apply Ext.alloc | refine Ext.trans ?_ (by assumption))); first | done | fail)
  have HB0 := Kp.mk (Blk.new w elt #[.slice none 0 0, .slice none 0 0, .slice none 0 0])
  have HX0 := Kp.mk hx0
  have NX := Kp.mk (fun u (hx : Ext w u) => Next_any (⟨_, _, _, _, _, _, h.ext hx, rfl⟩ : Rr u p (fpR p vb ds) rest bs))
  have hc0 := fun (w' : World) (hx : Ext w w') => h.blk.cell hx 0
  have hc00 := hc0 _ hx0
  have hl := h.rs.len
  have hp := el_parts he
  have hlo := hdn_lo x.length
  have hnx : nxV rest = .tuple #[.int .u8 (ub m), .bool true] := by
    unfold nxV
    rw [if_neg (by omega), hp.1]
  rw [hnx] at NX
  have HI := Kp.mk h.hid
  have EO := Kp.mk (fun u (hx : Ext w u) => elementOf_ok (h.rs.ext hx) h.ri (by omega) he)
  clear h hl hnx hp hlo hx he
  go_enter Tryz.func153, Tryz.ntmps153
  go_wp2_with (first | (go_at_call 155; refine (NX.out _ HX0.out).mono ?_; rintro e w1 ⟨rfl, rfl⟩) | (go_at_call 156; refine (EO.out _ HX0.out).mono ?_; rintro e w2 ⟨A1, n1, c1, A2, n2, c2, A3, n3, c3, rfl, q1, q2, q3, j1, j2, j3, hx2⟩; have Q1 := Kp.mk q1; have Q2 := Kp.mk q2; have Q3 := Kp.mk q3; clear q1 q2 q3; have HX2 := Kp.mk (HX0.out.trans hx2); have hx3 : Ext (w.alloc (.cells #[.slice none 0 0, .slice none 0 0, .slice none 0 0] elt)) ((w2.alloc (.cells #[.slice none 0 0, .slice none 0 0, .slice none 0 0] elt)).setRow w2.heap.size #[.slice A1 n1 c1, .slice A2 n2 c2, .slice A3 n3 c3]) := (hx2.alloc _).setRow hx2.size _; have HX3 := Kp.mk (HX0.out.trans hx3); have HB3 := Kp.mk (HB0.out.ext hx3); have HN2 := Kp.mk (Blk.new w2 elt #[.slice none 0 0, .slice none 0 0, .slice none 0 0]); have HN3 := Kp.mk ((Blk.new w2 elt #[.slice none 0 0, .slice none 0 0, .slice none 0 0]).row #[.slice A1 n1 c1, .slice A2 n2 c2, .slice A3 n3 c3]); have HY3 := Kp.mk (Ext.setRow ((by (repeat (first | assumption | exact Ext.refl _ | apply Ext.drew | apply Ext.drewN | apply Ext.alloc | refine Ext.trans ?_ (by assumption))); first | done | fail) : Ext w2 (w2.alloc (.cells #[.slice none 0 0, .slice none 0 0, .slice none 0 0] elt))) (Nat.le_refl _) #[.slice A1 n1 c1, .slice A2 n2 c2, .slice A3 n3 c3]); clear hx2 hx3) | ((with_reducible refine at_store 10 31 ?_); refine wpList_store_row rfl elt _ _ rfl w2.heap.size #[.slice A1 n1 c1, .slice A2 n2 c2, .slice A3 n3 c3] rfl rfl elt _ HN2.out.h szEl rfl (one_three _ _ _ _ _ _ _ _ _) ?_) | ((with_reducible refine at_load_to 41 10 ?_); refine wpList_load_row rfl elt _ rfl w2.heap.size rfl elt #[.slice A1 n1 c1, .slice A2 n2 c2, .slice A3 n3 c3] (0, 0) _ HN3.out.h Tryz.underlying188 rfl szEl ?_) | ((with_reducible refine at_store 6 41 ?_); refine wpList_store_row rfl elt _ _ rfl w.heap.size #[.slice A1 n1 c1, .slice A2 n2 c2, .slice A3 n3 c3] rfl rfl elt _ HB3.out.h szEl rfl (one_three _ _ _ _ _ _ _ _ _) ?_) | fail)
  refine bodyPost_ret (results_el rfl _ _ w.heap.size _ _ _ _ rfl rfl (HB3.out.row _)) rfl ?_
  have hz := HX3.out.setRow (Nat.le_refl _) #[Value.slice A1 n1 c1, .slice A2 n2 c2, .slice A3 n3 c3]
  have hy := (HY3.out.mds [w.heap.size]).setRow (g := w.heap.size) (by simp) #[Value.slice A1 n1 c1, .slice A2 n2 c2, .slice A3 n3 c3]
  have ha : Ap ds [w.heap.size] := fun k hk h1 => by
    have := HI.out k hk
    rw [List.mem_singleton.1 h1] at this
    exact Nat.lt_irrefl _ this
  exact ⟨_, _, _, _, _, _, _, _, _, rfl, Q1.out.mds hy (j1.off ha), Q2.out.mds hy (j2.off ha), Q3.out.mds hy (j3.off ha), j1, j2, j3, hz⟩
end
end Go.Proofs.YtkdjhklnlnfhfaaGreatDoor
namespace Go.Proofs.YtkdjhklnlnfhfaaGreatDoor
open Go Go.RowKit
set_option maxRecDepth 4000

section
variable {w : World} {p : Nat} {m : BitVec 8} {G : List Nat} {rest : List (BitVec 8)} {bs : List (List (BitVec 8))}
/-- what marked tells where the element that is asked for isn't there -/
def erC (rest : List (BitVec 8)) (m : BitVec 8) : Nat := if rest.length = 0 then 13 else if gb rest 0 = m then 2 else 6
theorem marked_bad (kd : Bool) (h : Rr w p G rest bs) (hx : rest.length ≤ 1000000000000) (he : ¬ (kd = true ∧ ∃ x r, El rest m x r)) : Calls Tryz.prog 153 #[.pointer (some ⟨p, 0, none⟩), .int .u8 (ub m), .bool kd] w (ElN w (erC rest m)) := by
  unfold erC
  by_cases h0 : rest.length = 0
  · obtain rfl : rest = [] := List.eq_nil_of_length_eq_zero h0
    rw [if_pos h0]
    exact marked_none h
  · rw [if_neg h0]
    have hr : rest ≠ [] := fun e => h0 (by rw [e]; rfl)
    by_cases hm : gb rest 0 = m
    · rw [if_pos hm]
      by_cases hel : ∃ m' x r, El rest m' x r
      · obtain ⟨m', x, r, hel⟩ := hel
        obtain rfl : m = m' := by rw [← hm]; exact (el_parts hel).1
        cases kd with
        | false => exact marked_other h hx hel
        | true => exact absurd ⟨rfl, x, r, hel⟩ he
      · exact marked_form h hr hm hx hel
    · rw [if_neg hm]
      exact marked_kind h hr hm
set_option maxHeartbeats 2000000 in
theorem Take_err (h : Rr w p G rest bs) (hx : rest.length ≤ 1000000000000) (he : ¬ (isP m = true ∧ ∃ x r, El rest m x r)) : Calls Tryz.prog 157 #[.pointer (some ⟨p, 0, none⟩), .int .u8 (ub m)] w fun e w' => e = .returned (.tuple #[.slice none 0 0, err (erC rest m)]) ∧ Ext w w' := by
  have C := Kp.mk (marked_bad (m := m) (isP m) h hx he)
  generalize erC rest m = k at *
  obtain ⟨kd, hk⟩ : ∃ kd, isP m = kd := ⟨_, rfl⟩
  rw [hk] at C
  clear h hx he
  go_enter Tryz.func157, Tryz.ntmps157
  go_wp2_with (first | (go_at_call 196; refine (isPart_any m kd hk _).mono ?_; rintro e w1 ⟨rfl, rfl⟩) | (go_at_call 153; refine C.out.mono ?_; rintro e w2 ⟨rfl, hx2⟩; have HX2 := Kp.mk hx2; have HN2 := Kp.mk (Blk.new w2 elt #[.slice none 0 0, .slice none 0 0, .slice none 0 0]); clear hx2) | ((with_reducible refine at_store 6 14 ?_); refine wpList_store_row rfl elt _ _ rfl w2.heap.size #[.slice none 0 0, .slice none 0 0, .slice none 0 0] rfl rfl elt _ HN2.out.h szEl rfl (one_three _ _ _ _ _ _ _ _ _) ?_) | fail)
  go_ret2
  exact ⟨rfl, HX2.out.trans (Ext.setRow ((by (repeat (first | assumption | exact Ext.refl _ | apply Ext.drew | apply Ext.drewN | apply Ext.alloc | refine Ext.trans ?_ (by assumption))); first | done | fail) : Ext w2 (w2.alloc (.cells #[.slice none 0 0, .slice none 0 0, .slice none 0 0] elt))) (Nat.le_refl _) _)⟩
/-- how Take answers where it takes -/
def TakR (w : World) (p : Nat) (G : List Nat) (x r : List (BitVec 8)) (bs : List (List (BitVec 8))) (e : Ending) (w' : World) : Prop :=
  ∃ A n c, e = .returned (.tuple #[.slice A n c, .nilIface]) ∧ Own w' w.heap.size (.slice A n c) n x ∧ Rr w' p G r bs ∧ Mds G w w'
set_option maxHeartbeats 4000000 in
theorem Take_ok {x r : List (BitVec 8)} (h : Rr w p G rest bs) (hx : rest.length ≤ 1000000000000) (hm : isP m = true) (he : El rest m x r) : Calls Tryz.prog 157 #[.pointer (some ⟨p, 0, none⟩), .int .u8 (ub m)] w (TakR w p G x r bs) := by
  obtain ⟨ds, A, n, c, vb, ts, h, rfl⟩ := h
  have C := Kp.mk (marked_ok h hx he)
  have hc0 := fun (w' : World) (hx : Ext w w') => h.blk.cell hx 0
  have hf0 := fun (w' : World) (hx : Ext w w') => h.blk.free hx 0
  have hxl := Kp.mk he.2.1
  have H := Kp.mk h
  have HPL := Kp.mk h.blk.lt
  clear h hx he
  go_enter Tryz.func157, Tryz.ntmps157
  go_wp2_with (first | (go_at_call 196; refine (isPart_any m true hm _).mono ?_; rintro e w1 ⟨rfl, rfl⟩) | (go_at_call 153; refine C.out.mono ?_; rintro e w2 ⟨A1, n1, c1, A2, n2, c2, A3, n3, c3, rfl, q1, q2, q3, j1, j2, j3, hx2⟩; have HX2 := Kp.mk hx2; have HN2 := Kp.mk (Blk.new w2 elt #[.slice none 0 0, .slice none 0 0, .slice none 0 0]); have HN3 := Kp.mk ((Blk.new w2 elt #[.slice none 0 0, .slice none 0 0, .slice none 0 0]).row #[.slice A1 n1 c1, .slice A2 n2 c2, .slice A3 n3 c3]); have HY3 := Kp.mk (Ext.setRow ((by (repeat (first | assumption | exact Ext.refl _ | apply Ext.drew | apply Ext.drewN | apply Ext.alloc | refine Ext.trans ?_ (by assumption))); first | done | fail) : Ext w2 (w2.alloc (.cells #[.slice none 0 0, .slice none 0 0, .slice none 0 0] elt))) (Nat.le_refl _) #[.slice A1 n1 c1, .slice A2 n2 c2, .slice A3 n3 c3]); have Q2 := Kp.mk q2; have Q3 := Kp.mk q3; have J2 := Kp.mk j2; have J3 := Kp.mk j3; clear q1 q2 q3 j1 j2 j3 hx2) | ((with_reducible refine at_store 6 14 ?_); refine wpList_store_row rfl elt _ _ rfl w2.heap.size #[.slice A1 n1 c1, .slice A2 n2 c2, .slice A3 n3 c3] rfl rfl elt _ HN2.out.h szEl rfl (one_three _ _ _ _ _ _ _ _ _) ?_; generalize (w2.alloc (.cells #[.slice none 0 0, .slice none 0 0, .slice none 0 0] elt)).setRow w2.heap.size #[.slice A1 n1 c1, .slice A2 n2 c2, .slice A3 n3 c3] = w3 at *; have HX3 := Kp.mk (HX2.out.trans HY3.out); have hk2 := HN3.out.h.cell 2; have hc3 := hc0 w3 HX3.out; have hf3 := hf0 w3 HX3.out; have hne : w2.heap.size ≠ p := fun e => Nat.lt_irrefl _ (Nat.lt_of_lt_of_le HPL.out (e ▸ HX2.out.size)); have hk1 := (HN3.out.far (p := ⟨p, 0, none⟩) hne (.slice A3 n3 c3)).h.cell 1; have W4 := Kp.mk ((H.out.ext HX3.out).put (Q3.out.ext HY3.out) J3.out); have CL := Kp.mk (Clone_any ((Q2.out.ext HY3.out).mds ((Mds.refl [p] w3).setCell (p := ⟨p, 0, none⟩) (by simp) (.slice A3 n3 c3)) (J2.out.off (fun k hk h1 => H.out.apd k hk (by rw [List.mem_singleton.1 h1]; simp)))) (by have h1 := Q2.out.len; have h2 := hxl.out; omega)); clear hne) | (go_at_call 152; refine CL.out.mono ?_; rintro e w5 ⟨A5, c5, rfl, hs5, ho5, hx5⟩) | fail)
  go_ret2
  exact ⟨_, _, _, rfl, ho5.lower (Nat.le_trans HX3.out.size W4.out.2.m.size), ⟨_, _, _, _, _, _, W4.out.1.ext hx5, rfl⟩, (HX3.out.mds _).trans (W4.out.2.m.trans (hx5.mds _))⟩
end
end Go.Proofs.YtkdjhklnlnfhfaaGreatDoor
namespace Go.Proofs.YtkdjhklnlnfhfaaGreatDoor
open Go Go.RowKit
set_option maxRecDepth 4000

/-- what stands there, and what stands behind, both turned -/
theorem Rt.both {w w' : World} {p : Nat} {ds : List Nat} {A A' : Option Addr} {n c n' c' : Nat} {vb vb' : Value} {rest rest' : List (BitVec 8)} {ts ts' : List (Option Addr × Nat × Nat)} {bs bs' : List (List (BitVec 8))} (h : Rt w p ds A n c vb rest ts bs)
    (hr : Bs w A' n' c' rest') (hi : In A' n' ds) (hm : Mvs (fpv vb) (fpv vb') w w') (ho : Rw 39 eSl w' 0 vb' ts'.length ts') (hlen : ts'.length = bs'.length)
    (he : ∀ (j : Nat) (t : Option Addr × Nat × Nat) (l : List (BitVec 8)), ts'[j]? = some t → bs'[j]? = some l → Bs w t.1 t.2.1 t.2.2 l ∧ In t.1 t.2.1 ds) :
    Rt ((w'.setCell ⟨p, 0, none⟩ (.slice A' n' c')).setCell ⟨p, 1, none⟩ vb') p ds A' n' c' vb' rest' ts' bs' ∧ Mvs (fpR p vb ds) (fpR p vb' ds) w ((w'.setCell ⟨p, 0, none⟩ (.slice A' n' c')).setCell ⟨p, 1, none⟩ vb') := by
  have hm2 : Mds (p :: fpv vb) w ((w'.setCell ⟨p, 0, none⟩ (.slice A' n' c')).setCell ⟨p, 1, none⟩ vb') := ((hm.m.mono fun k hk => List.mem_cons_of_mem _ hk).setCell (p := ⟨p, 0, none⟩) (by simp) _).setCell (p := ⟨p, 1, none⟩) (by simp) _
  have h1 := h.blk.mds hm.m (h.bo.ne h.blk (by decide))
  have hne : vb'.ownBlock ≠ some p := fun e => ho.ne h1 (by decide) (mem_fpv.2 e)
  refine ⟨⟨(h1.set_ 0 _).set_ 1 _, hr.mds hm2 (hi.off h.apd), hi, (ho.far (p := ⟨p, 0, none⟩) hne _).far (p := ⟨p, 1, none⟩) hne _, hlen, fun j t l h2 h3 => ?_, fun k hk hk2 => ?_, h.hid.mono hm2.size⟩, hm2.mono fun k hk => ?_, fun k hk => ?_⟩
  · obtain ⟨h4, h5⟩ := he j t l h2 h3
    exact ⟨h4.mds hm2 (h5.off h.apd), h5⟩
  · rcases List.mem_cons.1 hk2 with e | e
    · exact h.apd k hk (e ▸ by simp)
    · rcases hm.f k e with e2 | e2
      · exact h.apd k hk (List.mem_cons_of_mem _ e2)
      · have := h.hid k hk; omega
  · rcases List.mem_cons.1 hk with e | e
    · exact mem_fpR.2 (.inl e)
    · exact mem_fpR.2 (.inr (.inl e))
  · rcases mem_fpR.1 hk with e | e | e
    · exact .inl (mem_fpR.2 (.inl e))
    · rcases hm.f k e with e2 | e2
      · exact .inl (mem_fpR.2 (.inr (.inl e2)))
      · exact .inr e2
    · exact .inl (mem_fpR.2 (.inr (.inr e)))
theorem lit_rdT (w : World) (A : Option Addr) (n c g : Nat) (hg : g = w.heap.size) : Rd eSl (w.alloc (.cells #[.slice A n c] 39)) (some ⟨g, 0, none⟩) 1 1 [(A, n, c)] := by
  subst hg
  refine ⟨rfl, Nat.le_refl _, (fun e => by cases e), fun _ => ⟨w.heap.size, 0, rfl, fun j y hj => ?_⟩⟩
  have hj0 : j = 0 := by have := (List.getElem?_eq_some_iff.1 hj).1; simp at this; exact this
  subst hj0
  obtain rfl : (A, n, c) = y := by simpa using hj
  exact (Blk.new w 39 #[.slice A n c]).h.cell 0
section
variable {w : World} {p : Nat} {m : BitVec 8} {G : List Nat} {rest : List (BitVec 8)} {bs : List (List (BitVec 8))}
set_option maxHeartbeats 2000000 in
theorem Enter_err (h : Rr w p G rest bs) (hx : rest.length ≤ 1000000000000) (he : ¬ (isW m = true ∧ ∃ x r, El rest m x r)) : Calls Tryz.prog 106 #[.pointer (some ⟨p, 0, none⟩), .int .u8 (ub m)] w fun e w' => e = .returned (err (erC rest m)) ∧ Ext w w' := by
  have C := Kp.mk (marked_bad (m := m) (isW m) h hx he)
  generalize erC rest m = k at *
  obtain ⟨kd, hk⟩ : ∃ kd, isW m = kd := ⟨_, rfl⟩
  rw [hk] at C
  clear h hx he
  go_enter Tryz.func106, Tryz.ntmps106
  go_wp2_with (first | (go_at_call 154; refine (isWhole_any m kd hk _).mono ?_; rintro e w1 ⟨rfl, rfl⟩) | (go_at_call 153; refine C.out.mono ?_; rintro e w2 ⟨rfl, hx2⟩; have HX2 := Kp.mk hx2; have HN2 := Kp.mk (Blk.new w2 elt #[.slice none 0 0, .slice none 0 0, .slice none 0 0]); clear hx2) | ((with_reducible refine at_store 5 13 ?_); refine wpList_store_row rfl elt _ _ rfl w2.heap.size #[.slice none 0 0, .slice none 0 0, .slice none 0 0] rfl rfl elt _ HN2.out.h szEl rfl (one_three _ _ _ _ _ _ _ _ _) ?_) | fail)
  go_ret
  exact ⟨rfl, HX2.out.trans (Ext.setRow ((by (repeat (first | assumption | exact Ext.refl _ | apply Ext.drew | apply Ext.drewN | apply Ext.alloc | refine Ext.trans ?_ (by assumption))); first | done | fail) : Ext w2 (w2.alloc (.cells #[.slice none 0 0, .slice none 0 0, .slice none 0 0] elt))) (Nat.le_refl _) _)⟩
set_option maxHeartbeats 4000000 in
theorem Enter_deep {x r : List (BitVec 8)} (h : Rr w p G rest bs) (hx : rest.length ≤ 1000000000000) (hm : isW m = true) (he : El rest m x r) (hd : 24 ≤ bs.length) : Calls Tryz.prog 106 #[.pointer (some ⟨p, 0, none⟩), .int .u8 (ub m)] w fun e w' => e = .returned (err 5) ∧ Ext w w' := by
  obtain ⟨ds, A, n, c, vb, ts, h, rfl⟩ := h
  have C := Kp.mk (marked_ok h hx he)
  obtain ⟨Ab, cb, rfl⟩ := h.bo.form
  have hln := h.len
  obtain ⟨M, hM⟩ : ∃ M, ts.length = M := ⟨_, rfl⟩
  have hc1 := fun (w' : World) (hx : Ext w w') => h.blk.cell hx 1
  rw [hM] at hln hc1
  have b1 : (24 : Int) ≤ (M : Int) := by omega
  have b1' : 24 ≤ M := by omega
  clear h hx he hln hM hd
  go_enter Tryz.func106, Tryz.ntmps106
  go_wp2_with (first | (go_at_call 154; refine (isWhole_any m true hm _).mono ?_; rintro e w1 ⟨rfl, rfl⟩) | (go_at_call 153; refine C.out.mono ?_; rintro e w2 ⟨A1, n1, c1, A2, n2, c2, A3, n3, c3, rfl, q1, q2, q3, j1, j2, j3, hx2⟩; have HX2 := Kp.mk hx2; have HN2 := Kp.mk (Blk.new w2 elt #[.slice none 0 0, .slice none 0 0, .slice none 0 0]); have HN3 := Kp.mk ((Blk.new w2 elt #[.slice none 0 0, .slice none 0 0, .slice none 0 0]).row #[.slice A1 n1 c1, .slice A2 n2 c2, .slice A3 n3 c3]); have HY3 := Kp.mk (Ext.setRow ((by (repeat (first | assumption | exact Ext.refl _ | apply Ext.drew | apply Ext.drewN | apply Ext.alloc | refine Ext.trans ?_ (by assumption))); first | done | fail) : Ext w2 (w2.alloc (.cells #[.slice none 0 0, .slice none 0 0, .slice none 0 0] elt))) (Nat.le_refl _) #[.slice A1 n1 c1, .slice A2 n2 c2, .slice A3 n3 c3]); have Q2 := Kp.mk q2; have Q3 := Kp.mk q3; have J2 := Kp.mk j2; have J3 := Kp.mk j3; clear q1 q2 q3 j1 j2 j3 hx2) | ((with_reducible refine at_store 5 13 ?_); refine wpList_store_row rfl elt _ _ rfl w2.heap.size #[.slice A1 n1 c1, .slice A2 n2 c2, .slice A3 n3 c3] rfl rfl elt _ HN2.out.h szEl rfl (one_three _ _ _ _ _ _ _ _ _) ?_; generalize (w2.alloc (.cells #[.slice none 0 0, .slice none 0 0, .slice none 0 0] elt)).setRow w2.heap.size #[.slice A1 n1 c1, .slice A2 n2 c2, .slice A3 n3 c3] = w3 at *; have HX3 := Kp.mk (HX2.out.trans HY3.out); have hc31 := hc1 w3 HX3.out) | fail)
  go_ret
  exact ⟨rfl, HX3.out⟩
set_option maxHeartbeats 4000000 in
theorem Enter_ok {x r : List (BitVec 8)} (h : Rr w p G rest bs) (hx : rest.length ≤ 1000000000000) (hm : isW m = true) (he : El rest m x r) (hd : bs.length < 24) : Calls Tryz.prog 106 #[.pointer (some ⟨p, 0, none⟩), .int .u8 (ub m)] w fun e w' => e = .returned .nilIface ∧ ∃ G', Rr w' p G' x (bs ++ [r]) ∧ Mvs G G' w w' := by
  obtain ⟨ds, A, n, c, vb, ts, h, rfl⟩ := h
  have C := Kp.mk (marked_ok h hx he)
  obtain ⟨Ab, cb, rfl⟩ := h.bo.form
  have hln := h.len
  obtain ⟨M, hM⟩ : ∃ M, ts.length = M := ⟨_, rfl⟩
  rw [hM] at h hln ⊢
  have hc1 := fun (w' : World) (hx : Ext w w') => h.blk.cell hx 1
  have hlo : ∀ (w3 : World), Ext w w3 → ∀ (w' : World), Mds (fpv (.slice Ab M cb)) w3 w' → Blk w' p rdt #[.slice A n c, .slice Ab M cb] := fun w3 hx w' hm => (h.ext hx).blk.mds hm ((h.ext hx).bo.ne (h.ext hx).blk (by decide))
  have b1 : decide ((24 : Int) ≤ (M : Int)) = false := decide_eq_false (by omega)
  have b2 : decide (24 ≤ M) = false := decide_eq_false (by omega)
  have b3 : (M + 1) * 24 ≤ 140737488355328 := by omega
  have H := Kp.mk h
  have HM := Kp.mk hM
  have HLN := Kp.mk hln
  have HLO := Kp.mk hlo
  have HFP : Kp (∀ k, k ∈ fpv (.slice Ab M cb) → k < w.heap.size) := ⟨h.bo.fp_lt⟩
  clear h hx he hln hM hd hlo
  go_enter Tryz.func106, Tryz.ntmps106
  go_wp2_with (first | (go_at_call 154; refine (isWhole_any m true hm _).mono ?_; rintro e w1 ⟨rfl, rfl⟩) | (go_at_call 153; refine C.out.mono ?_; rintro e w2 ⟨A1, n1, c1, A2, n2, c2, A3, n3, c3, rfl, q1, q2, q3, j1, j2, j3, hx2⟩; have HX2 := Kp.mk hx2; have HN2 := Kp.mk (Blk.new w2 elt #[.slice none 0 0, .slice none 0 0, .slice none 0 0]); have HN3 := Kp.mk ((Blk.new w2 elt #[.slice none 0 0, .slice none 0 0, .slice none 0 0]).row #[.slice A1 n1 c1, .slice A2 n2 c2, .slice A3 n3 c3]); have HY3 := Kp.mk (Ext.setRow ((by (repeat (first | assumption | exact Ext.refl _ | apply Ext.drew | apply Ext.drewN | apply Ext.alloc | refine Ext.trans ?_ (by assumption))); first | done | fail) : Ext w2 (w2.alloc (.cells #[.slice none 0 0, .slice none 0 0, .slice none 0 0] elt))) (Nat.le_refl _) #[.slice A1 n1 c1, .slice A2 n2 c2, .slice A3 n3 c3]); have Q2 := Kp.mk q2; have Q3 := Kp.mk q3; have J2 := Kp.mk j2; have J3 := Kp.mk j3; clear q1 q2 q3 j1 j2 j3 hx2) | ((with_reducible refine at_store 5 13 ?_); refine wpList_store_row rfl elt _ _ rfl w2.heap.size #[.slice A1 n1 c1, .slice A2 n2 c2, .slice A3 n3 c3] rfl rfl elt _ HN2.out.h szEl rfl (one_three _ _ _ _ _ _ _ _ _) ?_; generalize (w2.alloc (.cells #[.slice none 0 0, .slice none 0 0, .slice none 0 0] elt)).setRow w2.heap.size #[.slice A1 n1 c1, .slice A2 n2 c2, .slice A3 n3 c3] = w3 at *; have HX3 := Kp.mk (HX2.out.trans HY3.out); have hc31 := hc1 w3 HX3.out) | fail)
  have hl0 := fun (w' : World) (hm : Mds (fpv (.slice Ab M cb)) w3 w') => (HLO.out w3 HX3.out w' hm).h.cell 0
  have hl1 := fun (w' : World) (hm : Mds (fpv (.slice Ab M cb)) w3 w') => (HLO.out w3 HX3.out w' hm).h.cell 1
  have hfe : w2.heap.size ∉ fpv (.slice Ab M cb) := fun hk => Nat.lt_irrefl _ (Nat.lt_of_lt_of_le (HFP.out _ hk) HX2.out.size)
  have he1 := fun (w' : World) (hm : Mds (fpv (.slice Ab M cb)) w3 w') => (HN3.out.mds hm hfe).h.cell 1
  have he2 := fun (w' : World) (hm : Mds (fpv (.slice Ab M cb)) w3 w') => (HN3.out.mds hm hfe).h.cell 2
  refine wp_region_R (st := fun s => s == 14 || s == 17) (R := fun w' => Mds (fpv (.slice Ab M cb)) w3 w') (by kernel_rfl) (Mds.refl _ _).drew (fun hR => ?_)
  refine wpAnyR_take0 (i := 0) (oi := ⟨some 25, _, _, _, _, _⟩) (v := ?_) rfl (by kernel_rfl) (by kernel_rfl) (by kernel_rfl) rfl (fun _ _ _ h => h) (Or.inl ⟨by rfl, ?_⟩) (by first | exact .inr (by assumption) | exact .inl (by kernel_rfl)) ?_
  rotate_left
  · (intro w hSw; (try dsimp only at hSw); go_simp; try with_reducible rfl)
  try simp only [Act.put, List.setIfInBounds_toArray, List.set_cons_zero, List.set_cons_succ]
  refine wpAnyR_take0 (i := 1) (oi := ⟨some 26, _, _, _, _, _⟩) (v := ?_) rfl (by kernel_rfl) (by kernel_rfl) (by kernel_rfl) rfl (fun _ _ _ h => h) (Or.inl ⟨by rfl, ?_⟩) (by first | exact .inr (by assumption) | exact .inl (by kernel_rfl)) ?_
  rotate_left
  · (intro w hSw; (try dsimp only at hSw); go_simp; try with_reducible rfl)
  try simp only [Act.put, List.setIfInBounds_toArray, List.set_cons_zero, List.set_cons_succ]
  refine wpAnyR_take0 (i := 2) (oi := ⟨some 27, _, _, _, _, _⟩) (v := ?_) rfl (by kernel_rfl) (by kernel_rfl) (by kernel_rfl) rfl (fun _ _ _ h => h) (Or.inl ⟨by rfl, ?_⟩) (by first | exact .inr (by assumption) | exact .inl (by kernel_rfl)) ?_
  rotate_left
  · (intro w hSw; (try dsimp only at hSw); go_simp; try with_reducible rfl)
  try simp only [Act.put, List.setIfInBounds_toArray, List.set_cons_zero, List.set_cons_succ]
  refine wpAnyR_take (i := 3) (oi := ⟨some 28, _, _, _, _, _⟩) (v := ?_) rfl (by kernel_rfl) (by kernel_rfl) (by kernel_rfl) rfl (by kernel_rfl) (by kernel_rfl) (fun _ _ _ h => h) (Or.inl ⟨by rfl, ?_⟩) (by assumption) ?_
  rotate_left
  · (intro w hSw; (try dsimp only at hSw); go_simp; try with_reducible rfl)
  try simp only [Act.put, List.setIfInBounds_toArray, List.set_cons_zero, List.set_cons_succ]
  refine wpAnyR_take0 (i := 4) (oi := ⟨some 29, _, _, _, _, _⟩) (v := ?_) rfl (by kernel_rfl) (by kernel_rfl) (by kernel_rfl) rfl (fun _ _ _ h => h) (Or.inl ⟨by rfl, ?_⟩) (by first | exact .inr (by assumption) | exact .inl (by kernel_rfl)) ?_
  rotate_left
  · (intro w hSw; (try dsimp only at hSw); go_simp; try with_reducible rfl)
  try simp only [Act.put, List.setIfInBounds_toArray, List.set_cons_zero, List.set_cons_succ]
  refine wpAnyR_take0 (i := 5) (oi := ⟨some 30, _, _, _, _, _⟩) (v := ?_) rfl (by kernel_rfl) (by kernel_rfl) (by kernel_rfl) rfl (fun _ _ _ h => h) (Or.inl ⟨by rfl, ?_⟩) (by first | exact .inr (by assumption) | exact .inl (by kernel_rfl)) ?_
  rotate_left
  · (intro w hSw; (try dsimp only at hSw); go_simp; try with_reducible rfl)
  try simp only [Act.put, List.setIfInBounds_toArray, List.set_cons_zero, List.set_cons_succ]
  refine wpAnyR_take0 (i := 6) (oi := ⟨some 31, _, _, _, _, _⟩) (v := ?_) rfl (by kernel_rfl) (by kernel_rfl) (by kernel_rfl) rfl (fun _ _ _ h => h) (Or.inl ⟨by rfl, ?_⟩) (by first | exact .inr (by assumption) | exact .inl (by kernel_rfl)) ?_
  rotate_left
  · (intro w hSw; (try dsimp only at hSw); go_simp; try with_reducible rfl)
  try simp only [Act.put, List.setIfInBounds_toArray, List.set_cons_zero, List.set_cons_succ]
  refine wpAnyR_take (i := 7) (oi := ⟨some 32, _, _, _, _, _⟩) (v := ?_) rfl (by kernel_rfl) (by kernel_rfl) (by kernel_rfl) rfl (by kernel_rfl) (by kernel_rfl) (fun _ _ _ h => h) (Or.inl ⟨by rfl, ?_⟩) (by assumption) ?_
  rotate_left
  · (intro w hSw; (try dsimp only at hSw); go_simp; try with_reducible rfl)
  try simp only [Act.put, List.setIfInBounds_toArray, List.set_cons_zero, List.set_cons_succ]
  refine wpAnyR_take0 (i := 8) (oi := ⟨some 33, _, _, _, _, _⟩) (v := ?_) rfl (by kernel_rfl) (by kernel_rfl) (by kernel_rfl) rfl (fun _ _ _ h => h) (Or.inl ⟨by rfl, ?_⟩) (by first | exact .inr (by assumption) | exact .inl (by kernel_rfl)) ?_
  rotate_left
  · (intro w hSw; (try dsimp only at hSw); go_simp; try with_reducible rfl)
  try simp only [Act.put, List.setIfInBounds_toArray, List.set_cons_zero, List.set_cons_succ]
  have hev := he2 _ hR
  refine nextR 9 (by kernel_rfl) rfl (by rfl) fun K' HK' => ?_
  go_simp
  refine held_go HK' (.inr (hR)) (fun _ => ?_)
  clear HK'
  try simp only [Act.put, List.setIfInBounds_toArray, List.set_cons_zero, List.set_cons_succ]
  have HR := Kp.mk hR
  clear hR
  refine nextR 10 (by kernel_rfl) rfl (by rfl) fun K' HK' => ?_
  go_simp
  refine held_go HK' (.inr (HR.out.alloc _)) (fun _ => ?_)
  clear HK'
  try simp only [Act.put, List.setIfInBounds_toArray, List.set_cons_zero, List.set_cons_succ]
  refine nextR 11 (by kernel_rfl) rfl (by rfl) fun K' HK' => ?_
  have hx4 : Ext w3 ((w3.alloc (.cells #[.slice A3 n3 c3] 39)).drew) := (by (repeat (first | assumption | exact Ext.refl _ | apply Ext.drew | apply Ext.drewN | apply Ext.alloc | refine Ext.trans ?_ (by assumption))); first | done | fail)
  refine wp_append_r 108 (.slice none 0 0) 24 Tryz.underlying108 inR rfl (by decide) eSl_one (.tmp 32) (.tmp 35) rfl (.slice Ab M cb) M ts rfl (by have h := (H.out.ext (HX3.out.trans hx4)).bo; rw [HM.out] at h; exact h) _ 1 1 [(A3, n3, c3)] rfl ((lit_rdT w3 A3 n3 c3 _ rfl).ext (by (repeat (first | assumption | exact Ext.refl _ | apply Ext.drew | apply Ext.drewN | apply Ext.alloc | refine Ext.trans ?_ (by assumption))); first | done | fail)) b3 (M + 1) rfl (ts ++ [(A3, n3, c3)]) rfl ?_
  intro A4 c4 w4 ho4 ha4
  have m4 := (hx4.mds (fpv (.slice Ab M cb))).trans ha4.mds
  have v4 : Mvs (fpv (.slice Ab M cb)) (fpv (.slice A4 (M + 1) c4)) w3 w4 := ha4.mv.pre hx4
  have HO4 := Kp.mk ho4
  have HV4 := Kp.mk v4
  have HX4 := Kp.mk hx4
  clear ho4 ha4 v4 hx4
  refine held_go HK' (.inr (m4)) (fun _ => ?_)
  clear HK'
  try simp only [Act.put, List.setIfInBounds_toArray, List.set_cons_zero, List.set_cons_succ]
  refine nextR 12 (by kernel_rfl) rfl (by rfl) fun K' HK' => ?_
  go_simp
  refine held_go HK' (.inr (m4)) (fun _ => ?_)
  clear HK'
  try simp only [Act.put, List.setIfInBounds_toArray, List.set_cons_zero, List.set_cons_succ]
  refine nextR 13 (by kernel_rfl) rfl (by rfl) fun K' HK' => ?_
  go_simp
  refine held_go HK' (.inr (m4)) (fun _ => ?_)
  clear HK'
  try simp only [Act.put, List.setIfInBounds_toArray, List.set_cons_zero, List.set_cons_succ]
  have hcd := hl0 w4 m4
  have hcd1 := hl1 w4 m4
  have hfd := (HLO.out w3 HX3.out w4 m4).h.frozen 0
  have hfd1 := (HLO.out w3 HX3.out w4 m4).h.frozen 1
  refine nextR 14 (by kernel_rfl) rfl (by rfl) fun K' HK' => ?_
  go_simp
  refine held_go HK' (.inl (by kernel_rfl)) (fun _ => ?_)
  clear HK'
  try simp only [Act.put, List.setIfInBounds_toArray, List.set_cons_zero, List.set_cons_succ]
  refine nextR 15 (by kernel_rfl) rfl (by rfl) fun K' HK' => ?_
  go_simp
  refine held_go HK' (.inl (by kernel_rfl)) (fun _ => ?_)
  clear HK'
  try simp only [Act.put, List.setIfInBounds_toArray, List.set_cons_zero, List.set_cons_succ]
  refine nextR 16 (by kernel_rfl) rfl (by rfl) fun K' HK' => ?_
  go_simp
  refine held_go HK' (.inl (by kernel_rfl)) (fun _ => ?_)
  clear HK'
  try simp only [Act.put, List.setIfInBounds_toArray, List.set_cons_zero, List.set_cons_succ]
  refine nextR 17 (by kernel_rfl) rfl (by rfl) fun K' HK' => ?_
  go_simp
  refine held_go HK' (.inl (by kernel_rfl)) (fun _ => ?_)
  clear HK'
  try simp only [Act.put, List.setIfInBounds_toArray, List.set_cons_zero, List.set_cons_succ]
  refine wpAnyR_done (by kernel_rfl) ?_ _
  clear hl0 hl1 he1 he2 hcd hcd1 hfd hfd1 hc1
  go_wp2_with fail
  go_ret
  have P := (H.out.ext HX3.out).both (bs' := bs ++ [r]) (ts' := ts ++ [(A3, n3, c3)]) (Q2.out.ext HY3.out) J2.out HV4.out (by rw [List.length_append, HM.out]; exact HO4.out) (by rw [List.length_append, List.length_append, HM.out, HLN.out]; rfl) (fun j t l h1 h2 => by
    by_cases hj : j < M
    · rw [List.getElem?_append_left (by rw [HM.out]; exact hj)] at h1
      rw [List.getElem?_append_left (by rw [← HLN.out]; exact hj)] at h2
      exact (H.out.ext HX3.out).each j t l h1 h2
    · rw [List.getElem?_append_right (by rw [HM.out]; omega)] at h1
      rw [List.getElem?_append_right (by rw [← HLN.out]; omega)] at h2
      have hj0 : j - ts.length = 0 := by have := (List.getElem?_eq_some_iff.1 h1).1; simp at this; omega
      have hj1 : j - bs.length = 0 := by have := (List.getElem?_eq_some_iff.1 h2).1; simp at this; omega
      rw [hj0] at h1
      rw [hj1] at h2
      obtain rfl : (A3, n3, c3) = t := by simpa using h1
      obtain rfl : r = l := by simpa using h2
      exact ⟨Q3.out.ext HY3.out, J3.out⟩)
  exact ⟨rfl, _, ⟨_, _, _, _, _, _, P.1.ext (by (repeat (first | assumption | exact Ext.refl _ | apply Ext.drew | apply Ext.drewN | apply Ext.alloc | refine Ext.trans ?_ (by assumption))); first | done | fail), rfl⟩, (P.2.post (by (repeat (first | assumption | exact Ext.refl _ | apply Ext.drew | apply Ext.drewN | apply Ext.alloc | refine Ext.trans ?_ (by assumption))); first | done | fail)).pre HX3.out⟩
end
end Go.Proofs.YtkdjhklnlnfhfaaGreatDoor
namespace Go.Proofs.YtkdjhklnlnfhfaaGreatDoor
open Go
set_option maxRecDepth 4000

/-- the value of digits -/
def vl (B : Nat) : List Nat → Nat
  | [] => 0
  | d :: l => d + B * vl B l
/-- digits below the base -/
def Dg (B : Nat) (l : List Nat) : Prop := ∀ d ∈ l, d < B
/-- .. and none of 0 at the end -/
structure Cn (B : Nat) (l : List Nat) : Prop where
  d : Dg B l
  t : l.getLast? ≠ some 0
def dg (l : List Nat) (i : Nat) : Nat := l.getD i 0
theorem dg_in (l : List Nat) (i : Nat) (h : i < l.length) : l[i]? = some (dg l i) := by simp [dg, h]
theorem dg_out (l : List Nat) (i : Nat) (h : l.length ≤ i) : dg l i = 0 := by simp [dg, h]
theorem Dg.at {B : Nat} {l : List Nat} (h : Dg B l) (hB : 0 < B) (i : Nat) : dg l i < B := by
  by_cases hi : i < l.length
  · have e : dg l i = l[i] := by simp [dg, hi]
    rw [e]
    exact h _ (List.getElem_mem hi)
  · rw [dg_out l i (by omega)]; exact hB
theorem Dg.nil (B : Nat) : Dg B [] := fun _ h => by cases h
theorem Dg.append {B : Nat} {a b : List Nat} (ha : Dg B a) (hb : Dg B b) : Dg B (a ++ b) := fun d hd => by
  rcases List.mem_append.1 hd with h | h
  · exact ha d h
  · exact hb d h
theorem Dg.one {B d : Nat} (h : d < B) : Dg B [d] := fun x hx => by
  obtain rfl := List.mem_singleton.1 hx
  exact h
theorem Dg.take {B : Nat} {l : List Nat} (h : Dg B l) (n : Nat) : Dg B (l.take n) := fun d hd => h d (List.mem_of_mem_take hd)
theorem Dg.drop {B : Nat} {l : List Nat} (h : Dg B l) (n : Nat) : Dg B (l.drop n) := fun d hd => h d (List.mem_of_mem_drop hd)
theorem Dg.set {B : Nat} {l : List Nat} (h : Dg B l) (i x : Nat) (hx : x < B) : Dg B (l.set i x) := fun d hd => by
  rcases List.mem_or_eq_of_mem_set hd with h1 | rfl
  · exact h d h1
  · exact hx
theorem vl_append (B : Nat) (a b : List Nat) : vl B (a ++ b) = vl B a + B ^ a.length * vl B b := by
  induction a with
  | nil => simp [vl]
  | cons d l ih =>
    rw [List.cons_append, vl, vl, ih, List.length_cons, Nat.pow_succ, Nat.mul_add, Nat.add_assoc, Nat.mul_comm (B ^ l.length) B, Nat.mul_assoc]
theorem vl_snoc (B : Nat) (a : List Nat) (d : Nat) : vl B (a ++ [d]) = vl B a + B ^ a.length * d := by
  rw [vl_append]; simp [vl]
theorem vl_lt {B : Nat} (_hB : 0 < B) {l : List Nat} (h : Dg B l) : vl B l < B ^ l.length := by
  induction l with
  | nil => simp [vl]
  | cons d l ih =>
    have hd : d < B := h d (by simp)
    have hl := ih fun x hx => h x (by simp [hx])
    rw [vl, List.length_cons, Nat.pow_succ, Nat.mul_comm (B ^ l.length) B]
    have h1 : B * (vl B l + 1) ≤ B * B ^ l.length := Nat.mul_le_mul_left B hl
    rw [Nat.mul_add] at h1
    omega
theorem vl_zeros (B n : Nat) : vl B (List.replicate n 0) = 0 := by
  induction n with
  | zero => rfl
  | succ n ih => rw [List.replicate_succ, vl, ih]; simp
theorem take_succ_dg (l : List Nat) (i : Nat) (h : i < l.length) : l.take (i + 1) = l.take i ++ [dg l i] := by
  rw [List.take_add_one, dg_in l i h]; rfl
theorem vl_take_succ (B : Nat) (l : List Nat) (i : Nat) : vl B (l.take (i + 1)) = vl B (l.take i) + B ^ i * dg l i := by
  by_cases h : i < l.length
  · rw [take_succ_dg l i h, vl_snoc, List.length_take, Nat.min_eq_left (by omega)]
  · rw [dg_out l i (by omega), List.take_of_length_le (by omega), List.take_of_length_le (by omega)]; simp
theorem vl_take_all (B : Nat) (l : List Nat) (i : Nat) (h : l.length ≤ i) : vl B (l.take i) = vl B l := by rw [List.take_of_length_le h]
/-- a digit among the others -/
theorem vl_split (B : Nat) (l : List Nat) (i : Nat) (h : i < l.length) : vl B l = vl B (l.take i) + B ^ i * (dg l i + B * vl B (l.drop (i + 1))) := by
  have e : l = l.take i ++ (dg l i :: l.drop (i + 1)) := by
    have e1 : dg l i = l[i] := by simp [dg, h]
    rw [e1, ← List.drop_eq_getElem_cons h, List.take_append_drop]
  rw [congrArg (vl B) e, vl_append, List.length_take, Nat.min_eq_left (by omega), vl]
theorem vl_set (B : Nat) (l : List Nat) (i x : Nat) (h : i < l.length) : vl B (l.set i x) + B ^ i * dg l i = vl B l + B ^ i * x := by
  have h1 := vl_split B (l.set i x) i (by simpa using h)
  have h2 := vl_split B l i h
  have e1 : (l.set i x).take i = l.take i := List.take_set_of_le (Nat.le_refl _)
  have e2 : (l.set i x).drop (i + 1) = l.drop (i + 1) := List.drop_set_of_lt (by omega)
  have e3 : dg (l.set i x) i = x := by simp [dg, h]
  rw [e1, e2, e3] at h1
  rw [h1, h2, Nat.mul_add, Nat.mul_add]
  omega
theorem dg_set (l : List Nat) (i j x : Nat) (h : i < l.length) : dg (l.set i x) j = if j = i then x else dg l j := by
  unfold dg
  rw [List.getD_eq_getElem?_getD, List.getD_eq_getElem?_getD, List.getElem?_set]
  by_cases e : j = i
  · subst e; simp [h]
  · rw [if_neg e, if_neg (fun e1 => e e1.symm)]

theorem Cn.nil (B : Nat) : Cn B [] := ⟨Dg.nil B, by simp⟩
theorem Cn.tail {B d : Nat} {l : List Nat} (h : Cn B (d :: l)) : Cn B l := by
  refine ⟨fun x hx => h.d x (by simp [hx]), fun e => h.t ?_⟩
  cases l with
  | nil => simp at e
  | cons y l => rw [List.getLast?_cons_cons]; exact e
theorem cn_zero {B : Nat} (hB : 0 < B) : ∀ {l : List Nat}, Cn B l → vl B l = 0 → l = []
  | [], _, _ => rfl
  | d :: l, h, e => by
    rw [vl] at e
    have h1 : d = 0 := by omega
    have h2 : vl B l = 0 := by
      have h3 : B * vl B l = 0 := by omega
      rcases Nat.mul_eq_zero.1 h3 with h4 | h4
      · omega
      · exact h4
    have h5 := cn_zero hB h.tail h2
    subst h5 h1
    exact absurd rfl h.t
/-- the shortest form of a value is one -/
theorem cn_unique {B : Nat} (hB : 0 < B) : ∀ {a b : List Nat}, Cn B a → Cn B b → vl B a = vl B b → a = b
  | [], b, _, hb, e => (cn_zero hB hb (by rw [← e]; rfl)).symm
  | d :: l, [], ha, _, e => cn_zero hB ha (by rw [e]; rfl)
  | d :: l, d' :: l', ha, hb, e => by
    have h1 : d < B := ha.d d (by simp)
    have h2 : d' < B := hb.d d' (by simp)
    rw [vl, vl] at e
    have h3 : d = d' := by
      have h4 := congrArg (· % B) e
      simp only [Nat.add_mul_mod_self_left] at h4
      rwa [Nat.mod_eq_of_lt h1, Nat.mod_eq_of_lt h2] at h4
    subst h3
    have h5 : vl B l = vl B l' := Nat.eq_of_mul_eq_mul_left hB (by omega)
    rw [cn_unique hB ha.tail hb.tail h5]
/-- the digits of a number -/
def dgsF (B : Nat) : Nat → Nat → List Nat
  | 0, _ => []
  | f + 1, n => if n = 0 then [] else n % B :: dgsF B f (n / B)
def dgs (B n : Nat) : List Nat := dgsF B n n
theorem dgsF_vl {B : Nat} (hB : 2 ≤ B) : ∀ f n, n ≤ f → vl B (dgsF B f n) = n ∧ Cn B (dgsF B f n)
  | 0, n, h => by
    obtain rfl : n = 0 := by omega
    exact ⟨rfl, Cn.nil B⟩
  | f + 1, n, h => by
    rw [dgsF]
    by_cases h0 : n = 0
    · rw [if_pos h0, h0]; exact ⟨rfl, Cn.nil B⟩
    · rw [if_neg h0]
      have hlt : n / B < n := Nat.div_lt_self (by omega) hB
      obtain ⟨h1, h2⟩ := dgsF_vl hB f (n / B) (by omega)
      refine ⟨by rw [vl, h1]; exact Nat.mod_add_div n B, ⟨fun d hd => ?_, ?_⟩⟩
      · rcases List.mem_cons.1 hd with rfl | hd
        · exact Nat.mod_lt _ (by omega)
        · exact h2.d d hd
      · cases hl : dgsF B f (n / B) with
        | nil =>
          rw [hl] at h1
          have h3 : n / B = 0 := h1.symm
          have h4 : n < B := (Nat.div_eq_zero_iff_lt (by omega)).1 h3
          rw [Nat.mod_eq_of_lt h4]
          simpa using h0
        | cons y l =>
          rw [List.getLast?_cons_cons, ← hl]
          exact h2.t
theorem vl_dgs {B : Nat} (hB : 2 ≤ B) (n : Nat) : vl B (dgs B n) = n := (dgsF_vl hB n n (Nat.le_refl _)).1
theorem cn_dgs {B : Nat} (hB : 2 ≤ B) (n : Nat) : Cn B (dgs B n) := (dgsF_vl hB n n (Nat.le_refl _)).2
theorem dgs_vl {B : Nat} (hB : 2 ≤ B) {l : List Nat} (h : Cn B l) : dgs B (vl B l) = l := cn_unique (by omega) (cn_dgs hB _) h (vl_dgs hB _)
theorem dgs_of {B : Nat} (hB : 2 ≤ B) {l : List Nat} {n : Nat} (h : Cn B l) (e : vl B l = n) : l = dgs B n := by rw [← e, dgs_vl hB h]
theorem dgs_nil {B : Nat} (hB : 2 ≤ B) (n : Nat) : dgs B n = [] ↔ n = 0 := by
  constructor
  · intro h
    have h1 := vl_dgs hB n
    rw [h] at h1
    exact h1.symm
  · intro h; subst h; rfl
/-- cut behind the last digit that isn't 0 -/
theorem cut_cn {B : Nat} (hB : 2 ≤ B) {l : List Nat} (hd : Dg B l) (n : Nat) (hn : n ≤ l.length) (hz : ∀ i, n ≤ i → dg l i = 0) (ht : n = 0 ∨ dg l (n - 1) ≠ 0) : l.take n = dgs B (vl B l) := by
  refine dgs_of hB ⟨hd.take n, fun e => ?_⟩ ?_
  · rcases ht with rfl | ht
    · simp at e
    · by_cases h0 : n = 0
      · subst h0; simp at e
      · obtain ⟨m, rfl⟩ : ∃ m, n = m + 1 := ⟨n - 1, by omega⟩
        rw [take_succ_dg l m (by omega), List.getLast?_concat] at e
        exact ht (by simpa using e)
  · have h1 : ∀ k, vl B (l.take (n + k)) = vl B (l.take n) := by
      intro k
      induction k with
      | zero => rfl
      | succ k ih => rw [← Nat.add_assoc, vl_take_succ, ih, hz (n + k) (by omega)]; simp
    have h2 := h1 (l.length - n)
    rw [show n + (l.length - n) = l.length by omega, List.take_length] at h2
    exact h2.symm
/-- the highest digit -/
theorem cn_lo {B : Nat} (_hB : 0 < B) {l : List Nat} (h : Cn B l) (hl : l ≠ []) : B ^ (l.length - 1) ≤ vl B l := by
  have hn : 0 < l.length := List.length_pos_iff.2 hl
  have h1 := vl_split B l (l.length - 1) (by omega)
  have h2 : dg l (l.length - 1) ≠ 0 := fun e => h.t (by rw [List.getLast?_eq_getElem?, dg_in l _ (by omega), e])
  have h3 : B ^ (l.length - 1) * 1 ≤ B ^ (l.length - 1) * (dg l (l.length - 1) + B * vl B (l.drop (l.length - 1 + 1))) := Nat.mul_le_mul_left _ (by omega)
  omega
theorem cn_len_lt {B : Nat} (hB : 0 < B) {a b : List Nat} (ha : Cn B a) (hb : Cn B b) (h : a.length < b.length) : vl B a < vl B b := by
  have h1 := vl_lt hB ha.d
  have h2 := cn_lo hB hb (fun e => by rw [e] at h; simp at h)
  have h3 : B ^ a.length ≤ B ^ (b.length - 1) := Nat.pow_le_pow_right hB (by omega)
  omega
/-- the first digit from above that parts two numbers -/
theorem vl_lt_at {B : Nat} (hB : 0 < B) {a b : List Nat} (ha : Dg B a) (i : Nat) (hia : i < a.length) (hib : i < b.length) (hd : a.drop (i + 1) = b.drop (i + 1)) (h : dg a i < dg b i) : vl B a < vl B b := by
  have h1 := vl_split B a i hia
  have h2 := vl_split B b i hib
  have h3 := vl_lt hB (ha.take i)
  rw [List.length_take, Nat.min_eq_left (by omega)] at h3
  rw [hd] at h1
  have h4 : B ^ i * (dg a i + B * vl B (b.drop (i + 1)) + 1) ≤ B ^ i * (dg b i + B * vl B (b.drop (i + 1))) := Nat.mul_le_mul_left _ (by omega)
  rw [Nat.mul_add] at h4
  omega

/-- digits to the base's square, split in two; and joined -/
def sp (B : Nat) : List Nat → List Nat
  | [] => []
  | x :: l => x % B :: x / B :: sp B l
def jn (B : Nat) : List Nat → List Nat
  | [] => []
  | [x] => [x]
  | x :: y :: l => (x + y * B) :: jn B l
theorem sp_vl (B : Nat) : ∀ l, vl B (sp B l) = vl (B * B) l
  | [] => rfl
  | x :: l => by
    rw [sp, vl, vl, vl, sp_vl B l, Nat.mul_add, ← Nat.add_assoc, Nat.mul_assoc]
    rw [Nat.mod_add_div]
theorem sp_dg {B : Nat} (hB : 0 < B) : ∀ {l}, Dg (B * B) l → Dg B (sp B l)
  | [], _ => Dg.nil B
  | x :: l, h => fun d hd => by
    have hx : x < B * B := h x (by simp)
    rw [sp] at hd
    rcases List.mem_cons.1 hd with rfl | hd
    · exact Nat.mod_lt _ hB
    · rcases List.mem_cons.1 hd with rfl | hd
      · exact (Nat.div_lt_iff_lt_mul hB).2 hx
      · exact sp_dg hB (fun y hy => h y (by simp [hy])) d hd
theorem jn_vl (B : Nat) : ∀ l, vl (B * B) (jn B l) = vl B l
  | [] => rfl
  | [x] => by simp [jn, vl]
  | x :: y :: l => by
    rw [jn, vl, vl, vl, jn_vl B l, Nat.mul_add, Nat.mul_assoc, Nat.mul_comm y B, Nat.add_assoc]
theorem jn_dg {B : Nat} (hB : 1 < B) : ∀ {l}, Dg B l → Dg (B * B) (jn B l)
  | [], _ => Dg.nil _
  | [x], h => by
    have hx : x < B := h x (by simp)
    have : B * 1 ≤ B * B := Nat.mul_le_mul_left B (by omega)
    exact Dg.one (by omega)
  | x :: y :: l, h => fun d hd => by
    have hx : x < B := h x (by simp)
    have hy : y < B := h y (by simp)
    rw [jn] at hd
    rcases List.mem_cons.1 hd with rfl | hd
    · have h1 : (y + 1) * B ≤ B * B := Nat.mul_le_mul_right B hy
      rw [Nat.add_mul] at h1
      omega
    · exact jn_dg hB (fun z hz => h z (by simp [hz])) d hd
theorem jn_nil (B : Nat) {l : List Nat} (h : jn B l = []) : l = [] := by
  match l, h with
  | [], _ => rfl
  | [x], h => simp [jn] at h
  | x :: y :: l, h => simp [jn] at h
theorem jn_cn {B : Nat} (hB : 1 < B) : ∀ {l}, Cn B l → Cn (B * B) (jn B l)
  | [], _ => Cn.nil _
  | [x], h => ⟨jn_dg hB h.d, by simpa [jn] using h.t⟩
  | x :: y :: l, h => by
    refine ⟨jn_dg hB h.d, fun e => ?_⟩
    have hl := jn_cn hB h.tail.tail
    rw [jn] at e
    cases hj : jn B l with
    | nil =>
      have h0 := jn_nil B hj
      subst h0
      rw [hj] at e
      have h1 : x + y * B = 0 := by simpa using e
      have h2 : y = 0 := by
        have h3 : y * B = 0 := by omega
        rcases Nat.mul_eq_zero.1 h3 with h4 | h4 <;> omega
      subst h2
      exact absurd rfl h.t
    | cons z k =>
      rw [hj, List.getLast?_cons_cons, ← hj] at e
      exact hl.t e
theorem jn_dgs {B : Nat} (hB : 2 ≤ B) (n : Nat) : jn B (dgs B n) = dgs (B * B) n :=
  dgs_of (by have : B * 1 ≤ B * B := Nat.mul_le_mul_left B (by omega); omega) (jn_cn (by omega) (cn_dgs hB n)) (by rw [jn_vl, vl_dgs hB])
end Go.Proofs.YtkdjhklnlnfhfaaGreatDoor
