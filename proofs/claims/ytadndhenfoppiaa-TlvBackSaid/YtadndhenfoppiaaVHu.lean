/-
  tlv's reader: Take.
-/
import Derived.Test.YtadndhenfoppiaaVHt
namespace Go.Proofs.Ytadndhenfoppiaa
open Go Go.RowKit
set_option maxRecDepth 4000

section
variable {w : World} {p : Nat} {m : BitVec 8} {G : List Nat} {rest : List (BitVec 8)} {bs : List (List (BitVec 8))}
/-- what marked tells where the element that is asked for isn't there -/
def erC (rest : List (BitVec 8)) (m : BitVec 8) : Nat := if rest.length = 0 then 13 else if gb rest 0 = m then 2 else 6
theorem marked_bad (kd : Bool) (h : Rr w p G rest bs) (hx : rest.length ≤ 1000000000000) (he : ¬ (kd = true ∧ ∃ x r, El rest m x r)) : Calls Try.prog 39 #[.pointer (some ⟨p, 0, none⟩), .int .u8 (ub m), .bool kd] w (ElN w (erC rest m)) := by
  unfold erC
  by_cases h0 : rest.length = 0
  · obtain rfl : rest = [] := List.eq_nil_of_length_eq_zero h0
    rw [if_pos h0]
    exact marked_none h
  · rw [if_neg h0]
    have hr : rest ≠ [] := fun e => h0 (by rw [e]; rfl)
    by_cases hm : gb rest 0 = m
    · rw [if_pos hm]
      by_cases hel : ∃ m' x r, El rest m' x r
      · obtain ⟨m', x, r, hel⟩ := hel
        obtain rfl : m = m' := by rw [← hm]; exact (el_parts hel).1
        cases kd with
        | false => exact marked_other h hx hel
        | true => exact absurd ⟨rfl, x, r, hel⟩ he
      · exact marked_form h hr hm hx hel
    · rw [if_neg hm]
      exact marked_kind h hr hm
set_option maxHeartbeats 2000000 in
theorem Take_err (h : Rr w p G rest bs) (hx : rest.length ≤ 1000000000000) (he : ¬ (isP m = true ∧ ∃ x r, El rest m x r)) : Calls Try.prog 25 #[.pointer (some ⟨p, 0, none⟩), .int .u8 (ub m)] w fun e w' => e = .returned (.tuple #[.slice none 0 0, err (erC rest m)]) ∧ Ext w w' := by
  have C := Kp.mk (marked_bad (m := m) (isP m) h hx he)
  generalize erC rest m = k at *
  obtain ⟨kd, hk⟩ : ∃ kd, isP m = kd := ⟨_, rfl⟩
  rw [hk] at C
  clear h hx he
  go_enter Try.func25, Try.ntmps25
  go_wp2_with (first | (go_at_call 32; refine (isPart_any m kd hk _).mono ?_; rintro e w1 ⟨rfl, rfl⟩) | (go_at_call 39; refine C.out.mono ?_; rintro e w2 ⟨rfl, hx2⟩; have HX2 := Kp.mk hx2; have HN2 := Kp.mk (Blk.new w2 elt #[.slice none 0 0, .slice none 0 0, .slice none 0 0]); clear hx2) | ((with_reducible refine at_store 6 14 ?_); refine wpList_store_row rfl elt _ _ rfl w2.heap.size #[.slice none 0 0, .slice none 0 0, .slice none 0 0] rfl rfl elt _ HN2.out.h szEl rfl (one_three _ _ _ _ _ _ _ _ _) ?_) | fail)
  go_ret2
  exact ⟨rfl, HX2.out.trans (Ext.setRow ((by (repeat (first | assumption | exact Ext.refl _ | apply Ext.drew | apply Ext.drewN | apply Ext.alloc | refine Ext.trans ?_ (by assumption))); first | done | fail) : Ext w2 (w2.alloc (.cells #[.slice none 0 0, .slice none 0 0, .slice none 0 0] elt))) (Nat.le_refl _) _)⟩
/-- how Take answers where it takes -/
def TakR (w : World) (p : Nat) (G : List Nat) (x r : List (BitVec 8)) (bs : List (List (BitVec 8))) (e : Ending) (w' : World) : Prop :=
  ∃ A n c, e = .returned (.tuple #[.slice A n c, .nilIface]) ∧ Own w' w.heap.size (.slice A n c) n x ∧ Rr w' p G r bs ∧ Mds G w w'
set_option maxHeartbeats 4000000 in
theorem Take_ok {x r : List (BitVec 8)} (h : Rr w p G rest bs) (hx : rest.length ≤ 1000000000000) (hm : isP m = true) (he : El rest m x r) : Calls Try.prog 25 #[.pointer (some ⟨p, 0, none⟩), .int .u8 (ub m)] w (TakR w p G x r bs) := by
  obtain ⟨ds, A, n, c, vb, ts, h, rfl⟩ := h
  have C := Kp.mk (marked_ok h hx he)
  have hc0 := fun (w' : World) (hx : Ext w w') => h.blk.cell hx 0
  have hf0 := fun (w' : World) (hx : Ext w w') => h.blk.free hx 0
  have hxl := Kp.mk he.2.1
  have H := Kp.mk h
  have HPL := Kp.mk h.blk.lt
  clear h hx he
  go_enter Try.func25, Try.ntmps25
  go_wp2_with (first | (go_at_call 32; refine (isPart_any m true hm _).mono ?_; rintro e w1 ⟨rfl, rfl⟩) | (go_at_call 39; refine C.out.mono ?_; rintro e w2 ⟨A1, n1, c1, A2, n2, c2, A3, n3, c3, rfl, q1, q2, q3, j1, j2, j3, hx2⟩; have HX2 := Kp.mk hx2; have HN2 := Kp.mk (Blk.new w2 elt #[.slice none 0 0, .slice none 0 0, .slice none 0 0]); have HN3 := Kp.mk ((Blk.new w2 elt #[.slice none 0 0, .slice none 0 0, .slice none 0 0]).row #[.slice A1 n1 c1, .slice A2 n2 c2, .slice A3 n3 c3]); have HY3 := Kp.mk (Ext.setRow ((by (repeat (first | assumption | exact Ext.refl _ | apply Ext.drew | apply Ext.drewN | apply Ext.alloc | refine Ext.trans ?_ (by assumption))); first | done | fail) : Ext w2 (w2.alloc (.cells #[.slice none 0 0, .slice none 0 0, .slice none 0 0] elt))) (Nat.le_refl _) #[.slice A1 n1 c1, .slice A2 n2 c2, .slice A3 n3 c3]); have Q2 := Kp.mk q2; have Q3 := Kp.mk q3; have J2 := Kp.mk j2; have J3 := Kp.mk j3; clear q1 q2 q3 j1 j2 j3 hx2) | ((with_reducible refine at_store 6 14 ?_); refine wpList_store_row rfl elt _ _ rfl w2.heap.size #[.slice A1 n1 c1, .slice A2 n2 c2, .slice A3 n3 c3] rfl rfl elt _ HN2.out.h szEl rfl (one_three _ _ _ _ _ _ _ _ _) ?_; generalize (w2.alloc (.cells #[.slice none 0 0, .slice none 0 0, .slice none 0 0] elt)).setRow w2.heap.size #[.slice A1 n1 c1, .slice A2 n2 c2, .slice A3 n3 c3] = w3 at *; have HX3 := Kp.mk (HX2.out.trans HY3.out); have hk2 := HN3.out.h.cell 2; have hc3 := hc0 w3 HX3.out; have hf3 := hf0 w3 HX3.out; have hne : w2.heap.size ≠ p := fun e => Nat.lt_irrefl _ (Nat.lt_of_lt_of_le HPL.out (e ▸ HX2.out.size)); have hk1 := (HN3.out.far (p := ⟨p, 0, none⟩) hne (.slice A3 n3 c3)).h.cell 1; have W4 := Kp.mk ((H.out.ext HX3.out).put (Q3.out.ext HY3.out) J3.out); have CL := Kp.mk (Clone_any ((Q2.out.ext HY3.out).mds ((Mds.refl [p] w3).setCell (p := ⟨p, 0, none⟩) (by simp) (.slice A3 n3 c3)) (J2.out.off (fun k hk h1 => H.out.apd k hk (by rw [List.mem_singleton.1 h1]; simp)))) (by have h1 := Q2.out.len; have h2 := hxl.out; omega)); clear hne) | (go_at_call 38; refine CL.out.mono ?_; rintro e w5 ⟨A5, c5, rfl, hs5, ho5, hx5⟩) | fail)
  go_ret2
  exact ⟨_, _, _, rfl, ho5.lower (Nat.le_trans HX3.out.size W4.out.2.m.size), ⟨_, _, _, _, _, _, W4.out.1.ext hx5, rfl⟩, (HX3.out.mds _).trans (W4.out.2.m.trans (hx5.mds _))⟩
end
end Go.Proofs.Ytadndhenfoppiaa
