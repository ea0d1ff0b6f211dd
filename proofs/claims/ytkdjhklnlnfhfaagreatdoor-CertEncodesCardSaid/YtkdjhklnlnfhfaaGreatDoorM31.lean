/-
  A certificate's reader: enter, leave, end, take, whole, more, at.
  A certificate's reader: leave, end, take, more, at, whole; newReader.
  A certificate's reader: bits; the kind of a sign or a key.
  A certificate's reader: the kind of a sign or a key.
-/
import Derived.Test.YtkdjhklnlnfhfaaGreatDoorM30
namespace Go.Proofs.YtkdjhklnlnfhfaaGreatDoor
open Go Go.RowKit
set_option maxRecDepth 4000

section
variable {w : World} {p q : Nat} {G H : List Nat} {s : RS} {m : BitVec 8}
/-- tlv's functions by what they make of a state -/
theorem EnterS_any (h : Rr w p H s.r s.s.reverse) (ho : s.Ok) (m : BitVec 8) : Calls Tryz.prog 106 #[.pointer (some ⟨p, 0, none⟩), .int .u8 (ub m)] w fun e w' => ∃ E, e = .returned E ∧ NE E s (enterS m s) ∧ ∃ H', Rr w' p H' (enterS m s).r (enterS m s).s.reverse ∧ Mvs H H' w w' := by
  have h1 := ho.r
  unfold enterS
  cases hc : cutP s.r with
  | none =>
    have hn := cutP_none hc
    refine (Enter_err h (by omega) (m := m) fun ⟨_, x, r, he⟩ => hn ⟨_, x, r, he⟩).mono ?_
    rintro e w' ⟨rfl, hx⟩
    exact ⟨_, rfl, .inr ⟨_, rfl, rfl⟩, H, h.ext hx, Mvs.of_ext hx _⟩
  | some pr =>
    obtain ⟨x, r⟩ := pr
    have he := cutP_some hc
    simp only
    by_cases hk : gb s.r 0 = m ∧ isW m = true
    · rw [hk.1] at he
      by_cases hd : s.s.length < 24
      · rw [if_pos ⟨hk.1, hk.2, hd⟩]
        refine (Enter_ok h (by omega) hk.2 he (by rw [List.length_reverse]; exact hd)).mono ?_
        rintro e w' ⟨rfl, H', hr, hm⟩
        exact ⟨_, rfl, .inl ⟨rfl, rfl⟩, H', by simpa [List.reverse_cons] using hr, hm⟩
      · rw [if_neg fun h => hd h.2.2]
        refine (Enter_deep h (by omega) hk.2 he (by rw [List.length_reverse]; omega)).mono ?_
        rintro e w' ⟨rfl, hx⟩
        exact ⟨_, rfl, .inr ⟨_, rfl, rfl⟩, H, h.ext hx, Mvs.of_ext hx _⟩
    · rw [if_neg fun h => hk ⟨h.1, h.2.1⟩]
      refine (Enter_err h (by omega) (m := m) fun ⟨h2, x2, r2, he2⟩ => hk ⟨(el_parts he2).1, h2⟩).mono ?_
      rintro e w' ⟨rfl, hx⟩
      exact ⟨_, rfl, .inr ⟨_, rfl, rfl⟩, H, h.ext hx, Mvs.of_ext hx _⟩
theorem TakeS_any (h : Rr w p H s.r s.s.reverse) (ho : s.Ok) (m : BitVec 8) : Calls Tryz.prog 157 #[.pointer (some ⟨p, 0, none⟩), .int .u8 (ub m)] w fun e w' => ∃ E A n c, e = .returned (.tuple #[.slice A n c, E]) ∧ NE E s (takeS m s).2 ∧ Own w' w.heap.size (.slice A n c) n (takeS m s).1 ∧ Rr w' p H (takeS m s).2.r (takeS m s).2.s.reverse ∧ Mds H w w' := by
  have h1 := ho.r
  unfold takeS
  cases hc : cutP s.r with
  | none =>
    have hn := cutP_none hc
    refine (Take_err h (by omega) (m := m) fun ⟨_, x, r, he⟩ => hn ⟨_, x, r, he⟩).mono ?_
    rintro e w' ⟨rfl, hx⟩
    exact ⟨_, none, 0, 0, rfl, .inr ⟨_, rfl, rfl⟩, Own.nil _ _, h.ext hx, hx.mds _⟩
  | some pr =>
    obtain ⟨x, r⟩ := pr
    have he := cutP_some hc
    simp only
    by_cases hk : gb s.r 0 = m ∧ isP m = true
    · rw [hk.1] at he
      rw [if_pos hk]
      refine (Take_ok h (by omega) hk.2 he).mono ?_
      rintro e w' ⟨A, n, c, rfl, ho, hr, hm⟩
      exact ⟨_, A, n, c, rfl, .inl ⟨rfl, rfl⟩, ho, hr, hm⟩
    · rw [if_neg hk]
      refine (Take_err h (by omega) (m := m) fun ⟨h2, x2, r2, he2⟩ => hk ⟨(el_parts he2).1, h2⟩).mono ?_
      rintro e w' ⟨rfl, hx⟩
      exact ⟨_, none, 0, 0, rfl, .inr ⟨_, rfl, rfl⟩, Own.nil _ _, h.ext hx, hx.mds _⟩
theorem LeaveS_any (h : Rr w p H s.r s.s.reverse) (ho : s.Ok) : Calls Tryz.prog 111 #[.pointer (some ⟨p, 0, none⟩)] w fun e w' => ∃ E, e = .returned E ∧ NE E s (leaveS s) ∧ ∃ H', Rr w' p H' (leaveS s).r (leaveS s).s.reverse ∧ Mvs H H' w w' := by
  obtain ⟨r, st, a⟩ := s
  have h1 := ho.d
  simp only at h h1
  unfold leaveS
  simp only
  by_cases hr : r = []
  · subst hr
    rw [if_pos rfl]
    cases st with
    | nil =>
      refine (Leave_none h).mono ?_
      rintro e w' ⟨rfl, rfl⟩
      exact ⟨_, rfl, .inr ⟨_, rfl, rfl⟩, H, h, Mvs.refl _ _⟩
    | cons x t =>
      rw [List.length_cons] at h1
      rw [List.reverse_cons] at h
      refine (Leave_ok h (by rw [List.length_reverse]; omega)).mono ?_
      rintro e w' ⟨rfl, H', hr, hm⟩
      exact ⟨_, rfl, .inl ⟨rfl, rfl⟩, H', hr, hm⟩
  · rw [if_neg hr]
    cases st with
    | nil =>
      refine (Leave_none h).mono ?_
      rintro e w' ⟨rfl, rfl⟩
      exact ⟨_, rfl, .inr ⟨_, rfl, rfl⟩, H, h, Mvs.refl _ _⟩
    | cons x t =>
      rw [List.length_cons] at h1
      have h' := h
      rw [List.reverse_cons] at h'
      refine (Leave_more h' hr (by rw [List.length_reverse]; omega)).mono ?_
      rintro e w' ⟨rfl, rfl⟩
      exact ⟨_, rfl, .inr ⟨_, rfl, rfl⟩, H, h, Mvs.refl _ _⟩
theorem EndS_any (h : Rr w p H s.r s.s.reverse) : Calls Tryz.prog 112 #[.pointer (some ⟨p, 0, none⟩)] w fun e w' => ∃ E, e = .returned E ∧ NE E s (endS s) ∧ Rr w' p H (endS s).r (endS s).s.reverse ∧ w' = w := by
  refine (End_any h).mono ?_
  rintro e w' ⟨rfl, rfl⟩
  refine ⟨_, rfl, ?_, ?_, rfl⟩
  · unfold endS endC errW
    rw [List.length_reverse]
    by_cases h1 : s.r = [] ∧ s.s = []
    · rw [if_pos h1, h1.1, h1.2]
      exact .inl ⟨rfl, rfl⟩
    · rw [if_neg h1]
      by_cases h2 : s.s = []
      · have h3 : 0 < s.r.length := List.length_pos_iff.2 fun e => h1 ⟨e, h2⟩
        rw [h2, if_neg (show ¬ 0 < ([] : List (List (BitVec 8))).length by decide), if_pos h3, if_neg (by decide)]
        exact .inr ⟨_, rfl, rfl⟩
      · rw [if_pos (List.length_pos_iff.2 h2), if_neg (by decide)]
        exact .inr ⟨_, rfl, rfl⟩
  · unfold endS
    split <;> exact h
theorem WholeS_no (h : Rr w p H s.r s.s.reverse) (ho : s.Ok) (hc : cutP s.r = none) : Calls Tryz.prog 108 #[.pointer (some ⟨p, 0, none⟩)] w fun e w' => ∃ k, e = .returned (.tuple #[.slice none 0 0, err k]) ∧ Ext w w' :=
  Whole_err h (by have := ho.r; omega) (cutP_none hc)
set_option maxHeartbeats 1000000 in
theorem crEnter (h : Cr w q G s) (m : BitVec 8) : Calls Tryz.prog 56 #[.pointer (some ⟨q, 0, none⟩), .int .u8 (ub m)] w (StR w q G (enterS m s)) := by
  have ho := h.ok
  obtain ⟨⟨p, H1, hb, hr, hq, rfl⟩, _⟩ := h
  have C := Kp.mk (EnterS_any hr ho m)
  have HB := Kp.mk hb
  have HQ := Kp.mk hq
  have HO := Kp.mk ho
  have hc0 := hb.h.cell 0
  clear ho hb hr hq
  go_enter Tryz.func56, Tryz.ntmps56
  go_wp2_with (first | (go_at_call 106; refine C.out.mono ?_; rintro e w1 ⟨E, rfl, hE, H2, hr2, hm2⟩; have T := Cr.turn (r := (enterS m s).r) (st := (enterS m s).s) (a := s.a) HB.out HQ.out hr2 hm2 ⟨(HO.out.enter m).r, (HO.out.enter m).k, (HO.out.enter m).d⟩; have HM := Kp.mk T.2; have N := Kp.mk (crNote (E := E) (t := enterS m s) T.1 hE); clear T hE hr2 hm2) | (go_at_call 105; refine N.out.mono ?_; rintro e w2 ⟨rfl, h2, m2⟩; have H2 := Kp.mk h2; have M2 := Kp.mk m2; clear h2 m2) | fail)
  refine bodyPost_ret (results_none rfl _ _ _) rfl ?_
  exact ⟨rfl, _, H2.out, HM.out.trans ⟨M2.out, fun k hk => .inl hk⟩⟩
end
end Go.Proofs.YtkdjhklnlnfhfaaGreatDoor
namespace Go.Proofs.YtkdjhklnlnfhfaaGreatDoor
open Go Go.RowKit
set_option maxRecDepth 4000

section
variable {w : World} {p q : Nat} {G H : List Nat} {s : RS} {m : BitVec 8}
theorem own_keep {w1 w2 : World} {B n : Nat} {v : Value} {l : List (BitVec 8)} (ho : Own w1 B v n l) (hB : Hi w G) (hs : w.heap.size ≤ B) (hm : Mds G w1 w2) : Own w2 B v n l :=
  (ho.rw.mds hm fun k hk h2 => by
    have h3 := ho.rw.base k (mem_fpv.1 hk)
    have h4 := hB k h2
    omega).own
set_option maxHeartbeats 1000000 in
theorem crLeave (h : Cr w q G s) : Calls Tryz.prog 60 #[.pointer (some ⟨q, 0, none⟩)] w (StR w q G (leaveS s)) := by
  have ho := h.ok
  obtain ⟨⟨p, H1, hb, hr, hq, rfl⟩, _⟩ := h
  have C := Kp.mk (LeaveS_any hr ho)
  have HB := Kp.mk hb
  have HQ := Kp.mk hq
  have HO := Kp.mk ho
  have hc0 := hb.h.cell 0
  clear ho hb hr hq
  go_enter Tryz.func60, Tryz.ntmps60
  go_wp2_with (first | (go_at_call 111; refine C.out.mono ?_; rintro e w1 ⟨E, rfl, hE, H2, hr2, hm2⟩; have T := Cr.turn (r := (leaveS s).r) (st := (leaveS s).s) (a := s.a) HB.out HQ.out hr2 hm2 ⟨HO.out.leave.r, HO.out.leave.k, HO.out.leave.d⟩; have HM := Kp.mk T.2; have N := Kp.mk (crNote (E := E) (t := leaveS s) T.1 hE); clear T hE hr2 hm2) | (go_at_call 105; refine N.out.mono ?_; rintro e w2 ⟨rfl, h2, m2⟩; have H2 := Kp.mk h2; have M2 := Kp.mk m2; clear h2 m2) | fail)
  refine bodyPost_ret (results_none rfl _ _ _) rfl ?_
  exact ⟨rfl, _, H2.out, HM.out.trans ⟨M2.out, fun k hk => .inl hk⟩⟩
set_option maxHeartbeats 1000000 in
theorem crEnd (h : Cr w q G s) : Calls Tryz.prog 61 #[.pointer (some ⟨q, 0, none⟩)] w (StM w q G (endS s)) := by
  have ho := h.ok
  have h' := h
  obtain ⟨⟨p, H1, hb, hr, hq, hg⟩, _⟩ := h
  have C := Kp.mk (EndS_any hr)
  have he : Cr w q G ⟨(endS s).r, (endS s).s, s.a⟩ := by
    unfold endS
    split <;> exact h'
  have HE := Kp.mk he
  have hc0 := hb.h.cell 0
  clear ho hb hr hq h' he
  go_enter Tryz.func61, Tryz.ntmps61
  go_wp2_with (first | (go_at_call 112; refine C.out.mono ?_; rintro e w1 ⟨E, rfl, hE, hr2, rfl⟩; have N := Kp.mk (crNote (E := E) (t := endS s) HE.out hE); clear hE hr2) | (go_at_call 105; refine N.out.mono ?_; rintro e w2 ⟨rfl, h2, m2⟩; have H2 := Kp.mk h2; have M2 := Kp.mk m2; clear h2 m2) | fail)
  refine bodyPost_ret (results_none rfl _ _ _) rfl ?_
  exact ⟨rfl, H2.out, M2.out⟩
/-- what take and whole answer -/
def TkR (w : World) (q : Nat) (G : List Nat) (x : List (BitVec 8)) (s : RS) (e : Ending) (w' : World) : Prop :=
  ∃ A n c, e = .returned (.slice A n c) ∧ Own w' w.heap.size (.slice A n c) n x ∧ Cr w' q G s ∧ Mds G w w'
set_option maxHeartbeats 1000000 in
theorem crTake (h : Cr w q G s) (m : BitVec 8) : Calls Tryz.prog 109 #[.pointer (some ⟨q, 0, none⟩), .int .u8 (ub m)] w (TkR w q G (takeS m s).1 (takeS m s).2) := by
  have ho := h.ok
  have HH := Kp.mk h.hi
  obtain ⟨⟨p, H1, hb, hr, hq, rfl⟩, _⟩ := h
  have C := Kp.mk (TakeS_any hr ho m)
  have HB := Kp.mk hb
  have HQ := Kp.mk hq
  have HO := Kp.mk ho
  have hc0 := hb.h.cell 0
  clear ho hb hr hq
  go_enter Tryz.func109, Tryz.ntmps109
  go_wp2_with (first | (go_at_call 157; refine C.out.mono ?_; rintro e w1 ⟨E, A1, n1, c1, rfl, hE, hw1, hr2, hm2⟩; have T := Cr.turn (r := (takeS m s).2.r) (st := (takeS m s).2.s) (a := s.a) HB.out HQ.out hr2 ⟨hm2, fun k hk => .inl hk⟩ ⟨(HO.out.take m).1.r, (HO.out.take m).1.k, (HO.out.take m).1.d⟩; have HM := Kp.mk T.2; have N := Kp.mk (crNote (E := E) (t := (takeS m s).2) T.1 hE); have W1 := Kp.mk hw1; clear T hE hr2 hm2 hw1) | (go_at_call 105; refine N.out.mono ?_; rintro e w2 ⟨rfl, h2, m2⟩; have H2 := Kp.mk h2; have M2 := Kp.mk m2; clear h2 m2) | fail)
  go_ret
  exact ⟨_, _, _, rfl, own_keep W1.out HH.out (Nat.le_refl _) M2.out, H2.out, HM.out.m.trans M2.out⟩
set_option maxHeartbeats 1000000 in
theorem crAt (h : Cr w q G s) (m : BitVec 8) : Calls Tryz.prog 107 #[.pointer (some ⟨q, 0, none⟩), .int .u8 (ub m)] w fun e w' => e = .returned (.bool (s.at_ m)) ∧ w' = w := by
  obtain ⟨⟨p, H1, hb, hr, hq, rfl⟩, _⟩ := h
  have C := Next_any hr
  have hc0 := hb.h.cell 0
  unfold nxV at C
  unfold RS.at_
  clear hr hb hq
  by_cases h0 : s.r = []
  · rw [h0] at C
    rw [h0]
    have C := Kp.mk C
    go_enter Tryz.func107, Tryz.ntmps107
    go_wp2_with (first | (go_at_call 155; refine C.out.mono ?_; rintro e w1 ⟨rfl, rfl⟩) | fail)
    go_ret
    exact ⟨rfl, rfl⟩
  · have h1 : ¬ s.r.length = 0 := fun e => h0 (List.eq_nil_of_length_eq_zero e)
    rw [if_neg h1] at C
    have C := Kp.mk C
    by_cases hm : gb s.r 0 = m
    · subst hm
      have e1 : (!decide (s.r = []) && decide (gb s.r 0 = gb s.r 0)) = true := by simp [h0]
      rw [e1]
      generalize gb s.r 0 = x at *
      clear h0 h1 e1
      go_enter Tryz.func107, Tryz.ntmps107
      go_wp2_with (first | (go_at_call 155; refine C.out.mono ?_; rintro e w1 ⟨rfl, rfl⟩) | fail)
      go_ret
      exact ⟨rfl, rfl⟩
    · have e1 : (!decide (s.r = []) && decide (gb s.r 0 = m)) = false := by simp [hm]
      rw [e1]
      have hne : (ub (gb s.r 0) == ub m) = false := (ub_ne hm _ rfl).1
      have hne2 : ¬ ub (gb s.r 0) = ub m := (ub_ne hm _ rfl).2
      generalize gb s.r 0 = x at *
      clear h0 h1 e1 hm
      go_enter Tryz.func107, Tryz.ntmps107
      go_wp2_with (first | (go_at_call 155; refine C.out.mono ?_; rintro e w1 ⟨rfl, rfl⟩) | fail)
      go_ret
      exact ⟨rfl, rfl⟩
set_option maxHeartbeats 1000000 in
theorem crMore (h : Cr w q G s) : Calls Tryz.prog 118 #[.pointer (some ⟨q, 0, none⟩)] w fun e w' => e = .returned (.bool s.more) ∧ w' = w := by
  obtain ⟨⟨p, H1, hb, hr, hq, rfl⟩, _⟩ := h
  have C := Next_any hr
  have hc0 := hb.h.cell 0
  have hc1 := hb.h.cell 1
  unfold nxV at C
  unfold RS.more
  clear hr hb hq
  by_cases h0 : s.r = []
  · rw [h0] at C
    rw [h0]
    have C := Kp.mk C
    go_enter Tryz.func118, Tryz.ntmps118
    go_wp2_with (first | (go_at_call 155; refine C.out.mono ?_; rintro e w1 ⟨rfl, rfl⟩) | fail)
    go_ret
    exact ⟨rfl, rfl⟩
  · have h1 : ¬ s.r.length = 0 := fun e => h0 (List.eq_nil_of_length_eq_zero e)
    rw [if_neg h1] at C
    have C := Kp.mk C
    have e1 : (!decide (s.r = []) && !s.a) = !s.a := by simp [h0]
    rw [e1]
    generalize gb s.r 0 = x at *
    generalize s.a = a at *
    clear h0 h1 e1
    go_enter Tryz.func118, Tryz.ntmps118
    go_wp2_with (first | (go_at_call 155; refine C.out.mono ?_; rintro e w1 ⟨rfl, rfl⟩) | fail)
    go_ret
    exact ⟨rfl, rfl⟩
theorem wholeS_not (h : s.at_ m = false) : wholeS m s = ([], s.bad) := by
  unfold wholeS
  cases hc : cutP s.r with
  | none => rfl
  | some pr =>
    have h1 := cutP_some hc
    have h2 := (el_parts h1).2.2.1
    have h3 := hdn_lo pr.1.length
    have h4 : s.r ≠ [] := fun e => by rw [e] at h2; simp at h2; omega
    have h5 : gb s.r 0 ≠ m := fun e => by simp [RS.at_, h4, e] at h
    exact if_neg h5
theorem WholeS_any (h : Rr w p H s.r s.s.reverse) (ho : s.Ok) (ha : s.at_ m = true) : Calls Tryz.prog 108 #[.pointer (some ⟨p, 0, none⟩)] w fun e w' => ∃ E A n c, e = .returned (.tuple #[.slice A n c, E]) ∧ NE E s (wholeS m s).2 ∧ Own w' w.heap.size (.slice A n c) n (wholeS m s).1 ∧ Rr w' p H (wholeS m s).2.r (wholeS m s).2.s.reverse ∧ Mds H w w' := by
  have h1 := ho.r
  have h2 : gb s.r 0 = m := by
    unfold RS.at_ at ha
    simp at ha
    exact ha.2
  unfold wholeS
  cases hc : cutP s.r with
  | none =>
    refine (WholeS_no h ho hc).mono ?_
    rintro e w' ⟨k, rfl, hx⟩
    exact ⟨_, none, 0, 0, rfl, .inr ⟨_, rfl, rfl⟩, Own.nil _ _, h.ext hx, hx.mds _⟩
  | some pr =>
    obtain ⟨x, r⟩ := pr
    have he := cutP_some hc
    rw [h2] at he
    simp only
    rw [if_pos h2]
    refine (Whole_ok h (by omega) he).mono ?_
    rintro e w' ⟨A, n, c, rfl, ho, hr, hm⟩
    exact ⟨_, A, n, c, rfl, .inl ⟨rfl, rfl⟩, ho, hr, hm⟩
set_option maxHeartbeats 2000000 in
theorem crWhole (h : Cr w q G s) (m : BitVec 8) : Calls Tryz.prog 57 #[.pointer (some ⟨q, 0, none⟩), .int .u8 (ub m)] w (TkR w q G (wholeS m s).1 (wholeS m s).2) := by
  have ho := h.ok
  have HH := Kp.mk h.hi
  have AT := crAt h m
  cases ha : s.at_ m with
  | false =>
    rw [ha] at AT
    rw [wholeS_not ha]
    have AT := Kp.mk AT
    have H := Kp.mk (h.put true)
    obtain ⟨⟨p, H1, hb, hr, hq, hg⟩, _⟩ := h
    have hf := hb.h.frozen 1
    have hc := hb.h.cell 1
    clear hb hr hq hg ho ha
    go_enter Tryz.func57, Tryz.ntmps57
    go_wp2_with (first | (go_at_call 107; refine AT.out.mono ?_; rintro e w1 ⟨rfl, rfl⟩) | fail)
    go_ret
    exact ⟨none, 0, 0, rfl, Own.nil _ _, H.out.1, H.out.2⟩
  | true =>
    rw [ha] at AT
    have AT := Kp.mk AT
    obtain ⟨⟨p, H1, hb, hr, hq, rfl⟩, _⟩ := h
    have C := Kp.mk (WholeS_any hr ho ha)
    have HB := Kp.mk hb
    have HQ := Kp.mk hq
    have HO := Kp.mk ho
    have hc0 := hb.h.cell 0
    clear ho hb hr hq ha
    go_enter Tryz.func57, Tryz.ntmps57
    go_wp2_with (first | (go_at_call 107; refine AT.out.mono ?_; rintro e w1 ⟨rfl, rfl⟩) | (go_at_call 108; refine C.out.mono ?_; rintro e w1 ⟨E, A1, n1, c1, rfl, hE, hw1, hr2, hm2⟩; have T := Cr.turn (r := (wholeS m s).2.r) (st := (wholeS m s).2.s) (a := s.a) HB.out HQ.out hr2 ⟨hm2, fun k hk => .inl hk⟩ ⟨(HO.out.whole m).1.r, (HO.out.whole m).1.k, (HO.out.whole m).1.d⟩; have HM := Kp.mk T.2; have N := Kp.mk (crNote (E := E) (t := (wholeS m s).2) T.1 hE); have W1 := Kp.mk hw1; clear T hE hr2 hm2 hw1) | (go_at_call 105; refine N.out.mono ?_; rintro e w2 ⟨rfl, h2, m2⟩; have H2 := Kp.mk h2; have M2 := Kp.mk m2; clear h2 m2) | fail)
    go_ret
    exact ⟨_, _, _, rfl, own_keep W1.out HH.out (Nat.le_refl _) M2.out, H2.out, HM.out.m.trans M2.out⟩
end
section
variable {w : World}
set_option maxHeartbeats 1000000 in
theorem crNew {b : List (BitVec 8)} {A : Option Addr} {n c : Nat} (h : Bs w A n c b) (hn : n ≤ 1000000) : Calls Tryz.prog 55 #[.slice A n c] w fun e w' => ∃ q G, e = .returned (.pointer (some ⟨q, 0, none⟩)) ∧ Cr w' q G ⟨b, [], false⟩ ∧ Lo w.heap.size G ∧ Ext w w' := by
  have C := Kp.mk (NewReader_any h (by omega))
  have HL := Kp.mk h.len
  clear h
  go_enter Tryz.func55, Tryz.ntmps55
  go_wp2_with (first | (go_at_call 104; refine C.out.mono ?_; rintro e w1 ⟨p, rfl, ⟨H, hr, hlo⟩, hx1⟩; have HR := Kp.mk hr; have HLO := Kp.mk hlo; have X1 := Kp.mk hx1; clear hr hlo hx1) | fail)
  go_ret
  have hx2 : Ext w1 (w1.alloc (.cells #[.pointer (some ⟨p, 0, none⟩), .bool false] crd)) := (by (repeat (first | assumption | exact Ext.refl _ | apply Ext.drew | apply Ext.drewN | apply Ext.alloc | refine Ext.trans ?_ (by assumption))); first | done | fail)
  refine ⟨w1.heap.size, w1.heap.size :: H, rfl, ⟨⟨p, H, Blk.new _ _ _, HR.out.ext hx2, fun hk => Nat.lt_irrefl _ (HR.out.hi _ hk), rfl⟩, ?_⟩, fun k hk => ?_, X1.out.trans hx2⟩
  · have := HL.out
    exact ⟨by show b.length ≤ _; omega, (fun x hx => by cases hx), by show (0 : Nat) ≤ 24; omega⟩
  · rcases List.mem_cons.1 hk with rfl | hk
    · exact X1.out.size
    · exact HLO.out k hk
end
end Go.Proofs.YtkdjhklnlnfhfaaGreatDoor
namespace Go.Proofs.YtkdjhklnlnfhfaaGreatDoor
open Go Go.RowKit
set_option maxRecDepth 4000

/-- an error beside what was read, or wasn't -/
def OE {α : Type} (E : Value) (o : Option α) : Prop := (E = .nilIface ∧ o.isSome = true) ∨ ∃ k, E = err k ∧ o = none
section
variable {w : World} {p q : Nat} {G H : List Nat} {s : RS} {m : BitVec 8} {P : Prm}
/-- noted what was amiss with it -/
theorem Cr.opt {α : Type} {E : Value} {o : Option α} (d : α) (h : Cr w q G s) (hE : OE E o) : Cr w q G ⟨(optS d o s).2.r, (optS d o s).2.s, s.a⟩ ∧ ((E = .nilIface ∧ (optS d o s).2.a = s.a) ∨ ∃ k, E = err k ∧ (optS d o s).2.a = true) := by
  cases o with
  | none =>
    refine ⟨h, ?_⟩
    rcases hE with ⟨_, e⟩ | ⟨k, e, _⟩
    · cases e
    · exact .inr ⟨k, e, rfl⟩
  | some v =>
    refine ⟨h, ?_⟩
    rcases hE with ⟨e, _⟩ | ⟨k, _, e⟩
    · exact .inl ⟨e, rfl⟩
    · cases e
theorem optS_fst {α : Type} (d : α) (o : Option α) (s : RS) : (optS d o s).1 = o.getD d := by cases o <;> rfl
def bitsO (P : Prm) (b : List (BitVec 8)) : Option (List (BitVec 8) × Int) := if 0 < b.length ∧ P.bits (b.drop 1) ((gb b 0).toNat : Int) = true then some (b.drop 1, ((gb b 0).toNat : Int)) else none
theorem ReadBits_o (hP : P.bits = bitsB) {b : List (BitVec 8)} {A : Option Addr} {n c : Nat} (h : Bs w A n c b) (hn : n ≤ 1000000) : Calls Tryz.prog 110 #[.slice A n c] w fun e w' =>
    ∃ E A' n' c', e = .returned (.tuple #[.agg #[.slice A' n' c', .int .i64 ((bitsO P b).getD ([], 0)).2], E]) ∧ OE E (bitsO P b) ∧ Own w' w.heap.size (.slice A' n' c') n' ((bitsO P b).getD ([], 0)).1 ∧ Ext w w' := by
  have hl := h.len
  refine (ReadBits_any h (by omega)).mono ?_
  unfold bitsO
  rw [hP]
  rintro e w' (⟨hno, rfl, hx⟩ | ⟨hy, A', c', rfl, ho, hx⟩)
  · rw [if_neg (by rw [hl]; exact hno)]
    exact ⟨_, none, 0, 0, rfl, .inr ⟨_, rfl, rfl⟩, Own.nil _ _, hx⟩
  · rw [if_pos (by rw [hl]; exact hy)]
    exact ⟨_, A', _, c', rfl, .inl ⟨rfl, rfl⟩, ho, hx⟩
/-- what bits answers -/
def BtR (w : World) (q : Nat) (G : List Nat) (x : List (BitVec 8)) (u : Int) (s : RS) (e : Ending) (w' : World) : Prop :=
  ∃ A n c, e = .returned (.agg #[.slice A n c, .int .i64 u]) ∧ Own w' w.heap.size (.slice A n c) n x ∧ Cr w' q G s ∧ Mds G w w'
set_option maxHeartbeats 4000000 in
theorem crBits (hP : P.bits = bitsB) (h : Cr w q G s) : Calls Tryz.prog 59 #[.pointer (some ⟨q, 0, none⟩)] w (BtR w q G (bitsS P s).1.1 (bitsS P s).1.2 (bitsS P s).2) := by
  have hx0 : Ext w (w.alloc (.cells #[.slice none 0 0, .int .i64 0] bit)) := (by (repeat (first | assumption | exact Ext.refl _ | apply Ext.drew | apply Ext.drewN | apply Ext.alloc | refine Ext.trans ?_ (by assumption))); first | done | fail)
  have HB0 := Kp.mk (Blk.new w bit #[.slice none 0 0, .int .i64 0])
  have HH := Kp.mk h.hi
  have TK := Kp.mk (crTake (h.ext hx0) 3)
  have HX0 := Kp.mk hx0
  have e1 : (bitsS P s).1 = (bitsO P (takeS 3 s).1).getD ([], 0) := optS_fst _ _ _
  have e2 : (bitsS P s).2 = (optS ([], 0) (bitsO P (takeS 3 s).1) (takeS 3 s).2).2 := rfl
  rw [e1, e2]
  have hlen := (h.ok.take 3).2
  generalize takeS 3 s = pr at *
  obtain ⟨b, s1⟩ := pr
  simp only at TK hlen ⊢
  have RB := Kp.mk (fun (w1 : World) (A : Option Addr) (n c : Nat) (h : Bs w1 A n c b) => ReadBits_o hP h (by have := h.len; omega))
  generalize bitsO P b = o at *
  obtain ⟨v, hv⟩ : ∃ v, o.getD ([], 0) = v := ⟨_, rfl⟩
  obtain ⟨x, u⟩ := v
  rw [hv] at RB ⊢
  simp only at RB ⊢
  clear e1 e2 hv hx0 h hlen
  go_enter Tryz.func59, Tryz.ntmps59
  go_wp2_with (first | (go_at_call 109; refine TK.out.mono ?_; rintro e w1 ⟨A1, n1, c1, rfl, o1, r1, m1⟩; have R1 := Kp.mk r1; have M1 := Kp.mk m1; have RB := Kp.mk (RB.out w1 A1 n1 c1 o1.bs); clear o1 r1 m1) | (go_at_call 110; refine RB.out.mono ?_; rintro e w2 ⟨E, A2, n2, c2, rfl, hE, o2, x2⟩; have O2 := Kp.mk o2; have X2 := Kp.mk x2; have N := R1.out.opt (([], 0) : List (BitVec 8) × Int) hE; have HN2 := Kp.mk (Blk.new w2 bit #[.slice none 0 0, .int .i64 0]); have HN3 := Kp.mk ((Blk.new w2 bit #[.slice none 0 0, .int .i64 0]).row #[.slice A2 n2 c2, .int .i64 u]); have HY3 := Kp.mk (Ext.setRow ((by (repeat (first | assumption | exact Ext.refl _ | apply Ext.drew | apply Ext.drewN | apply Ext.alloc | refine Ext.trans ?_ (by assumption))); first | done | fail) : Ext w2 (w2.alloc (.cells #[.slice none 0 0, .int .i64 0] bit))) (Nat.le_refl _) #[.slice A2 n2 c2, .int .i64 u]); clear o2 x2 hE) | ((with_reducible refine at_store 3 9 ?_); refine wpList_store_row rfl bit _ _ rfl w2.heap.size #[.slice A2 n2 c2, .int .i64 u] rfl rfl bit _ HN2.out.h szBt rfl (one_two8 _ _ _ _) ?_; generalize (w2.alloc (.cells #[.slice none 0 0, .int .i64 0] bit)).setRow w2.heap.size #[.slice A2 n2 c2, .int .i64 u] = w4 at *; have N := Kp.mk (crNote ((N.1.ext X2.out).ext HY3.out) N.2)) | (go_at_call 105; refine N.out.mono ?_; rintro e w5 ⟨rfl, r5, m5⟩; have R5 := Kp.mk r5; have M5 := Kp.mk m5; have hap : w2.heap.size ∉ G := fun hk => (by have h1 := HH.out _ hk; have h2 := HX0.out.size; have h3 := M1.out.size; have h4 := X2.out.size; omega); have HN5 := Kp.mk (HN3.out.mds m5 hap); have hgp : w.heap.size ∉ G := fun hk => Nat.lt_irrefl _ (HH.out _ hk); have HB5 := Kp.mk ((((HB0.out.mds M1.out hgp).ext X2.out).ext HY3.out).mds m5 hgp); clear r5 m5 hap) | ((with_reducible refine at_load_to 14 3 ?_); refine wpList_load_row rfl bit _ rfl w2.heap.size rfl bit #[.slice A2 n2 c2, .int .i64 u] (0, 0) _ HN5.out.h Tryz.underlying97 rfl szBt ?_) | ((with_reducible refine at_store 2 14 ?_); refine wpList_store_row rfl bit _ _ rfl w.heap.size #[.slice A2 n2 c2, .int .i64 u] rfl rfl bit _ HB5.out.h szBt rfl (one_two8 _ _ _ _) ?_) | fail)
  refine bodyPost_ret (results_cell_row rfl _ _ w.heap.size bit #[.slice A2 n2 c2, .int .i64 u] (0, 0) _ rfl (HB5.out.row _).h Tryz.underlying97 rfl szBt) rfl ?_
  have hm6 : Mds [w.heap.size] w5 (w5.setRow w.heap.size #[.slice A2 n2 c2, .int .i64 u]) := (Mds.refl _ _).setRow (by simp) _
  have o5 := own_keep (O2.out.ext HY3.out) HH.out (by have h2 := HX0.out.size; have h3 := M1.out.size; omega) M5.out
  refine ⟨_, _, _, rfl, ?_, R5.out.mds hm6 (fun k hk h1 => by rw [List.mem_singleton.1 h1] at hk; exact hgp hk), ?_⟩
  · exact ((o5.rw.mds hm6 fun k hk h1 => by
      rw [List.mem_singleton.1 h1] at hk
      exact o5.rw.ne HB5.out (by decide) hk).own).lower (by have h2 := HX0.out.size; have h3 := M1.out.size; omega)
  · have h1 : Mds G w w5 := (HX0.out.mds G).trans (M1.out.trans (((X2.out.trans HY3.out).mds G).trans M5.out))
    exact ((h1.mono (G' := w.heap.size :: G) fun k hk => List.mem_cons_of_mem _ hk).setRow (by simp) _).fit fun k hk => by
      rcases List.mem_cons.1 hk with e | e
      · exact .inr (by omega)
      · exact .inl e
end
end Go.Proofs.YtkdjhklnlnfhfaaGreatDoor
namespace Go.Proofs.YtkdjhklnlnfhfaaGreatDoor
open Go Go.RowKit
set_option maxRecDepth 4000

theorem strD_eq (x : List (BitVec 8)) : ((strOf x).toList != (strOf x).toList) = false := by rw [bne, beq_self_eq_true]; rfl
section
variable {w : World} {q : Nat} {G : List Nat} {s : RS}
theorem Cr.cell1 (h : Cr w q G s) : w.cell? ⟨q, 1, none⟩ = some (.bool s.a) ∧ w.frozen? ⟨q, 1, none⟩ = false := by
  obtain ⟨⟨p, H1, hb, _, _, _⟩, _⟩ := h
  exact ⟨hb.h.cell 1, hb.h.frozen 1⟩
theorem crMvs {G' : List Nat} {w1 w2 : World} (h : Mvs G G' w w1) (k : Mds G' w1 w2) : Mvs G G' w w2 := h.trans ⟨k, fun _ h => .inl h⟩
set_option maxHeartbeats 4000000 in
theorem crKind (h : Cr w q G s) (o : List (BitVec 8)) : Calls Tryz.prog 58 #[.pointer (some ⟨q, 0, none⟩), .string (strOf o)] w (StR w q G (kindS o s)) := by
  have EN := Kp.mk (crEnter h 48)
  unfold kindS
  simp only
  generalize enterS 48 s = s1 at *
  obtain ⟨b, s2, hp⟩ : ∃ b s2, takeS 6 s1 = (b, s2) := ⟨_, _, rfl⟩
  have TK : Kp (∀ (w1 : World) (G1 : List Nat), Cr w1 q G1 s1 → Calls Tryz.prog 109 #[.pointer (some ⟨q, 0, none⟩), .int .u8 6] w1 (TkR w1 q G1 b s2)) := ⟨fun w1 G1 h1 => by
    have h2 := crTake h1 6
    rw [hp] at h2
    exact h2⟩
  rw [hp]
  clear hp
  simp only
  by_cases hb : b = o
  · subst hb
    rw [if_pos rfl]
    obtain ⟨c, s3, hp⟩ : ∃ c s3, takeS 5 s2 = (c, s3) := ⟨_, _, rfl⟩
    have TL : Kp (∀ (w1 : World) (G1 : List Nat), Cr w1 q G1 s2 → Calls Tryz.prog 109 #[.pointer (some ⟨q, 0, none⟩), .int .u8 5] w1 (TkR w1 q G1 c s3)) := ⟨fun w1 G1 h1 => by
      have h2 := crTake h1 5
      rw [hp] at h2
      exact h2⟩
    rw [hp]
    clear hp h
    have hne := strD_eq b
    simp only
    by_cases hc : c = []
    · subst hc
      rw [if_pos rfl]
      go_enter Tryz.func58, Tryz.ntmps58
      go_wp2_with (first | (go_at_call 56; refine EN.out.mono ?_; rintro e w1 ⟨rfl, G1, r1, m1⟩; have T1 := Kp.mk (TK.out w1 G1 r1); have M1 := Kp.mk m1; clear EN TK r1 m1) | (go_at_call 109; refine T1.out.mono ?_; rintro e w2 ⟨A2, n2, c2, rfl, o2, r2, m2⟩; have T2 := Kp.mk (TL.out w2 G1 r2); have M2 := Kp.mk (crMvs M1.out m2); have hst := o2.bs.str (Ext.refl w2); clear o2 r2 m2 T1) | (go_at_call 109; refine T2.out.mono ?_; rintro e w3 ⟨A3, n3, c3, rfl, o3, r3, m3⟩; have M3 := Kp.mk (crMvs M2.out m3); have hln := o3.bs.len; have LV := Kp.mk (crLeave r3); obtain rfl : n3 = 0 := hln.symm; clear o3 r3 m3 T2) | (go_at_call 60; refine LV.out.mono ?_; rintro e w5 ⟨rfl, G5, r5, m5⟩; have R5 := Kp.mk r5; have M5 := Kp.mk m5; clear r5 m5) | fail)
      refine bodyPost_ret (results_none rfl _ _ _) rfl ?_
      exact ⟨rfl, G5, R5.out, M3.out.trans M5.out⟩
    · have hcl : 0 < c.length := List.length_pos_iff.2 hc
      rw [if_neg hc]
      go_enter Tryz.func58, Tryz.ntmps58
      go_wp2_with (first | (go_at_call 56; refine EN.out.mono ?_; rintro e w1 ⟨rfl, G1, r1, m1⟩; have T1 := Kp.mk (TK.out w1 G1 r1); have M1 := Kp.mk m1; clear EN TK r1 m1) | (go_at_call 109; refine T1.out.mono ?_; rintro e w2 ⟨A2, n2, c2, rfl, o2, r2, m2⟩; have T2 := Kp.mk (TL.out w2 G1 r2); have M2 := Kp.mk (crMvs M1.out m2); have hst := o2.bs.str (Ext.refl w2); clear o2 r2 m2 T1) | (go_at_call 109; refine T2.out.mono ?_; rintro e w3 ⟨A3, n3, c3, rfl, o3, r3, m3⟩; have M3 := Kp.mk (crMvs M2.out m3); have hln := o3.bs.len; have hb1 : decide (0 < (n3 : Int)) = true := decide_eq_true (by omega); have hb2 : 0 < (n3 : Int) := (by omega); have hb3 : 0 < n3 := (by omega); obtain ⟨hc1, hf1⟩ := r3.cell1; have PT := Kp.mk (r3.put true); have LV := Kp.mk (crLeave PT.out.1); clear o3 r3 m3 T2) | (go_at_call 60; refine LV.out.mono ?_; rintro e w5 ⟨rfl, G5, r5, m5⟩; have R5 := Kp.mk r5; have M5 := Kp.mk m5; clear r5 m5) | fail)
      refine bodyPost_ret (results_none rfl _ _ _) rfl ?_
      exact ⟨rfl, G5, R5.out, (crMvs M3.out PT.out.2).trans M5.out⟩
  · rw [if_neg hb]
    have hne : ((strOf b).toList == (strOf o).toList) = false := beq_eq_false_iff_ne.2 fun e => hb (strOf_inj e)
    clear h
    go_enter Tryz.func58, Tryz.ntmps58
    go_wp2_with (first | (go_at_call 56; refine EN.out.mono ?_; rintro e w1 ⟨rfl, G1, r1, m1⟩; have T1 := Kp.mk (TK.out w1 G1 r1); have M1 := Kp.mk m1; clear EN TK r1 m1) | (go_at_call 109; refine T1.out.mono ?_; rintro e w2 ⟨A2, n2, c2, rfl, o2, r2, m2⟩; obtain ⟨hc1, hf1⟩ := r2.cell1; have PT := Kp.mk (r2.put true); have LV := Kp.mk (crLeave PT.out.1); have M2 := Kp.mk (crMvs M1.out m2); have hst := o2.bs.str (Ext.refl w2); clear o2 r2 m2 T1) | (go_at_call 60; refine LV.out.mono ?_; rintro e w5 ⟨rfl, G5, r5, m5⟩; have R5 := Kp.mk r5; have M5 := Kp.mk m5; clear r5 m5) | fail)
    refine bodyPost_ret (results_none rfl _ _ _) rfl ?_
    exact ⟨rfl, G5, R5.out, (crMvs M2.out PT.out.2).trans M5.out⟩
end
end Go.Proofs.YtkdjhklnlnfhfaaGreatDoor
