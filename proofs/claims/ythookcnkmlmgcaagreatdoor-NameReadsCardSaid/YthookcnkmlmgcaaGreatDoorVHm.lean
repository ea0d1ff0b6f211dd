/-
  tlv's writer: Close, where a whole is open; Bytes; NewWriter.
-/
import Derived.Test.YthookcnkmlmgcaaGreatDoorVHl
import Derived.Test.YthookcnkmlmgcaaGreatDoorM11
namespace Go.Proofs.YthookcnkmlmgcaaGreatDoor
open Go Go.RowKit
set_option maxRecDepth 4000

section
variable {w : World} {p : Nat} {m : BitVec 8} {G : List Nat}
set_option maxHeartbeats 4000000 in
theorem Close_in {gw go cw co N M D a n q : Nat} {L : List (BitVec 8)} {P : List Nat} (h : Cls w p gw go cw co N M D a n q m L P) (hk : mkB m = true) (hn : n ≤ 65535) :
    Calls Tryz.prog 70 #[.pointer (some ⟨p, 0, none⟩)] w fun e w' => e = .returned (.tuple #[]) ∧ ∃ vw' vo', Wt w' p vw' vo' (L.take a ++ hdr m n ++ L.drop (a + 1)) (P.take D) ∧ Mvs (fpW p (.slice (some ⟨gw, 0, none⟩) N cw) (.slice (some ⟨go, 0, none⟩) M co)) (fpW p vw' vo') w w' := by
  have hc := fun (w' : World) (hx : Ext w w') => h.wt.blk.cell hx 2
  have hc1 := fun (w' : World) (hx : Ext w w') => h.wt.blk.cell hx 1
  have hc0 := fun (w' : World) (hx : Ext w w') => h.wt.blk.cell hx 0
  have hco : ∀ (w' : World), Ext w w' → w'.cell? ⟨go, D, none⟩ = some (.int .i64 (a : Int)) := fun w' hx => by
    have h1 := (h.wt.ext hx).oo
    rw [h.lp] at h1
    exact h1.cell D a h.at_
  have hcw : ∀ (w' : World), Ext w w' → w'.cell? ⟨gw, a, none⟩ = some (.int .u8 (ub m)) := fun w' hx => by
    have h1 := (h.wt.ext hx).ow
    rw [h.ln] at h1
    have h2 := h1.cell a (by have := h.na; omega)
    rw [h.gm] at h2
    exact h2
  have e1 := h.dm
  have e2 := h.na
  have e3 := h.qa
  have e4 := h.nb
  have e5 := h.mb
  have b1 : IntKind.i64.wrap ((M : Int) - 1) = (D : Int) := by rw [IntKind.wrap_i64]; omega
  have b2 : decide ((D : Int) < 0) = false := decide_eq_false (by omega)
  have b3 : (D : Int) < (M : Int) := by omega
  have b4 : (a : Int) < (N : Int) := by omega
  have b5 : IntKind.i64.wrap ((N : Int) - (a : Int)) = (q : Int) := by rw [IntKind.wrap_i64]; omega
  have b6 : IntKind.i64.wrap ((q : Int) - 1) = (n : Int) := by rw [IntKind.wrap_i64]; omega
  have C := Kp.mk (fun u => Head_ok m n hn hk u)
  have H := Kp.mk h
  have hlo := hdn_lo n
  have hhi := hdn_hi n
  have hDl := hdr_len m n
  obtain ⟨k, hkk⟩ : ∃ k, hdn n = k := ⟨_, rfl⟩
  obtain ⟨E, hE⟩ : ∃ E, hdr m n = E := ⟨_, rfl⟩
  rw [hkk] at hlo hhi hDl C
  rw [hE] at hDl C ⊢
  have b7 : IntKind.i64.wrap ((a : Int) + 1) = (a : Int) + 1 := by rw [IntKind.wrap_i64]; omega
  have hcap : M ≤ co := by
    have h1 := h.wt.oo
    rw [h.lp] at h1
    exact h1.rd.cap
  have hs1 := fun W => run_upto (P := Tryz.prog) (some ⟨go, 0, none⟩) M co 120 3 Tryz.underlying120 szI D (D : Int) rfl (by omega) W
  have HR := Kp.mk (fun (u : World) (hx : Ext w u) (A3 : Option Addr) (c3 : Nat) (ho : Own u w.heap.size (.slice A3 k c3) k E) => Replace_any (i := a) (k := n) (by have h1 := (h.wt.ext hx).ow; rw [h.ln] at h1; exact h1) (ho.lower (Nat.zero_le _)) (fun e => by
    obtain ⟨g, e2, e3, _⟩ := ho.some_ (by omega)
    subst e2
    have h1 : g = gw := by simpa using e
    have h2 := h.wt.ow.rw.fp_lt gw (by rw [mem_fpv]; rfl)
    omega) hlo hhi h.na (by omega))
  have HT : Kp ((L.take a ++ E ++ L.drop (a + 1)).length = a + k + n) := ⟨by rw [List.length_append, List.length_append, List.length_take, List.length_drop, hDl, h.ln]; omega⟩
  have H := Kp.mk h
  have HPD : Kp ((P.take D).length = D) := ⟨by rw [List.length_take, h.lp]; omega⟩
  have HOT : Kp (D ≤ M) := ⟨by omega⟩
  clear h e1 e2 e3 e4 e5 hn hk hkk hE hDl hlo hhi hcap
  go_enter Tryz.func70, Tryz.ntmps70
  go_wp2_with fail
  refine wp_region_held_drew (S := fun w' => Ext w w') (by kernel_rfl) (Ext.refl w).drew (fun hHeld => ?_)
  refine wpAnyH_take (i := 0) (oi := ⟨some 30, _, _, _, _, _⟩) (v := ?_) rfl (by kernel_rfl) (by kernel_rfl) (by kernel_rfl) (fun _ _ _ h => h) (Or.inl ⟨by rfl, ?_⟩) (by assumption) ?_
  rotate_left
  · (intro w hSw; (try dsimp only at hSw); go_simp; try with_reducible rfl)
  try simp only [Act.put, List.setIfInBounds_toArray, List.set_cons_zero, List.set_cons_succ]
  refine wpAnyH_take (i := 1) (oi := ⟨some 31, _, _, _, _, _⟩) (v := ?_) rfl (by kernel_rfl) (by kernel_rfl) (by kernel_rfl) (fun _ _ _ h => h) (Or.inl ⟨by rfl, ?_⟩) (by assumption) ?_
  rotate_left
  · (intro w hSw; (try dsimp only at hSw); go_simp; try with_reducible rfl)
  try simp only [Act.put, List.setIfInBounds_toArray, List.set_cons_zero, List.set_cons_succ]
  refine wpAnyH_take (i := 2) (oi := ⟨some 32, _, _, _, _, _⟩) (v := ?_) rfl (by kernel_rfl) (by kernel_rfl) (by kernel_rfl) (fun _ _ _ h => h) (Or.inl ⟨by rfl, ?_⟩) (by assumption) ?_
  rotate_left
  · (intro w hSw; (try dsimp only at hSw); go_simp; try with_reducible rfl)
  try simp only [Act.put, List.setIfInBounds_toArray, List.set_cons_zero, List.set_cons_succ]
  refine wpAnyH_take (i := 3) (oi := ⟨some 33, _, _, _, _, _⟩) (v := ?_) rfl (by kernel_rfl) (by kernel_rfl) (by kernel_rfl) (fun _ _ _ h => h) (Or.inl ⟨by rfl, ?_⟩) (by assumption) ?_
  rotate_left
  · (intro w hSw; (try dsimp only at hSw); go_simp; try with_reducible rfl)
  try simp only [Act.put, List.setIfInBounds_toArray, List.set_cons_zero, List.set_cons_succ]
  refine wpAnyH_take (i := 4) (oi := ⟨some 34, _, _, _, _, _⟩) (v := ?_) rfl (by kernel_rfl) (by kernel_rfl) (by kernel_rfl) (fun _ _ _ h => h) (Or.inl ⟨by rfl, ?_⟩) (by assumption) ?_
  rotate_left
  · (intro w hSw; (try dsimp only at hSw); go_simp; try with_reducible rfl)
  try simp only [Act.put, List.setIfInBounds_toArray, List.set_cons_zero, List.set_cons_succ]
  refine wpAnyH_take (i := 5) (oi := ⟨some 35, _, _, _, _, _⟩) (v := ?_) rfl (by kernel_rfl) (by kernel_rfl) (by kernel_rfl) (fun _ _ _ h => h) (Or.inl ⟨by rfl, ?_⟩) (by assumption) ?_
  rotate_left
  · (intro w hSw; (try dsimp only at hSw); go_simp; try with_reducible rfl)
  try simp only [Act.put, List.setIfInBounds_toArray, List.set_cons_zero, List.set_cons_succ]
  refine wpAnyH_take (i := 6) (oi := ⟨some 36, _, _, _, _, _⟩) (v := ?_) rfl (by kernel_rfl) (by kernel_rfl) (by kernel_rfl) (fun _ _ _ h => h) (Or.inl ⟨by rfl, ?_⟩) (by assumption) ?_
  rotate_left
  · (intro w hSw; (try dsimp only at hSw); go_simp; try with_reducible rfl)
  try simp only [Act.put, List.setIfInBounds_toArray, List.set_cons_zero, List.set_cons_succ]
  refine wpAnyH_take (i := 7) (oi := ⟨some 37, _, _, _, _, _⟩) (v := ?_) rfl (by kernel_rfl) (by kernel_rfl) (by kernel_rfl) (fun _ _ _ h => h) (Or.inl ⟨by rfl, ?_⟩) (by assumption) ?_
  rotate_left
  · (intro w hSw; (try dsimp only at hSw); go_simp; try with_reducible rfl)
  try simp only [Act.put, List.setIfInBounds_toArray, List.set_cons_zero, List.set_cons_succ]
  refine wpAnyH_take (i := 8) (oi := ⟨some 38, _, _, _, _, _⟩) (v := ?_) rfl (by kernel_rfl) (by kernel_rfl) (by kernel_rfl) (fun _ _ _ h => h) (Or.inl ⟨by rfl, ?_⟩) (by assumption) ?_
  rotate_left
  · (intro w hSw; (try dsimp only at hSw); go_simp; try with_reducible rfl)
  try simp only [Act.put, List.setIfInBounds_toArray, List.set_cons_zero, List.set_cons_succ]
  refine wpAnyH_take (i := 9) (oi := ⟨some 39, _, _, _, _, _⟩) (v := ?_) rfl (by kernel_rfl) (by kernel_rfl) (by kernel_rfl) (fun _ _ _ h => h) (Or.inl ⟨by rfl, ?_⟩) (by assumption) ?_
  rotate_left
  · (intro w hSw; (try dsimp only at hSw); go_simp; try with_reducible rfl)
  try simp only [Act.put, List.setIfInBounds_toArray, List.set_cons_zero, List.set_cons_succ]
  refine wpAnyH_take (i := 10) (oi := ⟨some 40, _, _, _, _, _⟩) (v := ?_) rfl (by kernel_rfl) (by kernel_rfl) (by kernel_rfl) (fun _ _ _ h => h) (Or.inl ⟨by rfl, ?_⟩) (by assumption) ?_
  rotate_left
  · (intro w hSw; (try dsimp only at hSw); go_simp; try with_reducible rfl)
  try simp only [Act.put, List.setIfInBounds_toArray, List.set_cons_zero, List.set_cons_succ]
  refine wpAnyH_take (i := 11) (oi := ⟨some 41, _, _, _, _, _⟩) (v := ?_) rfl (by kernel_rfl) (by kernel_rfl) (by kernel_rfl) (fun _ _ _ h => h) (Or.inl ⟨by rfl, ?_⟩) (by assumption) ?_
  rotate_left
  · (intro w hSw; (try dsimp only at hSw); go_simp; try with_reducible rfl)
  try simp only [Act.put, List.setIfInBounds_toArray, List.set_cons_zero, List.set_cons_succ]
  refine wpAnyH_take (i := 12) (oi := ⟨some 42, _, _, _, _, _⟩) (v := ?_) rfl (by kernel_rfl) (by kernel_rfl) (by kernel_rfl) (fun _ _ _ h => h) (Or.inl ⟨by rfl, ?_⟩) (by assumption) ?_
  rotate_left
  · (intro w hSw; (try dsimp only at hSw); go_simp; try with_reducible rfl)
  try simp only [Act.put, List.setIfInBounds_toArray, List.set_cons_zero, List.set_cons_succ]
  refine wpAnyH_take (i := 13) (oi := ⟨some 43, _, _, _, _, _⟩) (v := ?_) rfl (by kernel_rfl) (by kernel_rfl) (by kernel_rfl) (fun _ _ _ h => h) (Or.inl ⟨by rfl, ?_⟩) (by assumption) ?_
  rotate_left
  · (intro w hSw; (try dsimp only at hSw); go_simp; try with_reducible rfl)
  try simp only [Act.put, List.setIfInBounds_toArray, List.set_cons_zero, List.set_cons_succ]
  refine wpAnyH_take (i := 14) (oi := ⟨some 44, _, _, _, _, _⟩) (v := ?_) rfl (by kernel_rfl) (by kernel_rfl) (by kernel_rfl) (fun _ _ _ h => h) (Or.inl ⟨by rfl, ?_⟩) (by assumption) ?_
  rotate_left
  · (intro w hSw; (try dsimp only at hSw); go_simp; try with_reducible rfl)
  try simp only [Act.put, List.setIfInBounds_toArray, List.set_cons_zero, List.set_cons_succ]
  refine next_one 15 (by kernel_rfl) rfl (by rfl) fun K' HK' => ?_
  go_simp
  refine (C.out _).mono ?_
  rintro e w3 ⟨A3, c3, rfl, hs3, ho3, hx3⟩
  have HX3 := Kp.mk (Ext.trans (show Ext w w.drew from (by (repeat (first | assumption | exact Ext.refl _ | apply Ext.drew | apply Ext.drewN | apply Ext.alloc | refine Ext.trans ?_ (by assumption))); first | done | fail)) hx3)
  have HO3 : Kp (Own w3 w.heap.size (.slice A3 k c3) k E) := ⟨ho3⟩
  clear hx3 hs3 ho3
  refine held_go HK' HX3.out (fun hHeld => ?_)
  clear HK'
  try simp only [Act.put, List.setIfInBounds_toArray, List.set_cons_zero, List.set_cons_succ]
  refine wpAnyH_take (i := 16) (oi := ⟨some 29, _, _, _, _, _⟩) (v := ?_) rfl (by kernel_rfl) (by kernel_rfl) (by kernel_rfl) (fun _ _ _ h => h) (Or.inl ⟨by rfl, ?_⟩) (by assumption) ?_
  rotate_left
  · (intro w hSw; (try dsimp only at hSw); go_simp; try with_reducible rfl)
  try simp only [Act.put, List.setIfInBounds_toArray, List.set_cons_zero, List.set_cons_succ]
  refine wpAnyH_take (i := 17) (oi := ⟨some 46, _, _, _, _, _⟩) (v := ?_) rfl (by kernel_rfl) (by kernel_rfl) (by kernel_rfl) (fun _ _ _ h => h) (Or.inl ⟨by rfl, ?_⟩) (by assumption) ?_
  rotate_left
  · (intro w hSw; (try dsimp only at hSw); go_simp; try with_reducible rfl)
  try simp only [Act.put, List.setIfInBounds_toArray, List.set_cons_zero, List.set_cons_succ]
  refine wpAnyH_take (i := 18) (oi := ⟨some 47, _, _, _, _, _⟩) (v := ?_) rfl (by kernel_rfl) (by kernel_rfl) (by kernel_rfl) (fun _ _ _ h => h) (Or.inl ⟨by rfl, ?_⟩) (by assumption) ?_
  rotate_left
  · (intro w hSw; (try dsimp only at hSw); go_simp; try with_reducible rfl)
  try simp only [Act.put, List.setIfInBounds_toArray, List.set_cons_zero, List.set_cons_succ]
  refine wpAnyH_take (i := 19) (oi := ⟨some 4, _, _, _, _, _⟩) (v := ?_) rfl (by kernel_rfl) (by kernel_rfl) (by kernel_rfl) (fun _ _ _ h => h) (Or.inl ⟨by rfl, ?_⟩) (by assumption) ?_
  rotate_left
  · (intro w hSw; (try dsimp only at hSw); go_simp; try with_reducible rfl)
  try simp only [Act.put, List.setIfInBounds_toArray, List.set_cons_zero, List.set_cons_succ]
  refine wpAnyH_take (i := 20) (oi := ⟨some 5, _, _, _, _, _⟩) (v := ?_) rfl (by kernel_rfl) (by kernel_rfl) (by kernel_rfl) (fun _ _ _ h => h) (Or.inl ⟨by rfl, ?_⟩) (by assumption) ?_
  rotate_left
  · (intro w hSw; (try dsimp only at hSw); go_simp; try with_reducible rfl)
  try simp only [Act.put, List.setIfInBounds_toArray, List.set_cons_zero, List.set_cons_succ]
  refine wpAnyH_done (by kernel_rfl) ?_ _
  clear hHeld
  have c03 := hc0 w3 HX3.out
  go_wp2_with (first | (go_at_call 81; refine (HR.out w3 HX3.out A3 c3 HO3.out).mono ?_; rintro e w4 ⟨A4, c4, rfl, ho4, hm4⟩; obtain ⟨c4', f4⟩ := (H.out.wt.ext HX3.out).at0 hm4; have W4 := Kp.mk ((H.out.wt.ext HX3.out).put hm4 (by rw [HT.out]; exact ho4)); have c41 := W4.out.1.blk.h.cell 1; have f41 := W4.out.1.blk.h.frozen 1; clear ho4 hm4) | fail)
  have W5 := (W4.out.1.hold (vo' := .slice (some ⟨go, 0, none⟩) D co) (P' := P.take D) (w' := w4.setCell ⟨p, 0, none⟩ (.slice A4 (a + k + n) c4)) ⟨Mds.refl _ _, fun k hk => .inl (by rw [mem_fpv] at hk ⊢; exact hk)⟩ (by
    have h1 := W4.out.1.oo
    rw [H.out.lp] at h1
    rw [HPD.out]
    exact h1.take HOT.out))
  first | go_end0 | (refine bodyPost_ret (results_none rfl _ _ _) rfl ?_)
  exact ⟨rfl, _, _, W5.1, (W4.out.2.trans W5.2).pre HX3.out⟩
/-- whatever the writer holds -/
theorem Close_any {s : TWs} (h : Wr w p G s) (hv : VW s) (hf : szW s ≤ 10000000000000) : Calls Tryz.prog 70 #[.pointer (some ⟨p, 0, none⟩)] w (WrR w p G (closeS s)) := by
  cases s with
  | bad k => exact Close_bad h
  | ok cur st =>
    cases st with
    | nil => exact Close_none h
    | cons x st =>
      obtain ⟨m, out⟩ := x
      have hk : mkB m = true := by
        have := hv.2 (m, out) (by simp)
        unfold isW at this
        rw [Bool.and_eq_true] at this
        exact this.1
      have hd : st.length < 24 := by have := hv.1; rw [List.length_cons] at this; omega
      have hf' : (flatT cur ((m, out) :: st)).length ≤ 10000000000000 := hf
      cases h with
      | @ok vw vo cur st' h =>
        obtain ⟨gw, go, cw, co, N, M, q, rfl, rfl, hcl⟩ := Cls.of h hd hf'
        by_cases hl : cur.length ≤ 65535
        · rw [show closeS (.ok cur ((m, out) :: st)) = .ok (out ++ elm m cur) st by simp [closeS, hl]]
          refine (Close_in hcl hk hl).mono ?_
          rintro e w' ⟨rfl, vw', vo', h1, h2⟩
          have h3 := flatT_cut m cur out st
          rw [h3.1, h3.2, posT_take, ← flatT_close] at h1
          exact ⟨rfl, _, .ok h1, h2⟩
        · rw [show closeS (.ok cur ((m, out) :: st)) = .bad 4 by simp [closeS, hl]]
          exact Close_long hcl hk (by omega)
/-- an error's number, 0: none -/
def errV (n : Nat) : Value := if n = 0 then .nilIface else err n
/-- how Bytes answers -/
def BytR (w : World) (s : TWs) (e : Ending) (w' : World) : Prop := ∃ A n c, e = .returned (.tuple #[.slice A n c, errV (doneC s)]) ∧ Own w' w.heap.size (.slice A n c) n (doneL s) ∧ Ext w w'
set_option maxHeartbeats 2000000 in
theorem Bytes_any {s : TWs} (h : Wr w p G s) (hv : VW s) (hf : szW s ≤ 10000000000000) : Calls Tryz.prog 71 #[.pointer (some ⟨p, 0, none⟩)] w (BytR w s) := by
  cases h with
  | @bad k h =>
    have hc := fun (w' : World) (hx : Ext w w') => h.cell hx 2
    have hk : errV (doneC (.bad k)) = err k := by unfold errV doneC; rw [if_neg (show ¬ k = 0 by have := hv.1; omega)]
    unfold BytR
    rw [hk]
    clear h hk
    go_enter Tryz.func71, Tryz.ntmps71
    go_wp2_with fail
    refine wp_region_held_drew (S := fun w' => Ext w w') (by kernel_rfl) (Ext.refl w).drew (fun hHeld => ?_)
    refine wpAnyH_take (i := 0) (oi := ⟨some 9, _, _, _, _, _⟩) (v := ?_) rfl (by kernel_rfl) (by kernel_rfl) (by kernel_rfl) (fun _ _ _ h => h) (Or.inl ⟨by rfl, ?_⟩) (by assumption) ?_
    rotate_left
    · (intro w hSw; (try dsimp only at hSw); go_simp; try with_reducible rfl)
    try simp only [Act.put, List.setIfInBounds_toArray, List.set_cons_zero, List.set_cons_succ]
    refine wpAnyH_take (i := 1) (oi := ⟨some 10, _, _, _, _, _⟩) (v := ?_) rfl (by kernel_rfl) (by kernel_rfl) (by kernel_rfl) (fun _ _ _ h => h) (Or.inl ⟨by rfl, ?_⟩) (by assumption) ?_
    rotate_left
    · (intro w hSw; (try dsimp only at hSw); go_simp; try with_reducible rfl)
    try simp only [Act.put, List.setIfInBounds_toArray, List.set_cons_zero, List.set_cons_succ]
    refine wpAnyH_take (i := 2) (oi := ⟨some 11, _, _, _, _, _⟩) (v := ?_) rfl (by kernel_rfl) (by kernel_rfl) (by kernel_rfl) (fun _ _ _ h => h) (Or.inl ⟨by rfl, ?_⟩) (by assumption) ?_
    rotate_left
    · (intro w hSw; (try dsimp only at hSw); go_simp; try with_reducible rfl)
    try simp only [Act.put, List.setIfInBounds_toArray, List.set_cons_zero, List.set_cons_succ]
    refine wpAnyH_take (i := 3) (oi := ⟨some 12, _, _, _, _, _⟩) (v := ?_) rfl (by kernel_rfl) (by kernel_rfl) (by kernel_rfl) (fun _ _ _ h => h) (Or.inl ⟨by rfl, ?_⟩) (by assumption) ?_
    rotate_left
    · (intro w hSw; (try dsimp only at hSw); go_simp; try with_reducible rfl)
    try simp only [Act.put, List.setIfInBounds_toArray, List.set_cons_zero, List.set_cons_succ]
    refine wpAnyH_take (i := 4) (oi := ⟨some 2, _, _, _, _, _⟩) (v := ?_) rfl (by kernel_rfl) (by kernel_rfl) (by kernel_rfl) (fun _ _ _ h => h) (Or.inl ⟨by rfl, ?_⟩) (by assumption) ?_
    rotate_left
    · (intro w hSw; (try dsimp only at hSw); go_simp; try with_reducible rfl)
    try simp only [Act.put, List.setIfInBounds_toArray, List.set_cons_zero, List.set_cons_succ]
    refine wpAnyH_take (i := 5) (oi := ⟨some 3, _, _, _, _, _⟩) (v := ?_) rfl (by kernel_rfl) (by kernel_rfl) (by kernel_rfl) (fun _ _ _ h => h) (Or.inl ⟨by rfl, ?_⟩) (by assumption) ?_
    rotate_left
    · (intro w hSw; (try dsimp only at hSw); go_simp; try with_reducible rfl)
    try simp only [Act.put, List.setIfInBounds_toArray, List.set_cons_zero, List.set_cons_succ]
    refine wpAnyH_done (by kernel_rfl) ?_ _
    go_wp2_with fail
    go_ret2
    exact ⟨_, _, _, rfl, Own.nil _ _, (by (repeat (first | assumption | exact Ext.refl _ | apply Ext.drew | apply Ext.drewN | apply Ext.alloc | refine Ext.trans ?_ (by assumption))); first | done | fail)⟩
  | @ok vw vo cur st h =>
    obtain ⟨Aw, cw, rfl⟩ := h.ow.form
    obtain ⟨Ao, co, rfl⟩ := h.oo.form
    have hc := fun (w' : World) (hx : Ext w w') => h.blk.cell hx 2
    have hc1 := fun (w' : World) (hx : Ext w w') => h.blk.cell hx 1
    have hc0 := fun (w' : World) (hx : Ext w w') => h.blk.cell hx 0
    rw [posT_len] at *
    cases st with
    | nil =>
      have C := Kp.mk (Clone_any h.ow.bs (Nat.le_trans hf (by decide)))
      have hl : doneL (.ok cur []) = cur := rfl
      have hk : errV (doneC (.ok cur [])) = .nilIface := rfl
      have hq : flatT cur [] = cur := rfl
      rw [hq] at C hc hc0 hc1
      unfold BytR
      rw [hk, hl]
      obtain ⟨N, hN⟩ : ∃ N, cur.length = N := ⟨_, rfl⟩
      rw [hN] at C hc hc0 hc1
      clear h hk hl hq hN hv hf
      go_enter Tryz.func71, Tryz.ntmps71
      go_wp2_with (first | (go_at_call 22; refine C.out.mono ?_; rintro e w1 ⟨A1, c1, rfl, hs1, ho1, hx1⟩) | fail)
      go_ret2
      exact ⟨_, _, _, rfl, ho1, hx1⟩
    | cons x st =>
      have hl : doneL (.ok cur (x :: st)) = [] := rfl
      have hk : errV (doneC (.ok cur (x :: st))) = err 17 := rfl
      unfold BytR
      rw [hk, hl]
      obtain ⟨D, hD⟩ : ∃ D, (x :: st).length = D := ⟨_, rfl⟩
      have hD0 : 0 < D := by rw [← hD, List.length_cons]; omega
      rw [hD] at hc hc0 hc1
      have b1 : 0 < (D : Int) := by omega
      clear h hk hl hv hf hD
      go_enter Tryz.func71, Tryz.ntmps71
      go_wp2_with fail
      go_ret2
      exact ⟨_, _, _, rfl, Own.nil _ _, (by (repeat (first | assumption | exact Ext.refl _ | apply Ext.drew | apply Ext.drewN | apply Ext.alloc | refine Ext.trans ?_ (by assumption))); first | done | fail)⟩
set_option maxHeartbeats 1000000 in
theorem NewWriter_any (w : World) : Calls Tryz.prog 67 #[] w fun e w' => e = .returned (.pointer (some ⟨w.heap.size, 0, none⟩)) ∧ (∃ G, Wr w' w.heap.size G (.ok [] []) ∧ Lo w.heap.size G) ∧ Ext w w' := by
  have hb := Blk.new w wtt #[.slice none 0 0, .slice none 0 0, .nilIface]
  have H := Kp.mk hb
  clear hb
  go_enter Tryz.func67, Tryz.ntmps67
  go_wp2_with fail
  go_ret
  refine ⟨rfl, ⟨_, .ok ⟨H.out, Own.nil _ _, Rw.nil _ _⟩, fun k hk => ?_⟩, (by (repeat (first | assumption | exact Ext.refl _ | apply Ext.drew | apply Ext.drewN | apply Ext.alloc | refine Ext.trans ?_ (by assumption))); first | done | fail)⟩
  rcases mem_fpW.1 hk with rfl | hk | hk
  · exact Nat.le_refl _
  · simp [fpv, Value.ownBlock] at hk
  · simp [fpv, Value.ownBlock] at hk
end
end Go.Proofs.YthookcnkmlmgcaaGreatDoor
