/-
  The walks of slices.Grow, slices.Concat of two slices, bytes.Clone, Fill.
  tlv's writer: Close, where a whole is open; Bytes; NewWriter.
  Arrays of bytes compared.
  The library's slices.Concat of any parts, bytes.Equal, HasPrefix, CutPrefix, IndexByte.
-/
import Derived.Test.YtadndhenfoppiaaM5
import Derived.Lib.AppendZerosOnto
import Derived.Lib.SliceRun
import Derived.Test.YtadndhenfoppiaaM7
import Derived.Test.YtadndhenfoppiaaM0
import Derived.Stop.BytesEq
import Derived.Test.YtadndhenfoppiaaM1
import Derived.Lib.BytesEntry
namespace Go.Proofs.Ytadndhenfoppiaa
open Go Go.RowKit
set_option maxRecDepth 4000

/-- of two parts: how many bytes the first j hold, and which -/
def s2 (n m : Nat) (j : Nat) : Nat := if j = 0 then 0 else if j = 1 then n else n + m
def l2 (x y : List (BitVec 8)) (j : Nat) : List (BitVec 8) := if j = 0 then [] else if j = 1 then x else x ++ y
set_option maxHeartbeats 1000000 in
theorem Clone_any {b : List (BitVec 8)} {A : Option Addr} {n c : Nat} {w : World} (h : Bs w A n c b) (hn : n ≤ 140737488351232) :
    Calls Try.prog 38 #[.slice A n c] w (Fresh w n b) := by
  have hnil := fun (w : World) (a : Option Addr) (n c n' c' : Nat) => Lib.run_eql_slice_nil (P := Try.prog) w 23 5 a n c n' c' Try.underlying23
  have ho := Own.new w w.heap.size 0 [] rfl (Nat.le_refl _) (Nat.zero_le _)
  have hx : Ext w (w.alloc (.cells (bv []) 5)) := (by (repeat (first | assumption | exact Ext.refl _ | apply Ext.drew | apply Ext.drewN | apply Ext.alloc | refine Ext.trans ?_ (by assumption))); first | done | fail)
  have hb := h.ext hx
  have HN := Kp.mk h
  clear h
  cases A with
  | none =>
    obtain ⟨rfl, rfl⟩ := HN.out.s.2.2.1 rfl
    obtain rfl : b = [] := List.eq_nil_of_length_eq_zero HN.out.len
    go_enter Try.func38, Try.ntmps38
    go_wp2
    go_ret
    exact ⟨_, _, rfl, Bs.nil _, Own.nil _ _, Ext.refl _⟩
  | some a =>
    go_enter Try.func38, Try.ntmps38
    go_wp2_with (first | (at_builtin; refine wpList_append_bs rfl (.tmp 5) (.tmp 6) rfl w.heap.size _ 0 [] rfl ho (some a) n c b rfl hb (by omega) n (by omega) b rfl w hx (Nat.le_refl _) hx.size ?_; intro A5 c5 w5 ho5 hx5 _) | fail)
    go_ret
    exact ⟨_, _, rfl, ho5.bs, ho5, hx5⟩
end Go.Proofs.Ytadndhenfoppiaa
namespace Go.Proofs.Ytadndhenfoppiaa
open Go Go.RowKit
set_option maxRecDepth 4000

section
variable {w : World} {p : Nat} {m : BitVec 8} {G : List Nat}
set_option maxHeartbeats 4000000 in
theorem Close_in {gw go cw co N M D a n q : Nat} {L : List (BitVec 8)} {P : List Nat} (h : Cls w p gw go cw co N M D a n q m L P) (hk : mkB m = true) (hn : n ≤ 65535) :
    Calls Try.prog 19 #[.pointer (some ⟨p, 0, none⟩)] w fun e w' => e = .returned (.tuple #[]) ∧ ∃ vw' vo', Wt w' p vw' vo' (L.take a ++ hdr m n ++ L.drop (a + 1)) (P.take D) ∧ Mvs (fpW p (.slice (some ⟨gw, 0, none⟩) N cw) (.slice (some ⟨go, 0, none⟩) M co)) (fpW p vw' vo') w w' := by
  have hc := fun (w' : World) (hx : Ext w w') => h.wt.blk.cell hx 2
  have hc1 := fun (w' : World) (hx : Ext w w') => h.wt.blk.cell hx 1
  have hc0 := fun (w' : World) (hx : Ext w w') => h.wt.blk.cell hx 0
  have hco : ∀ (w' : World), Ext w w' → w'.cell? ⟨go, D, none⟩ = some (.int .i64 (a : Int)) := fun w' hx => by
    have h1 := (h.wt.ext hx).oo
    rw [h.lp] at h1
    exact h1.cell D a h.at_
  have hcw : ∀ (w' : World), Ext w w' → w'.cell? ⟨gw, a, none⟩ = some (.int .u8 (ub m)) := fun w' hx => by
    have h1 := (h.wt.ext hx).ow
    rw [h.ln] at h1
    have h2 := h1.cell a (by have := h.na; omega)
    rw [h.gm] at h2
    exact h2
  have e1 := h.dm
  have e2 := h.na
  have e3 := h.qa
  have e4 := h.nb
  have e5 := h.mb
  have b1 : IntKind.i64.wrap ((M : Int) - 1) = (D : Int) := by rw [IntKind.wrap_i64]; omega
  have b2 : decide ((D : Int) < 0) = false := decide_eq_false (by omega)
  have b3 : (D : Int) < (M : Int) := by omega
  have b4 : (a : Int) < (N : Int) := by omega
  have b5 : IntKind.i64.wrap ((N : Int) - (a : Int)) = (q : Int) := by rw [IntKind.wrap_i64]; omega
  have b6 : IntKind.i64.wrap ((q : Int) - 1) = (n : Int) := by rw [IntKind.wrap_i64]; omega
  have C := Kp.mk (fun u => Head_ok m n hn hk u)
  have H := Kp.mk h
  have hlo := hdn_lo n
  have hhi := hdn_hi n
  have hDl := hdr_len m n
  obtain ⟨k, hkk⟩ : ∃ k, hdn n = k := ⟨_, rfl⟩
  obtain ⟨E, hE⟩ : ∃ E, hdr m n = E := ⟨_, rfl⟩
  rw [hkk] at hlo hhi hDl C
  rw [hE] at hDl C ⊢
  have b7 : IntKind.i64.wrap ((a : Int) + 1) = (a : Int) + 1 := by rw [IntKind.wrap_i64]; omega
  have hcap : M ≤ co := by
    have h1 := h.wt.oo
    rw [h.lp] at h1
    exact h1.rd.cap
  have hs1 := fun W => run_upto (P := Try.prog) (some ⟨go, 0, none⟩) M co 58 3 Try.underlying58 szI D (D : Int) rfl (by omega) W
  have HR := Kp.mk (fun (u : World) (hx : Ext w u) (A3 : Option Addr) (c3 : Nat) (ho : Own u w.heap.size (.slice A3 k c3) k E) => Replace_any (i := a) (k := n) (by have h1 := (h.wt.ext hx).ow; rw [h.ln] at h1; exact h1) (ho.lower (Nat.zero_le _)) (fun e => by
    obtain ⟨g, e2, e3, _⟩ := ho.some_ (by omega)
    subst e2
    have h1 : g = gw := by simpa using e
    have h2 := h.wt.ow.rw.fp_lt gw (by rw [mem_fpv]; rfl)
    omega) hlo hhi h.na (by omega))
  have HT : Kp ((L.take a ++ E ++ L.drop (a + 1)).length = a + k + n) := ⟨by rw [List.length_append, List.length_append, List.length_take, List.length_drop, hDl, h.ln]; omega⟩
  have H := Kp.mk h
  have HPD : Kp ((P.take D).length = D) := ⟨by rw [List.length_take, h.lp]; omega⟩
  have HOT : Kp (D ≤ M) := ⟨by omega⟩
  clear h e1 e2 e3 e4 e5 hn hk hkk hE hDl hlo hhi hcap
  go_enter Try.func19, Try.ntmps19
  go_wp2_with fail
  refine wp_region_held_drew (S := fun w' => Ext w w') (by kernel_rfl) (Ext.refl w).drew (fun hHeld => ?_)
  refine wpAnyH_take (i := 0) (oi := ⟨some 30, _, _, _, _, _⟩) (v := ?_) rfl (by kernel_rfl) (by kernel_rfl) (by kernel_rfl) (fun _ _ _ h => h) (Or.inl ⟨by rfl, ?_⟩) (by assumption) ?_
  rotate_left
  · (intro w hSw; (try dsimp only at hSw); go_simp; try with_reducible rfl)
  try simp only [Act.put, List.setIfInBounds_toArray, List.set_cons_zero, List.set_cons_succ]
  refine wpAnyH_take (i := 1) (oi := ⟨some 31, _, _, _, _, _⟩) (v := ?_) rfl (by kernel_rfl) (by kernel_rfl) (by kernel_rfl) (fun _ _ _ h => h) (Or.inl ⟨by rfl, ?_⟩) (by assumption) ?_
  rotate_left
  · (intro w hSw; (try dsimp only at hSw); go_simp; try with_reducible rfl)
  try simp only [Act.put, List.setIfInBounds_toArray, List.set_cons_zero, List.set_cons_succ]
  refine wpAnyH_take (i := 2) (oi := ⟨some 32, _, _, _, _, _⟩) (v := ?_) rfl (by kernel_rfl) (by kernel_rfl) (by kernel_rfl) (fun _ _ _ h => h) (Or.inl ⟨by rfl, ?_⟩) (by assumption) ?_
  rotate_left
  · (intro w hSw; (try dsimp only at hSw); go_simp; try with_reducible rfl)
  try simp only [Act.put, List.setIfInBounds_toArray, List.set_cons_zero, List.set_cons_succ]
  refine wpAnyH_take (i := 3) (oi := ⟨some 33, _, _, _, _, _⟩) (v := ?_) rfl (by kernel_rfl) (by kernel_rfl) (by kernel_rfl) (fun _ _ _ h => h) (Or.inl ⟨by rfl, ?_⟩) (by assumption) ?_
  rotate_left
  · (intro w hSw; (try dsimp only at hSw); go_simp; try with_reducible rfl)
  try simp only [Act.put, List.setIfInBounds_toArray, List.set_cons_zero, List.set_cons_succ]
  refine wpAnyH_take (i := 4) (oi := ⟨some 34, _, _, _, _, _⟩) (v := ?_) rfl (by kernel_rfl) (by kernel_rfl) (by kernel_rfl) (fun _ _ _ h => h) (Or.inl ⟨by rfl, ?_⟩) (by assumption) ?_
  rotate_left
  · (intro w hSw; (try dsimp only at hSw); go_simp; try with_reducible rfl)
  try simp only [Act.put, List.setIfInBounds_toArray, List.set_cons_zero, List.set_cons_succ]
  refine wpAnyH_take (i := 5) (oi := ⟨some 35, _, _, _, _, _⟩) (v := ?_) rfl (by kernel_rfl) (by kernel_rfl) (by kernel_rfl) (fun _ _ _ h => h) (Or.inl ⟨by rfl, ?_⟩) (by assumption) ?_
  rotate_left
  · (intro w hSw; (try dsimp only at hSw); go_simp; try with_reducible rfl)
  try simp only [Act.put, List.setIfInBounds_toArray, List.set_cons_zero, List.set_cons_succ]
  refine wpAnyH_take (i := 6) (oi := ⟨some 36, _, _, _, _, _⟩) (v := ?_) rfl (by kernel_rfl) (by kernel_rfl) (by kernel_rfl) (fun _ _ _ h => h) (Or.inl ⟨by rfl, ?_⟩) (by assumption) ?_
  rotate_left
  · (intro w hSw; (try dsimp only at hSw); go_simp; try with_reducible rfl)
  try simp only [Act.put, List.setIfInBounds_toArray, List.set_cons_zero, List.set_cons_succ]
  refine wpAnyH_take (i := 7) (oi := ⟨some 37, _, _, _, _, _⟩) (v := ?_) rfl (by kernel_rfl) (by kernel_rfl) (by kernel_rfl) (fun _ _ _ h => h) (Or.inl ⟨by rfl, ?_⟩) (by assumption) ?_
  rotate_left
  · (intro w hSw; (try dsimp only at hSw); go_simp; try with_reducible rfl)
  try simp only [Act.put, List.setIfInBounds_toArray, List.set_cons_zero, List.set_cons_succ]
  refine wpAnyH_take (i := 8) (oi := ⟨some 38, _, _, _, _, _⟩) (v := ?_) rfl (by kernel_rfl) (by kernel_rfl) (by kernel_rfl) (fun _ _ _ h => h) (Or.inl ⟨by rfl, ?_⟩) (by assumption) ?_
  rotate_left
  · (intro w hSw; (try dsimp only at hSw); go_simp; try with_reducible rfl)
  try simp only [Act.put, List.setIfInBounds_toArray, List.set_cons_zero, List.set_cons_succ]
  refine wpAnyH_take (i := 9) (oi := ⟨some 39, _, _, _, _, _⟩) (v := ?_) rfl (by kernel_rfl) (by kernel_rfl) (by kernel_rfl) (fun _ _ _ h => h) (Or.inl ⟨by rfl, ?_⟩) (by assumption) ?_
  rotate_left
  · (intro w hSw; (try dsimp only at hSw); go_simp; try with_reducible rfl)
  try simp only [Act.put, List.setIfInBounds_toArray, List.set_cons_zero, List.set_cons_succ]
  refine wpAnyH_take (i := 10) (oi := ⟨some 40, _, _, _, _, _⟩) (v := ?_) rfl (by kernel_rfl) (by kernel_rfl) (by kernel_rfl) (fun _ _ _ h => h) (Or.inl ⟨by rfl, ?_⟩) (by assumption) ?_
  rotate_left
  · (intro w hSw; (try dsimp only at hSw); go_simp; try with_reducible rfl)
  try simp only [Act.put, List.setIfInBounds_toArray, List.set_cons_zero, List.set_cons_succ]
  refine wpAnyH_take (i := 11) (oi := ⟨some 41, _, _, _, _, _⟩) (v := ?_) rfl (by kernel_rfl) (by kernel_rfl) (by kernel_rfl) (fun _ _ _ h => h) (Or.inl ⟨by rfl, ?_⟩) (by assumption) ?_
  rotate_left
  · (intro w hSw; (try dsimp only at hSw); go_simp; try with_reducible rfl)
  try simp only [Act.put, List.setIfInBounds_toArray, List.set_cons_zero, List.set_cons_succ]
  refine wpAnyH_take (i := 12) (oi := ⟨some 42, _, _, _, _, _⟩) (v := ?_) rfl (by kernel_rfl) (by kernel_rfl) (by kernel_rfl) (fun _ _ _ h => h) (Or.inl ⟨by rfl, ?_⟩) (by assumption) ?_
  rotate_left
  · (intro w hSw; (try dsimp only at hSw); go_simp; try with_reducible rfl)
  try simp only [Act.put, List.setIfInBounds_toArray, List.set_cons_zero, List.set_cons_succ]
  refine wpAnyH_take (i := 13) (oi := ⟨some 43, _, _, _, _, _⟩) (v := ?_) rfl (by kernel_rfl) (by kernel_rfl) (by kernel_rfl) (fun _ _ _ h => h) (Or.inl ⟨by rfl, ?_⟩) (by assumption) ?_
  rotate_left
  · (intro w hSw; (try dsimp only at hSw); go_simp; try with_reducible rfl)
  try simp only [Act.put, List.setIfInBounds_toArray, List.set_cons_zero, List.set_cons_succ]
  refine wpAnyH_take (i := 14) (oi := ⟨some 44, _, _, _, _, _⟩) (v := ?_) rfl (by kernel_rfl) (by kernel_rfl) (by kernel_rfl) (fun _ _ _ h => h) (Or.inl ⟨by rfl, ?_⟩) (by assumption) ?_
  rotate_left
  · (intro w hSw; (try dsimp only at hSw); go_simp; try with_reducible rfl)
  try simp only [Act.put, List.setIfInBounds_toArray, List.set_cons_zero, List.set_cons_succ]
  refine next_one 15 (by kernel_rfl) rfl (by rfl) fun K' HK' => ?_
  go_simp
  refine (C.out _).mono ?_
  rintro e w3 ⟨A3, c3, rfl, hs3, ho3, hx3⟩
  have HX3 := Kp.mk (Ext.trans (show Ext w w.drew from (by (repeat (first | assumption | exact Ext.refl _ | apply Ext.drew | apply Ext.drewN | apply Ext.alloc | refine Ext.trans ?_ (by assumption))); first | done | fail)) hx3)
  have HO3 : Kp (Own w3 w.heap.size (.slice A3 k c3) k E) := ⟨ho3⟩
  clear hx3 hs3 ho3
  refine held_go HK' HX3.out (fun hHeld => ?_)
  clear HK'
  try simp only [Act.put, List.setIfInBounds_toArray, List.set_cons_zero, List.set_cons_succ]
  refine wpAnyH_take (i := 16) (oi := ⟨some 29, _, _, _, _, _⟩) (v := ?_) rfl (by kernel_rfl) (by kernel_rfl) (by kernel_rfl) (fun _ _ _ h => h) (Or.inl ⟨by rfl, ?_⟩) (by assumption) ?_
  rotate_left
  · (intro w hSw; (try dsimp only at hSw); go_simp; try with_reducible rfl)
  try simp only [Act.put, List.setIfInBounds_toArray, List.set_cons_zero, List.set_cons_succ]
  refine wpAnyH_take (i := 17) (oi := ⟨some 46, _, _, _, _, _⟩) (v := ?_) rfl (by kernel_rfl) (by kernel_rfl) (by kernel_rfl) (fun _ _ _ h => h) (Or.inl ⟨by rfl, ?_⟩) (by assumption) ?_
  rotate_left
  · (intro w hSw; (try dsimp only at hSw); go_simp; try with_reducible rfl)
  try simp only [Act.put, List.setIfInBounds_toArray, List.set_cons_zero, List.set_cons_succ]
  refine wpAnyH_take (i := 18) (oi := ⟨some 47, _, _, _, _, _⟩) (v := ?_) rfl (by kernel_rfl) (by kernel_rfl) (by kernel_rfl) (fun _ _ _ h => h) (Or.inl ⟨by rfl, ?_⟩) (by assumption) ?_
  rotate_left
  · (intro w hSw; (try dsimp only at hSw); go_simp; try with_reducible rfl)
  try simp only [Act.put, List.setIfInBounds_toArray, List.set_cons_zero, List.set_cons_succ]
  refine wpAnyH_take (i := 19) (oi := ⟨some 4, _, _, _, _, _⟩) (v := ?_) rfl (by kernel_rfl) (by kernel_rfl) (by kernel_rfl) (fun _ _ _ h => h) (Or.inl ⟨by rfl, ?_⟩) (by assumption) ?_
  rotate_left
  · (intro w hSw; (try dsimp only at hSw); go_simp; try with_reducible rfl)
  try simp only [Act.put, List.setIfInBounds_toArray, List.set_cons_zero, List.set_cons_succ]
  refine wpAnyH_take (i := 20) (oi := ⟨some 5, _, _, _, _, _⟩) (v := ?_) rfl (by kernel_rfl) (by kernel_rfl) (by kernel_rfl) (fun _ _ _ h => h) (Or.inl ⟨by rfl, ?_⟩) (by assumption) ?_
  rotate_left
  · (intro w hSw; (try dsimp only at hSw); go_simp; try with_reducible rfl)
  try simp only [Act.put, List.setIfInBounds_toArray, List.set_cons_zero, List.set_cons_succ]
  refine wpAnyH_done (by kernel_rfl) ?_ _
  clear hHeld
  have c03 := hc0 w3 HX3.out
  go_wp2_with (first | (go_at_call 37; refine (HR.out w3 HX3.out A3 c3 HO3.out).mono ?_; rintro e w4 ⟨A4, c4, rfl, ho4, hm4⟩; obtain ⟨c4', f4⟩ := (H.out.wt.ext HX3.out).at0 hm4; have W4 := Kp.mk ((H.out.wt.ext HX3.out).put hm4 (by rw [HT.out]; exact ho4)); have c41 := W4.out.1.blk.h.cell 1; have f41 := W4.out.1.blk.h.frozen 1; clear ho4 hm4) | fail)
  have W5 := (W4.out.1.hold (vo' := .slice (some ⟨go, 0, none⟩) D co) (P' := P.take D) (w' := w4.setCell ⟨p, 0, none⟩ (.slice A4 (a + k + n) c4)) ⟨Mds.refl _ _, fun k hk => .inl (by rw [mem_fpv] at hk ⊢; exact hk)⟩ (by
    have h1 := W4.out.1.oo
    rw [H.out.lp] at h1
    rw [HPD.out]
    exact h1.take HOT.out))
  first | go_end0 | (refine bodyPost_ret (results_none rfl _ _ _) rfl ?_)
  exact ⟨rfl, _, _, W5.1, (W4.out.2.trans W5.2).pre HX3.out⟩
/-- whatever the writer holds -/
theorem Close_any {s : TWs} (h : Wr w p G s) (hv : VW s) (hf : szW s ≤ 10000000000000) : Calls Try.prog 19 #[.pointer (some ⟨p, 0, none⟩)] w (WrR w p G (closeS s)) := by
  cases s with
  | bad k => exact Close_bad h
  | ok cur st =>
    cases st with
    | nil => exact Close_none h
    | cons x st =>
      obtain ⟨m, out⟩ := x
      have hk : mkB m = true := by
        have := hv.2 (m, out) (by simp)
        unfold isW at this
        rw [Bool.and_eq_true] at this
        exact this.1
      have hd : st.length < 24 := by have := hv.1; rw [List.length_cons] at this; omega
      have hf' : (flatT cur ((m, out) :: st)).length ≤ 10000000000000 := hf
      cases h with
      | @ok vw vo cur st' h =>
        obtain ⟨gw, go, cw, co, N, M, q, rfl, rfl, hcl⟩ := Cls.of h hd hf'
        by_cases hl : cur.length ≤ 65535
        · rw [show closeS (.ok cur ((m, out) :: st)) = .ok (out ++ elm m cur) st by simp [closeS, hl]]
          refine (Close_in hcl hk hl).mono ?_
          rintro e w' ⟨rfl, vw', vo', h1, h2⟩
          have h3 := flatT_cut m cur out st
          rw [h3.1, h3.2, posT_take, ← flatT_close] at h1
          exact ⟨rfl, _, .ok h1, h2⟩
        · rw [show closeS (.ok cur ((m, out) :: st)) = .bad 4 by simp [closeS, hl]]
          exact Close_long hcl hk (by omega)
/-- an error's number, 0: none -/
def errV (n : Nat) : Value := if n = 0 then .nilIface else err n
/-- how Bytes answers -/
def BytR (w : World) (s : TWs) (e : Ending) (w' : World) : Prop := ∃ A n c, e = .returned (.tuple #[.slice A n c, errV (doneC s)]) ∧ Own w' w.heap.size (.slice A n c) n (doneL s) ∧ Ext w w'
set_option maxHeartbeats 2000000 in
theorem Bytes_any {s : TWs} (h : Wr w p G s) (hv : VW s) (hf : szW s ≤ 10000000000000) : Calls Try.prog 21 #[.pointer (some ⟨p, 0, none⟩)] w (BytR w s) := by
  cases h with
  | @bad k h =>
    have hc := fun (w' : World) (hx : Ext w w') => h.cell hx 2
    have hk : errV (doneC (.bad k)) = err k := by unfold errV doneC; rw [if_neg (show ¬ k = 0 by have := hv.1; omega)]
    unfold BytR
    rw [hk]
    clear h hk
    go_enter Try.func21, Try.ntmps21
    go_wp2_with fail
    refine wp_region_held_drew (S := fun w' => Ext w w') (by kernel_rfl) (Ext.refl w).drew (fun hHeld => ?_)
    refine wpAnyH_take (i := 0) (oi := ⟨some 9, _, _, _, _, _⟩) (v := ?_) rfl (by kernel_rfl) (by kernel_rfl) (by kernel_rfl) (fun _ _ _ h => h) (Or.inl ⟨by rfl, ?_⟩) (by assumption) ?_
    rotate_left
    · (intro w hSw; (try dsimp only at hSw); go_simp; try with_reducible rfl)
    try simp only [Act.put, List.setIfInBounds_toArray, List.set_cons_zero, List.set_cons_succ]
    refine wpAnyH_take (i := 1) (oi := ⟨some 10, _, _, _, _, _⟩) (v := ?_) rfl (by kernel_rfl) (by kernel_rfl) (by kernel_rfl) (fun _ _ _ h => h) (Or.inl ⟨by rfl, ?_⟩) (by assumption) ?_
    rotate_left
    · (intro w hSw; (try dsimp only at hSw); go_simp; try with_reducible rfl)
    try simp only [Act.put, List.setIfInBounds_toArray, List.set_cons_zero, List.set_cons_succ]
    refine wpAnyH_take (i := 2) (oi := ⟨some 11, _, _, _, _, _⟩) (v := ?_) rfl (by kernel_rfl) (by kernel_rfl) (by kernel_rfl) (fun _ _ _ h => h) (Or.inl ⟨by rfl, ?_⟩) (by assumption) ?_
    rotate_left
    · (intro w hSw; (try dsimp only at hSw); go_simp; try with_reducible rfl)
    try simp only [Act.put, List.setIfInBounds_toArray, List.set_cons_zero, List.set_cons_succ]
    refine wpAnyH_take (i := 3) (oi := ⟨some 12, _, _, _, _, _⟩) (v := ?_) rfl (by kernel_rfl) (by kernel_rfl) (by kernel_rfl) (fun _ _ _ h => h) (Or.inl ⟨by rfl, ?_⟩) (by assumption) ?_
    rotate_left
    · (intro w hSw; (try dsimp only at hSw); go_simp; try with_reducible rfl)
    try simp only [Act.put, List.setIfInBounds_toArray, List.set_cons_zero, List.set_cons_succ]
    refine wpAnyH_take (i := 4) (oi := ⟨some 2, _, _, _, _, _⟩) (v := ?_) rfl (by kernel_rfl) (by kernel_rfl) (by kernel_rfl) (fun _ _ _ h => h) (Or.inl ⟨by rfl, ?_⟩) (by assumption) ?_
    rotate_left
    · (intro w hSw; (try dsimp only at hSw); go_simp; try with_reducible rfl)
    try simp only [Act.put, List.setIfInBounds_toArray, List.set_cons_zero, List.set_cons_succ]
    refine wpAnyH_take (i := 5) (oi := ⟨some 3, _, _, _, _, _⟩) (v := ?_) rfl (by kernel_rfl) (by kernel_rfl) (by kernel_rfl) (fun _ _ _ h => h) (Or.inl ⟨by rfl, ?_⟩) (by assumption) ?_
    rotate_left
    · (intro w hSw; (try dsimp only at hSw); go_simp; try with_reducible rfl)
    try simp only [Act.put, List.setIfInBounds_toArray, List.set_cons_zero, List.set_cons_succ]
    refine wpAnyH_done (by kernel_rfl) ?_ _
    go_wp2_with fail
    go_ret2
    exact ⟨_, _, _, rfl, Own.nil _ _, (by (repeat (first | assumption | exact Ext.refl _ | apply Ext.drew | apply Ext.drewN | apply Ext.alloc | refine Ext.trans ?_ (by assumption))); first | done | fail)⟩
  | @ok vw vo cur st h =>
    obtain ⟨Aw, cw, rfl⟩ := h.ow.form
    obtain ⟨Ao, co, rfl⟩ := h.oo.form
    have hc := fun (w' : World) (hx : Ext w w') => h.blk.cell hx 2
    have hc1 := fun (w' : World) (hx : Ext w w') => h.blk.cell hx 1
    have hc0 := fun (w' : World) (hx : Ext w w') => h.blk.cell hx 0
    rw [posT_len] at *
    cases st with
    | nil =>
      have C := Kp.mk (Clone_any h.ow.bs (Nat.le_trans hf (by decide)))
      have hl : doneL (.ok cur []) = cur := rfl
      have hk : errV (doneC (.ok cur [])) = .nilIface := rfl
      have hq : flatT cur [] = cur := rfl
      rw [hq] at C hc hc0 hc1
      unfold BytR
      rw [hk, hl]
      obtain ⟨N, hN⟩ : ∃ N, cur.length = N := ⟨_, rfl⟩
      rw [hN] at C hc hc0 hc1
      clear h hk hl hq hN hv hf
      go_enter Try.func21, Try.ntmps21
      go_wp2_with (first | (go_at_call 38; refine C.out.mono ?_; rintro e w1 ⟨A1, c1, rfl, hs1, ho1, hx1⟩) | fail)
      go_ret2
      exact ⟨_, _, _, rfl, ho1, hx1⟩
    | cons x st =>
      have hl : doneL (.ok cur (x :: st)) = [] := rfl
      have hk : errV (doneC (.ok cur (x :: st))) = err 17 := rfl
      unfold BytR
      rw [hk, hl]
      obtain ⟨D, hD⟩ : ∃ D, (x :: st).length = D := ⟨_, rfl⟩
      have hD0 : 0 < D := by rw [← hD, List.length_cons]; omega
      rw [hD] at hc hc0 hc1
      have b1 : 0 < (D : Int) := by omega
      clear h hk hl hv hf hD
      go_enter Try.func21, Try.ntmps21
      go_wp2_with fail
      go_ret2
      exact ⟨_, _, _, rfl, Own.nil _ _, (by (repeat (first | assumption | exact Ext.refl _ | apply Ext.drew | apply Ext.drewN | apply Ext.alloc | refine Ext.trans ?_ (by assumption))); first | done | fail)⟩
set_option maxHeartbeats 1000000 in
theorem NewWriter_any (w : World) : Calls Try.prog 12 #[] w fun e w' => e = .returned (.pointer (some ⟨w.heap.size, 0, none⟩)) ∧ (∃ G, Wr w' w.heap.size G (.ok [] []) ∧ Lo w.heap.size G) ∧ Ext w w' := by
  have hb := Blk.new w wtt #[.slice none 0 0, .slice none 0 0, .nilIface]
  have H := Kp.mk hb
  clear hb
  go_enter Try.func12, Try.ntmps12
  go_wp2_with fail
  go_ret
  refine ⟨rfl, ⟨_, .ok ⟨H.out, Own.nil _ _, Rw.nil _ _⟩, fun k hk => ?_⟩, (by (repeat (first | assumption | exact Ext.refl _ | apply Ext.drew | apply Ext.drewN | apply Ext.alloc | refine Ext.trans ?_ (by assumption))); first | done | fail)⟩
  rcases mem_fpW.1 hk with rfl | hk | hk
  · exact Nat.le_refl _
  · simp [fpv, Value.ownBlock] at hk
  · simp [fpv, Value.ownBlock] at hk
end
end Go.Proofs.Ytadndhenfoppiaa
namespace Go.Proofs.Ytadndhenfoppiaa
open Go Go.RowKit
set_option maxRecDepth 4000

theorem ub_beq (x y : BitVec 8) : (ub x == ub y) = (x == y) := by
  by_cases h : x = y
  · subst h; simp
  · have h2 : ub x ≠ ub y := fun e => h (BitVec.eq_of_toNat_eq (by unfold ub at e; omega))
    rw [beq_eq_false_iff_ne.2 h, beq_eq_false_iff_ne.2 h2]
theorem bv_cells (l : List (BitVec 8)) : bv l = ((l.map UInt8.ofBitVec).map Extern.Stop.cell).toArray := by
  unfold bv
  rw [List.map_map]
  rfl
theorem of_beq (xs ys : List (BitVec 8)) : (xs.map UInt8.ofBitVec == ys.map UInt8.ofBitVec) = (xs == ys) := by
  by_cases h : xs = ys
  · subst h; simp
  · have h2 : xs.map UInt8.ofBitVec ≠ ys.map UInt8.ofBitVec := fun e => h (by
      have h3 := congrArg (List.map UInt8.toBitVec) e
      rw [List.map_map, List.map_map] at h3
      have e1 : UInt8.toBitVec ∘ UInt8.ofBitVec = id := by funext z; rfl
      rwa [e1, List.map_id, List.map_id] at h3)
    rw [beq_eq_false_iff_ne.2 h, beq_eq_false_iff_ne.2 h2]
/-- the library's law on arrays of bytes, at bytes as bit vectors -/
theorem run_equalIn_bts {P : Program} (w : World) (d t e n : Nat) (ht : P.underlying t = some (.array n e)) (he : P.underlying e = some (.int .u8)) (hs : (P.info? e).map (·.size) = some 1)
    (xs ys : List (BitVec 8)) (hx : xs.length = n) (hy : ys.length = n) :
    (Op.equalIn (d + 2) t (.agg (bv xs)) (.agg (bv ys))).run P w = .ok (xs == ys) w := by
  have hsz : ∀ w, (sizeOf e).run P w = .ok 1 w := fun w => by
    cases hq : P.info? e with
    | none => simp [hq] at hs
    | some i =>
      have hs1 : i.size = 1 := by simpa [hq] using hs
      simp [sizeOf, typeInfo, hq, hs1]
  rw [bv_cells, bv_cells, run_equalIn_bytes w d t e n ht he hsz _ _ (by rw [List.length_map, hx]) (by rw [List.length_map, hy]), of_beq]
theorem bl_loop (bs : ByteArray) : ∀ (n i : Nat) (r : List UInt8), bs.size - i = n → ByteArray.toList.loop bs i r = r.reverse ++ bs.data.toList.drop i
  | 0, i, r, h => by
    rw [ByteArray.toList.loop, if_neg (by omega), List.drop_eq_nil_of_le (by have : bs.data.toList.length = bs.size := rfl; omega), List.append_nil]
  | n + 1, i, r, h => by
    have hi : i < bs.size := by omega
    have hi2 : i < bs.data.toList.length := hi
    rw [ByteArray.toList.loop, if_pos hi, bl_loop bs n (i + 1) _ (by omega), List.reverse_cons, List.append_assoc, List.drop_eq_getElem_cons hi2]
    congr 2
    simp [ByteArray.get!, hi]
theorem bl_toList (bs : ByteArray) : bs.toList = bs.data.toList := by
  unfold ByteArray.toList
  rw [bl_loop bs _ 0 [] rfl]
  simp
theorem strOf_toList (l : List (BitVec 8)) : (strOf l).toList = l.map UInt8.ofBitVec := by rw [bl_toList]; rfl
theorem strOf_inj {x y : List (BitVec 8)} (h : (strOf x).toList = (strOf y).toList) : x = y := by
  rw [strOf_toList, strOf_toList] at h
  have h3 := congrArg (List.map UInt8.toBitVec) h
  rw [List.map_map, List.map_map] at h3
  have e : UInt8.toBitVec ∘ UInt8.ofBitVec = id := by funext z; rfl
  rwa [e, List.map_id, List.map_id] at h3
end Go.Proofs.Ytadndhenfoppiaa
namespace Go.Proofs.Ytadndhenfoppiaa
open Go Go.RowKit
set_option maxRecDepth 4000

/-- one of the parts that are joined -/
structure Part where
  A : Option Addr
  n : Nat
  c : Nat
  l : List (BitVec 8)
def Part.v (p : Part) : Value := .slice p.A p.n p.c
def pN : List Part → Nat
  | [] => 0
  | p :: r => p.n + pN r
def pL : List Part → List (BitVec 8)
  | [] => []
  | p :: r => p.l ++ pL r
theorem pN_take (ps : List Part) (j : Nat) (p : Part) (h : ps[j]? = some p) : pN (ps.take (j + 1)) = pN (ps.take j) + p.n := by
  induction ps generalizing j with
  | nil => cases h
  | cons q r ih =>
    cases j with
    | zero => simp at h; subst h; simp [pN]
    | succ j =>
      have h2 := ih j (by simpa using h)
      rw [List.take_succ_cons, List.take_succ_cons, pN, pN, h2]
      omega
theorem pL_take (ps : List Part) (j : Nat) (p : Part) (h : ps[j]? = some p) : pL (ps.take (j + 1)) = pL (ps.take j) ++ p.l := by
  induction ps generalizing j with
  | nil => cases h
  | cons q r ih =>
    cases j with
    | zero => simp at h; subst h; simp [pL]
    | succ j =>
      have h2 := ih j (by simpa using h)
      rw [List.take_succ_cons, List.take_succ_cons, pL, pL, h2, List.append_assoc]
theorem pN_le (ps : List Part) : ∀ j, pN (ps.take j) ≤ pN ps := by
  induction ps with
  | nil => intro j; simp [pN]
  | cons q r ih =>
    intro j
    cases j with
    | zero => simp [pN]
    | succ j =>
      rw [List.take_succ_cons, pN, pN]
      have := ih j
      omega
theorem str_beq (l1 l2 : List (BitVec 8)) : ((strOf l1).toList == (strOf l2).toList) = (l1 == l2) := by rw [strOf_toList, strOf_toList, of_beq]
theorem Equal_any {l1 l2 : List (BitVec 8)} {A B : Option Addr} {n c m d : Nat} {w : World} (h1 : Bs w A n c l1) (h2 : Bs w B m d l2) :
    Calls Try.prog 50 #[.slice A n c, .slice B m d] w fun e w' => e = .returned (.bool (l1 == l2)) ∧ w' = w := by
  have k1 := h1.str (Ext.refl w)
  have k2 := h2.str (Ext.refl w)
  rw [← str_beq]
  clear h1 h2
  go_enter Try.func50, Try.ntmps50
  go_wp2
  go_ret
  exact ⟨rfl, rfl⟩
set_option maxHeartbeats 1000000 in
/-- does it begin so? -/
theorem HasPrefix_any {l1 l2 : List (BitVec 8)} {A B : Option Addr} {n c m d : Nat} {w : World} (h1 : Bs w A n c l1) (h2 : Bs w B m d l2) (hn : n ≤ 4611686018427387904) (hm : m ≤ 4611686018427387904) (b : Bool) (hb : b = true ↔ l1.take m = l2) :
    Calls Try.prog 48 #[.slice A n c, .slice B m d] w fun e w' => e = .returned (.bool b) ∧ w' = w := by
  have e1 := h1.len
  have e2 := h2.len
  by_cases hle : m ≤ n
  · have h3 := h1.take m hle
    have b0 : (m : Int) ≤ (n : Int) := by omega
    have hcap := h1.cap
    have hs := fun W => run_upto (P := Try.prog) A n c 23 5 Try.underlying23 szB m (m : Int) rfl (by omega) W
    have C := Kp.mk (Equal_any h3 h2)
    rw [show (l1.take m == l2) = b by
      cases b
      · exact beq_eq_false_iff_ne.2 fun e => by have := hb.2 e; cases this
      · exact beq_iff_eq.2 (hb.1 rfl)] at C
    clear h1 h2 h3 hb e1 e2 hle
    cases b
    · go_enter Try.func48, Try.ntmps48
      go_wp2_with (go_at_call 50; refine C.out.mono ?_; rintro e w1 ⟨rfl, rfl⟩)
      go_ret
      exact ⟨rfl, rfl⟩
    · go_enter Try.func48, Try.ntmps48
      go_wp2_with (go_at_call 50; refine C.out.mono ?_; rintro e w1 ⟨rfl, rfl⟩)
      go_ret
      exact ⟨rfl, rfl⟩
  · obtain rfl : b = false := by
      cases b
      · rfl
      · have h3 := hb.1 rfl
        have := congrArg List.length h3
        rw [List.length_take] at this
        omega
    have b0 : decide ((m : Int) ≤ (n : Int)) = false := decide_eq_false (by omega)
    clear h1 h2 hb e1 e2
    go_enter Try.func48, Try.ntmps48
    go_wp2_with fail
    go_ret
    exact ⟨rfl, rfl⟩
theorem Bs.drop {w : World} {A : Option Addr} {n c : Nat} {l : List (BitVec 8)} (h : Bs w A n c l) (k : Nat) (hk : k ≤ n) : Bs w (if c = k then A else A.map (·.add k)) (n - k) (c - k) (l.drop k) := by
  have hl := h.len
  have hcap := h.cap
  refine ⟨by rw [List.length_drop, hl], by omega, fun e => ?_, fun hn => ?_⟩
  · have hA : A = none := by
      cases A with
      | none => rfl
      | some a => split at e <;> simp at e
    have := h.s.2.2.1 hA
    omega
  · obtain ⟨g, o, rfl, hc⟩ := h.s.2.2.2 (by omega)
    rw [if_neg (by omega)]
    have hadd : (⟨g, o, none⟩ : Addr).add k = ⟨g, o + k, none⟩ := by unfold Addr.add; split <;> simp_all
    refine ⟨g, o + k, by simp [hadd], fun j hj => ?_⟩
    rw [gb_drop, Nat.add_assoc]
    exact hc (k + j) (by omega)
/-- how many bytes stand ahead of the first 00 -/
def fz : List (BitVec 8) → Nat
  | [] => 0
  | x :: r => if x = 0 then 0 else fz r + 1
theorem fz_le (l : List (BitVec 8)) : fz l ≤ l.length := by
  induction l with
  | nil => exact Nat.le_refl _
  | cons x r ih => unfold fz; split <;> simp; omega
theorem fz_ahead (l : List (BitVec 8)) : ∀ j, j < fz l → gb l j ≠ 0 := by
  induction l with
  | nil => intro j h; exact absurd h (Nat.not_lt_zero _)
  | cons x r ih =>
    intro j h
    unfold fz at h
    split at h
    · omega
    · next hx =>
      cases j with
      | zero => simpa [gb] using hx
      | succ j => have := ih j (by omega); simpa [gb] using this
theorem fz_at (l : List (BitVec 8)) (h : fz l < l.length) : gb l (fz l) = 0 := by
  induction l with
  | nil => cases h
  | cons x r ih =>
    by_cases hx : x = 0
    · rw [show fz (x :: r) = 0 by unfold fz; rw [if_pos hx]]
      simp [gb, hx]
    · have e : fz (x :: r) = fz r + 1 := by rw [fz, if_neg hx]
      rw [e] at h ⊢
      have := ih (by simpa using h)
      simpa [gb] using this
def fzI (l : List (BitVec 8)) : Int := if fz l < l.length then (fz l : Int) else -1
theorem ib_fz (l : List (BitVec 8)) : Lib.indexByte (l.map UInt8.ofBitVec) 0 = fzI l := by
  induction l with
  | nil => rfl
  | cons x r ih =>
    rw [List.map_cons, Lib.indexByte, ih]
    by_cases hx : x = 0
    · subst hx
      rfl
    · have hne : (UInt8.ofBitVec x == 0) = false := by
        refine beq_eq_false_iff_ne.2 fun e => hx ?_
        have := congrArg UInt8.toBitVec e
        exact this
      rw [hne]
      unfold fzI
      rw [fz, if_neg hx]
      simp only [Bool.false_eq_true, if_false, List.length_cons]
      by_cases h : fz r < r.length
      · have e1 : ((fz r : Int) == -1) = false := beq_eq_false_iff_ne.2 (by omega)
        simp only [if_pos h, e1, if_pos (show fz r + 1 < r.length + 1 by omega)]
        simp
      · simp only [if_neg h, if_neg (show ¬ fz r + 1 < r.length + 1 by omega)]
        rfl
end Go.Proofs.Ytadndhenfoppiaa
