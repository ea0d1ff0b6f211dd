/-
  tlv's writer: Close.
-/
import Derived.Test.YthookcnkmlmgcaaGreatDoorVHk
namespace Go.Proofs.YthookcnkmlmgcaaGreatDoor
open Go Go.RowKit
set_option maxRecDepth 4000

theorem Replace_any {w : World} {g i k N c nv cv : Nat} {Av : Option Addr} {L lv : List (BitVec 8)} (ho : Own w 0 (.slice (some ⟨g, 0, none⟩) N c) N L) (hv : Own w 0 (.slice Av nv cv) nv lv) (hgv : Av.map (·.block) ≠ some g) (hn : 2 ≤ nv) (hn4 : nv ≤ 4) (hN : i + 1 + k = N) (hb : N ≤ 100000000000000) :
    Calls Tryz.prog 81 #[.slice (some ⟨g, 0, none⟩) N c, .int .i64 (i : Int), .int .i64 ((i : Int) + 1), .slice Av nv cv] w (RepR w (.slice (some ⟨g, 0, none⟩) N c) (i + nv + k) (L.take i ++ lv ++ L.drop (i + 1))) := by
  rcases Nat.eq_zero_or_pos k with h0 | h0
  · subst h0
    have h1 := Replace_end ho hv.bs hn hn4 hN hb
    have h2 : L.drop (i + 1) = [] := List.drop_of_length_le (by rw [ho.len]; omega)
    rw [h2, List.append_nil]
    exact h1
  · by_cases hc : c < i + nv + k
    · exact Replace_grow ho hv.bs hn hn4 hN h0 hb hc
    · exact Replace_in ho hv hgv hn hn4 hN h0 hb (by omega)
theorem szI : (Tryz.prog.info? 3).map (·.size) = some 1 := by kernel_rfl
section
variable {w : World} {p : Nat} {m : BitVec 8} {G : List Nat}
set_option maxHeartbeats 1000000 in
theorem Close_bad {k : Nat} (h : Wr w p G (.bad k)) : Calls Tryz.prog 70 #[.pointer (some ⟨p, 0, none⟩)] w (WrR w p G (.bad k)) := by
  cases h with
  | bad h =>
    have hc := fun (w' : World) (hx : Ext w w') => h.cell hx 2
    have H := Kp.mk h
    clear h
    go_enter Tryz.func70, Tryz.ntmps70
    go_wp2_with fail
    refine bodyPost_ret (results_none rfl _ _ _) rfl ?_
    exact ⟨rfl, _, .bad H.out, Mvs.refl _ _⟩
set_option maxHeartbeats 1000000 in
theorem Close_none {cur : List (BitVec 8)} (h : Wr w p G (.ok cur [])) : Calls Tryz.prog 70 #[.pointer (some ⟨p, 0, none⟩)] w (WrR w p G (.bad 17)) := by
  cases h with
  | @ok vw vo cur st h =>
    obtain ⟨Ao, co, rfl⟩ := h.oo.form
    have hc := fun (w' : World) (hx : Ext w w') => h.blk.cell hx 2
    have hc1 : ∀ (w' : World), Ext w w' → w'.cell? ⟨p, 1, none⟩ = some (.slice Ao 0 co) := fun (w' : World) (hx : Ext w w') => h.blk.cell hx 1
    have H := Kp.mk h
    clear h
    go_enter Tryz.func70, Tryz.ntmps70
    go_wp2_with (first | (go_at_call 80; refine (fail_any H.out.blk rfl 17).mono ?_; rintro e w2 ⟨rfl, hb2, hm2⟩) | fail)
    refine bodyPost_ret (results_none rfl _ _ _) rfl ?_
    exact ⟨rfl, _, .bad hb2, hm2.mono (fun k hk => mem_fpW.2 (.inl (List.mem_singleton.1 hk))), fun k hk => .inl (mem_fpW.2 (.inl (List.mem_singleton.1 hk)))⟩
/-- where a whole is open: what Close reads -/
structure Cls (w : World) (p gw go cw co N M D a n q : Nat) (m : BitVec 8) (L : List (BitVec 8)) (P : List Nat) : Prop where
  wt : Wt w p (.slice (some ⟨gw, 0, none⟩) N cw) (.slice (some ⟨go, 0, none⟩) M co) L P
  ln : L.length = N
  lp : P.length = M
  dm : M = D + 1
  na : a + 1 + n = N
  qa : q = n + 1
  at_ : P[D]? = some a
  gm : gb L a = m
  nb : N ≤ 10000000000000
  mb : M ≤ 100
theorem Cls.of {vw vo : Value} {cur out : List (BitVec 8)} {st : List (BitVec 8 × List (BitVec 8))} (h : Wt w p vw vo (flatT cur ((m, out) :: st)) (posT ((m, out) :: st))) (hd : st.length < 24) (hf : (flatT cur ((m, out) :: st)).length ≤ 10000000000000) :
    ∃ gw go cw co N M q, vw = .slice (some ⟨gw, 0, none⟩) N cw ∧ vo = .slice (some ⟨go, 0, none⟩) M co ∧ Cls w p gw go cw co N M st.length (flatT out st).length cur.length q m (flatT cur ((m, out) :: st)) (posT ((m, out) :: st)) := by
  obtain ⟨Aw, cw, rfl⟩ := h.ow.form
  obtain ⟨Ao, co, rfl⟩ := h.oo.form
  have h1 := flatT_len m cur out st
  have h2 : (posT ((m, out) :: st)).length = st.length + 1 := by rw [posT_len]; rfl
  obtain ⟨gw, rfl, _, _⟩ := h.ow.some_ (by omega)
  obtain ⟨go, rfl, _, _⟩ := h.oo.some_ (by omega)
  exact ⟨gw, go, cw, co, _, _, cur.length + 1, rfl, rfl, h, rfl, rfl, h2, by omega, rfl, posT_last m out st, flatT_at m cur out st, hf, by omega⟩
set_option maxHeartbeats 4000000 in
theorem Close_long {gw go cw co N M D a n q : Nat} {L : List (BitVec 8)} {P : List Nat} (h : Cls w p gw go cw co N M D a n q m L P) (hk : mkB m = true) (hn : 65535 < n) :
    Calls Tryz.prog 70 #[.pointer (some ⟨p, 0, none⟩)] w (WrR w p (fpW p (.slice (some ⟨gw, 0, none⟩) N cw) (.slice (some ⟨go, 0, none⟩) M co)) (.bad 4)) := by
  have hc := fun (w' : World) (hx : Ext w w') => h.wt.blk.cell hx 2
  have hc1 := fun (w' : World) (hx : Ext w w') => h.wt.blk.cell hx 1
  have hc0 := fun (w' : World) (hx : Ext w w') => h.wt.blk.cell hx 0
  have hco : ∀ (w' : World), Ext w w' → w'.cell? ⟨go, D, none⟩ = some (.int .i64 (a : Int)) := fun w' hx => by
    have h1 := (h.wt.ext hx).oo
    rw [h.lp] at h1
    exact h1.cell D a h.at_
  have hcw : ∀ (w' : World), Ext w w' → w'.cell? ⟨gw, a, none⟩ = some (.int .u8 (ub m)) := fun w' hx => by
    have h1 := (h.wt.ext hx).ow
    rw [h.ln] at h1
    have h2 := h1.cell a (by have := h.na; omega)
    rw [h.gm] at h2
    exact h2
  have e1 := h.dm
  have e2 := h.na
  have e3 := h.qa
  have e4 := h.nb
  have e5 := h.mb
  have b1 : IntKind.i64.wrap ((M : Int) - 1) = (D : Int) := by rw [IntKind.wrap_i64]; omega
  have b2 : decide ((D : Int) < 0) = false := decide_eq_false (by omega)
  have b3 : (D : Int) < (M : Int) := by omega
  have b4 : (a : Int) < (N : Int) := by omega
  have b5 : IntKind.i64.wrap ((N : Int) - (a : Int)) = (q : Int) := by rw [IntKind.wrap_i64]; omega
  have b6 : IntKind.i64.wrap ((q : Int) - 1) = (n : Int) := by rw [IntKind.wrap_i64]; omega
  have C := Kp.mk (fun u => Head_long m (n : Int) (by omega) hk u)
  have H := Kp.mk h
  clear h e1 e2 e3 e4 e5 hn hk
  go_enter Tryz.func70, Tryz.ntmps70
  go_wp2_with fail
  refine wp_region_held_drew (S := fun w' => Ext w w') (by kernel_rfl) (Ext.refl w).drew (fun hHeld => ?_)
  refine wpAnyH_take (i := 0) (oi := ⟨some 30, _, _, _, _, _⟩) (v := ?_) rfl (by kernel_rfl) (by kernel_rfl) (by kernel_rfl) (fun _ _ _ h => h) (Or.inl ⟨by rfl, ?_⟩) (by assumption) ?_
  rotate_left
  · (intro w hSw; (try dsimp only at hSw); go_simp; try with_reducible rfl)
  try simp only [Act.put, List.setIfInBounds_toArray, List.set_cons_zero, List.set_cons_succ]
  refine wpAnyH_take (i := 1) (oi := ⟨some 31, _, _, _, _, _⟩) (v := ?_) rfl (by kernel_rfl) (by kernel_rfl) (by kernel_rfl) (fun _ _ _ h => h) (Or.inl ⟨by rfl, ?_⟩) (by assumption) ?_
  rotate_left
  · (intro w hSw; (try dsimp only at hSw); go_simp; try with_reducible rfl)
  try simp only [Act.put, List.setIfInBounds_toArray, List.set_cons_zero, List.set_cons_succ]
  refine wpAnyH_take (i := 2) (oi := ⟨some 32, _, _, _, _, _⟩) (v := ?_) rfl (by kernel_rfl) (by kernel_rfl) (by kernel_rfl) (fun _ _ _ h => h) (Or.inl ⟨by rfl, ?_⟩) (by assumption) ?_
  rotate_left
  · (intro w hSw; (try dsimp only at hSw); go_simp; try with_reducible rfl)
  try simp only [Act.put, List.setIfInBounds_toArray, List.set_cons_zero, List.set_cons_succ]
  refine wpAnyH_take (i := 3) (oi := ⟨some 33, _, _, _, _, _⟩) (v := ?_) rfl (by kernel_rfl) (by kernel_rfl) (by kernel_rfl) (fun _ _ _ h => h) (Or.inl ⟨by rfl, ?_⟩) (by assumption) ?_
  rotate_left
  · (intro w hSw; (try dsimp only at hSw); go_simp; try with_reducible rfl)
  try simp only [Act.put, List.setIfInBounds_toArray, List.set_cons_zero, List.set_cons_succ]
  refine wpAnyH_take (i := 4) (oi := ⟨some 34, _, _, _, _, _⟩) (v := ?_) rfl (by kernel_rfl) (by kernel_rfl) (by kernel_rfl) (fun _ _ _ h => h) (Or.inl ⟨by rfl, ?_⟩) (by assumption) ?_
  rotate_left
  · (intro w hSw; (try dsimp only at hSw); go_simp; try with_reducible rfl)
  try simp only [Act.put, List.setIfInBounds_toArray, List.set_cons_zero, List.set_cons_succ]
  refine wpAnyH_take (i := 5) (oi := ⟨some 35, _, _, _, _, _⟩) (v := ?_) rfl (by kernel_rfl) (by kernel_rfl) (by kernel_rfl) (fun _ _ _ h => h) (Or.inl ⟨by rfl, ?_⟩) (by assumption) ?_
  rotate_left
  · (intro w hSw; (try dsimp only at hSw); go_simp; try with_reducible rfl)
  try simp only [Act.put, List.setIfInBounds_toArray, List.set_cons_zero, List.set_cons_succ]
  refine wpAnyH_take (i := 6) (oi := ⟨some 36, _, _, _, _, _⟩) (v := ?_) rfl (by kernel_rfl) (by kernel_rfl) (by kernel_rfl) (fun _ _ _ h => h) (Or.inl ⟨by rfl, ?_⟩) (by assumption) ?_
  rotate_left
  · (intro w hSw; (try dsimp only at hSw); go_simp; try with_reducible rfl)
  try simp only [Act.put, List.setIfInBounds_toArray, List.set_cons_zero, List.set_cons_succ]
  refine wpAnyH_take (i := 7) (oi := ⟨some 37, _, _, _, _, _⟩) (v := ?_) rfl (by kernel_rfl) (by kernel_rfl) (by kernel_rfl) (fun _ _ _ h => h) (Or.inl ⟨by rfl, ?_⟩) (by assumption) ?_
  rotate_left
  · (intro w hSw; (try dsimp only at hSw); go_simp; try with_reducible rfl)
  try simp only [Act.put, List.setIfInBounds_toArray, List.set_cons_zero, List.set_cons_succ]
  refine wpAnyH_take (i := 8) (oi := ⟨some 38, _, _, _, _, _⟩) (v := ?_) rfl (by kernel_rfl) (by kernel_rfl) (by kernel_rfl) (fun _ _ _ h => h) (Or.inl ⟨by rfl, ?_⟩) (by assumption) ?_
  rotate_left
  · (intro w hSw; (try dsimp only at hSw); go_simp; try with_reducible rfl)
  try simp only [Act.put, List.setIfInBounds_toArray, List.set_cons_zero, List.set_cons_succ]
  refine wpAnyH_take (i := 9) (oi := ⟨some 39, _, _, _, _, _⟩) (v := ?_) rfl (by kernel_rfl) (by kernel_rfl) (by kernel_rfl) (fun _ _ _ h => h) (Or.inl ⟨by rfl, ?_⟩) (by assumption) ?_
  rotate_left
  · (intro w hSw; (try dsimp only at hSw); go_simp; try with_reducible rfl)
  try simp only [Act.put, List.setIfInBounds_toArray, List.set_cons_zero, List.set_cons_succ]
  refine wpAnyH_take (i := 10) (oi := ⟨some 40, _, _, _, _, _⟩) (v := ?_) rfl (by kernel_rfl) (by kernel_rfl) (by kernel_rfl) (fun _ _ _ h => h) (Or.inl ⟨by rfl, ?_⟩) (by assumption) ?_
  rotate_left
  · (intro w hSw; (try dsimp only at hSw); go_simp; try with_reducible rfl)
  try simp only [Act.put, List.setIfInBounds_toArray, List.set_cons_zero, List.set_cons_succ]
  refine wpAnyH_take (i := 11) (oi := ⟨some 41, _, _, _, _, _⟩) (v := ?_) rfl (by kernel_rfl) (by kernel_rfl) (by kernel_rfl) (fun _ _ _ h => h) (Or.inl ⟨by rfl, ?_⟩) (by assumption) ?_
  rotate_left
  · (intro w hSw; (try dsimp only at hSw); go_simp; try with_reducible rfl)
  try simp only [Act.put, List.setIfInBounds_toArray, List.set_cons_zero, List.set_cons_succ]
  refine wpAnyH_take (i := 12) (oi := ⟨some 42, _, _, _, _, _⟩) (v := ?_) rfl (by kernel_rfl) (by kernel_rfl) (by kernel_rfl) (fun _ _ _ h => h) (Or.inl ⟨by rfl, ?_⟩) (by assumption) ?_
  rotate_left
  · (intro w hSw; (try dsimp only at hSw); go_simp; try with_reducible rfl)
  try simp only [Act.put, List.setIfInBounds_toArray, List.set_cons_zero, List.set_cons_succ]
  refine wpAnyH_take (i := 13) (oi := ⟨some 43, _, _, _, _, _⟩) (v := ?_) rfl (by kernel_rfl) (by kernel_rfl) (by kernel_rfl) (fun _ _ _ h => h) (Or.inl ⟨by rfl, ?_⟩) (by assumption) ?_
  rotate_left
  · (intro w hSw; (try dsimp only at hSw); go_simp; try with_reducible rfl)
  try simp only [Act.put, List.setIfInBounds_toArray, List.set_cons_zero, List.set_cons_succ]
  refine wpAnyH_take (i := 14) (oi := ⟨some 44, _, _, _, _, _⟩) (v := ?_) rfl (by kernel_rfl) (by kernel_rfl) (by kernel_rfl) (fun _ _ _ h => h) (Or.inl ⟨by rfl, ?_⟩) (by assumption) ?_
  rotate_left
  · (intro w hSw; (try dsimp only at hSw); go_simp; try with_reducible rfl)
  try simp only [Act.put, List.setIfInBounds_toArray, List.set_cons_zero, List.set_cons_succ]
  refine next_one 15 (by kernel_rfl) rfl (by rfl) fun K' HK' => ?_
  go_simp
  refine (C.out _).mono ?_
  rintro e w3 ⟨rfl, hx3⟩
  have HX3 := Kp.mk (Ext.trans (show Ext w w.drew from (by (repeat (first | assumption | exact Ext.refl _ | apply Ext.drew | apply Ext.drewN | apply Ext.alloc | refine Ext.trans ?_ (by assumption))); first | done | fail)) hx3)
  clear hx3
  refine held_go HK' HX3.out (fun hHeld => ?_)
  clear HK'
  try simp only [Act.put, List.setIfInBounds_toArray, List.set_cons_zero, List.set_cons_succ]
  refine wpAnyH_take (i := 16) (oi := ⟨some 29, _, _, _, _, _⟩) (v := ?_) rfl (by kernel_rfl) (by kernel_rfl) (by kernel_rfl) (fun _ _ _ h => h) (Or.inl ⟨by rfl, ?_⟩) (by assumption) ?_
  rotate_left
  · (intro w hSw; (try dsimp only at hSw); go_simp; try with_reducible rfl)
  try simp only [Act.put, List.setIfInBounds_toArray, List.set_cons_zero, List.set_cons_succ]
  refine wpAnyH_take (i := 17) (oi := ⟨some 46, _, _, _, _, _⟩) (v := ?_) rfl (by kernel_rfl) (by kernel_rfl) (by kernel_rfl) (fun _ _ _ h => h) (Or.inl ⟨by rfl, ?_⟩) (by assumption) ?_
  rotate_left
  · (intro w hSw; (try dsimp only at hSw); go_simp; try with_reducible rfl)
  try simp only [Act.put, List.setIfInBounds_toArray, List.set_cons_zero, List.set_cons_succ]
  refine wpAnyH_take (i := 18) (oi := ⟨some 47, _, _, _, _, _⟩) (v := ?_) rfl (by kernel_rfl) (by kernel_rfl) (by kernel_rfl) (fun _ _ _ h => h) (Or.inl ⟨by rfl, ?_⟩) (by assumption) ?_
  rotate_left
  · (intro w hSw; (try dsimp only at hSw); go_simp; try with_reducible rfl)
  try simp only [Act.put, List.setIfInBounds_toArray, List.set_cons_zero, List.set_cons_succ]
  refine wpAnyH_take (i := 19) (oi := ⟨some 4, _, _, _, _, _⟩) (v := ?_) rfl (by kernel_rfl) (by kernel_rfl) (by kernel_rfl) (fun _ _ _ h => h) (Or.inl ⟨by rfl, ?_⟩) (by assumption) ?_
  rotate_left
  · (intro w hSw; (try dsimp only at hSw); go_simp; try with_reducible rfl)
  try simp only [Act.put, List.setIfInBounds_toArray, List.set_cons_zero, List.set_cons_succ]
  refine wpAnyH_take (i := 20) (oi := ⟨some 5, _, _, _, _, _⟩) (v := ?_) rfl (by kernel_rfl) (by kernel_rfl) (by kernel_rfl) (fun _ _ _ h => h) (Or.inl ⟨by rfl, ?_⟩) (by assumption) ?_
  rotate_left
  · (intro w hSw; (try dsimp only at hSw); go_simp; try with_reducible rfl)
  try simp only [Act.put, List.setIfInBounds_toArray, List.set_cons_zero, List.set_cons_succ]
  refine wpAnyH_done (by kernel_rfl) ?_ _
  clear hHeld
  go_wp2_with (first | (go_at_call 80; refine (fail_any (H.out.wt.blk.ext HX3.out) rfl 4).mono ?_; rintro e w2 ⟨rfl, hb2, hm2⟩) | fail)
  refine bodyPost_ret (results_none rfl _ _ _) rfl ?_
  have hm3 : Mds [p] w w2 := (HX3.out.mds [p]).trans hm2
  exact ⟨rfl, _, .bad hb2, hm3.mono (fun k hk => mem_fpW.2 (.inl (List.mem_singleton.1 hk))), fun k hk => .inl (mem_fpW.2 (.inl (List.mem_singleton.1 hk)))⟩
end
end Go.Proofs.YthookcnkmlmgcaaGreatDoor
