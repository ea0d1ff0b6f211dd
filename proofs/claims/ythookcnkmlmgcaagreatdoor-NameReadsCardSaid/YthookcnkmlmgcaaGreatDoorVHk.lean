/-
  tlv's writer: Open.
-/
import Derived.Test.YthookcnkmlmgcaaGreatDoorM17
namespace Go.Proofs.YthookcnkmlmgcaaGreatDoor
open Go Go.RowKit
set_option maxRecDepth 4000

section
variable {w : World} {p : Nat} {m : BitVec 8} {G : List Nat}
set_option maxHeartbeats 1000000 in
theorem Open_bad {k : Nat} (h : Wr w p G (.bad k)) : Calls Tryz.prog 68 #[.pointer (some ⟨p, 0, none⟩), .int .u8 (ub m)] w (WrR w p G (.bad k)) := by
  cases h with
  | bad h =>
    have hc := fun (w' : World) (hx : Ext w w') => h.cell hx 2
    have H := Kp.mk h
    clear h
    go_enter Tryz.func68, Tryz.ntmps68
    go_wp2_with fail
    refine bodyPost_ret (results_none rfl _ _ _) rfl ?_
    exact ⟨rfl, _, .bad H.out, Mvs.refl _ _⟩
set_option maxHeartbeats 1000000 in
theorem Open_arg {cur : List (BitVec 8)} {st : List (BitVec 8 × List (BitVec 8))} (h : Wr w p G (.ok cur st)) (hm : isW m = false) : Calls Tryz.prog 68 #[.pointer (some ⟨p, 0, none⟩), .int .u8 (ub m)] w (WrR w p G (.bad 1)) := by
  cases h with
  | @ok vw vo cur st h =>
    have hc := fun (w' : World) (hx : Ext w w') => h.blk.cell hx 2
    have H := Kp.mk h
    clear h
    go_enter Tryz.func68, Tryz.ntmps68
    go_wp2_with (first | (go_at_call 37; refine (isWhole_any m false hm _).mono ?_; rintro e w1 ⟨rfl, rfl⟩) | (go_at_call 80; refine (fail_any H.out.blk rfl 1).mono ?_; rintro e w2 ⟨rfl, hb2, hm2⟩) | fail)
    refine bodyPost_ret (results_none rfl _ _ _) rfl ?_
    exact ⟨rfl, _, .bad hb2, hm2.mono (fun k hk => mem_fpW.2 (.inl (List.mem_singleton.1 hk))), fun k hk => .inl (mem_fpW.2 (.inl (List.mem_singleton.1 hk)))⟩
set_option maxHeartbeats 1000000 in
theorem Open_deep {cur : List (BitVec 8)} {st : List (BitVec 8 × List (BitVec 8))} (h : Wr w p G (.ok cur st)) (hm : isW m = true) (hd : 24 ≤ st.length) : Calls Tryz.prog 68 #[.pointer (some ⟨p, 0, none⟩), .int .u8 (ub m)] w (WrR w p G (.bad 5)) := by
  cases h with
  | @ok vw vo cur st h =>
    obtain ⟨Ao, co, rfl⟩ := h.oo.form
    rw [posT_len] at *
    obtain ⟨D, hD⟩ : ∃ D, st.length = D := ⟨_, rfl⟩
    rw [hD] at h hd ⊢
    have b1 : (24 : Int) ≤ (D : Int) := by omega
    have hc := fun (w' : World) (hx : Ext w w') => h.blk.cell hx 2
    have hc1 := fun (w' : World) (hx : Ext w w') => h.blk.cell hx 1
    have H := Kp.mk h
    clear h hd hD
    go_enter Tryz.func68, Tryz.ntmps68
    go_wp2_with (first | (go_at_call 37; refine (isWhole_any m true hm _).mono ?_; rintro e w1 ⟨rfl, rfl⟩) | (go_at_call 80; refine (fail_any H.out.blk rfl 5).mono ?_; rintro e w2 ⟨rfl, hb2, hm2⟩) | fail)
    refine bodyPost_ret (results_none rfl _ _ _) rfl ?_
    exact ⟨rfl, _, .bad hb2, hm2.mono (fun k hk => mem_fpW.2 (.inl (List.mem_singleton.1 hk))), fun k hk => .inl (mem_fpW.2 (.inl (List.mem_singleton.1 hk)))⟩
theorem num_rd (w : World) (x : Nat) (g : Nat) (hg : g = w.heap.size) : Rd vIn (w.alloc (.cells #[.int .i64 (x : Int)] 3)) (some ⟨g, 0, none⟩) 1 1 [x] := by
  subst hg
  refine ⟨rfl, Nat.le_refl _, (fun e => by cases e), fun _ => ⟨w.heap.size, 0, rfl, fun j y hj => ?_⟩⟩
  have hj0 : j = 0 := by have := (List.getElem?_eq_some_iff.1 hj).1; simp at this; exact this
  subst hj0
  obtain rfl : x = y := by simpa using hj
  exact (Blk.new w 3 #[.int .i64 (x : Int)]).h.cell 0
set_option maxHeartbeats 4000000 in
theorem Open_ok {cur : List (BitVec 8)} {st : List (BitVec 8 × List (BitVec 8))} (h : Wr w p G (.ok cur st)) (hm : isW m = true) (hd : st.length < 24) (hf : (flatT cur st).length ≤ 10000000000000) :
    Calls Tryz.prog 68 #[.pointer (some ⟨p, 0, none⟩), .int .u8 (ub m)] w (WrR w p G (.ok [] ((m, cur) :: st))) := by
  cases h with
  | @ok vw vo cur st h =>
    have hbig : Kp (posT ((m, cur) :: st) = posT st ++ [(flatT cur st).length] ∧ flatT [] ((m, cur) :: st) = flatT cur st ++ [m]) := ⟨rfl, rfl⟩
    obtain ⟨L, hL⟩ : ∃ L, flatT cur st = L := ⟨_, rfl⟩
    obtain ⟨P, hP⟩ : ∃ P, posT st = P := ⟨_, rfl⟩
    have hPl : P.length < 24 := by rw [← hP, posT_len]; exact hd
    rw [hL, hP] at h hbig
    rw [hL] at hf
    obtain ⟨Aw, cw, rfl⟩ := h.ow.form
    obtain ⟨Ao, co, rfl⟩ := h.oo.form
    obtain ⟨N, hN⟩ : ∃ N, L.length = N := ⟨_, rfl⟩
    obtain ⟨D, hD⟩ : ∃ D, P.length = D := ⟨_, rfl⟩
    have HN := Kp.mk hN
    have HD := Kp.mk hD
    rw [hN, hD] at h ⊢
    rw [hD] at hPl
    rw [hN] at hf hbig
    have b1 : decide ((24 : Int) ≤ (D : Int)) = false := decide_eq_false (by omega)
    have b2 : (D + 1) * 8 ≤ 140737488355328 := by omega
    have b3 : N + 1 ≤ 140737488355328 := by omega
    have hlo : ∀ (w' : World), Mds (fpv (.slice Ao D co)) w w' → Blk w' p wtt #[.slice Aw N cw, .slice Ao D co, .nilIface] := fun w' hm => h.blk.mds hm (h.oo.ne h.blk (by decide))
    have hc := fun (w' : World) (hx : Ext w w') => h.blk.cell hx 2
    have hc1 := fun (w' : World) (hx : Ext w w') => h.blk.cell hx 1
    have hl0 := fun (w' : World) (hm : Mds (fpv (.slice Ao D co)) w w') => (hlo w' hm).h.cell 0
    have hl1 := fun (w' : World) (hm : Mds (fpv (.slice Ao D co)) w w') => (hlo w' hm).h.cell 1
    have H := Kp.mk h
    clear h hPl hL hP hN hD hf hlo hd
    go_enter Tryz.func68, Tryz.ntmps68
    go_wp2_with (first | (go_at_call 37; refine (isWhole_any m true hm _).mono ?_; rintro e w1 ⟨rfl, rfl⟩) | fail)
    refine wp_region_R (st := fun s => s == 14) (R := fun w' => Mds (fpv (.slice Ao D co)) _ w') (by kernel_rfl) (Mds.refl _ _).drew (fun hR => ?_)
    refine wpAnyR_take (i := 0) (oi := ⟨some 24, _, _, _, _, _⟩) (v := ?_) rfl (by kernel_rfl) (by kernel_rfl) (by kernel_rfl) rfl (by kernel_rfl) (by kernel_rfl) (fun _ _ _ h => h) (Or.inl ⟨by rfl, ?_⟩) (by assumption) ?_
    rotate_left
    · (intro w hSw; (try dsimp only at hSw); go_simp; try with_reducible rfl)
    try simp only [Act.put, List.setIfInBounds_toArray, List.set_cons_zero, List.set_cons_succ]
    refine wpAnyR_take (i := 1) (oi := ⟨some 25, _, _, _, _, _⟩) (v := ?_) rfl (by kernel_rfl) (by kernel_rfl) (by kernel_rfl) rfl (by kernel_rfl) (by kernel_rfl) (fun _ _ _ h => h) (Or.inl ⟨by rfl, ?_⟩) (by assumption) ?_
    rotate_left
    · (intro w hSw; (try dsimp only at hSw); go_simp; try with_reducible rfl)
    try simp only [Act.put, List.setIfInBounds_toArray, List.set_cons_zero, List.set_cons_succ]
    refine wpAnyR_take (i := 2) (oi := ⟨some 26, _, _, _, _, _⟩) (v := ?_) rfl (by kernel_rfl) (by kernel_rfl) (by kernel_rfl) rfl (by kernel_rfl) (by kernel_rfl) (fun _ _ _ h => h) (Or.inl ⟨by rfl, ?_⟩) (by assumption) ?_
    rotate_left
    · (intro w hSw; (try dsimp only at hSw); go_simp; try with_reducible rfl)
    try simp only [Act.put, List.setIfInBounds_toArray, List.set_cons_zero, List.set_cons_succ]
    refine wpAnyR_take (i := 3) (oi := ⟨some 27, _, _, _, _, _⟩) (v := ?_) rfl (by kernel_rfl) (by kernel_rfl) (by kernel_rfl) rfl (by kernel_rfl) (by kernel_rfl) (fun _ _ _ h => h) (Or.inl ⟨by rfl, ?_⟩) (by assumption) ?_
    rotate_left
    · (intro w hSw; (try dsimp only at hSw); go_simp; try with_reducible rfl)
    try simp only [Act.put, List.setIfInBounds_toArray, List.set_cons_zero, List.set_cons_succ]
    refine wpAnyR_take (i := 4) (oi := ⟨some 28, _, _, _, _, _⟩) (v := ?_) rfl (by kernel_rfl) (by kernel_rfl) (by kernel_rfl) rfl (by kernel_rfl) (by kernel_rfl) (fun _ _ _ h => h) (Or.inl ⟨by rfl, ?_⟩) (by assumption) ?_
    rotate_left
    · (intro w hSw; (try dsimp only at hSw); go_simp; try with_reducible rfl)
    try simp only [Act.put, List.setIfInBounds_toArray, List.set_cons_zero, List.set_cons_succ]
    refine wpAnyR_take (i := 5) (oi := ⟨some 29, _, _, _, _, _⟩) (v := ?_) rfl (by kernel_rfl) (by kernel_rfl) (by kernel_rfl) rfl (by kernel_rfl) (by kernel_rfl) (fun _ _ _ h => h) (Or.inl ⟨by rfl, ?_⟩) (by assumption) ?_
    rotate_left
    · (intro w hSw; (try dsimp only at hSw); go_simp; try with_reducible rfl)
    try simp only [Act.put, List.setIfInBounds_toArray, List.set_cons_zero, List.set_cons_succ]
    refine wpAnyR_take (i := 6) (oi := ⟨some 30, _, _, _, _, _⟩) (v := ?_) rfl (by kernel_rfl) (by kernel_rfl) (by kernel_rfl) rfl (by kernel_rfl) (by kernel_rfl) (fun _ _ _ h => h) (Or.inl ⟨by rfl, ?_⟩) (by assumption) ?_
    rotate_left
    · (intro w hSw; (try dsimp only at hSw); go_simp; try with_reducible rfl)
    try simp only [Act.put, List.setIfInBounds_toArray, List.set_cons_zero, List.set_cons_succ]
    refine wpAnyR_take (i := 7) (oi := ⟨some 31, _, _, _, _, _⟩) (v := ?_) rfl (by kernel_rfl) (by kernel_rfl) (by kernel_rfl) rfl (by kernel_rfl) (by kernel_rfl) (fun _ _ _ h => h) (Or.inl ⟨by rfl, ?_⟩) (by assumption) ?_
    rotate_left
    · (intro w hSw; (try dsimp only at hSw); go_simp; try with_reducible rfl)
    try simp only [Act.put, List.setIfInBounds_toArray, List.set_cons_zero, List.set_cons_succ]
    refine wpAnyR_take (i := 8) (oi := ⟨some 32, _, _, _, _, _⟩) (v := ?_) rfl (by kernel_rfl) (by kernel_rfl) (by kernel_rfl) rfl (by kernel_rfl) (by kernel_rfl) (fun _ _ _ h => h) (Or.inl ⟨by rfl, ?_⟩) (by assumption) ?_
    rotate_left
    · (intro w hSw; (try dsimp only at hSw); go_simp; try with_reducible rfl)
    try simp only [Act.put, List.setIfInBounds_toArray, List.set_cons_zero, List.set_cons_succ]
    refine wpAnyR_take (i := 9) (oi := ⟨some 33, _, _, _, _, _⟩) (v := ?_) rfl (by kernel_rfl) (by kernel_rfl) (by kernel_rfl) rfl (by kernel_rfl) (by kernel_rfl) (fun _ _ _ h => h) (Or.inl ⟨by rfl, ?_⟩) (by assumption) ?_
    rotate_left
    · (intro w hSw; (try dsimp only at hSw); go_simp; try with_reducible rfl)
    try simp only [Act.put, List.setIfInBounds_toArray, List.set_cons_zero, List.set_cons_succ]
    have HR := Kp.mk hR
    clear hR
    refine nextR 10 (by kernel_rfl) rfl (by rfl) fun K' HK' => ?_
    go_simp
    refine held_go HK' (.inr (HR.out.alloc _)) (fun _ => ?_)
    clear HK'
    try simp only [Act.put, List.setIfInBounds_toArray, List.set_cons_zero, List.set_cons_succ]
    refine nextR 11 (by kernel_rfl) rfl (by rfl) fun K' HK' => ?_
    have hx2 : Ext w1 ((w1.alloc (.cells #[.int .i64 (N : Int)] 3)).drew) := (by (repeat (first | assumption | exact Ext.refl _ | apply Ext.drew | apply Ext.drewN | apply Ext.alloc | refine Ext.trans ?_ (by assumption))); first | done | fail)
    refine wp_append_r 120 (.int .i64 0) 8 Tryz.underlying120 inI rfl (by decide) vIn_one (.tmp 28) (.tmp 34) rfl (.slice Ao D co) D P rfl (by have h := (H.out.ext hx2).oo; rw [HD.out] at h; exact h) _ 1 1 [N] rfl ((num_rd w1 N _ rfl).ext (by (repeat (first | assumption | exact Ext.refl _ | apply Ext.drew | apply Ext.drewN | apply Ext.alloc | refine Ext.trans ?_ (by assumption))); first | done | fail)) b2 (D + 1) rfl (P ++ [N]) rfl ?_
    intro A4 c4 w4 ho4 ha4
    obtain ⟨c4', f4⟩ := (H.out.ext hx2).at1 ha4.mv
    have W4 := Kp.mk ((H.out.ext hx2).hold (P' := P ++ [N]) ha4.mv (by rw [List.length_append, HD.out]; exact ho4))
    have m4 := (hx2.mds (fpv (.slice Ao D co))).trans ha4.mds
    clear ho4 ha4
    refine held_go HK' (.inr (m4)) (fun _ => ?_)
    clear HK'
    try simp only [Act.put, List.setIfInBounds_toArray, List.set_cons_zero, List.set_cons_succ]
    refine nextR 12 (by kernel_rfl) rfl (by rfl) fun K' HK' => ?_
    go_simp
    refine held_go HK' (.inr (m4)) (fun _ => ?_)
    clear HK'
    try simp only [Act.put, List.setIfInBounds_toArray, List.set_cons_zero, List.set_cons_succ]
    refine nextR 13 (by kernel_rfl) rfl (by rfl) fun K' HK' => ?_
    go_simp
    refine held_go HK' (.inr (m4)) (fun _ => ?_)
    clear HK'
    try simp only [Act.put, List.setIfInBounds_toArray, List.set_cons_zero, List.set_cons_succ]
    refine nextR 14 (by kernel_rfl) rfl (by rfl) fun K' HK' => ?_
    go_simp
    refine held_go HK' (.inl (by kernel_rfl)) (fun _ => ?_)
    clear HK'
    try simp only [Act.put, List.setIfInBounds_toArray, List.set_cons_zero, List.set_cons_succ]
    refine wpAnyR_done (by kernel_rfl) ?_ _
    have HX2 := Kp.mk hx2
    clear hx2 m4 hc hc1 hl0 hl1
    have HL : Kp ((L ++ [m]).length = N + 1) := ⟨by rw [List.length_append, HN.out]; rfl⟩
    have c40 := W4.out.1.blk.h.cell 0
    generalize w4.setCell ⟨p, 1, none⟩ (.slice A4 (D + 1) c4) = w6 at *
    go_wp2_with (first | ((with_reducible refine at_call_to 45 ?_); refine wpList_append_m rfl (.tmp 42) (.tmp 44) rfl (.slice Aw N cw) N L rfl (by have h := (W4.out.1.ext ((by (repeat (first | assumption | exact Ext.refl _ | apply Ext.drew | apply Ext.drewN | apply Ext.alloc | refine Ext.trans ?_ (by assumption))); first | done | fail) : Ext w6 (w6.alloc (.cells #[.int .u8 (ub m)] 5)))).ow; rw [HN.out] at h; exact h) _ 1 1 [m] rfl (one_bs _ m) b3 (N + 1) rfl (L ++ [m]) rfl ?_; intro A5 c5 w5 ho5 ha5; obtain ⟨c5', f5⟩ := (W4.out.1.ext ((by (repeat (first | assumption | exact Ext.refl _ | apply Ext.drew | apply Ext.drewN | apply Ext.alloc | refine Ext.trans ?_ (by assumption))); first | done | fail) : Ext w6 (w6.alloc (.cells #[.int .u8 (ub m)] 5)))).at0 ha5.mv; have W5 := Kp.mk ((W4.out.1.ext ((by (repeat (first | assumption | exact Ext.refl _ | apply Ext.drew | apply Ext.drewN | apply Ext.alloc | refine Ext.trans ?_ (by assumption))); first | done | fail) : Ext w6 (w6.alloc (.cells #[.int .u8 (ub m)] 5)))).put ha5.mv (L' := L ++ [m]) (by rw [HL.out]; exact ho5)); clear ho5 ha5) | fail)
    go_end0
    have h5 := W5.out.1
    rw [← hbig.out.1, ← hbig.out.2] at h5
    exact ⟨rfl, _, .ok h5, ((W4.out.2.post (by (repeat (first | assumption | exact Ext.refl _ | apply Ext.drew | apply Ext.drewN | apply Ext.alloc | refine Ext.trans ?_ (by assumption))); first | done | fail)).trans W5.out.2).pre HX2.out⟩
/-- whatever the writer holds -/
theorem Open_any {s : TWs} (h : Wr w p G s) (hf : szW s ≤ 10000000000000) : Calls Tryz.prog 68 #[.pointer (some ⟨p, 0, none⟩), .int .u8 (ub m)] w (WrR w p G (openS m s)) := by
  cases s with
  | bad k => exact Open_bad h
  | ok cur st =>
    cases hm : isW m with
    | false =>
      rw [show openS m (.ok cur st) = .bad 1 by simp [openS, hm]]
      exact Open_arg h hm
    | true =>
      by_cases hl : st.length < 24
      · rw [show openS m (.ok cur st) = .ok [] ((m, cur) :: st) by simp [openS, hm, hl]]
        exact Open_ok h hm hl hf
      · rw [show openS m (.ok cur st) = .bad 5 by simp [openS, hm, hl]]
        exact Open_deep h hm (by omega)
end
end Go.Proofs.YthookcnkmlmgcaaGreatDoor
