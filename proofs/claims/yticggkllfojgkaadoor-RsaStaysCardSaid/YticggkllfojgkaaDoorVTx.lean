/-
  rsa: Sign, Verify.
-/
import Derived.Test.YticggkllfojgkaaDoorVTw
namespace Go.Proofs.YticggkllfojgkaaDoor
open Go Go.RowKit
set_option maxRecDepth 4000

section
variable {A B D E F : Option Addr} {n c m d k f p q y z vn ve vd : Nat} {w : World} {lb sig : List (BitVec 8)}
theorem Sign_arg (hn : Nv w A n c vn) (he : Nv w B m d ve) (hd : Nv w D k f vd) (h : ¬ SecOk vn ve vd) : Calls Tryd.prog 19 #[.agg #[.slice A n c, .slice B m d, .slice D k f], .slice E p q] w (BadB w 1) := by
  have HN := Kp.mk hn
  have HE := Kp.mk he
  have HD := Kp.mk hd
  have H := Kp.mk h
  have HB := Kp.mk (Blk.new w 30 #[.slice A n c, .slice B m d, .slice D k f])
  clear hn he hd h
  go_enter Tryd.func19, Tryd.ntmps19
  go_wp2_with (first | ((with_reducible refine at_load_to 6 2 ?_); refine wpList_load_row rfl 30 _ rfl w.heap.size rfl 30 _ (0, 0) _ HB.out.h Tryd.underlying30 rfl szS ?_) | fail)
  refine (secretMay_any (HN.out.ext (by (repeat (first | assumption | exact Ext.refl _ | apply Ext.drew | apply Ext.drewN | apply Ext.alloc | refine Ext.trans ?_ (by assumption))); first | done | fail)) (HE.out.ext (by (repeat (first | assumption | exact Ext.refl _ | apply Ext.drew | apply Ext.drewN | apply Ext.alloc | refine Ext.trans ?_ (by assumption))); first | done | fail)) (HD.out.ext (by (repeat (first | assumption | exact Ext.refl _ | apply Ext.drew | apply Ext.drewN | apply Ext.alloc | refine Ext.trans ?_ (by assumption))); first | done | fail)) false (by simp [H.out])).mono ?_
  rintro e w1 ⟨rfl, x1⟩
  have HX := Kp.mk (show Ext w w1 from (by (repeat (first | assumption | exact Ext.refl _ | apply Ext.drew | apply Ext.drewN | apply Ext.alloc | refine Ext.trans ?_ (by assumption))); first | done | fail))
  clear x1
  go_wp2_with fail
  go_ret2
  exact ⟨rfl, HX.out⟩
set_option maxHeartbeats 4000000 in
theorem Sign_ok (hn : Nv w A n c vn) (he : Nv w B m d ve) (hd : Nv w D k f vd) (hb : Bs w E p q lb) (hw : Lay w) (hp : p ≤ 1000000) (h : SecOk vn ve vd) {r : List (BitVec 8)} (hr : rs (sgL (dgH lb) (nb vn)) vd vn = some r) : Calls Tryd.prog 19 #[.agg #[.slice A n c, .slice B m d, .slice D k f], .slice E p q] w (FreshE w (nb vn) r) := by
  have HN := Kp.mk hn
  have HE := Kp.mk he
  have HD := Kp.mk hd
  have HL := Kp.mk hb
  have HW := Kp.mk hw
  have H := Kp.mk h
  have HB := Kp.mk (Blk.new w 30 #[.slice A n c, .slice B m d, .slice D k f])
  have HR := Kp.mk hr
  obtain ⟨N, hN⟩ : ∃ N, nb vn = N := ⟨_, rfl⟩
  have HS := Kp.mk hN
  have hlo := h.1.1
  have hhi := h.1.2.1
  rw [hN] at hlo hhi HR ⊢
  clear hn he hd h hb hw hr hN
  go_enter Tryd.func19, Tryd.ntmps19
  go_wp2_with (first | ((with_reducible refine at_load_to 6 2 ?_); refine wpList_load_row rfl 30 _ rfl w.heap.size rfl 30 _ (0, 0) _ HB.out.h Tryd.underlying30 rfl szS ?_) | fail)
  refine (secretMay_any (HN.out.ext (by (repeat (first | assumption | exact Ext.refl _ | apply Ext.drew | apply Ext.drewN | apply Ext.alloc | refine Ext.trans ?_ (by assumption))); first | done | fail)) (HE.out.ext (by (repeat (first | assumption | exact Ext.refl _ | apply Ext.drew | apply Ext.drewN | apply Ext.alloc | refine Ext.trans ?_ (by assumption))); first | done | fail)) (HD.out.ext (by (repeat (first | assumption | exact Ext.refl _ | apply Ext.drew | apply Ext.drewN | apply Ext.alloc | refine Ext.trans ?_ (by assumption))); first | done | fail)) true (by simp [H.out])).mono ?_
  rintro e w1 ⟨rfl, x1⟩
  obtain ⟨m0, m1, m2⟩ := box3t (HB.out.ext x1)
  have HX := Kp.mk (show Ext w w1 from (by (repeat (first | assumption | exact Ext.refl _ | apply Ext.drew | apply Ext.drewN | apply Ext.alloc | refine Ext.trans ?_ (by assumption))); first | done | fail))
  clear x1
  have NN := Kp.mk (HN.out.ext HX.out)
  have ND := Kp.mk (HD.out.ext HX.out)
  have NL := Kp.mk (HL.out.ext HX.out)
  have NW := Kp.mk (HW.out.ext HX.out)
  go_wp2_with fail
  refine wp_region_held_drew (S := fun w' => Ext w1 w') (by kernel_rfl) (Ext.refl w1).drew (fun hHeld => ?_)
  refine wpAnyH_take (i := 0) (oi := ⟨some 10, _, _, _, _, _⟩) (v := ?_) rfl (by kernel_rfl) (by kernel_rfl) (by kernel_rfl) (fun _ _ _ h => h) (Or.inl ⟨by rfl, ?_⟩) (by assumption) ?_
  rotate_left
  · (intro w hSw; (try dsimp only at hSw); go_simp; try with_reducible rfl)
  try simp only [Act.put, List.setIfInBounds_toArray, List.set_cons_zero, List.set_cons_succ]
  refine wpAnyH_take (i := 1) (oi := ⟨some 11, _, _, _, _, _⟩) (v := ?_) rfl (by kernel_rfl) (by kernel_rfl) (by kernel_rfl) (fun _ _ _ h => h) (Or.inl ⟨by rfl, ?_⟩) (by assumption) ?_
  rotate_left
  · (intro w hSw; (try dsimp only at hSw); go_simp; try with_reducible rfl)
  try simp only [Act.put, List.setIfInBounds_toArray, List.set_cons_zero, List.set_cons_succ]
  refine wpAnyH_take (i := 3) (oi := ⟨some 13, _, _, _, _, _⟩) (v := ?_) rfl (by kernel_rfl) (by kernel_rfl) (by kernel_rfl) (fun _ _ _ h => h) (Or.inl ⟨by rfl, ?_⟩) (by assumption) ?_
  rotate_left
  · (intro w hSw; (try dsimp only at hSw); go_simp; try with_reducible rfl)
  try simp only [Act.put, List.setIfInBounds_toArray, List.set_cons_zero, List.set_cons_succ]
  refine wpAnyH_take (i := 5) (oi := ⟨some 15, _, _, _, _, _⟩) (v := ?_) rfl (by kernel_rfl) (by kernel_rfl) (by kernel_rfl) (fun _ _ _ h => h) (Or.inl ⟨by rfl, ?_⟩) (by assumption) ?_
  rotate_left
  · (intro w hSw; (try dsimp only at hSw); go_simp; try with_reducible rfl)
  try simp only [Act.put, List.setIfInBounds_toArray, List.set_cons_zero, List.set_cons_succ]
  refine wpAnyH_take (i := 6) (oi := ⟨some 16, _, _, _, _, _⟩) (v := ?_) rfl (by kernel_rfl) (by kernel_rfl) (by kernel_rfl) (fun _ _ _ h => h) (Or.inl ⟨by rfl, ?_⟩) (by assumption) ?_
  rotate_left
  · (intro w hSw; (try dsimp only at hSw); go_simp; try with_reducible rfl)
  try simp only [Act.put, List.setIfInBounds_toArray, List.set_cons_zero, List.set_cons_succ]
  refine wpAnyH_take (i := 7) (oi := ⟨some 17, _, _, _, _, _⟩) (v := ?_) rfl (by kernel_rfl) (by kernel_rfl) (by kernel_rfl) (fun _ _ _ h => h) (Or.inl ⟨by rfl, ?_⟩) (by assumption) ?_
  rotate_left
  · (intro w hSw; (try dsimp only at hSw); go_simp; try with_reducible rfl)
  try simp only [Act.put, List.setIfInBounds_toArray, List.set_cons_zero, List.set_cons_succ]
  refine wpAnyH_take (i := 8) (oi := ⟨some 18, _, _, _, _, _⟩) (v := ?_) rfl (by kernel_rfl) (by kernel_rfl) (by kernel_rfl) (fun _ _ _ h => h) (Or.inl ⟨by rfl, ?_⟩) (by assumption) ?_
  rotate_left
  · (intro w hSw; (try dsimp only at hSw); go_simp; try with_reducible rfl)
  try simp only [Act.put, List.setIfInBounds_toArray, List.set_cons_zero, List.set_cons_succ]
  refine next_one 2 (by kernel_rfl) rfl (by rfl) fun K' HK' => ?_
  go_simp
  refine (sizeOf_any (NN.out.ext hHeld)).mono ?_
  rintro e w2 ⟨rfl, hw2⟩
  subst hw2
  rw [HS.out]
  refine held_go HK' (by (repeat (first | assumption | exact Ext.refl _ | apply Ext.drew | apply Ext.drewN | apply Ext.alloc | refine Ext.trans ?_ (by assumption))); first | done | fail) (fun hHeld => ?_)
  clear HK'
  try simp only [Act.put, List.setIfInBounds_toArray, List.set_cons_zero, List.set_cons_succ]
  have x12 := hHeld
  refine next_one 4 (by kernel_rfl) rfl (by rfl) fun K' HK' => ?_
  go_simp
  refine (laidToSign_any (NL.out.ext x12) (NW.out.ext x12) hp hlo hhi).mono ?_
  rintro e w3 ⟨A3, c3, rfl, s3, _, x3⟩
  have x13 := x12.trans x3
  have hS2 := Ext.trans hHeld x3
  refine held_go HK' hS2 (fun _ => ?_)
  clear HK'
  refine held_more (S' := fun w' => Ext w3 w') (fun _ h => Ext.trans hS2 h) _ _ _ _ ?_
  clear hHeld hS2
  have hHeld : Ext w3 w3 := Ext.refl _
  try simp only [Act.put, List.setIfInBounds_toArray, List.set_cons_zero, List.set_cons_succ]
  refine next_one 9 (by kernel_rfl) rfl (by rfl) fun K' HK' => ?_
  go_simp
  have CR := raised_some s3 (ND.out.ext x13) (NN.out.ext x13) (sh32 (SecOk.d H.out)) H.out.1.2.1 H.out.1.n0 (by rw [← HS.out] at HR ⊢; exact HR.out)
  rw [HS.out] at CR
  refine CR.mono ?_
  rintro e w4 ⟨A4, c4, rfl, s4, o4, x4⟩
  have HO := Kp.mk (o4.lower (HX.out.trans x13).size)
  have HS4 := Kp.mk s4
  have HX4 := Kp.mk ((HX.out.trans x13).trans x4)
  have hS2 := Ext.trans hHeld x4
  refine held_go HK' hS2 (fun _ => ?_)
  clear HK'
  refine held_more (S' := fun w' => Ext w4 w') (fun _ h => Ext.trans hS2 h) _ _ _ _ ?_
  clear hHeld hS2
  have hHeld : Ext w4 w4 := Ext.refl _
  try simp only [Act.put, List.setIfInBounds_toArray, List.set_cons_zero, List.set_cons_succ]
  refine wpAnyH_take (i := 10) (oi := ⟨some 20, _, _, _, _, _⟩) (v := ?_) rfl (by kernel_rfl) (by kernel_rfl) (by kernel_rfl) (fun _ _ _ h => h) (Or.inl ⟨by rfl, ?_⟩) (by assumption) ?_
  rotate_left
  · (intro w hSw; (try dsimp only at hSw); go_simp; try with_reducible rfl)
  try simp only [Act.put, List.setIfInBounds_toArray, List.set_cons_zero, List.set_cons_succ]
  refine wpAnyH_take (i := 11) (oi := ⟨some 21, _, _, _, _, _⟩) (v := ?_) rfl (by kernel_rfl) (by kernel_rfl) (by kernel_rfl) (fun _ _ _ h => h) (Or.inl ⟨by rfl, ?_⟩) (by assumption) ?_
  rotate_left
  · (intro w hSw; (try dsimp only at hSw); go_simp; try with_reducible rfl)
  try simp only [Act.put, List.setIfInBounds_toArray, List.set_cons_zero, List.set_cons_succ]
  refine wpAnyH_take (i := 12) (oi := ⟨some 4, _, _, _, _, _⟩) (v := ?_) rfl (by kernel_rfl) (by kernel_rfl) (by kernel_rfl) (fun _ _ _ h => h) (Or.inl ⟨by rfl, ?_⟩) (by assumption) ?_
  rotate_left
  · (intro w hSw; (try dsimp only at hSw); go_simp; try with_reducible rfl)
  try simp only [Act.put, List.setIfInBounds_toArray, List.set_cons_zero, List.set_cons_succ]
  refine wpAnyH_take (i := 13) (oi := ⟨some 5, _, _, _, _, _⟩) (v := ?_) rfl (by kernel_rfl) (by kernel_rfl) (by kernel_rfl) (fun _ _ _ h => h) (Or.inl ⟨by rfl, ?_⟩) (by assumption) ?_
  rotate_left
  · (intro w hSw; (try dsimp only at hSw); go_simp; try with_reducible rfl)
  try simp only [Act.put, List.setIfInBounds_toArray, List.set_cons_zero, List.set_cons_succ]
  refine wpAnyH_done (by kernel_rfl) ?_ _
  clear m0 m1 m2 s3 s4 o4 CR
  go_wp2_with fail
  go_ret2
  exact ⟨A4, c4, rfl, HS4.out, HO.out, HX4.out⟩
theorem Verify_arg (hn : Nv w A n c vn) (he : Nv w B m d ve) (h : ¬ PubOk vn ve) : Calls Tryd.prog 18 #[.agg #[.slice A n c, .slice B m d], .slice E p q, .slice F y z] w fun e w' => e = .returned (err 1) ∧ Ext w w' := by
  have HN := Kp.mk hn
  have HE := Kp.mk he
  have H := Kp.mk h
  have HB := Kp.mk (Blk.new w 25 #[.slice A n c, .slice B m d])
  clear hn he h
  go_enter Tryd.func18, Tryd.ntmps18
  go_wp2_with (first | ((with_reducible refine at_load_to 9 3 ?_); refine wpList_load_row rfl 25 _ rfl w.heap.size rfl 25 _ (0, 0) _ HB.out.h Tryd.underlying25 rfl szP2 ?_) | fail)
  refine (publicMay_any (HN.out.ext (by (repeat (first | assumption | exact Ext.refl _ | apply Ext.drew | apply Ext.drewN | apply Ext.alloc | refine Ext.trans ?_ (by assumption))); first | done | fail)) (HE.out.ext (by (repeat (first | assumption | exact Ext.refl _ | apply Ext.drew | apply Ext.drewN | apply Ext.alloc | refine Ext.trans ?_ (by assumption))); first | done | fail)) false (by simp [H.out])).mono ?_
  rintro e w1 ⟨rfl, x1⟩
  have HX := Kp.mk (show Ext w w1 from (by (repeat (first | assumption | exact Ext.refl _ | apply Ext.drew | apply Ext.drewN | apply Ext.alloc | refine Ext.trans ?_ (by assumption))); first | done | fail))
  clear x1
  go_wp2_with fail
  go_ret
  exact ⟨rfl, HX.out⟩
set_option maxHeartbeats 4000000 in
theorem Verify_wrong (hn : Nv w A n c vn) (he : Nv w B m d ve) (hb : Bs w E p q lb) (hs : Bs w F y z sig) (hp : p ≤ 1000000) (h : PubOk vn ve) (hr : rs sig ve vn = none) : Calls Tryd.prog 18 #[.agg #[.slice A n c, .slice B m d], .slice E p q, .slice F y z] w fun e w' => e = .returned (err 8) ∧ Ext w w' := by
  have HN := Kp.mk hn
  have HE := Kp.mk he
  have HL := Kp.mk hb
  have HG := Kp.mk hs
  have H := Kp.mk h
  have HB := Kp.mk (Blk.new w 25 #[.slice A n c, .slice B m d])
  have HR := Kp.mk hr
  clear hr
  clear hn he hb hs h
  go_enter Tryd.func18, Tryd.ntmps18
  go_wp2_with (first | ((with_reducible refine at_load_to 9 3 ?_); refine wpList_load_row rfl 25 _ rfl w.heap.size rfl 25 _ (0, 0) _ HB.out.h Tryd.underlying25 rfl szP2 ?_) | fail)
  refine (publicMay_any (HN.out.ext (by (repeat (first | assumption | exact Ext.refl _ | apply Ext.drew | apply Ext.drewN | apply Ext.alloc | refine Ext.trans ?_ (by assumption))); first | done | fail)) (HE.out.ext (by (repeat (first | assumption | exact Ext.refl _ | apply Ext.drew | apply Ext.drewN | apply Ext.alloc | refine Ext.trans ?_ (by assumption))); first | done | fail)) true (by simp [H.out])).mono ?_
  rintro e w1 ⟨rfl, x1⟩
  obtain ⟨c0, c1⟩ := box2 HB.out x1
  go_wp2_with fail
  refine (raised_none (HG.out.ext (by (repeat (first | assumption | exact Ext.refl _ | apply Ext.drew | apply Ext.drewN | apply Ext.alloc | refine Ext.trans ?_ (by assumption))); first | done | fail)) (HE.out.ext (by (repeat (first | assumption | exact Ext.refl _ | apply Ext.drew | apply Ext.drewN | apply Ext.alloc | refine Ext.trans ?_ (by assumption))); first | done | fail)) (HN.out.ext (by (repeat (first | assumption | exact Ext.refl _ | apply Ext.drew | apply Ext.drewN | apply Ext.alloc | refine Ext.trans ?_ (by assumption))); first | done | fail)) H.out.2.1 HR.out).mono ?_
  rintro e w2 ⟨rfl, x2⟩
  have HX := Kp.mk (show Ext w w2 from (by (repeat (first | assumption | exact Ext.refl _ | apply Ext.drew | apply Ext.drewN | apply Ext.alloc | refine Ext.trans ?_ (by assumption))); first | done | fail))
  clear x1 x2
  go_wp2_with fail
  go_ret
  exact ⟨rfl, HX.out⟩
set_option maxHeartbeats 4000000 in
theorem Verify_ok (hn : Nv w A n c vn) (he : Nv w B m d ve) (hb : Bs w E p q lb) (hs : Bs w F y z sig) (hp : p ≤ 1000000) (h : PubOk vn ve) (hw : Lay w) {r : List (BitVec 8)} (hr : rs sig ve vn = some r) (hq : r = sgL (dgH lb) (nb vn)) : Calls Tryd.prog 18 #[.agg #[.slice A n c, .slice B m d], .slice E p q, .slice F y z] w fun e w' => e = .returned (.nilIface) ∧ Ext w w' := by
  have HN := Kp.mk hn
  have HE := Kp.mk he
  have HL := Kp.mk hb
  have HG := Kp.mk hs
  have H := Kp.mk h
  have HB := Kp.mk (Blk.new w 25 #[.slice A n c, .slice B m d])
  obtain ⟨N, hN⟩ : ∃ N, nb vn = N := ⟨_, rfl⟩
  have HS := Kp.mk hN
  have hlo := h.1
  have hhi := h.2.1
  have HW := Kp.mk hw
  have HR := Kp.mk hr
  rw [hN] at hlo hhi hq
  have HQ := Kp.mk (show (r == sgL (dgH lb) N) = true from beq_iff_eq.2 hq)
  clear hw hr hq hN
  clear hn he hb hs h
  go_enter Tryd.func18, Tryd.ntmps18
  go_wp2_with (first | ((with_reducible refine at_load_to 9 3 ?_); refine wpList_load_row rfl 25 _ rfl w.heap.size rfl 25 _ (0, 0) _ HB.out.h Tryd.underlying25 rfl szP2 ?_) | fail)
  refine (publicMay_any (HN.out.ext (by (repeat (first | assumption | exact Ext.refl _ | apply Ext.drew | apply Ext.drewN | apply Ext.alloc | refine Ext.trans ?_ (by assumption))); first | done | fail)) (HE.out.ext (by (repeat (first | assumption | exact Ext.refl _ | apply Ext.drew | apply Ext.drewN | apply Ext.alloc | refine Ext.trans ?_ (by assumption))); first | done | fail)) true (by simp [H.out])).mono ?_
  rintro e w1 ⟨rfl, x1⟩
  obtain ⟨c0, c1⟩ := box2 HB.out x1
  go_wp2_with fail
  have CR := Kp.mk (raised_some (HG.out.ext (show Ext w w1 from (by (repeat (first | assumption | exact Ext.refl _ | apply Ext.drew | apply Ext.drewN | apply Ext.alloc | refine Ext.trans ?_ (by assumption))); first | done | fail))) (HE.out.ext (show Ext w w1 from (by (repeat (first | assumption | exact Ext.refl _ | apply Ext.drew | apply Ext.drewN | apply Ext.alloc | refine Ext.trans ?_ (by assumption))); first | done | fail))) (HN.out.ext (show Ext w w1 from (by (repeat (first | assumption | exact Ext.refl _ | apply Ext.drew | apply Ext.drewN | apply Ext.alloc | refine Ext.trans ?_ (by assumption))); first | done | fail))) (sh32 (PubOk.e H.out)) H.out.2.1 H.out.n0 HR.out)
  rw [HS.out] at CR
  refine CR.out.mono ?_
  rintro e w2 ⟨A2, c2, rfl, s2, _, x2⟩
  have S2 := Kp.mk s2
  clear s2 CR
  obtain ⟨c0, c1⟩ := box2 HB.out (show Ext (w.alloc (.cells #[.slice A n c, .slice B m d] 25)) w2 from (by (repeat (first | assumption | exact Ext.refl _ | apply Ext.drew | apply Ext.drewN | apply Ext.alloc | refine Ext.trans ?_ (by assumption))); first | done | fail))
  go_wp2_with fail
  refine (sizeOf_any (HN.out.ext (by (repeat (first | assumption | exact Ext.refl _ | apply Ext.drew | apply Ext.drewN | apply Ext.alloc | refine Ext.trans ?_ (by assumption))); first | done | fail))).mono ?_
  rintro e w3 ⟨rfl, hw3⟩
  subst hw3
  rw [HS.out]
  go_wp2_with fail
  refine (laidToSign_any (HL.out.ext (by (repeat (first | assumption | exact Ext.refl _ | apply Ext.drew | apply Ext.drewN | apply Ext.alloc | refine Ext.trans ?_ (by assumption))); first | done | fail)) (HW.out.ext (by (repeat (first | assumption | exact Ext.refl _ | apply Ext.drew | apply Ext.drewN | apply Ext.alloc | refine Ext.trans ?_ (by assumption))); first | done | fail)) hp hlo hhi).mono ?_
  rintro e w4 ⟨A4, c4, rfl, s4, _, x4⟩
  have CE := Kp.mk (Equal_any (S2.out.ext x4) s4)
  rw [show (r == sgL (dgH lb) N) = true from HQ.out] at CE
  have HX := Kp.mk (show Ext w w4 from (by (repeat (first | assumption | exact Ext.refl _ | apply Ext.drew | apply Ext.drewN | apply Ext.alloc | refine Ext.trans ?_ (by assumption))); first | done | fail))
  clear s4 x1 x2 x4
  go_wp2_with fail
  refine CE.out.mono ?_
  rintro e w5 ⟨rfl, hw5⟩
  subst hw5
  go_wp2_with fail
  go_ret
  exact ⟨rfl, HX.out⟩
set_option maxHeartbeats 4000000 in
theorem Verify_no (hn : Nv w A n c vn) (he : Nv w B m d ve) (hb : Bs w E p q lb) (hs : Bs w F y z sig) (hp : p ≤ 1000000) (h : PubOk vn ve) (hw : Lay w) {r : List (BitVec 8)} (hr : rs sig ve vn = some r) (hq : r ≠ sgL (dgH lb) (nb vn)) : Calls Tryd.prog 18 #[.agg #[.slice A n c, .slice B m d], .slice E p q, .slice F y z] w fun e w' => e = .returned (err 8) ∧ Ext w w' := by
  have HN := Kp.mk hn
  have HE := Kp.mk he
  have HL := Kp.mk hb
  have HG := Kp.mk hs
  have H := Kp.mk h
  have HB := Kp.mk (Blk.new w 25 #[.slice A n c, .slice B m d])
  obtain ⟨N, hN⟩ : ∃ N, nb vn = N := ⟨_, rfl⟩
  have HS := Kp.mk hN
  have hlo := h.1
  have hhi := h.2.1
  have HW := Kp.mk hw
  have HR := Kp.mk hr
  rw [hN] at hlo hhi hq
  have HQ := Kp.mk (show (r == sgL (dgH lb) N) = false from beq_eq_false_iff_ne.2 hq)
  clear hw hr hq hN
  clear hn he hb hs h
  go_enter Tryd.func18, Tryd.ntmps18
  go_wp2_with (first | ((with_reducible refine at_load_to 9 3 ?_); refine wpList_load_row rfl 25 _ rfl w.heap.size rfl 25 _ (0, 0) _ HB.out.h Tryd.underlying25 rfl szP2 ?_) | fail)
  refine (publicMay_any (HN.out.ext (by (repeat (first | assumption | exact Ext.refl _ | apply Ext.drew | apply Ext.drewN | apply Ext.alloc | refine Ext.trans ?_ (by assumption))); first | done | fail)) (HE.out.ext (by (repeat (first | assumption | exact Ext.refl _ | apply Ext.drew | apply Ext.drewN | apply Ext.alloc | refine Ext.trans ?_ (by assumption))); first | done | fail)) true (by simp [H.out])).mono ?_
  rintro e w1 ⟨rfl, x1⟩
  obtain ⟨c0, c1⟩ := box2 HB.out x1
  go_wp2_with fail
  have CR := Kp.mk (raised_some (HG.out.ext (show Ext w w1 from (by (repeat (first | assumption | exact Ext.refl _ | apply Ext.drew | apply Ext.drewN | apply Ext.alloc | refine Ext.trans ?_ (by assumption))); first | done | fail))) (HE.out.ext (show Ext w w1 from (by (repeat (first | assumption | exact Ext.refl _ | apply Ext.drew | apply Ext.drewN | apply Ext.alloc | refine Ext.trans ?_ (by assumption))); first | done | fail))) (HN.out.ext (show Ext w w1 from (by (repeat (first | assumption | exact Ext.refl _ | apply Ext.drew | apply Ext.drewN | apply Ext.alloc | refine Ext.trans ?_ (by assumption))); first | done | fail))) (sh32 (PubOk.e H.out)) H.out.2.1 H.out.n0 HR.out)
  rw [HS.out] at CR
  refine CR.out.mono ?_
  rintro e w2 ⟨A2, c2, rfl, s2, _, x2⟩
  have S2 := Kp.mk s2
  clear s2 CR
  obtain ⟨c0, c1⟩ := box2 HB.out (show Ext (w.alloc (.cells #[.slice A n c, .slice B m d] 25)) w2 from (by (repeat (first | assumption | exact Ext.refl _ | apply Ext.drew | apply Ext.drewN | apply Ext.alloc | refine Ext.trans ?_ (by assumption))); first | done | fail))
  go_wp2_with fail
  refine (sizeOf_any (HN.out.ext (by (repeat (first | assumption | exact Ext.refl _ | apply Ext.drew | apply Ext.drewN | apply Ext.alloc | refine Ext.trans ?_ (by assumption))); first | done | fail))).mono ?_
  rintro e w3 ⟨rfl, hw3⟩
  subst hw3
  rw [HS.out]
  go_wp2_with fail
  refine (laidToSign_any (HL.out.ext (by (repeat (first | assumption | exact Ext.refl _ | apply Ext.drew | apply Ext.drewN | apply Ext.alloc | refine Ext.trans ?_ (by assumption))); first | done | fail)) (HW.out.ext (by (repeat (first | assumption | exact Ext.refl _ | apply Ext.drew | apply Ext.drewN | apply Ext.alloc | refine Ext.trans ?_ (by assumption))); first | done | fail)) hp hlo hhi).mono ?_
  rintro e w4 ⟨A4, c4, rfl, s4, _, x4⟩
  have CE := Kp.mk (Equal_any (S2.out.ext x4) s4)
  rw [show (r == sgL (dgH lb) N) = false from HQ.out] at CE
  have HX := Kp.mk (show Ext w w4 from (by (repeat (first | assumption | exact Ext.refl _ | apply Ext.drew | apply Ext.drewN | apply Ext.alloc | refine Ext.trans ?_ (by assumption))); first | done | fail))
  clear s4 x1 x2 x4
  go_wp2_with fail
  refine CE.out.mono ?_
  rintro e w5 ⟨rfl, hw5⟩
  subst hw5
  go_wp2_with fail
  go_ret
  exact ⟨rfl, HX.out⟩
end
end Go.Proofs.YticggkllfojgkaaDoor
