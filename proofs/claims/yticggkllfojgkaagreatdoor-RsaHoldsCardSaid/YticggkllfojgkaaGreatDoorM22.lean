/-
  Package sha in those words.
  rsa: laidToSign, Sign, Verify; the reference's Laid.
  rsa: Sign, Verify.
  The reference's Write.
-/
import Derived.Test.YticggkllfojgkaaGreatDoorM1
import Derived.Test.YticggkllfojgkaaGreatDoorM21
import Derived.Test.YticggkllfojgkaaGreatDoorM18
import Derived.Test.YticggkllfojgkaaGreatDoorM19
import Derived.Test.YticggkllfojgkaaGreatDoorM12
import Derived.Test.YticggkllfojgkaaGreatDoorM11
namespace Go.Proofs.YticggkllfojgkaaGreatDoor
open Go Go.RowKit
set_option maxRecDepth 4000

/-- the tables lie -/
structure Lay (w : World) : Prop where
  l : Laid w
theorem Lay.ext {w w' : World} (h : Lay w) (hx : Ext w w') : Lay w' := ⟨h.l.below hx.b (Nat.le_refl _)⟩
theorem sum_fr (l : List (BitVec 8)) (A : Option Addr) (n c : Nat) (w : World) (hl : Bs w A n c l) (hw : Lay w) (hn : n ≤ 140737488351232) :
    Calls Tryz.prog 47 #[.slice A n c] w (Fresh w 32 (dgH l)) := by
  refine (Sum_any l A n c w hl.s hw.l hn).mono ?_
  rintro e w' ⟨v, rfl, ho, hb⟩
  exact fresh_of ho hb
end Go.Proofs.YticggkllfojgkaaGreatDoor
namespace Go.Proofs.YticggkllfojgkaaGreatDoor
open Go Go.RowKit
set_option maxRecDepth 4000

section
variable {A B D E : Option Addr} {n c m d k f p q vn ve vd N : Nat} {w : World} {lb sig : List (BitVec 8)}
set_option maxHeartbeats 4000000 in
theorem laidToSign_any (hb : Bs w B m d lb) (hw : Lay w) (hm : m ≤ 1000000) (h62 : 62 ≤ N) (h128 : N ≤ 128) :
    Calls Tryz.prog 24 #[.int .i64 (N : Int), .slice B m d] w (Fresh w N (sgL (dgH lb) N)) := by
  have HB := Kp.mk hb
  have HW := Kp.mk hw
  clear hb hw
  go_enter Tryz.func24, Tryz.ntmps24
  have hcv := fun (C : Array Value) (n c : Nat) => run_const w w.heap.size C n c rfl
  have hca := Kp.mk (const_bs w w.heap.size aheadL 19 19 (19, 20) rfl rfl (Nat.le_refl _))
  have hxa : Ext w (w.alloc (.cells (bv aheadL) 5 (19, 20))) := (by (repeat (first | assumption | exact Ext.refl _ | apply Ext.drew | apply Ext.drewN | apply Ext.alloc | refine Ext.trans ?_ (by assumption))); first | done | fail)
  have ea : bv aheadL = #[.int .u8 48, .int .u8 49, .int .u8 48, .int .u8 13, .int .u8 6, .int .u8 9, .int .u8 96, .int .u8 134, .int .u8 72, .int .u8 1, .int .u8 101, .int .u8 3, .int .u8 4, .int .u8 2, .int .u8 1, .int .u8 5, .int .u8 0, .int .u8 4, .int .u8 32] := rfl
  rw [ea] at hca hxa
  go_wp2_with fail
  clear hcv ea
  generalize w.alloc (.cells #[.int .u8 48, .int .u8 49, .int .u8 48, .int .u8 13, .int .u8 6, .int .u8 9, .int .u8 96, .int .u8 134, .int .u8 72, .int .u8 1, .int .u8 101, .int .u8 3, .int .u8 4, .int .u8 2, .int .u8 1, .int .u8 5, .int .u8 0, .int .u8 4, .int .u8 32] 5 (19, 20)) = wa at *
  generalize w.heap.size = ga at *
  refine (sum_fr lb B m d wa (HB.out.ext hxa) (HW.out.ext hxa) (by omega)).mono ?_
  rintro e w1 ⟨A1, c1, rfl, s1, _, x1⟩
  have C := ConcatP (ps := [⟨some ⟨ga, 0, none⟩, 19, 19, aheadL⟩, ⟨A1, 32, c1, dgH lb⟩]) (k := 2) (g := w1.heap.size) (t := 26) (w := w1.alloc (.cells #[.slice (some ⟨ga, 0, none⟩) 19 19, .slice A1 32 c1] 26)) rfl (fun j p hj => by
    match j, hj with
    | 0, hj => cases hj; exact (hca.out.ext (by (repeat (first | assumption | exact Ext.refl _ | apply Ext.drew | apply Ext.drewN | apply Ext.alloc | refine Ext.trans ?_ (by assumption))); first | done | fail))
    | 1, hj => cases hj; exact (s1.ext (by (repeat (first | assumption | exact Ext.refl _ | apply Ext.drew | apply Ext.drewN | apply Ext.alloc | refine Ext.trans ?_ (by assumption))); first | done | fail))
    | j + 2, hj => simp at hj) (Blk.new _ _ _) (by simp [pN]) (by simp [pN]) (by decide)
  rw [show pN [⟨some ⟨ga, 0, none⟩, 19, 19, aheadL⟩, ⟨A1, 32, c1, dgH lb⟩] = 51 by simp [pN], show pL [⟨some ⟨ga, 0, none⟩, 19, 19, aheadL⟩, ⟨A1, 32, c1, dgH lb⟩] = aheadL ++ dgH lb by simp [pL]] at C
  have HC := Kp.mk C
  clear C s1
  go_wp2_with fail
  refine HC.out.mono ?_
  rintro e w2 ⟨A2, c2, rfl, s2, _, x⟩
  have x2 := Ext.trans (show Ext w1 _ from (by (repeat (first | assumption | exact Ext.refl _ | apply Ext.drew | apply Ext.drewN | apply Ext.alloc | refine Ext.trans ?_ (by assumption))); first | done | fail)) x
  have S2 := Kp.mk s2
  clear x HC s2
  obtain ⟨K, hK⟩ : ∃ K, N - 54 = K := ⟨_, rfl⟩
  have k1 : (N : Int) - 3 - 51 = (K : Int) := by omega
  have w1' : IntKind.i64.wrap ((N : Int) - 3) = (N : Int) - 3 := by rw [IntKind.wrap_i64]; omega
  have w2' : IntKind.i64.wrap ((N : Int) - 3 - 51) = (K : Int) := by rw [IntKind.wrap_i64]; omega
  have w3' : IntKind.i64.wrap (K : Int) = (K : Int) := by rw [IntKind.wrap_i64]; omega
  go_wp2_with fail
  refine (Repeat_many (x := 255) K (by omega) (by omega) (lit_bytes w2 [255] #[.int .u8 255] 1 rfl rfl _ rfl)).mono ?_
  rintro e w3 ⟨A3, c3, rfl, s3, x⟩
  have x3 := Ext.trans (show Ext w2 _ from (by (repeat (first | assumption | exact Ext.refl _ | apply Ext.drew | apply Ext.drewN | apply Ext.alloc | refine Ext.trans ?_ (by assumption))); first | done | fail)) x
  have C := Kp.mk (laidOut_any 1 1 rfl s3 (S2.out.ext (by (repeat (first | assumption | exact Ext.refl _ | apply Ext.drew | apply Ext.drewN | apply Ext.alloc | refine Ext.trans ?_ (by assumption))); first | done | fail)) (by omega) N (by omega))
  rw [show [0, 1] ++ List.replicate K 255 ++ [0] ++ (aheadL ++ dgH lb) = sgL (dgH lb) N by rw [← hK]; rfl] at C
  clear x s3
  go_wp2_with fail
  refine C.out.mono ?_
  rintro e w4 ⟨A4, c4, rfl, s4, o4, x4⟩
  have HF := Kp.mk (fresh_mk s4 o4 (show Ext w w3 from (by (repeat (first | assumption | exact Ext.refl _ | apply Ext.drew | apply Ext.drewN | apply Ext.alloc | refine Ext.trans ?_ (by assumption))); first | done | fail)) x4)
  clear s4 o4 x4 hxa x1 x2 x3
  go_wp2_with fail
  go_ret
  exact HF.out
end
end Go.Proofs.YticggkllfojgkaaGreatDoor
namespace Go.Proofs.YticggkllfojgkaaGreatDoor
open Go Go.RowKit
set_option maxRecDepth 4000

section
variable {A B D E F : Option Addr} {n c m d k f p q y z vn ve vd : Nat} {w : World} {lb sig : List (BitVec 8)}
theorem Sign_arg (hn : Nv w A n c vn) (he : Nv w B m d ve) (hd : Nv w D k f vd) (h : ¬ SecOk vn ve vd) : Calls Tryz.prog 9 #[.agg #[.slice A n c, .slice B m d, .slice D k f], .slice E p q] w (BadB w 1) := by
  have HN := Kp.mk hn
  have HE := Kp.mk he
  have HD := Kp.mk hd
  have H := Kp.mk h
  have HB := Kp.mk (Blk.new w 25 #[.slice A n c, .slice B m d, .slice D k f])
  clear hn he hd h
  go_enter Tryz.func9, Tryz.ntmps9
  go_wp2_with (first | ((with_reducible refine at_load_to 6 2 ?_); refine wpList_load_row rfl 25 _ rfl w.heap.size rfl 25 _ (0, 0) _ HB.out.h Tryz.underlying25 rfl szS ?_) | fail)
  refine (secretMay_any (HN.out.ext (by (repeat (first | assumption | exact Ext.refl _ | apply Ext.drew | apply Ext.drewN | apply Ext.alloc | refine Ext.trans ?_ (by assumption))); first | done | fail)) (HE.out.ext (by (repeat (first | assumption | exact Ext.refl _ | apply Ext.drew | apply Ext.drewN | apply Ext.alloc | refine Ext.trans ?_ (by assumption))); first | done | fail)) (HD.out.ext (by (repeat (first | assumption | exact Ext.refl _ | apply Ext.drew | apply Ext.drewN | apply Ext.alloc | refine Ext.trans ?_ (by assumption))); first | done | fail)) false (by simp [H.out])).mono ?_
  rintro e w1 ⟨rfl, x1⟩
  have HX := Kp.mk (show Ext w w1 from (by (repeat (first | assumption | exact Ext.refl _ | apply Ext.drew | apply Ext.drewN | apply Ext.alloc | refine Ext.trans ?_ (by assumption))); first | done | fail))
  clear x1
  go_wp2_with fail
  go_ret2
  exact ⟨rfl, HX.out⟩
set_option maxHeartbeats 4000000 in
theorem Sign_ok (hn : Nv w A n c vn) (he : Nv w B m d ve) (hd : Nv w D k f vd) (hb : Bs w E p q lb) (hw : Lay w) (hp : p ≤ 1000000) (h : SecOk vn ve vd) {r : List (BitVec 8)} (hr : rs (sgL (dgH lb) (nb vn)) vd vn = some r) : Calls Tryz.prog 9 #[.agg #[.slice A n c, .slice B m d, .slice D k f], .slice E p q] w (FreshE w (nb vn) r) := by
  have HN := Kp.mk hn
  have HE := Kp.mk he
  have HD := Kp.mk hd
  have HL := Kp.mk hb
  have HW := Kp.mk hw
  have H := Kp.mk h
  have HB := Kp.mk (Blk.new w 25 #[.slice A n c, .slice B m d, .slice D k f])
  have HR := Kp.mk hr
  obtain ⟨N, hN⟩ : ∃ N, nb vn = N := ⟨_, rfl⟩
  have HS := Kp.mk hN
  have hlo := h.1.1
  have hhi := h.1.2.1
  rw [hN] at hlo hhi HR ⊢
  clear hn he hd h hb hw hr hN
  go_enter Tryz.func9, Tryz.ntmps9
  go_wp2_with (first | ((with_reducible refine at_load_to 6 2 ?_); refine wpList_load_row rfl 25 _ rfl w.heap.size rfl 25 _ (0, 0) _ HB.out.h Tryz.underlying25 rfl szS ?_) | fail)
  refine (secretMay_any (HN.out.ext (by (repeat (first | assumption | exact Ext.refl _ | apply Ext.drew | apply Ext.drewN | apply Ext.alloc | refine Ext.trans ?_ (by assumption))); first | done | fail)) (HE.out.ext (by (repeat (first | assumption | exact Ext.refl _ | apply Ext.drew | apply Ext.drewN | apply Ext.alloc | refine Ext.trans ?_ (by assumption))); first | done | fail)) (HD.out.ext (by (repeat (first | assumption | exact Ext.refl _ | apply Ext.drew | apply Ext.drewN | apply Ext.alloc | refine Ext.trans ?_ (by assumption))); first | done | fail)) true (by simp [H.out])).mono ?_
  rintro e w1 ⟨rfl, x1⟩
  obtain ⟨m0, m1, m2⟩ := box3t (HB.out.ext x1)
  have HX := Kp.mk (show Ext w w1 from (by (repeat (first | assumption | exact Ext.refl _ | apply Ext.drew | apply Ext.drewN | apply Ext.alloc | refine Ext.trans ?_ (by assumption))); first | done | fail))
  clear x1
  have NN := Kp.mk (HN.out.ext HX.out)
  have ND := Kp.mk (HD.out.ext HX.out)
  have NL := Kp.mk (HL.out.ext HX.out)
  have NW := Kp.mk (HW.out.ext HX.out)
  go_wp2_with fail
  refine wp_region_held_drew (S := fun w' => Ext w1 w') (by kernel_rfl) (Ext.refl w1).drew (fun hHeld => ?_)
  refine wpAnyH_take (i := 0) (oi := ⟨some 10, _, _, _, _, _⟩) (v := ?_) rfl (by kernel_rfl) (by kernel_rfl) (by kernel_rfl) (fun _ _ _ h => h) (Or.inl ⟨by rfl, ?_⟩) (by assumption) ?_
  rotate_left
  · (intro w hSw; (try dsimp only at hSw); go_simp; try with_reducible rfl)
  try simp only [Act.put, List.setIfInBounds_toArray, List.set_cons_zero, List.set_cons_succ]
  refine wpAnyH_take (i := 1) (oi := ⟨some 11, _, _, _, _, _⟩) (v := ?_) rfl (by kernel_rfl) (by kernel_rfl) (by kernel_rfl) (fun _ _ _ h => h) (Or.inl ⟨by rfl, ?_⟩) (by assumption) ?_
  rotate_left
  · (intro w hSw; (try dsimp only at hSw); go_simp; try with_reducible rfl)
  try simp only [Act.put, List.setIfInBounds_toArray, List.set_cons_zero, List.set_cons_succ]
  refine wpAnyH_take (i := 3) (oi := ⟨some 13, _, _, _, _, _⟩) (v := ?_) rfl (by kernel_rfl) (by kernel_rfl) (by kernel_rfl) (fun _ _ _ h => h) (Or.inl ⟨by rfl, ?_⟩) (by assumption) ?_
  rotate_left
  · (intro w hSw; (try dsimp only at hSw); go_simp; try with_reducible rfl)
  try simp only [Act.put, List.setIfInBounds_toArray, List.set_cons_zero, List.set_cons_succ]
  refine wpAnyH_take (i := 5) (oi := ⟨some 15, _, _, _, _, _⟩) (v := ?_) rfl (by kernel_rfl) (by kernel_rfl) (by kernel_rfl) (fun _ _ _ h => h) (Or.inl ⟨by rfl, ?_⟩) (by assumption) ?_
  rotate_left
  · (intro w hSw; (try dsimp only at hSw); go_simp; try with_reducible rfl)
  try simp only [Act.put, List.setIfInBounds_toArray, List.set_cons_zero, List.set_cons_succ]
  refine wpAnyH_take (i := 6) (oi := ⟨some 16, _, _, _, _, _⟩) (v := ?_) rfl (by kernel_rfl) (by kernel_rfl) (by kernel_rfl) (fun _ _ _ h => h) (Or.inl ⟨by rfl, ?_⟩) (by assumption) ?_
  rotate_left
  · (intro w hSw; (try dsimp only at hSw); go_simp; try with_reducible rfl)
  try simp only [Act.put, List.setIfInBounds_toArray, List.set_cons_zero, List.set_cons_succ]
  refine wpAnyH_take (i := 7) (oi := ⟨some 17, _, _, _, _, _⟩) (v := ?_) rfl (by kernel_rfl) (by kernel_rfl) (by kernel_rfl) (fun _ _ _ h => h) (Or.inl ⟨by rfl, ?_⟩) (by assumption) ?_
  rotate_left
  · (intro w hSw; (try dsimp only at hSw); go_simp; try with_reducible rfl)
  try simp only [Act.put, List.setIfInBounds_toArray, List.set_cons_zero, List.set_cons_succ]
  refine wpAnyH_take (i := 8) (oi := ⟨some 18, _, _, _, _, _⟩) (v := ?_) rfl (by kernel_rfl) (by kernel_rfl) (by kernel_rfl) (fun _ _ _ h => h) (Or.inl ⟨by rfl, ?_⟩) (by assumption) ?_
  rotate_left
  · (intro w hSw; (try dsimp only at hSw); go_simp; try with_reducible rfl)
  try simp only [Act.put, List.setIfInBounds_toArray, List.set_cons_zero, List.set_cons_succ]
  refine next_one 2 (by kernel_rfl) rfl (by rfl) fun K' HK' => ?_
  go_simp
  refine (sizeOf_any (NN.out.ext hHeld)).mono ?_
  rintro e w2 ⟨rfl, hw2⟩
  subst hw2
  rw [HS.out]
  refine held_go HK' (by (repeat (first | assumption | exact Ext.refl _ | apply Ext.drew | apply Ext.drewN | apply Ext.alloc | refine Ext.trans ?_ (by assumption))); first | done | fail) (fun hHeld => ?_)
  clear HK'
  try simp only [Act.put, List.setIfInBounds_toArray, List.set_cons_zero, List.set_cons_succ]
  have x12 := hHeld
  refine next_one 4 (by kernel_rfl) rfl (by rfl) fun K' HK' => ?_
  go_simp
  refine (laidToSign_any (NL.out.ext x12) (NW.out.ext x12) hp hlo hhi).mono ?_
  rintro e w3 ⟨A3, c3, rfl, s3, _, x3⟩
  have x13 := x12.trans x3
  have hS2 := Ext.trans hHeld x3
  refine held_go HK' hS2 (fun _ => ?_)
  clear HK'
  refine held_more (S' := fun w' => Ext w3 w') (fun _ h => Ext.trans hS2 h) _ _ _ _ ?_
  clear hHeld hS2
  have hHeld : Ext w3 w3 := Ext.refl _
  try simp only [Act.put, List.setIfInBounds_toArray, List.set_cons_zero, List.set_cons_succ]
  refine next_one 9 (by kernel_rfl) rfl (by rfl) fun K' HK' => ?_
  go_simp
  have CR := raised_some s3 (ND.out.ext x13) (NN.out.ext x13) (sh32 (SecOk.d H.out)) H.out.1.2.1 H.out.1.n0 (by rw [← HS.out] at HR ⊢; exact HR.out)
  rw [HS.out] at CR
  refine CR.mono ?_
  rintro e w4 ⟨A4, c4, rfl, s4, o4, x4⟩
  have HO := Kp.mk (o4.lower (HX.out.trans x13).size)
  have HS4 := Kp.mk s4
  have HX4 := Kp.mk ((HX.out.trans x13).trans x4)
  have hS2 := Ext.trans hHeld x4
  refine held_go HK' hS2 (fun _ => ?_)
  clear HK'
  refine held_more (S' := fun w' => Ext w4 w') (fun _ h => Ext.trans hS2 h) _ _ _ _ ?_
  clear hHeld hS2
  have hHeld : Ext w4 w4 := Ext.refl _
  try simp only [Act.put, List.setIfInBounds_toArray, List.set_cons_zero, List.set_cons_succ]
  refine wpAnyH_take (i := 10) (oi := ⟨some 20, _, _, _, _, _⟩) (v := ?_) rfl (by kernel_rfl) (by kernel_rfl) (by kernel_rfl) (fun _ _ _ h => h) (Or.inl ⟨by rfl, ?_⟩) (by assumption) ?_
  rotate_left
  · (intro w hSw; (try dsimp only at hSw); go_simp; try with_reducible rfl)
  try simp only [Act.put, List.setIfInBounds_toArray, List.set_cons_zero, List.set_cons_succ]
  refine wpAnyH_take (i := 11) (oi := ⟨some 21, _, _, _, _, _⟩) (v := ?_) rfl (by kernel_rfl) (by kernel_rfl) (by kernel_rfl) (fun _ _ _ h => h) (Or.inl ⟨by rfl, ?_⟩) (by assumption) ?_
  rotate_left
  · (intro w hSw; (try dsimp only at hSw); go_simp; try with_reducible rfl)
  try simp only [Act.put, List.setIfInBounds_toArray, List.set_cons_zero, List.set_cons_succ]
  refine wpAnyH_take (i := 12) (oi := ⟨some 4, _, _, _, _, _⟩) (v := ?_) rfl (by kernel_rfl) (by kernel_rfl) (by kernel_rfl) (fun _ _ _ h => h) (Or.inl ⟨by rfl, ?_⟩) (by assumption) ?_
  rotate_left
  · (intro w hSw; (try dsimp only at hSw); go_simp; try with_reducible rfl)
  try simp only [Act.put, List.setIfInBounds_toArray, List.set_cons_zero, List.set_cons_succ]
  refine wpAnyH_take (i := 13) (oi := ⟨some 5, _, _, _, _, _⟩) (v := ?_) rfl (by kernel_rfl) (by kernel_rfl) (by kernel_rfl) (fun _ _ _ h => h) (Or.inl ⟨by rfl, ?_⟩) (by assumption) ?_
  rotate_left
  · (intro w hSw; (try dsimp only at hSw); go_simp; try with_reducible rfl)
  try simp only [Act.put, List.setIfInBounds_toArray, List.set_cons_zero, List.set_cons_succ]
  refine wpAnyH_done (by kernel_rfl) ?_ _
  clear m0 m1 m2 s3 s4 o4 CR
  go_wp2_with fail
  go_ret2
  exact ⟨A4, c4, rfl, HS4.out, HO.out, HX4.out⟩
theorem Verify_arg (hn : Nv w A n c vn) (he : Nv w B m d ve) (h : ¬ PubOk vn ve) : Calls Tryz.prog 14 #[.agg #[.slice A n c, .slice B m d], .slice E p q, .slice F y z] w fun e w' => e = .returned (err 1) ∧ Ext w w' := by
  have HN := Kp.mk hn
  have HE := Kp.mk he
  have H := Kp.mk h
  have HB := Kp.mk (Blk.new w 40 #[.slice A n c, .slice B m d])
  clear hn he h
  go_enter Tryz.func14, Tryz.ntmps14
  go_wp2_with (first | ((with_reducible refine at_load_to 9 3 ?_); refine wpList_load_row rfl 40 _ rfl w.heap.size rfl 40 _ (0, 0) _ HB.out.h Tryz.underlying40 rfl szP2 ?_) | fail)
  refine (publicMay_any (HN.out.ext (by (repeat (first | assumption | exact Ext.refl _ | apply Ext.drew | apply Ext.drewN | apply Ext.alloc | refine Ext.trans ?_ (by assumption))); first | done | fail)) (HE.out.ext (by (repeat (first | assumption | exact Ext.refl _ | apply Ext.drew | apply Ext.drewN | apply Ext.alloc | refine Ext.trans ?_ (by assumption))); first | done | fail)) false (by simp [H.out])).mono ?_
  rintro e w1 ⟨rfl, x1⟩
  have HX := Kp.mk (show Ext w w1 from (by (repeat (first | assumption | exact Ext.refl _ | apply Ext.drew | apply Ext.drewN | apply Ext.alloc | refine Ext.trans ?_ (by assumption))); first | done | fail))
  clear x1
  go_wp2_with fail
  go_ret
  exact ⟨rfl, HX.out⟩
set_option maxHeartbeats 4000000 in
theorem Verify_wrong (hn : Nv w A n c vn) (he : Nv w B m d ve) (hb : Bs w E p q lb) (hs : Bs w F y z sig) (hp : p ≤ 1000000) (h : PubOk vn ve) (hr : rs sig ve vn = none) : Calls Tryz.prog 14 #[.agg #[.slice A n c, .slice B m d], .slice E p q, .slice F y z] w fun e w' => e = .returned (err 8) ∧ Ext w w' := by
  have HN := Kp.mk hn
  have HE := Kp.mk he
  have HL := Kp.mk hb
  have HG := Kp.mk hs
  have H := Kp.mk h
  have HB := Kp.mk (Blk.new w 40 #[.slice A n c, .slice B m d])
  have HR := Kp.mk hr
  clear hr
  clear hn he hb hs h
  go_enter Tryz.func14, Tryz.ntmps14
  go_wp2_with (first | ((with_reducible refine at_load_to 9 3 ?_); refine wpList_load_row rfl 40 _ rfl w.heap.size rfl 40 _ (0, 0) _ HB.out.h Tryz.underlying40 rfl szP2 ?_) | fail)
  refine (publicMay_any (HN.out.ext (by (repeat (first | assumption | exact Ext.refl _ | apply Ext.drew | apply Ext.drewN | apply Ext.alloc | refine Ext.trans ?_ (by assumption))); first | done | fail)) (HE.out.ext (by (repeat (first | assumption | exact Ext.refl _ | apply Ext.drew | apply Ext.drewN | apply Ext.alloc | refine Ext.trans ?_ (by assumption))); first | done | fail)) true (by simp [H.out])).mono ?_
  rintro e w1 ⟨rfl, x1⟩
  obtain ⟨c0, c1⟩ := box2 HB.out x1
  go_wp2_with fail
  refine (raised_none (HG.out.ext (by (repeat (first | assumption | exact Ext.refl _ | apply Ext.drew | apply Ext.drewN | apply Ext.alloc | refine Ext.trans ?_ (by assumption))); first | done | fail)) (HE.out.ext (by (repeat (first | assumption | exact Ext.refl _ | apply Ext.drew | apply Ext.drewN | apply Ext.alloc | refine Ext.trans ?_ (by assumption))); first | done | fail)) (HN.out.ext (by (repeat (first | assumption | exact Ext.refl _ | apply Ext.drew | apply Ext.drewN | apply Ext.alloc | refine Ext.trans ?_ (by assumption))); first | done | fail)) H.out.2.1 HR.out).mono ?_
  rintro e w2 ⟨rfl, x2⟩
  have HX := Kp.mk (show Ext w w2 from (by (repeat (first | assumption | exact Ext.refl _ | apply Ext.drew | apply Ext.drewN | apply Ext.alloc | refine Ext.trans ?_ (by assumption))); first | done | fail))
  clear x1 x2
  go_wp2_with fail
  go_ret
  exact ⟨rfl, HX.out⟩
set_option maxHeartbeats 4000000 in
theorem Verify_ok (hn : Nv w A n c vn) (he : Nv w B m d ve) (hb : Bs w E p q lb) (hs : Bs w F y z sig) (hp : p ≤ 1000000) (h : PubOk vn ve) (hw : Lay w) {r : List (BitVec 8)} (hr : rs sig ve vn = some r) (hq : r = sgL (dgH lb) (nb vn)) : Calls Tryz.prog 14 #[.agg #[.slice A n c, .slice B m d], .slice E p q, .slice F y z] w fun e w' => e = .returned (.nilIface) ∧ Ext w w' := by
  have HN := Kp.mk hn
  have HE := Kp.mk he
  have HL := Kp.mk hb
  have HG := Kp.mk hs
  have H := Kp.mk h
  have HB := Kp.mk (Blk.new w 40 #[.slice A n c, .slice B m d])
  obtain ⟨N, hN⟩ : ∃ N, nb vn = N := ⟨_, rfl⟩
  have HS := Kp.mk hN
  have hlo := h.1
  have hhi := h.2.1
  have HW := Kp.mk hw
  have HR := Kp.mk hr
  rw [hN] at hlo hhi hq
  have HQ := Kp.mk (show (r == sgL (dgH lb) N) = true from beq_iff_eq.2 hq)
  clear hw hr hq hN
  clear hn he hb hs h
  go_enter Tryz.func14, Tryz.ntmps14
  go_wp2_with (first | ((with_reducible refine at_load_to 9 3 ?_); refine wpList_load_row rfl 40 _ rfl w.heap.size rfl 40 _ (0, 0) _ HB.out.h Tryz.underlying40 rfl szP2 ?_) | fail)
  refine (publicMay_any (HN.out.ext (by (repeat (first | assumption | exact Ext.refl _ | apply Ext.drew | apply Ext.drewN | apply Ext.alloc | refine Ext.trans ?_ (by assumption))); first | done | fail)) (HE.out.ext (by (repeat (first | assumption | exact Ext.refl _ | apply Ext.drew | apply Ext.drewN | apply Ext.alloc | refine Ext.trans ?_ (by assumption))); first | done | fail)) true (by simp [H.out])).mono ?_
  rintro e w1 ⟨rfl, x1⟩
  obtain ⟨c0, c1⟩ := box2 HB.out x1
  go_wp2_with fail
  have CR := Kp.mk (raised_some (HG.out.ext (show Ext w w1 from (by (repeat (first | assumption | exact Ext.refl _ | apply Ext.drew | apply Ext.drewN | apply Ext.alloc | refine Ext.trans ?_ (by assumption))); first | done | fail))) (HE.out.ext (show Ext w w1 from (by (repeat (first | assumption | exact Ext.refl _ | apply Ext.drew | apply Ext.drewN | apply Ext.alloc | refine Ext.trans ?_ (by assumption))); first | done | fail))) (HN.out.ext (show Ext w w1 from (by (repeat (first | assumption | exact Ext.refl _ | apply Ext.drew | apply Ext.drewN | apply Ext.alloc | refine Ext.trans ?_ (by assumption))); first | done | fail))) (sh32 (PubOk.e H.out)) H.out.2.1 H.out.n0 HR.out)
  rw [HS.out] at CR
  refine CR.out.mono ?_
  rintro e w2 ⟨A2, c2, rfl, s2, _, x2⟩
  have S2 := Kp.mk s2
  clear s2 CR
  obtain ⟨c0, c1⟩ := box2 HB.out (show Ext (w.alloc (.cells #[.slice A n c, .slice B m d] 40)) w2 from (by (repeat (first | assumption | exact Ext.refl _ | apply Ext.drew | apply Ext.drewN | apply Ext.alloc | refine Ext.trans ?_ (by assumption))); first | done | fail))
  go_wp2_with fail
  refine (sizeOf_any (HN.out.ext (by (repeat (first | assumption | exact Ext.refl _ | apply Ext.drew | apply Ext.drewN | apply Ext.alloc | refine Ext.trans ?_ (by assumption))); first | done | fail))).mono ?_
  rintro e w3 ⟨rfl, hw3⟩
  subst hw3
  rw [HS.out]
  go_wp2_with fail
  refine (laidToSign_any (HL.out.ext (by (repeat (first | assumption | exact Ext.refl _ | apply Ext.drew | apply Ext.drewN | apply Ext.alloc | refine Ext.trans ?_ (by assumption))); first | done | fail)) (HW.out.ext (by (repeat (first | assumption | exact Ext.refl _ | apply Ext.drew | apply Ext.drewN | apply Ext.alloc | refine Ext.trans ?_ (by assumption))); first | done | fail)) hp hlo hhi).mono ?_
  rintro e w4 ⟨A4, c4, rfl, s4, _, x4⟩
  have CE := Kp.mk (Equal_any (S2.out.ext x4) s4)
  rw [show (r == sgL (dgH lb) N) = true from HQ.out] at CE
  have HX := Kp.mk (show Ext w w4 from (by (repeat (first | assumption | exact Ext.refl _ | apply Ext.drew | apply Ext.drewN | apply Ext.alloc | refine Ext.trans ?_ (by assumption))); first | done | fail))
  clear s4 x1 x2 x4
  go_wp2_with fail
  refine CE.out.mono ?_
  rintro e w5 ⟨rfl, hw5⟩
  subst hw5
  go_wp2_with fail
  go_ret
  exact ⟨rfl, HX.out⟩
set_option maxHeartbeats 4000000 in
theorem Verify_no (hn : Nv w A n c vn) (he : Nv w B m d ve) (hb : Bs w E p q lb) (hs : Bs w F y z sig) (hp : p ≤ 1000000) (h : PubOk vn ve) (hw : Lay w) {r : List (BitVec 8)} (hr : rs sig ve vn = some r) (hq : r ≠ sgL (dgH lb) (nb vn)) : Calls Tryz.prog 14 #[.agg #[.slice A n c, .slice B m d], .slice E p q, .slice F y z] w fun e w' => e = .returned (err 8) ∧ Ext w w' := by
  have HN := Kp.mk hn
  have HE := Kp.mk he
  have HL := Kp.mk hb
  have HG := Kp.mk hs
  have H := Kp.mk h
  have HB := Kp.mk (Blk.new w 40 #[.slice A n c, .slice B m d])
  obtain ⟨N, hN⟩ : ∃ N, nb vn = N := ⟨_, rfl⟩
  have HS := Kp.mk hN
  have hlo := h.1
  have hhi := h.2.1
  have HW := Kp.mk hw
  have HR := Kp.mk hr
  rw [hN] at hlo hhi hq
  have HQ := Kp.mk (show (r == sgL (dgH lb) N) = false from beq_eq_false_iff_ne.2 hq)
  clear hw hr hq hN
  clear hn he hb hs h
  go_enter Tryz.func14, Tryz.ntmps14
  go_wp2_with (first | ((with_reducible refine at_load_to 9 3 ?_); refine wpList_load_row rfl 40 _ rfl w.heap.size rfl 40 _ (0, 0) _ HB.out.h Tryz.underlying40 rfl szP2 ?_) | fail)
  refine (publicMay_any (HN.out.ext (by (repeat (first | assumption | exact Ext.refl _ | apply Ext.drew | apply Ext.drewN | apply Ext.alloc | refine Ext.trans ?_ (by assumption))); first | done | fail)) (HE.out.ext (by (repeat (first | assumption | exact Ext.refl _ | apply Ext.drew | apply Ext.drewN | apply Ext.alloc | refine Ext.trans ?_ (by assumption))); first | done | fail)) true (by simp [H.out])).mono ?_
  rintro e w1 ⟨rfl, x1⟩
  obtain ⟨c0, c1⟩ := box2 HB.out x1
  go_wp2_with fail
  have CR := Kp.mk (raised_some (HG.out.ext (show Ext w w1 from (by (repeat (first | assumption | exact Ext.refl _ | apply Ext.drew | apply Ext.drewN | apply Ext.alloc | refine Ext.trans ?_ (by assumption))); first | done | fail))) (HE.out.ext (show Ext w w1 from (by (repeat (first | assumption | exact Ext.refl _ | apply Ext.drew | apply Ext.drewN | apply Ext.alloc | refine Ext.trans ?_ (by assumption))); first | done | fail))) (HN.out.ext (show Ext w w1 from (by (repeat (first | assumption | exact Ext.refl _ | apply Ext.drew | apply Ext.drewN | apply Ext.alloc | refine Ext.trans ?_ (by assumption))); first | done | fail))) (sh32 (PubOk.e H.out)) H.out.2.1 H.out.n0 HR.out)
  rw [HS.out] at CR
  refine CR.out.mono ?_
  rintro e w2 ⟨A2, c2, rfl, s2, _, x2⟩
  have S2 := Kp.mk s2
  clear s2 CR
  obtain ⟨c0, c1⟩ := box2 HB.out (show Ext (w.alloc (.cells #[.slice A n c, .slice B m d] 40)) w2 from (by (repeat (first | assumption | exact Ext.refl _ | apply Ext.drew | apply Ext.drewN | apply Ext.alloc | refine Ext.trans ?_ (by assumption))); first | done | fail))
  go_wp2_with fail
  refine (sizeOf_any (HN.out.ext (by (repeat (first | assumption | exact Ext.refl _ | apply Ext.drew | apply Ext.drewN | apply Ext.alloc | refine Ext.trans ?_ (by assumption))); first | done | fail))).mono ?_
  rintro e w3 ⟨rfl, hw3⟩
  subst hw3
  rw [HS.out]
  go_wp2_with fail
  refine (laidToSign_any (HL.out.ext (by (repeat (first | assumption | exact Ext.refl _ | apply Ext.drew | apply Ext.drewN | apply Ext.alloc | refine Ext.trans ?_ (by assumption))); first | done | fail)) (HW.out.ext (by (repeat (first | assumption | exact Ext.refl _ | apply Ext.drew | apply Ext.drewN | apply Ext.alloc | refine Ext.trans ?_ (by assumption))); first | done | fail)) hp hlo hhi).mono ?_
  rintro e w4 ⟨A4, c4, rfl, s4, _, x4⟩
  have CE := Kp.mk (Equal_any (S2.out.ext x4) s4)
  rw [show (r == sgL (dgH lb) N) = false from HQ.out] at CE
  have HX := Kp.mk (show Ext w w4 from (by (repeat (first | assumption | exact Ext.refl _ | apply Ext.drew | apply Ext.drewN | apply Ext.alloc | refine Ext.trans ?_ (by assumption))); first | done | fail))
  clear s4 x1 x2 x4
  go_wp2_with fail
  refine CE.out.mono ?_
  rintro e w5 ⟨rfl, hw5⟩
  subst hw5
  go_wp2_with fail
  go_ret
  exact ⟨rfl, HX.out⟩
end
end Go.Proofs.YticggkllfojgkaaGreatDoor
namespace Go.Proofs.YticggkllfojgkaaGreatDoor
open Go Go.RowKit
set_option maxRecDepth 4000

theorem digit_byte {v q s : Nat} (hs : s < 2) : dg (dgs 65536 v) q / 256 ^ s % 256 = v / 256 ^ (2 * q + s) % 256 := by
  obtain ⟨z, hz⟩ := div_dg (B := 65536) (by decide) (cn_dgs (by decide) v).d q
  rw [vl_dgs (by decide)] at hz
  have e1 : v / 256 ^ (2 * q + s) = v / 65536 ^ q / 256 ^ s := by
    rw [Nat.pow_add, Nat.pow_mul, show (256 : Nat) ^ 2 = 65536 from rfl, Nat.div_div_eq_div_mul]
  rw [e1, hz]
  generalize dg (dgs 65536 v) q = x
  generalize dg (dgs 65536 v) (q + 1) + 65536 * z = y
  rcases (show s = 0 ∨ s = 1 by omega) with rfl | rfl
  · simp only [Nat.pow_zero, Nat.div_one]; omega
  · simp only [Nat.pow_one]; omega
/-- what the reference's Write tells -/
def WriteB (w : World) (v k : Nat) (e : Ending) (w' : World) : Prop :=
  ∃ A c, e = .returned (.tuple #[.slice A k c, .bool true]) ∧ Own w' w.heap.size (.slice A k c) k (toB v k) ∧ Ext w w'
set_option maxHeartbeats 2000000 in
theorem refWrite_any {A : Option Addr} {n c v k : Nat} {w : World} (h : Rd vI w A n c (dgs 65536 v)) (hk : nb v ≤ k) (hk2 : k ≤ 256) : Calls Tryz.prog 30 #[.slice A n c, .int .i64 (k : Int)] w (WriteB w v k) := by
  have hlen := h.len
  have hv := (nb_iff v k).1 hk
  have hv2 : v < 256 ^ (2 * n) := by
    have h1 := (len_iff (B := 65536) (by decide) v n).1 (by omega)
    rwa [Nat.pow_mul]
  have hn : n ≤ 128 := by
    have h1 := (len_iff (B := 65536) (by decide) v 128).2 (by
      rw [show (65536 : Nat) = 256 ^ 2 by rfl, ← Nat.pow_mul]
      exact Nat.lt_of_lt_of_le hv (Nat.pow_le_pow_right (by decide) hk2))
    omega
  have HC := Kp.mk (Size_any h (by omega))
  rw [sz_nb] at HC
  have HR := Kp.mk h
  obtain ⟨N, hN⟩ : ∃ N, nb v = N := ⟨_, rfl⟩
  rw [hN] at HC hk
  have b1 : decide ((k : Int) < (N : Int)) = false := decide_eq_false (by omega)
  have b2 : decide ((k : Int) < 0) = false := decide_eq_false (by omega)
  have b3 : decide (k < N) = false := decide_eq_false (by omega)
  obtain ⟨M, hM⟩ : ∃ M, min k (2 * n) = M := ⟨_, rfl⟩
  have hM1 : M ≤ k := by omega
  have hM2 : M ≤ 2 * n := by omega
  have hM3 : M = k ∨ M = 2 * n := by omega
  have HV := Kp.mk (show v < 256 ^ M by rcases hM3 with e | e <;> rw [e] <;> assumption)
  have hmk := run_makeN k (k : Int) rfl (by omega)
  rw [← wrS_zero v k] at hmk
  clear h hv hv2 hN hlen hM hk
  go_enter Tryz.func30, Tryz.ntmps30
  go_wp2_with fail
  refine HC.out.mono ?_
  rintro e w1 ⟨rfl, rfl⟩
  have HB0 := Kp.mk (Blk.new w1 5 (bv (wrS v k 0)))
  go_wp2_with fail
  go_loopw [7] (fun iv wr => ∃ i : Nat, i ≤ M ∧ iv = .int .i64 (i : Int) ∧ Blk wr w1.heap.size 5 (bv (wrS v k i)) ∧ Ext w1 wr) (fun iv _ => M - (intOf iv).toNat)
  case atStart => exact ⟨0, by omega, rfl, HB0.out, (by (repeat (first | assumption | exact Ext.refl _ | apply Ext.drew | apply Ext.drewN | apply Ext.alloc | refine Ext.trans ?_ (by assumption))); first | done | fail)⟩
  case round =>
    obtain ⟨i, hi, rfl, hb, hx⟩ := hrel
    obtain ⟨q, hq⟩ : ∃ q, i / 2 = q := ⟨_, rfl⟩
    obtain ⟨s, hs⟩ : ∃ s, i % 2 = s := ⟨_, rfl⟩
    have hiq : i = 2 * q + s := by omega
    have d1 : (i : Int) / 2 = (q : Int) := by omega
    have d2 : (i : Int) % 2 = (s : Int) := by omega
    have d3 : (i : Int).tdiv 2 = (q : Int) := by rw [Int.tdiv_eq_ediv_of_nonneg (by omega)]; exact d1
    have d4 : (i : Int).tmod 2 = (s : Int) := by rw [Int.tmod_eq_emod_of_nonneg (by omega)]; exact d2
    have d5 : (i : Int) < 1000 := by omega
    by_cases hlt : i < M
    · obtain ⟨g, o, rfl⟩ := HR.out.some_ (by omega)
      have k1 := (HR.out.ext hx).dig q (by omega)
      unfold vI at k1
      have hy := (cn_dgs (B := 65536) (by decide) v).d.at (by decide) q
      have hlb := digit_byte (v := v) (q := q) (s := s) (by omega)
      rw [← hiq] at hlb
      obtain ⟨P, hP⟩ : ∃ P, k - 1 - i = P := ⟨_, rfl⟩
      have k4 := hb.h.frozen P
      have k3 := (hb.h.cell P).trans (bv_at _ P (by simp [wrS]; omega))
      have hset := hb.setB P (BitVec.ofNat 8 (v / 256 ^ i))
      rw [← hP, wrS_set v k i (by omega), hP, ub_ofNat] at hset
      generalize dg (dgs 65536 v) q = y at *
      have c0 : (i : Int) < (k : Int) := by omega
      have c1 : (q : Int) < (n : Int) := by omega
      have c2 : (k : Int) - 1 - (i : Int) = (P : Int) := by omega
      have c3 : (P : Int) < (k : Int) := by omega
      have c4 : (y : Int) < 65536 := by omega
      rcases (show s = 0 ∨ s = 1 by omega) with rfl | rfl
      · rw [Nat.pow_zero, Nat.div_one] at hlb
        have e1 : ((v / 256 ^ i : Nat) : Int) % 256 = (y : Int) % 256 := by omega
        rw [e1] at hset
        have e2 : IntKind.u8.wrap ((y : Int) % 256) = (y : Int) % 256 := by rw [IntKind.wrap_u8]; omega
        have e3 : (y : Int).tmod 256 = (y : Int) % 256 := by rw [Int.tmod_eq_emod_of_nonneg (by omega)]
        have HS := Kp.mk hset
        have HX2 := Kp.mk (hx.setCell (p := ⟨w1.heap.size, P, none⟩) (Nat.le_refl _) (.int .u8 ((y : Int) % 256)))
        clear hb hx hq hs hiq hP hlb hset e1 hM1 hM2 hM3
        go_wp2_with fail
        go_roundw
        case rel => exact ⟨i + 1, by omega, by go_num, HS.out, HX2.out⟩
        case measure => simp [intOf]; omega
      · rw [Nat.pow_one] at hlb
        obtain ⟨z, hz⟩ : ∃ z, y / 256 = z := ⟨_, rfl⟩
        rw [hz] at hlb
        have e1 : ((v / 256 ^ i : Nat) : Int) % 256 = (z : Int) % 256 := by omega
        rw [e1] at hset
        have e2 : IntKind.u8.wrap ((z : Int) % 256) = (z : Int) % 256 := by rw [IntKind.wrap_u8]; omega
        have e3 : (z : Int).tmod 256 = (z : Int) % 256 := by rw [Int.tmod_eq_emod_of_nonneg (by omega)]
        have e4 : (y : Int) / 256 = (z : Int) := by omega
        have e5 : (y : Int).tdiv 256 = (z : Int) := by rw [Int.tdiv_eq_ediv_of_nonneg (by omega)]; exact e4
        have e6 : (z : Int) < 256 := by omega
        have HS := Kp.mk hset
        have HX2 := Kp.mk (hx.setCell (p := ⟨w1.heap.size, P, none⟩) (Nat.le_refl _) (.int .u8 ((z : Int) % 256)))
        clear hb hx hq hs hiq hP hlb hset e1 hM1 hM2 hM3 hz
        go_wp2_with fail
        go_roundw
        case rel => exact ⟨i + 1, by omega, by go_num, HS.out, HX2.out⟩
        case measure => simp [intOf]; omega
    · obtain rfl : i = M := by omega
      have hall := wrS_all v k i HV.out hM1
      rw [hall] at hb
      have HF := Kp.mk (show WriteB w1 v k (.returned (.tuple #[.slice (some ⟨w1.heap.size, 0, none⟩) k k, .bool true])) wr from
        ⟨_, _, rfl, Own.has hb.h (toB_len _ _) (Nat.le_refl _) (by unfold maxLen; omega), hx⟩)
      by_cases hik : i = k
      · have c0 : decide ((i : Int) < (k : Int)) = false := decide_eq_false (by omega)
        have c0' : decide (i < k) = false := decide_eq_false (by omega)
        clear hb hx hall hq hs hiq hM3 hM1 hM2
        go_wp2_with fail
        go_ret2
        exact HF.out
      · have c0 : (i : Int) < (k : Int) := by omega
        have c1 : decide ((q : Int) < (n : Int)) = false := decide_eq_false (by omega)
        have c1' : decide (q < n) = false := decide_eq_false (by omega)
        have c0' : i < k := by omega
        clear hb hx hall hq hs hiq hM3 hM1 hM2
        go_wp2_with fail
        go_ret2
        exact HF.out
end Go.Proofs.YticggkllfojgkaaGreatDoor
