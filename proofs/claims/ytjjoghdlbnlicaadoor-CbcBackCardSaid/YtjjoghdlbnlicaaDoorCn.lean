/-
  The walk of the law CbcBack.
-/
import Derived.Test.YtjjoghdlbnlicaaDoorCv
namespace Go.Proofs.YtjjoghdlbnlicaaDoor
open Go Go.RowKit

set_option maxRecDepth 100000 in
set_option maxHeartbeats 8000000 in
theorem CbcBack_any {k g a0 b0 : List (BitVec 8)} {A B : Option Addr} {n0 c m0 d : Nat} {w : World} (hk : k.length = 16) (hg : g.length = 16) (ha : Bs w A n0 c a0) (hb : Bs w B m0 d b0) (z : Int) (y : BitVec 8) (hw : Lay3 w) :
    Calls Tryd.prog 6 #[.agg (bv k), .agg (bv g), .slice A n0 c, .slice B m0 d, .int .i64 z, .int .u8 (ub y)] w fun e w' => e = .returned (.bool true) ∧ Below w.heap.size w w' := by
  go_enter Tryd.func6, Tryd.ntmps6
  have hx0 : Ext w ((w.alloc (.cells (bv k) ar)).alloc (.cells (bv g) ar)) := (by (repeat (first | assumption | exact Ext.refl _ | apply Ext.drew | apply Ext.drewN | apply Ext.alloc | refine Ext.trans ?_ (by assumption))); first | done | fail)
  have bk : Blk ((w.alloc (.cells (bv k) ar)).alloc (.cells (bv g) ar)) w.heap.size ar (bv k) := ⟨(by (repeat (first | (with_reducible apply Has.drew) | exact Has.new _ _ _ _ (by first | (simp; done) | fail) | (with_reducible apply Has.alloc))); first | done | fail)⟩
  have bg : Blk ((w.alloc (.cells (bv k) ar)).alloc (.cells (bv g) ar)) (w.heap.size + 1) ar (bv g) := ⟨(by (repeat (first | (with_reducible apply Has.drew) | exact Has.new _ _ _ _ (by first | (simp; done) | fail) | (with_reducible apply Has.alloc))); first | done | fail)⟩
  go_wp2_with fail
  generalize (w.alloc (.cells (bv k) ar)).alloc (.cells (bv g) ar) = w0 at *
  refine (up4_any _).mono ?_
  rintro e w1 ⟨rfl, hx1⟩
  go_wp2_with fail
  refine (cut4_any A n0 c 300 300 rfl ha.cap w1).mono ?_
  rintro e1 w2 ⟨rfl, rfl⟩
  go_wp2_with fail
  refine (cut4_any B m0 d 300 300 rfl hb.cap w1).mono ?_
  rintro e1 w2 ⟨rfl, rfl⟩
  have hn : min n0 300 ≤ 300 := Nat.min_le_right _ _
  have hm : min m0 300 ≤ 300 := Nat.min_le_right _ _
  have hx01 := hx0.trans hx1
  have ha1 := (ha.ext hx01).take (min n0 300) (Nat.min_le_left _ _)
  have hb1 := (hb.ext hx01).take (min m0 300) (Nat.min_le_left _ _)
  generalize min n0 300 = n at *
  generalize min m0 300 = m at *
  generalize a0.take n = a at *
  generalize b0.take m = b at *
  have hw1 := hw.ext hx01
  have sk := (bk.ext hx1).whole hk
  have sg := (bg.ext hx1).whole hg
  have rg := (bg.ext hx1).rge
  have hal := ha1.len
  have hbl := hb1.len
  obtain ⟨N, hN⟩ : ∃ N, N = n / 16 + 1 := ⟨_, rfl⟩
  obtain ⟨p, hp⟩ : ∃ p, p = 16 * N := ⟨_, rfl⟩
  obtain ⟨M, hM⟩ : ∃ M, M = m / 16 + 1 := ⟨_, rfl⟩
  obtain ⟨q, hq⟩ : ∃ q, q = 16 * M := ⟨_, rfl⟩
  obtain ⟨hs1, ho1⟩ := sealing (k := k) (g := g) hal hn hp hN
  obtain ⟨hs2, _⟩ := sealing (k := k) (g := g) hbl hm hq hM
  have hot := fun j (hj : j < 16) (h16 : 16 ≤ n) => @opening_turned k g a n p N j y hg hal hn h16 hj hp hN
  have e3 := str_same (x := sealL (ks k) g a) (y := sealL (ks k) g b) ⟨sealL_inj (ks k) g, fun h => by rw [h]⟩
  generalize sealL (ks k) g a = S at *
  generalize sealL (ks k) g b = T at *
  have HS1 := Kp.mk @hs1
  have HO1 := Kp.mk @ho1
  have HS2 := Kp.mk @hs2
  have HOT := Kp.mk @hot
  have HX := Kp.mk hx01
  have HAL := Kp.mk hal
  have HGL := Kp.mk hg
  have HE3 := Kp.mk e3
  have HN := Kp.mk hn
  clear hw hx0 hx1 hx01 bk bg hk hg ha hb hn hm hal hbl hN hp hM hq hs1 ho1 hs2 hot e3
  go_wp2_with fail
  refine wp_region_held_drew (S := fun w' => Ext w1 w') (by kernel_rfl) (Ext.refl w1).drew (fun hHeld => ?_)
  refine wpAnyH_take (i := 0) (oi := ⟨some 30, _, _, _, _, _⟩) (v := ?_) rfl (by kernel_rfl) (by kernel_rfl) (by kernel_rfl) (fun _ _ _ h => h) (Or.inl ⟨by rfl, ?_⟩) (by assumption) ?_
  rotate_left
  · (intro w hSw; (try dsimp only at hSw); go_simp; try with_reducible rfl)
  try simp only [Act.put, List.setIfInBounds_toArray, List.set_cons_zero, List.set_cons_succ]
  refine wpAnyH_take (i := 1) (oi := ⟨some 31, _, _, _, _, _⟩) (v := ?_) rfl (by kernel_rfl) (by kernel_rfl) (by kernel_rfl) (fun _ _ _ h => h) (Or.inl ⟨by rfl, ?_⟩) (by assumption) ?_
  rotate_left
  · (intro w hSw; (try dsimp only at hSw); go_simp; try with_reducible rfl)
  try simp only [Act.put, List.setIfInBounds_toArray, List.set_cons_zero, List.set_cons_succ]
  refine wpAnyH_take (i := 2) (oi := ⟨some 32, _, _, _, _, _⟩) (v := ?_) rfl (by kernel_rfl) (by kernel_rfl) (by kernel_rfl) (fun _ _ _ h => h) (Or.inl ⟨by rfl, ?_⟩) (by assumption) ?_
  rotate_left
  · (intro w hSw; (try dsimp only at hSw); go_simp; try with_reducible rfl)
  try simp only [Act.put, List.setIfInBounds_toArray, List.set_cons_zero, List.set_cons_succ]
  refine next_one 3 (by kernel_rfl) rfl (by rfl) fun K' HK' => ?_
  go_simp
  refine (HS1.out (sk.ext (by (repeat (first | assumption | exact Ext.refl _ | apply Ext.drew | apply Ext.drewN | apply Ext.alloc | refine Ext.trans ?_ (by assumption))); first | done | fail)) (sg.ext (by (repeat (first | assumption | exact Ext.refl _ | apply Ext.drew | apply Ext.drewN | apply Ext.alloc | refine Ext.trans ?_ (by assumption))); first | done | fail)) (ha1.ext (by (repeat (first | assumption | exact Ext.refl _ | apply Ext.drew | apply Ext.drewN | apply Ext.alloc | refine Ext.trans ?_ (by assumption))); first | done | fail)) (hw1.ext (by (repeat (first | assumption | exact Ext.refl _ | apply Ext.drew | apply Ext.drewN | apply Ext.alloc | refine Ext.trans ?_ (by assumption))); first | done | fail))).mono ?_
  rintro e w2 ⟨A2, c2, rfl, hs2, _, hx2⟩
  have hx12 : Ext w1 w2 := (by (repeat (first | assumption | exact Ext.refl _ | apply Ext.drew | apply Ext.drewN | apply Ext.alloc | refine Ext.trans ?_ (by assumption))); first | done | fail)
  have hS2 := Ext.trans hHeld hx2
  refine held_go HK' hS2 (fun _ => ?_)
  clear HK'
  refine held_more (S' := fun w' => Ext w2 w') (fun _ h => Ext.trans hS2 h) _ _ _ _ ?_
  clear hHeld hS2
  have hHeld : Ext w2 w2 := Ext.refl _
  try simp only [Act.put, List.setIfInBounds_toArray, List.set_cons_zero, List.set_cons_succ]
  refine wpAnyH_take (i := 4) (oi := ⟨some 29, _, _, _, _, _⟩) (v := ?_) rfl (by kernel_rfl) (by kernel_rfl) (by kernel_rfl) (fun _ _ _ h => h) (Or.inl ⟨by rfl, ?_⟩) (by assumption) ?_
  rotate_left
  · (intro w hSw; (try dsimp only at hSw); go_simp; try with_reducible rfl)
  try simp only [Act.put, List.setIfInBounds_toArray, List.set_cons_zero, List.set_cons_succ]
  refine wpAnyH_take (i := 5) (oi := ⟨some 34, _, _, _, _, _⟩) (v := ?_) rfl (by kernel_rfl) (by kernel_rfl) (by kernel_rfl) (fun _ _ _ h => h) (Or.inl ⟨by rfl, ?_⟩) (by assumption) ?_
  rotate_left
  · (intro w hSw; (try dsimp only at hSw); go_simp; try with_reducible rfl)
  try simp only [Act.put, List.setIfInBounds_toArray, List.set_cons_zero, List.set_cons_succ]
  refine wpAnyH_take (i := 6) (oi := ⟨some 35, _, _, _, _, _⟩) (v := ?_) rfl (by kernel_rfl) (by kernel_rfl) (by kernel_rfl) (fun _ _ _ h => h) (Or.inl ⟨by rfl, ?_⟩) (by assumption) ?_
  rotate_left
  · (intro w hSw; (try dsimp only at hSw); go_simp; try with_reducible rfl)
  try simp only [Act.put, List.setIfInBounds_toArray, List.set_cons_zero, List.set_cons_succ]
  refine wpAnyH_take (i := 7) (oi := ⟨some 14, _, _, _, _, _⟩) (v := ?_) rfl (by kernel_rfl) (by kernel_rfl) (by kernel_rfl) (fun _ _ _ h => h) (Or.inl ⟨by rfl, ?_⟩) (by assumption) ?_
  rotate_left
  · (intro w hSw; (try dsimp only at hSw); go_simp; try with_reducible rfl)
  try simp only [Act.put, List.setIfInBounds_toArray, List.set_cons_zero, List.set_cons_succ]
  refine wpAnyH_take (i := 8) (oi := ⟨some 15, _, _, _, _, _⟩) (v := ?_) rfl (by kernel_rfl) (by kernel_rfl) (by kernel_rfl) (fun _ _ _ h => h) (Or.inl ⟨by rfl, ?_⟩) (by assumption) ?_
  rotate_left
  · (intro w hSw; (try dsimp only at hSw); go_simp; try with_reducible rfl)
  try simp only [Act.put, List.setIfInBounds_toArray, List.set_cons_zero, List.set_cons_succ]
  refine wpAnyH_done (by kernel_rfl) ?_ _
  clear hx2
  go_wp2_with fail
  refine wp_region_held_drew (S := fun w' => Ext w2 w') (by kernel_rfl) (Ext.refl w2).drew (fun hHeld => ?_)
  refine wpAnyH_take (i := 0) (oi := ⟨some 37, _, _, _, _, _⟩) (v := ?_) rfl (by kernel_rfl) (by kernel_rfl) (by kernel_rfl) (fun _ _ _ h => h) (Or.inl ⟨by rfl, ?_⟩) (by assumption) ?_
  rotate_left
  · (intro w hSw; (try dsimp only at hSw); go_simp; try with_reducible rfl)
  try simp only [Act.put, List.setIfInBounds_toArray, List.set_cons_zero, List.set_cons_succ]
  refine wpAnyH_take (i := 1) (oi := ⟨some 38, _, _, _, _, _⟩) (v := ?_) rfl (by kernel_rfl) (by kernel_rfl) (by kernel_rfl) (fun _ _ _ h => h) (Or.inl ⟨by rfl, ?_⟩) (by assumption) ?_
  rotate_left
  · (intro w hSw; (try dsimp only at hSw); go_simp; try with_reducible rfl)
  try simp only [Act.put, List.setIfInBounds_toArray, List.set_cons_zero, List.set_cons_succ]
  refine wpAnyH_take (i := 2) (oi := ⟨some 39, _, _, _, _, _⟩) (v := ?_) rfl (by kernel_rfl) (by kernel_rfl) (by kernel_rfl) (fun _ _ _ h => h) (Or.inl ⟨by rfl, ?_⟩) (by assumption) ?_
  rotate_left
  · (intro w hSw; (try dsimp only at hSw); go_simp; try with_reducible rfl)
  try simp only [Act.put, List.setIfInBounds_toArray, List.set_cons_zero, List.set_cons_succ]
  refine next_one 3 (by kernel_rfl) rfl (by rfl) fun K' HK' => ?_
  go_simp
  refine (HS2.out (sk.ext (by (repeat (first | assumption | exact Ext.refl _ | apply Ext.drew | apply Ext.drewN | apply Ext.alloc | refine Ext.trans ?_ (by assumption))); first | done | fail)) (sg.ext (by (repeat (first | assumption | exact Ext.refl _ | apply Ext.drew | apply Ext.drewN | apply Ext.alloc | refine Ext.trans ?_ (by assumption))); first | done | fail)) (hb1.ext (by (repeat (first | assumption | exact Ext.refl _ | apply Ext.drew | apply Ext.drewN | apply Ext.alloc | refine Ext.trans ?_ (by assumption))); first | done | fail)) (hw1.ext (by (repeat (first | assumption | exact Ext.refl _ | apply Ext.drew | apply Ext.drewN | apply Ext.alloc | refine Ext.trans ?_ (by assumption))); first | done | fail))).mono ?_
  rintro e w3 ⟨A3, c3, rfl, hs3, _, hx3⟩
  have hx23 : Ext w2 w3 := (by (repeat (first | assumption | exact Ext.refl _ | apply Ext.drew | apply Ext.drewN | apply Ext.alloc | refine Ext.trans ?_ (by assumption))); first | done | fail)
  have hS2 := Ext.trans hHeld hx3
  refine held_go HK' hS2 (fun _ => ?_)
  clear HK'
  refine held_more (S' := fun w' => Ext w3 w') (fun _ h => Ext.trans hS2 h) _ _ _ _ ?_
  clear hHeld hS2
  have hHeld : Ext w3 w3 := Ext.refl _
  try simp only [Act.put, List.setIfInBounds_toArray, List.set_cons_zero, List.set_cons_succ]
  refine wpAnyH_take (i := 4) (oi := ⟨some 36, _, _, _, _, _⟩) (v := ?_) rfl (by kernel_rfl) (by kernel_rfl) (by kernel_rfl) (fun _ _ _ h => h) (Or.inl ⟨by rfl, ?_⟩) (by assumption) ?_
  rotate_left
  · (intro w hSw; (try dsimp only at hSw); go_simp; try with_reducible rfl)
  try simp only [Act.put, List.setIfInBounds_toArray, List.set_cons_zero, List.set_cons_succ]
  refine wpAnyH_take (i := 5) (oi := ⟨some 41, _, _, _, _, _⟩) (v := ?_) rfl (by kernel_rfl) (by kernel_rfl) (by kernel_rfl) (fun _ _ _ h => h) (Or.inl ⟨by rfl, ?_⟩) (by assumption) ?_
  rotate_left
  · (intro w hSw; (try dsimp only at hSw); go_simp; try with_reducible rfl)
  try simp only [Act.put, List.setIfInBounds_toArray, List.set_cons_zero, List.set_cons_succ]
  refine wpAnyH_take (i := 6) (oi := ⟨some 42, _, _, _, _, _⟩) (v := ?_) rfl (by kernel_rfl) (by kernel_rfl) (by kernel_rfl) (fun _ _ _ h => h) (Or.inl ⟨by rfl, ?_⟩) (by assumption) ?_
  rotate_left
  · (intro w hSw; (try dsimp only at hSw); go_simp; try with_reducible rfl)
  try simp only [Act.put, List.setIfInBounds_toArray, List.set_cons_zero, List.set_cons_succ]
  refine wpAnyH_take (i := 7) (oi := ⟨some 16, _, _, _, _, _⟩) (v := ?_) rfl (by kernel_rfl) (by kernel_rfl) (by kernel_rfl) (fun _ _ _ h => h) (Or.inl ⟨by rfl, ?_⟩) (by assumption) ?_
  rotate_left
  · (intro w hSw; (try dsimp only at hSw); go_simp; try with_reducible rfl)
  try simp only [Act.put, List.setIfInBounds_toArray, List.set_cons_zero, List.set_cons_succ]
  refine wpAnyH_take (i := 8) (oi := ⟨some 17, _, _, _, _, _⟩) (v := ?_) rfl (by kernel_rfl) (by kernel_rfl) (by kernel_rfl) (fun _ _ _ h => h) (Or.inl ⟨by rfl, ?_⟩) (by assumption) ?_
  rotate_left
  · (intro w hSw; (try dsimp only at hSw); go_simp; try with_reducible rfl)
  try simp only [Act.put, List.setIfInBounds_toArray, List.set_cons_zero, List.set_cons_succ]
  refine wpAnyH_done (by kernel_rfl) ?_ _
  clear hx3
  have hx13 := hx12.trans hx23
  go_wp2_with fail
  refine wp_region_held_drew (S := fun w' => Ext w3 w') (by kernel_rfl) (Ext.refl w3).drew (fun hHeld => ?_)
  refine wpAnyH_take (i := 0) (oi := ⟨some 44, _, _, _, _, _⟩) (v := ?_) rfl (by kernel_rfl) (by kernel_rfl) (by kernel_rfl) (fun _ _ _ h => h) (Or.inl ⟨by rfl, ?_⟩) (by assumption) ?_
  rotate_left
  · (intro w hSw; (try dsimp only at hSw); go_simp; try with_reducible rfl)
  try simp only [Act.put, List.setIfInBounds_toArray, List.set_cons_zero, List.set_cons_succ]
  refine wpAnyH_take (i := 1) (oi := ⟨some 45, _, _, _, _, _⟩) (v := ?_) rfl (by kernel_rfl) (by kernel_rfl) (by kernel_rfl) (fun _ _ _ h => h) (Or.inl ⟨by rfl, ?_⟩) (by assumption) ?_
  rotate_left
  · (intro w hSw; (try dsimp only at hSw); go_simp; try with_reducible rfl)
  try simp only [Act.put, List.setIfInBounds_toArray, List.set_cons_zero, List.set_cons_succ]
  refine wpAnyH_take (i := 2) (oi := ⟨some 46, _, _, _, _, _⟩) (v := ?_) rfl (by kernel_rfl) (by kernel_rfl) (by kernel_rfl) (fun _ _ _ h => h) (Or.inl ⟨by rfl, ?_⟩) (by assumption) ?_
  rotate_left
  · (intro w hSw; (try dsimp only at hSw); go_simp; try with_reducible rfl)
  try simp only [Act.put, List.setIfInBounds_toArray, List.set_cons_zero, List.set_cons_succ]
  refine next_one 3 (by kernel_rfl) rfl (by rfl) fun K' HK' => ?_
  go_simp
  refine (HO1.out (sk.ext (by (repeat (first | assumption | exact Ext.refl _ | apply Ext.drew | apply Ext.drewN | apply Ext.alloc | refine Ext.trans ?_ (by assumption))); first | done | fail)) (sg.ext (by (repeat (first | assumption | exact Ext.refl _ | apply Ext.drew | apply Ext.drewN | apply Ext.alloc | refine Ext.trans ?_ (by assumption))); first | done | fail)) (hs2.ext (by (repeat (first | assumption | exact Ext.refl _ | apply Ext.drew | apply Ext.drewN | apply Ext.alloc | refine Ext.trans ?_ (by assumption))); first | done | fail)) (hw1.ext (by (repeat (first | assumption | exact Ext.refl _ | apply Ext.drew | apply Ext.drewN | apply Ext.alloc | refine Ext.trans ?_ (by assumption))); first | done | fail))).mono ?_
  rintro e w4 ⟨A4, c4, rfl, hs4, _, hx4⟩
  have hx34 : Ext w3 w4 := (by (repeat (first | assumption | exact Ext.refl _ | apply Ext.drew | apply Ext.drewN | apply Ext.alloc | refine Ext.trans ?_ (by assumption))); first | done | fail)
  have hS2 := Ext.trans hHeld hx4
  refine held_go HK' hS2 (fun _ => ?_)
  clear HK'
  refine held_more (S' := fun w' => Ext w4 w') (fun _ h => Ext.trans hS2 h) _ _ _ _ ?_
  clear hHeld hS2
  have hHeld : Ext w4 w4 := Ext.refl _
  try simp only [Act.put, List.setIfInBounds_toArray, List.set_cons_zero, List.set_cons_succ]
  refine wpAnyH_take (i := 4) (oi := ⟨some 43, _, _, _, _, _⟩) (v := ?_) rfl (by kernel_rfl) (by kernel_rfl) (by kernel_rfl) (fun _ _ _ h => h) (Or.inl ⟨by rfl, ?_⟩) (by assumption) ?_
  rotate_left
  · (intro w hSw; (try dsimp only at hSw); go_simp; try with_reducible rfl)
  try simp only [Act.put, List.setIfInBounds_toArray, List.set_cons_zero, List.set_cons_succ]
  refine wpAnyH_take (i := 5) (oi := ⟨some 48, _, _, _, _, _⟩) (v := ?_) rfl (by kernel_rfl) (by kernel_rfl) (by kernel_rfl) (fun _ _ _ h => h) (Or.inl ⟨by rfl, ?_⟩) (by assumption) ?_
  rotate_left
  · (intro w hSw; (try dsimp only at hSw); go_simp; try with_reducible rfl)
  try simp only [Act.put, List.setIfInBounds_toArray, List.set_cons_zero, List.set_cons_succ]
  refine wpAnyH_take (i := 6) (oi := ⟨some 49, _, _, _, _, _⟩) (v := ?_) rfl (by kernel_rfl) (by kernel_rfl) (by kernel_rfl) (fun _ _ _ h => h) (Or.inl ⟨by rfl, ?_⟩) (by assumption) ?_
  rotate_left
  · (intro w hSw; (try dsimp only at hSw); go_simp; try with_reducible rfl)
  try simp only [Act.put, List.setIfInBounds_toArray, List.set_cons_zero, List.set_cons_succ]
  refine wpAnyH_take (i := 7) (oi := ⟨some 18, _, _, _, _, _⟩) (v := ?_) rfl (by kernel_rfl) (by kernel_rfl) (by kernel_rfl) (fun _ _ _ h => h) (Or.inl ⟨by rfl, ?_⟩) (by assumption) ?_
  rotate_left
  · (intro w hSw; (try dsimp only at hSw); go_simp; try with_reducible rfl)
  try simp only [Act.put, List.setIfInBounds_toArray, List.set_cons_zero, List.set_cons_succ]
  refine wpAnyH_take (i := 8) (oi := ⟨some 19, _, _, _, _, _⟩) (v := ?_) rfl (by kernel_rfl) (by kernel_rfl) (by kernel_rfl) (fun _ _ _ h => h) (Or.inl ⟨by rfl, ?_⟩) (by assumption) ?_
  rotate_left
  · (intro w hSw; (try dsimp only at hSw); go_simp; try with_reducible rfl)
  try simp only [Act.put, List.setIfInBounds_toArray, List.set_cons_zero, List.set_cons_succ]
  refine wpAnyH_done (by kernel_rfl) ?_ _
  clear hx4
  have hx14 := hx13.trans hx34
  have t2 := fun (w' : World) (hx : Ext w4 w') => (hs2.ext (hx23.trans hx34)).str hx
  have t3 := fun (w' : World) (hx : Ext w4 w') => (hs3.ext hx34).str hx
  have t4 := fun (w' : World) (hx : Ext w4 w') => hs4.str hx
  have ta := fun (w' : World) (hx : Ext w4 w') => (ha1.ext hx14).str hx
  have tb' := fun (w' : World) (hx : Ext w4 w') => (hb1.ext hx14).str hx
  have HS4 := Kp.mk (hs2.ext (hx23.trans hx34))
  have HA4 := Kp.mk (ha1.ext hx14)
  have HK4 := Kp.mk (sk.ext hx14)
  have HRG4 := Kp.mk (rg.ext hx14)
  have HW4 := Kp.mk (hw1.ext hx14)
  have HX4 := Kp.mk (HX.out.trans hx14)
  have e3 := HE3.out
  clear hx12 hx23 hx13 hs2 hs3 hs4 hx34 hx14 sk sg rg hw1 ha1 hb1 HX
  generalize strOf S = sx at *
  generalize strOf T = sy at *
  generalize strOf a = sa at *
  generalize strOf b = sb at *
  have hor : z < 0 ∨ (0 ≤ z ∧ 15 < z) ∨ (0 ≤ z ∧ z ≤ 15 ∧ (n : Int) < 16) ∨ (0 ≤ z ∧ z ≤ 15 ∧ 16 ≤ (n : Int)) := by omega
  rcases hor with h1 | ⟨h1, h2⟩ | ⟨h1, h2, h3⟩ | ⟨h1, h2, h3⟩
  · go_wp2_with fail
    go_ret
    exact ⟨rfl, HX4.out.b⟩
  · go_wp2_with fail
    go_ret
    exact ⟨rfl, HX4.out.b⟩
  · go_wp2_with fail
    go_ret
    exact ⟨rfl, HX4.out.b⟩
  · obtain ⟨j, rfl⟩ : ∃ j : Nat, z = (j : Int) := ⟨z.toNat, by omega⟩
    have hj : j < 16 := by omega
    have h16 : 16 ≤ n := by omega
    have hz : Blk (w4.alloc (.cells z16 ar)) w4.heap.size ar (bv (zb 16)) := ⟨(by (repeat (first | (with_reducible apply Has.drew) | exact Has.new _ _ _ _ (by first | (simp; done) | fail) | (with_reducible apply Has.alloc))); first | done | fail)⟩
    have bO := hz.row (bv g)
    have xO : Ext w4 ((w4.alloc (.cells z16 ar)).setRow w4.heap.size (bv g)) := Ext.setRow (by (repeat (first | assumption | exact Ext.refl _ | apply Ext.drew | apply Ext.drewN | apply Ext.alloc | refine Ext.trans ?_ (by assumption))); first | done | fail) (Nat.le_refl _) _
    have c1 := (bO.h.cell j).trans (bv_at _ j (by rw [HGL.out]; exact hj))
    have f1 := bO.h.frozen j
    have BO := Kp.mk bO
    have XO := Kp.mk xO
    have HJ := Kp.mk hj
    have H16 := Kp.mk h16
    clear bO xO hj h16 HE3
    go_wp2_with (first | (with_reducible refine at_load_to 92 7 ?_; refine wpList_load_rge rfl ar (.tmp 7) rfl (w.heap.size + 1) 0 g HRG4.out rfl _ Tryd.underlying37 rfl (szA _ HGL.out) ?_) | (with_reducible refine at_store 20 92 ?_; refine wpList_store_blk rfl ar (.tmp 20) (.tmp 92) rfl w4.heap.size g (zb 16) ar hz (HGL.out.trans (zb_len 16).symm) rfl rfl (szA _ HGL.out) ?_; clear hz; generalize (w4.alloc (.cells z16 ar)).setRow w4.heap.size (bv g) = w5 at *) | fail)
    have b6 := BO.out.setB j (gb g j ^^^ y)
    have x6 := XO.out.setCell (p := ⟨w4.heap.size, j, none⟩) (Nat.le_refl _) (.int .u8 (ub (gb g j ^^^ y)))
    clear c1 f1 BO XO
    generalize w5.setCell ⟨w4.heap.size, j, none⟩ (.int .u8 (ub (gb g j ^^^ y))) = w6 at *
    have so := b6.whole (by rw [List.length_set]; exact HGL.out)
    have sk6 := HK4.out.ext x6
    have sx6 := HS4.out.ext x6
    have hw6 := HW4.out.ext x6
    have HX6 := Kp.mk (HX4.out.trans x6)
    have HA6 := Kp.mk (HA4.out.ext x6)
    clear b6 x6
    refine wp_region_held_drew (S := fun w' => Ext w6 w') (by kernel_rfl) (Ext.refl w6).drew (fun hHeld => ?_)
    refine wpAnyH_take (i := 0) (oi := ⟨some 101, _, _, _, _, _⟩) (v := ?_) rfl (by kernel_rfl) (by kernel_rfl) (by kernel_rfl) (fun _ _ _ h => h) (Or.inl ⟨by rfl, ?_⟩) (by assumption) ?_
    rotate_left
    · (intro w hSw; (try dsimp only at hSw); go_simp; try with_reducible rfl)
    try simp only [Act.put, List.setIfInBounds_toArray, List.set_cons_zero, List.set_cons_succ]
    refine wpAnyH_take (i := 1) (oi := ⟨some 102, _, _, _, _, _⟩) (v := ?_) rfl (by kernel_rfl) (by kernel_rfl) (by kernel_rfl) (fun _ _ _ h => h) (Or.inl ⟨by rfl, ?_⟩) (by assumption) ?_
    rotate_left
    · (intro w hSw; (try dsimp only at hSw); go_simp; try with_reducible rfl)
    try simp only [Act.put, List.setIfInBounds_toArray, List.set_cons_zero, List.set_cons_succ]
    refine wpAnyH_take (i := 2) (oi := ⟨some 103, _, _, _, _, _⟩) (v := ?_) rfl (by kernel_rfl) (by kernel_rfl) (by kernel_rfl) (fun _ _ _ h => h) (Or.inl ⟨by rfl, ?_⟩) (by assumption) ?_
    rotate_left
    · (intro w hSw; (try dsimp only at hSw); go_simp; try with_reducible rfl)
    try simp only [Act.put, List.setIfInBounds_toArray, List.set_cons_zero, List.set_cons_succ]
    refine next_one 3 (by kernel_rfl) rfl (by rfl) fun K' HK' => ?_
    go_simp
    refine (HOT.out j HJ.out H16.out (sk6.ext (by (repeat (first | assumption | exact Ext.refl _ | apply Ext.drew | apply Ext.drewN | apply Ext.alloc | refine Ext.trans ?_ (by assumption))); first | done | fail)) (so.ext (by (repeat (first | assumption | exact Ext.refl _ | apply Ext.drew | apply Ext.drewN | apply Ext.alloc | refine Ext.trans ?_ (by assumption))); first | done | fail)) (sx6.ext (by (repeat (first | assumption | exact Ext.refl _ | apply Ext.drew | apply Ext.drewN | apply Ext.alloc | refine Ext.trans ?_ (by assumption))); first | done | fail)) (hw6.ext (by (repeat (first | assumption | exact Ext.refl _ | apply Ext.drew | apply Ext.drewN | apply Ext.alloc | refine Ext.trans ?_ (by assumption))); first | done | fail))).mono ?_
    rintro e w7 ⟨A7, c7, rfl, hs7, _, hx7⟩
    have hx67 : Ext w6 w7 := (by (repeat (first | assumption | exact Ext.refl _ | apply Ext.drew | apply Ext.drewN | apply Ext.alloc | refine Ext.trans ?_ (by assumption))); first | done | fail)
    have hS2 := Ext.trans hHeld hx7
    refine held_go HK' hS2 (fun _ => ?_)
    clear HK'
    refine held_more (S' := fun w' => Ext w7 w') (fun _ h => Ext.trans hS2 h) _ _ _ _ ?_
    clear hHeld hS2
    have hHeld : Ext w7 w7 := Ext.refl _
    try simp only [Act.put, List.setIfInBounds_toArray, List.set_cons_zero, List.set_cons_succ]
    refine wpAnyH_take (i := 4) (oi := ⟨some 100, _, _, _, _, _⟩) (v := ?_) rfl (by kernel_rfl) (by kernel_rfl) (by kernel_rfl) (fun _ _ _ h => h) (Or.inl ⟨by rfl, ?_⟩) (by assumption) ?_
    rotate_left
    · (intro w hSw; (try dsimp only at hSw); go_simp; try with_reducible rfl)
    try simp only [Act.put, List.setIfInBounds_toArray, List.set_cons_zero, List.set_cons_succ]
    refine wpAnyH_take (i := 5) (oi := ⟨some 105, _, _, _, _, _⟩) (v := ?_) rfl (by kernel_rfl) (by kernel_rfl) (by kernel_rfl) (fun _ _ _ h => h) (Or.inl ⟨by rfl, ?_⟩) (by assumption) ?_
    rotate_left
    · (intro w hSw; (try dsimp only at hSw); go_simp; try with_reducible rfl)
    try simp only [Act.put, List.setIfInBounds_toArray, List.set_cons_zero, List.set_cons_succ]
    refine wpAnyH_take (i := 6) (oi := ⟨some 106, _, _, _, _, _⟩) (v := ?_) rfl (by kernel_rfl) (by kernel_rfl) (by kernel_rfl) (fun _ _ _ h => h) (Or.inl ⟨by rfl, ?_⟩) (by assumption) ?_
    rotate_left
    · (intro w hSw; (try dsimp only at hSw); go_simp; try with_reducible rfl)
    try simp only [Act.put, List.setIfInBounds_toArray, List.set_cons_zero, List.set_cons_succ]
    refine wpAnyH_take (i := 7) (oi := ⟨some 21, _, _, _, _, _⟩) (v := ?_) rfl (by kernel_rfl) (by kernel_rfl) (by kernel_rfl) (fun _ _ _ h => h) (Or.inl ⟨by rfl, ?_⟩) (by assumption) ?_
    rotate_left
    · (intro w hSw; (try dsimp only at hSw); go_simp; try with_reducible rfl)
    try simp only [Act.put, List.setIfInBounds_toArray, List.set_cons_zero, List.set_cons_succ]
    refine wpAnyH_take (i := 8) (oi := ⟨some 22, _, _, _, _, _⟩) (v := ?_) rfl (by kernel_rfl) (by kernel_rfl) (by kernel_rfl) (fun _ _ _ h => h) (Or.inl ⟨by rfl, ?_⟩) (by assumption) ?_
    rotate_left
    · (intro w hSw; (try dsimp only at hSw); go_simp; try with_reducible rfl)
    try simp only [Act.put, List.setIfInBounds_toArray, List.set_cons_zero, List.set_cons_succ]
    refine wpAnyH_done (by kernel_rfl) ?_ _
    have ho := Own.new w7 w7.heap.size 0 [] rfl (Nat.le_refl _) (Nat.zero_le _)
    have ha7 := HA6.out.ext hx67
    have hxa : Ext w7 (w7.alloc (.cells (bv []) 5)) := (by (repeat (first | assumption | exact Ext.refl _ | apply Ext.drew | apply Ext.drewN | apply Ext.alloc | refine Ext.trans ?_ (by assumption))); first | done | fail)
    have hb7 := ha7.ext hxa
    have HX7 := Kp.mk (HX6.out.trans hx67)
    have HS7 := Kp.mk hs7
    clear hx7 hx67 sk6 sx6 hw6 so hs7 ha7
    go_wp2_with (first | (at_builtin; refine wpList_append_bs rfl (.tmp 107) (.tmp 108) rfl w7.heap.size _ 0 [] rfl ho A n c a rfl hb7 (by have := HN.out; omega) n (by omega) a rfl w7 hxa (Nat.le_refl _) hxa.size ?_; intro A8 c8 w8 ho8 hx8 _; obtain ⟨gA, rfl, hgA, _⟩ := ho8.some_ (by have := H16.out; omega); have k1 := ho8.cell j (by have := H16.out; have := HJ.out; omega); have f2 := ho8.free j; have o9 := ho8.set j (gb a j ^^^ y); have x9 := hx8.setCell (p := ⟨gA, j, none⟩) hgA (.int .u8 (ub (gb a j ^^^ y))); have s7 := (HS7.out.ext x9).str (Ext.refl _); have s9 := o9.bs.str (Ext.refl _); have X9 := Kp.mk x9; clear o9 x9 ho8 hx8; generalize strOf (a.set j (gb a j ^^^ y)) = su at *) | fail)
    go_ret
    exact ⟨rfl, (HX7.out.trans X9.out).b⟩
end Go.Proofs.YtjjoghdlbnlicaaDoor
