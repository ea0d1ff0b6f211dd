/-
  The walk of the law CbcLong.
-/
import Derived.Test.YtjjoghdlbnlicaaDoorCl
namespace Go.Proofs.YtjjoghdlbnlicaaDoor
open Go Go.RowKit

theorem zeros_bs (w : World) (n : Nat) : Bs (w.alloc (.cells (bv (zb n)) 5)) (some ⟨w.heap.size, 0, none⟩) n n (zb n) := by
  have h := (Blk.new w 5 (bv (zb n))).bs 0 n n (by rw [zb_len]; omega) (Nat.le_refl _)
  rwa [List.drop_zero, List.take_of_length_le (by rw [zb_len]; omega)] at h
theorem seal_opens (K : Nat → List (BitVec 8)) (g t : List (BitVec 8)) : openN K (sealL K g t) g (t.length / 16 + 1) = fillL t := open_seal K (fillL t) g _ (fill_mod t)
set_option maxHeartbeats 4000000 in
theorem CbcLong_any (more : Bool) {w : World} (hw : Lay3 w) :
    Calls Tryd.prog 5 #[.bool more] w fun e w' => e = .returned (.bool true) ∧ Below w.heap.size w w' := by
  have hmk := run_makeN 16 16 rfl (by decide)
  have hee := code_eq 4 4
  cases more with
  | true =>
    have hmk2 := run_makeN 65537 65537 rfl (by decide)
    have hmk3 := run_makeN 65568 65568 rfl (by decide)
    generalize bv (zb 65537) = Z2 at hmk2
    generalize bv (zb 65568) = Z3 at hmk3
    go_enter Tryd.func5, Tryd.ntmps5
    go_wp2_with fail
    refine (up4_any w).mono ?_
    rintro e1 w1 ⟨rfl, hx1⟩
    go_wp2_with fail
    refine (Seal_long _ (by decide)).mono ?_
    rintro e1 w2 ⟨rfl, hx2⟩
    have HX2 := Kp.mk (hx1.trans (((Ext.refl w1).alloc _).alloc _ |>.trans hx2))
    clear hx1 hx2
    go_wp2_with fail
    refine (Open_long _ (by decide) (by decide)).mono ?_
    rintro e1 w3 ⟨rfl, hx3⟩
    have HX3 := Kp.mk (HX2.out.trans (((Ext.refl w2).alloc _).trans hx3))
    clear hx3
    go_wp2
    go_ret
    exact ⟨rfl, HX3.out.b⟩
  | false =>
    obtain ⟨Z, hZ⟩ : ∃ Z, zb 65536 = Z := ⟨_, rfl⟩
    have hZl : Z.length = 65536 := by rw [← hZ, zb_len]
    have hmk2 := run_makeN 65536 65536 rfl (by decide)
    have hzb : ∀ w : World, Bs (w.alloc (.cells (bv Z) 5)) (some ⟨w.heap.size, 0, none⟩) 65536 65536 Z := fun w => by rw [← hZ]; exact zeros_bs w 65536
    rw [hZ] at hmk2
    clear hZ
    obtain ⟨S, hS⟩ : ∃ S, sealL (ks (zb 16)) (zb 16) Z = S := ⟨_, rfl⟩
    have hSl : S.length = 65552 := by rw [← hS, sealL_len, hZl]
    obtain ⟨F, hF⟩ : ∃ F, fillL Z = F := ⟨_, rfl⟩
    have hop : openN (ks (zb 16)) S (zb 16) 4097 = F := by
      have h := seal_opens (ks (zb 16)) (zb 16) Z
      rw [hZl, hS, hF] at h
      exact h
    have hem : emptyL F = some Z := (empty_iff _ _).2 hF
    have hseal : ∀ {w A B C c d e}, Bs w A 16 c (zb 16) → Bs w B 16 d (zb 16) → Bs w C 65536 e Z → Lay3 w → Calls Tryd.prog 10 #[.slice A 16 c, .slice B 16 d, .slice C 65536 e] w (FreshE w 65552 S) := fun {w A B C c d e} h1 h2 h3 h4 => by
      have h := Seal_any h1 h2 h3 (by decide) h4
      rw [hS] at h
      exact h
    have hopen : ∀ {w A B C c d e}, Bs w A 16 c (zb 16) → Bs w B 16 d (zb 16) → Bs w C 65552 e S → Lay3 w → Calls Tryd.prog 13 #[.slice A 16 c, .slice B 16 d, .slice C 65552 e] w (FreshE w 65536 Z) := fun {w A B C c d e} h1 h2 h3 h4 => by
      have h := Open_some h1 h2 h3 (by decide) 4097 rfl (by decide) h4 hop hem
      rw [hZl] at h
      exact h
    have HSE := Kp.mk @hseal
    have HOP := Kp.mk @hopen
    clear hseal hopen hop hem hF hS hSl hZl
    go_enter Tryd.func5, Tryd.ntmps5
    go_wp2_with fail
    refine (up4_any w).mono ?_
    rintro e1 w1 ⟨rfl, hx1⟩
    have hw1 := hw.ext hx1
    go_wp2_with fail
    have hk1 := (zeros_bs w1 16).ext ((Ext.refl (w1.alloc (.cells (bv (zb 16)) 5))).alloc (.cells (bv Z) 5))
    have hx12 : Ext w1 ((w1.alloc (.cells (bv (zb 16)) 5)).alloc (.cells (bv Z) 5)) := (by (repeat (first | assumption | exact Ext.refl _ | apply Ext.drew | apply Ext.drewN | apply Ext.alloc | refine Ext.trans ?_ (by assumption))); first | done | fail)
    have hz1 := hzb (w1.alloc (.cells (bv (zb 16)) 5))
    rw [show (w1.alloc (.cells (bv (zb 16)) 5)).heap.size = w1.heap.size + 1 by simp] at hz1
    refine (HSE.out hk1 hk1 hz1 (hw1.ext hx12)).mono ?_
    rintro e1 w2 ⟨A2, c2, rfl, hs2, _, hx2⟩
    have hk2 := hk1.ext hx2
    have hw2 := hw1.ext (hx12.trans hx2)
    have HX2 := Kp.mk (hx1.trans (hx12.trans hx2))
    clear hx1 hx2 hx12 hz1 hk1 hw1 hzb
    go_wp2_with fail
    refine (HOP.out hk2 hk2 hs2 hw2).mono ?_
    rintro e1 w3 ⟨A3, c3, rfl, hs3, _, hx3⟩
    have HX3 := Kp.mk (HX2.out.trans hx3)
    clear hx3 hs3 hs2 hk2 hw2
    go_wp2
    go_ret
    exact ⟨rfl, HX3.out.b⟩
end Go.Proofs.YtjjoghdlbnlicaaDoor
