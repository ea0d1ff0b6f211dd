/-
  The reference's Secret.
-/
import Derived.Test.YticggkllfojgkaaDoorM14
import Derived.Test.YticggkllfojgkaaDoorM20
namespace Go.Proofs.YticggkllfojgkaaDoor
open Go Go.RowKit
set_option maxRecDepth 4000
section
variable {AN AE AD : Option Addr} {nN nE nD cN cE cD vN vE vD i j k : Nat} {w : World}
theorem dgs_len0 {v n : Nat} {A : Option Addr} {c : Nat} {w : World} (h : Rd vI w A n c (dgs 65536 v)) : 0 < n ↔ v ≠ 0 := by
  have h1 := h.len
  have h2 := dgs_nil (B := 65536) (by decide) v
  constructor
  · intro h3 h4
    rw [h2.2 h4] at h1
    simp at h1
    omega
  · intro h3
    rcases Nat.eq_zero_or_pos n with h4 | h4
    · exact absurd (h2.1 (List.eq_nil_of_length_eq_zero (by omega))) h3
    · exact h4
set_option maxHeartbeats 4000000 in
theorem refSecret_any (hN : Nv w AN nN cN vN) (hE : Nv w AE nE cE vE) (hD : Nv w AD nD cD vD) (lN : vN < BB ^ i) (lE : vE < BB ^ j) (lD : vD < BB ^ k) (hi : i ≤ 400) (hj : j ≤ 400) (hk : k ≤ 400) (b : Bool) (hb : b = true ↔ SecOk vN vE vD) :
    Calls Tryd.prog 15 #[.agg #[.slice AN nN cN, .slice AE nE cE, .slice AD nD cD]] w fun e w' => e = .returned (.bool b) ∧ Ext w w' := by
  have NN := Kp.mk hN
  have NE := Kp.mk hE
  have ND := Kp.mk hD
  have bN := Kp.mk lN
  have bE := Kp.mk lE
  have bD := Kp.mk lD
  have HB := Kp.mk (Blk.new w 30 #[.slice AN nN cN, .slice AE nE cE, .slice AD nD cD])
  clear hN hE hD lN lE lD
  rcases sec_cases vN vE vD with ⟨h, h1, h2, h3⟩ | ⟨h, h1⟩ | ⟨h, h1, h2⟩ | ⟨h, h1, h2, h3⟩
  · obtain rfl : b = true := hb.2 h
    have H1 := Kp.mk h1
    have H2 := Kp.mk h2
    have H3 := Kp.mk (cmpI_lt h3)
    clear hb h h1 h2 h3
    go_enter Tryd.func15, Tryd.ntmps15
    go_wp2_with fail
    refine (refPublic_any (NN.out.ext (by (repeat (first | assumption | exact Ext.refl _ | apply Ext.drew | apply Ext.drewN | apply Ext.alloc | refine Ext.trans ?_ (by assumption))); first | done | fail)) (NE.out.ext (by (repeat (first | assumption | exact Ext.refl _ | apply Ext.drew | apply Ext.drewN | apply Ext.alloc | refine Ext.trans ?_ (by assumption))); first | done | fail)) bN.out bE.out hi hj true (by simp [H1.out])).mono ?_
    rintro e w1 ⟨rfl, x⟩
    have x1 := x
    clear x
    obtain ⟨c0, c1, c2⟩ := box3 HB.out (show Ext (w.alloc (.cells #[.slice AN nN cN, .slice AE nE cE, .slice AD nD cD] 30)) w1 from (by (repeat (first | assumption | exact Ext.refl _ | apply Ext.drew | apply Ext.drewN | apply Ext.alloc | refine Ext.trans ?_ (by assumption))); first | done | fail))
    go_wp2_with fail
    refine (OfV (ND.out.ext (by (repeat (first | assumption | exact Ext.refl _ | apply Ext.drew | apply Ext.drewN | apply Ext.alloc | refine Ext.trans ?_ (by assumption))); first | done | fail))).mono ?_
    rintro e w2 ⟨A3, n3, e3, rfl, r3, _, x⟩
    have x2 := Ext.trans (show Ext w1 _ from (by (repeat (first | assumption | exact Ext.refl _ | apply Ext.drew | apply Ext.drewN | apply Ext.alloc | refine Ext.trans ?_ (by assumption))); first | done | fail)) x
    clear x
    obtain ⟨c0, c1, c2⟩ := box3 HB.out (show Ext (w.alloc (.cells #[.slice AN nN cN, .slice AE nE cE, .slice AD nD cD] 30)) w2 from (by (repeat (first | assumption | exact Ext.refl _ | apply Ext.drew | apply Ext.drewN | apply Ext.alloc | refine Ext.trans ?_ (by assumption))); first | done | fail))
    have hn3 : 0 < n3 := (dgs_len0 r3).2 (by have := H2.out; omega)
    have hn3i : (0 : Int) < (n3 : Int) := by omega
    have J3 := Kp.mk (Ni.of r3 bD.out hk)
    clear r3
    go_wp2_with fail
    refine (OfV (NN.out.ext (by (repeat (first | assumption | exact Ext.refl _ | apply Ext.drew | apply Ext.drewN | apply Ext.alloc | refine Ext.trans ?_ (by assumption))); first | done | fail))).mono ?_
    rintro e w3 ⟨A4, n4, e4, rfl, r4, _, x⟩
    have x3 := Ext.trans (show Ext w2 _ from (by (repeat (first | assumption | exact Ext.refl _ | apply Ext.drew | apply Ext.drewN | apply Ext.alloc | refine Ext.trans ?_ (by assumption))); first | done | fail)) x
    clear x
    have J4 := Kp.mk (Ni.of r4 bN.out hi)
    clear r4
    obtain ⟨c0, c1, c2⟩ := box3 HB.out (show Ext (w.alloc (.cells #[.slice AN nN cN, .slice AE nE cE, .slice AD nD cD] 30)) w3 from (by (repeat (first | assumption | exact Ext.refl _ | apply Ext.drew | apply Ext.drewN | apply Ext.alloc | refine Ext.trans ?_ (by assumption))); first | done | fail))
    go_wp2_with fail
    refine (RCmpV (J3.out.ext (by (repeat (first | assumption | exact Ext.refl _ | apply Ext.drew | apply Ext.drewN | apply Ext.alloc | refine Ext.trans ?_ (by assumption))); first | done | fail)) (J4.out.ext (by (repeat (first | assumption | exact Ext.refl _ | apply Ext.drew | apply Ext.drewN | apply Ext.alloc | refine Ext.trans ?_ (by assumption))); first | done | fail)) _ H3.out).mono ?_
    rintro e w4 ⟨rfl, x⟩
    have x4 := Ext.trans (show Ext w3 _ from (by (repeat (first | assumption | exact Ext.refl _ | apply Ext.drew | apply Ext.drewN | apply Ext.alloc | refine Ext.trans ?_ (by assumption))); first | done | fail)) x
    clear x
    have HX := Kp.mk (show Ext w w4 from (by (repeat (first | assumption | exact Ext.refl _ | apply Ext.drew | apply Ext.drewN | apply Ext.alloc | refine Ext.trans ?_ (by assumption))); first | done | fail))
    clear x1 x2 x3 x4
    go_wp2_with fail
    go_ret
    exact ⟨rfl, HX.out⟩
  · obtain rfl : b = false := bool_no hb h
    have H1 := Kp.mk h1
    clear hb h h1
    go_enter Tryd.func15, Tryd.ntmps15
    go_wp2_with fail
    refine (refPublic_any (NN.out.ext (by (repeat (first | assumption | exact Ext.refl _ | apply Ext.drew | apply Ext.drewN | apply Ext.alloc | refine Ext.trans ?_ (by assumption))); first | done | fail)) (NE.out.ext (by (repeat (first | assumption | exact Ext.refl _ | apply Ext.drew | apply Ext.drewN | apply Ext.alloc | refine Ext.trans ?_ (by assumption))); first | done | fail)) bN.out bE.out hi hj false (by simp [H1.out])).mono ?_
    rintro e w1 ⟨rfl, x⟩
    have x1 := x
    clear x
    obtain ⟨c0, c1, c2⟩ := box3 HB.out (show Ext (w.alloc (.cells #[.slice AN nN cN, .slice AE nE cE, .slice AD nD cD] 30)) w1 from (by (repeat (first | assumption | exact Ext.refl _ | apply Ext.drew | apply Ext.drewN | apply Ext.alloc | refine Ext.trans ?_ (by assumption))); first | done | fail))
    go_wp2_with fail
    refine (OfV (ND.out.ext (by (repeat (first | assumption | exact Ext.refl _ | apply Ext.drew | apply Ext.drewN | apply Ext.alloc | refine Ext.trans ?_ (by assumption))); first | done | fail))).mono ?_
    rintro e w2 ⟨A3, n3, e3, rfl, r3, _, x⟩
    have x2 := Ext.trans (show Ext w1 _ from (by (repeat (first | assumption | exact Ext.refl _ | apply Ext.drew | apply Ext.drewN | apply Ext.alloc | refine Ext.trans ?_ (by assumption))); first | done | fail)) x
    clear x
    obtain ⟨c0, c1, c2⟩ := box3 HB.out (show Ext (w.alloc (.cells #[.slice AN nN cN, .slice AE nE cE, .slice AD nD cD] 30)) w2 from (by (repeat (first | assumption | exact Ext.refl _ | apply Ext.drew | apply Ext.drewN | apply Ext.alloc | refine Ext.trans ?_ (by assumption))); first | done | fail))
    clear r3
    have HX := Kp.mk (show Ext w w2 from (by (repeat (first | assumption | exact Ext.refl _ | apply Ext.drew | apply Ext.drewN | apply Ext.alloc | refine Ext.trans ?_ (by assumption))); first | done | fail))
    clear x1 x2
    go_wp2_with fail
    go_ret
    exact ⟨rfl, HX.out⟩
  · obtain rfl : b = false := bool_no hb h
    have H1 := Kp.mk h1
    have H2 := Kp.mk h2
    clear hb h h1 h2
    go_enter Tryd.func15, Tryd.ntmps15
    go_wp2_with fail
    refine (refPublic_any (NN.out.ext (by (repeat (first | assumption | exact Ext.refl _ | apply Ext.drew | apply Ext.drewN | apply Ext.alloc | refine Ext.trans ?_ (by assumption))); first | done | fail)) (NE.out.ext (by (repeat (first | assumption | exact Ext.refl _ | apply Ext.drew | apply Ext.drewN | apply Ext.alloc | refine Ext.trans ?_ (by assumption))); first | done | fail)) bN.out bE.out hi hj true (by simp [H1.out])).mono ?_
    rintro e w1 ⟨rfl, x⟩
    have x1 := x
    clear x
    obtain ⟨c0, c1, c2⟩ := box3 HB.out (show Ext (w.alloc (.cells #[.slice AN nN cN, .slice AE nE cE, .slice AD nD cD] 30)) w1 from (by (repeat (first | assumption | exact Ext.refl _ | apply Ext.drew | apply Ext.drewN | apply Ext.alloc | refine Ext.trans ?_ (by assumption))); first | done | fail))
    go_wp2_with fail
    refine (OfV (ND.out.ext (by (repeat (first | assumption | exact Ext.refl _ | apply Ext.drew | apply Ext.drewN | apply Ext.alloc | refine Ext.trans ?_ (by assumption))); first | done | fail))).mono ?_
    rintro e w2 ⟨A3, n3, e3, rfl, r3, _, x⟩
    have x2 := Ext.trans (show Ext w1 _ from (by (repeat (first | assumption | exact Ext.refl _ | apply Ext.drew | apply Ext.drewN | apply Ext.alloc | refine Ext.trans ?_ (by assumption))); first | done | fail)) x
    clear x
    obtain ⟨c0, c1, c2⟩ := box3 HB.out (show Ext (w.alloc (.cells #[.slice AN nN cN, .slice AE nE cE, .slice AD nD cD] 30)) w2 from (by (repeat (first | assumption | exact Ext.refl _ | apply Ext.drew | apply Ext.drewN | apply Ext.alloc | refine Ext.trans ?_ (by assumption))); first | done | fail))
    obtain rfl : n3 = 0 := by rcases Nat.eq_zero_or_pos n3 with h | h; exact h; exact absurd ((dgs_len0 r3).1 h) (by have := H2.out; omega)
    clear r3
    have HX := Kp.mk (show Ext w w2 from (by (repeat (first | assumption | exact Ext.refl _ | apply Ext.drew | apply Ext.drewN | apply Ext.alloc | refine Ext.trans ?_ (by assumption))); first | done | fail))
    clear x1 x2
    go_wp2_with fail
    go_ret
    exact ⟨rfl, HX.out⟩
  · obtain rfl : b = false := bool_no hb h
    have H1 := Kp.mk h1
    have H2 := Kp.mk h2
    obtain ⟨y, hy, y1⟩ := cmpI_no h3
    have H3 := Kp.mk hy
    clear hy
    clear hb h h1 h2 h3
    go_enter Tryd.func15, Tryd.ntmps15
    go_wp2_with fail
    refine (refPublic_any (NN.out.ext (by (repeat (first | assumption | exact Ext.refl _ | apply Ext.drew | apply Ext.drewN | apply Ext.alloc | refine Ext.trans ?_ (by assumption))); first | done | fail)) (NE.out.ext (by (repeat (first | assumption | exact Ext.refl _ | apply Ext.drew | apply Ext.drewN | apply Ext.alloc | refine Ext.trans ?_ (by assumption))); first | done | fail)) bN.out bE.out hi hj true (by simp [H1.out])).mono ?_
    rintro e w1 ⟨rfl, x⟩
    have x1 := x
    clear x
    obtain ⟨c0, c1, c2⟩ := box3 HB.out (show Ext (w.alloc (.cells #[.slice AN nN cN, .slice AE nE cE, .slice AD nD cD] 30)) w1 from (by (repeat (first | assumption | exact Ext.refl _ | apply Ext.drew | apply Ext.drewN | apply Ext.alloc | refine Ext.trans ?_ (by assumption))); first | done | fail))
    go_wp2_with fail
    refine (OfV (ND.out.ext (by (repeat (first | assumption | exact Ext.refl _ | apply Ext.drew | apply Ext.drewN | apply Ext.alloc | refine Ext.trans ?_ (by assumption))); first | done | fail))).mono ?_
    rintro e w2 ⟨A3, n3, e3, rfl, r3, _, x⟩
    have x2 := Ext.trans (show Ext w1 _ from (by (repeat (first | assumption | exact Ext.refl _ | apply Ext.drew | apply Ext.drewN | apply Ext.alloc | refine Ext.trans ?_ (by assumption))); first | done | fail)) x
    clear x
    obtain ⟨c0, c1, c2⟩ := box3 HB.out (show Ext (w.alloc (.cells #[.slice AN nN cN, .slice AE nE cE, .slice AD nD cD] 30)) w2 from (by (repeat (first | assumption | exact Ext.refl _ | apply Ext.drew | apply Ext.drewN | apply Ext.alloc | refine Ext.trans ?_ (by assumption))); first | done | fail))
    have hn3 : 0 < n3 := (dgs_len0 r3).2 (by have := H2.out; omega)
    have hn3i : (0 : Int) < (n3 : Int) := by omega
    have J3 := Kp.mk (Ni.of r3 bD.out hk)
    clear r3
    go_wp2_with fail
    refine (OfV (NN.out.ext (by (repeat (first | assumption | exact Ext.refl _ | apply Ext.drew | apply Ext.drewN | apply Ext.alloc | refine Ext.trans ?_ (by assumption))); first | done | fail))).mono ?_
    rintro e w3 ⟨A4, n4, e4, rfl, r4, _, x⟩
    have x3 := Ext.trans (show Ext w2 _ from (by (repeat (first | assumption | exact Ext.refl _ | apply Ext.drew | apply Ext.drewN | apply Ext.alloc | refine Ext.trans ?_ (by assumption))); first | done | fail)) x
    clear x
    have J4 := Kp.mk (Ni.of r4 bN.out hi)
    clear r4
    obtain ⟨c0, c1, c2⟩ := box3 HB.out (show Ext (w.alloc (.cells #[.slice AN nN cN, .slice AE nE cE, .slice AD nD cD] 30)) w3 from (by (repeat (first | assumption | exact Ext.refl _ | apply Ext.drew | apply Ext.drewN | apply Ext.alloc | refine Ext.trans ?_ (by assumption))); first | done | fail))
    go_wp2_with fail
    refine (RCmpV (J3.out.ext (by (repeat (first | assumption | exact Ext.refl _ | apply Ext.drew | apply Ext.drewN | apply Ext.alloc | refine Ext.trans ?_ (by assumption))); first | done | fail)) (J4.out.ext (by (repeat (first | assumption | exact Ext.refl _ | apply Ext.drew | apply Ext.drewN | apply Ext.alloc | refine Ext.trans ?_ (by assumption))); first | done | fail)) _ H3.out).mono ?_
    rintro e w4 ⟨rfl, x⟩
    have x4 := Ext.trans (show Ext w3 _ from (by (repeat (first | assumption | exact Ext.refl _ | apply Ext.drew | apply Ext.drewN | apply Ext.alloc | refine Ext.trans ?_ (by assumption))); first | done | fail)) x
    clear x
    have HX := Kp.mk (show Ext w w4 from (by (repeat (first | assumption | exact Ext.refl _ | apply Ext.drew | apply Ext.drewN | apply Ext.alloc | refine Ext.trans ?_ (by assumption))); first | done | fail))
    clear x1 x2 x3 x4
    go_wp2_with fail
    go_ret
    exact ⟨rfl, HX.out⟩
end
end Go.Proofs.YticggkllfojgkaaDoor
