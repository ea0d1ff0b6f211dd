/-
  The walks of the laws MacDerives, MacBases.
-/
import Derived.Test.YtkjfhgbpiogigaaDoorMl
import Derived.Test.YtkjfhgbpiogigaaDoorEr
namespace Go.Proofs.YtkjfhgbpiogigaaDoor
open Go Go.RowKit

set_option maxHeartbeats 8000000 in
theorem MacDerives_any {k0 b0 : List (BitVec 8)} {A B : Option Addr} {n0 c m0 d : Nat} {w : World} (r z : Int) (hk0 : Bs w A n0 c k0) (hb0 : Bs w B m0 d b0) (hw : Lay w) :
    Calls Tryd.prog 12 #[.slice A n0 c, .slice B m0 d, .int .i64 r, .int .i64 z] w fun e w' => e = .returned (.bool true) ∧ Below w.heap.size w w' := by
  go_enter Tryd.func12, Tryd.ntmps12
  go_wp2_with fail
  refine (up2_any _ hw).mono ?_
  rintro e w1 ⟨rfl, hx1⟩
  go_wp2_with fail
  refine (cut2_any (k := 200) 200 (hk0.ext hx1) rfl).mono ?_
  rintro e w1' ⟨n, k, rfl, hn, _, hk, rfl⟩
  go_wp2_with fail
  refine (cut2_any (k := 200) 200 (hb0.ext hx1) rfl).mono ?_
  rintro e w1' ⟨m, b, rfl, hm, _, hb, rfl⟩
  have hw1 := hw.ext hx1
  have HX1 := Kp.mk hx1
  clear hk0 hb0 hw hx1
  have hcase : (6 < r ∧ r ≤ 10000) ∨ r ≤ 6 ∨ 10000 < r := by omega
  rcases hcase with ⟨hr1, hr2⟩ | hr | hr
  all_goals go_wp2_with fail
  all_goals (first | (obtain ⟨q, hq0⟩ : ∃ q, r % 7 = q := ⟨_, rfl⟩; rw [hq0]; have hq : q ≤ 6 ∨ 10000 < q := (by omega)) | (have hq : r ≤ 6 ∨ 10000 < r := (by omega); clear hr; generalize r = q at hq ⊢; have hq0 : q = q := rfl))
  all_goals clear hq0
  all_goals
    by_cases ha : q < 1 ∨ z < 0
    · have hee := code_eq 1 1
      refine (Derive_arg q z _ ha).mono ?_
      rintro e w2 ⟨rfl, rfl⟩
      by_cases h1 : q < 1
      · go_wp2
        go_ret
        exact ⟨rfl, HX1.out.b⟩
      · have h2 : z < 0 := by omega
        go_wp2
        go_ret
        exact ⟨rfl, HX1.out.b⟩
    · have h1 : 1 ≤ q := by omega
      have h2 : 0 ≤ z := by omega
      by_cases hl : 10000 < q ∨ 256 < z
      · have hee := code_eq 4 4
        refine (Derive_long q z _ h1 h2 hl).mono ?_
        rintro e w2 ⟨rfl, rfl⟩
        by_cases h3 : 10000 < q
        · go_wp2
          go_ret
          exact ⟨rfl, HX1.out.b⟩
        · have h4 : 256 < z := by omega
          go_wp2
          go_ret
          exact ⟨rfl, HX1.out.b⟩
      · obtain ⟨q', rfl⟩ := Int.eq_ofNat_of_zero_le (show 0 ≤ q by omega)
        obtain ⟨z', rfl⟩ := Int.eq_ofNat_of_zero_le h2
        have g1 : 1 ≤ q' := by omega
        have g2 : q' ≤ 10000 := by omega
        have g3 : z' ≤ 256 := by omega
        clear hq ha hl
        refine (Derive_any q' z' hk hb hw1 (by omega) (by omega) g1 g2 g3).mono ?_
        rintro e w2 ⟨A2, c2, rfl, hs2, _, hx2⟩
        have hc2 := fun (w' : World) (hx : Ext w2 w') => hs2.str hx
        have HX2 := Kp.mk (HX1.out.trans hx2)
        have hk2 := hk.ext hx2
        have hb2 := hb.ext hx2
        clear hs2 hk hb  hx2
        go_wp2_with fail
        go_region_held3 (fun w' => Ext w2 w') (exact (by (repeat (first | assumption | exact Ext.refl _ | apply Ext.drew | apply Ext.drewN | apply Ext.alloc | refine Ext.trans ?_ (by assumption))); first | done | fail)) (first | (go_at_call 29; refine (made_fr _).mono ?_; rintro e w3 ⟨A3, c3, rfl, ht3, hx3⟩) | (go_at_call 36; refine (refDerive_any q' z' (ht3.ext (by (repeat (first | assumption | exact Ext.refl _ | apply Ext.drew | apply Ext.drewN | apply Ext.alloc | refine Ext.trans ?_ (by assumption))); first | done | fail)) (hk2.ext (by (repeat (first | assumption | exact Ext.refl _ | apply Ext.drew | apply Ext.drewN | apply Ext.alloc | refine Ext.trans ?_ (by assumption))); first | done | fail)) (hb2.ext (by (repeat (first | assumption | exact Ext.refl _ | apply Ext.drew | apply Ext.drewN | apply Ext.alloc | refine Ext.trans ?_ (by assumption))); first | done | fail)) (by omega) (by omega) g1 g2 g3).mono ?_; rintro e w4 ⟨A4, c4, rfl, hs4, _, hx4⟩; have hc4 := fun (w' : World) (hx : Ext w4 w') => hs4.str hx))
        all_goals
          go_wp2
          go_ret
          exact ⟨rfl, (HX2.out.trans (by (repeat (first | assumption | exact Ext.refl _ | apply Ext.drew | apply Ext.drewN | apply Ext.alloc | refine Ext.trans ?_ (by assumption))); first | done | fail)).b⟩

set_option maxHeartbeats 8000000 in
theorem MacBases_any {k0 b0 : List (BitVec 8)} {A B : Option Addr} {n0 c m0 d : Nat} {w : World} (r : Int) (hk0 : Bs w A n0 c k0) (hb0 : Bs w B m0 d b0) (hw : Lay w) :
    Calls Tryd.prog 13 #[.slice A n0 c, .slice B m0 d, .int .i64 r] w fun e w' => e = .returned (.bool true) ∧ Below w.heap.size w w' := by
  go_enter Tryd.func13, Tryd.ntmps13
  go_wp2_with fail
  refine (up2_any _ hw).mono ?_
  rintro e w1 ⟨rfl, hx1⟩
  go_wp2_with fail
  refine (cut2_any (k := 200) 200 (hk0.ext hx1) rfl).mono ?_
  rintro e w1' ⟨n, k, rfl, hn, _, hk, rfl⟩
  go_wp2_with fail
  refine (cut2_any (k := 200) 200 (hb0.ext hx1) rfl).mono ?_
  rintro e w1' ⟨m, b, rfl, hm, _, hb, rfl⟩
  have hw1 := hw.ext hx1
  have HX1 := Kp.mk hx1
  clear hk0 hb0 hw hx1
  have hcase : (20 < r ∧ r ≤ 10000) ∨ r ≤ 20 ∨ 10000 < r := by omega
  rcases hcase with ⟨hr1, hr2⟩ | hr | hr
  all_goals go_wp2_with fail
  all_goals (first | (obtain ⟨q, hq0⟩ : ∃ q, r % 21 = q := ⟨_, rfl⟩; rw [hq0]; have hq : q ≤ 20 ∨ 10000 < q := (by omega)) | (have hq : r ≤ 20 ∨ 10000 < r := (by omega); clear hr; generalize r = q at hq ⊢; have hq0 : q = q := rfl))
  all_goals clear hq0
  all_goals
    by_cases ha : q < 1
    · have hee := code_eq 1 1
      refine (Based_arg q _ ha).mono ?_
      rintro e w2 ⟨rfl, rfl⟩
      go_wp2
      go_ret
      exact ⟨rfl, HX1.out.b⟩
    · by_cases hl : 10000 < q
      · have hee := code_eq 4 4
        refine (Based_long q _ hl).mono ?_
        rintro e w2 ⟨rfl, rfl⟩
        go_wp2
        go_ret
        exact ⟨rfl, HX1.out.b⟩
      · obtain ⟨q', rfl⟩ := Int.eq_ofNat_of_zero_le (show 0 ≤ q by omega)
        have g1 : 1 ≤ q' := by omega
        have g2 : q' ≤ 10000 := by omega
        clear hq
        refine (Based_any q' hk hb hw1 (by omega) (by omega) g1 g2).mono ?_
        rintro e w2 ⟨A2, c2, rfl, hs2, _, hx2⟩
        have hc2 := fun (w' : World) (hx : Ext w2 w') => hs2.str hx
        have HX2 := Kp.mk (HX1.out.trans hx2)
        have hk2 := hk.ext hx2
        have hb2 := hb.ext hx2
        clear hs2 hk hb hx2
        go_wp2_with fail
        go_region_held3 (fun w' => Ext w2 w') (exact (by (repeat (first | assumption | exact Ext.refl _ | apply Ext.drew | apply Ext.drewN | apply Ext.alloc | refine Ext.trans ?_ (by assumption))); first | done | fail)) (first | (go_at_call 29; refine (made_fr _).mono ?_; rintro e w3 ⟨A3, c3, rfl, ht3, hx3⟩) | (go_at_call 38; refine (refBased_any q' (ht3.ext (by (repeat (first | assumption | exact Ext.refl _ | apply Ext.drew | apply Ext.drewN | apply Ext.alloc | refine Ext.trans ?_ (by assumption))); first | done | fail)) (hk2.ext (by (repeat (first | assumption | exact Ext.refl _ | apply Ext.drew | apply Ext.drewN | apply Ext.alloc | refine Ext.trans ?_ (by assumption))); first | done | fail)) (hb2.ext (by (repeat (first | assumption | exact Ext.refl _ | apply Ext.drew | apply Ext.drewN | apply Ext.alloc | refine Ext.trans ?_ (by assumption))); first | done | fail)) (by omega) (by omega) g1 g2).mono ?_; rintro e w4 ⟨A4, c4, rfl, hs4, _, hx4⟩; have hc4 := fun (w' : World) (hx : Ext w4 w') => hs4.str hx))
        all_goals
          go_wp2
          go_ret
          exact ⟨rfl, (HX2.out.trans (by (repeat (first | assumption | exact Ext.refl _ | apply Ext.drew | apply Ext.drewN | apply Ext.alloc | refine Ext.trans ?_ (by assumption))); first | done | fail)).b⟩
end Go.Proofs.YtkjfhgbpiogigaaDoor
