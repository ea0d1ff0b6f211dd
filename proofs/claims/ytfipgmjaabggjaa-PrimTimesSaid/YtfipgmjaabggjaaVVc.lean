/-
  The reference's May.
-/
import Derived.Test.YtfipgmjaabggjaaVVb
namespace Go.Proofs.Ytfipgmjaabggjaa
open Go Go.RowKit
set_option maxRecDepth 4000

theorem May_no1 (y mo d h mi s : Int) (c1 : decide (y < 1) = true) (w : World) :
    Calls Try.prog 25 #[.agg (tci y mo d h mi s)] w fun e w' => e = .returned (.bool false) ∧ Ext w w' := by
  unfold tci
  go_enter Try.func25, Try.ntmps25
  go_wp2_with fail
  go_ret
  exact ⟨rfl, (by (repeat (first | assumption | exact Ext.refl _ | apply Ext.drew | apply Ext.drewN | apply Ext.alloc | refine Ext.trans ?_ (by assumption))); first | done | fail)⟩
theorem May_no2 (y mo d h mi s : Int) (c1 : decide (y < 1) = false) (c2 : decide (9999 < y) = true) (w : World) :
    Calls Try.prog 25 #[.agg (tci y mo d h mi s)] w fun e w' => e = .returned (.bool false) ∧ Ext w w' := by
  unfold tci
  go_enter Try.func25, Try.ntmps25
  go_wp2_with fail
  go_ret
  exact ⟨rfl, (by (repeat (first | assumption | exact Ext.refl _ | apply Ext.drew | apply Ext.drewN | apply Ext.alloc | refine Ext.trans ?_ (by assumption))); first | done | fail)⟩
theorem May_no3 (y mo d h mi s : Int) (c1 : decide (y < 1) = false) (c2 : decide (9999 < y) = false) (c3 : decide (mo < 1) = true) (w : World) :
    Calls Try.prog 25 #[.agg (tci y mo d h mi s)] w fun e w' => e = .returned (.bool false) ∧ Ext w w' := by
  unfold tci
  go_enter Try.func25, Try.ntmps25
  go_wp2_with fail
  go_ret
  exact ⟨rfl, (by (repeat (first | assumption | exact Ext.refl _ | apply Ext.drew | apply Ext.drewN | apply Ext.alloc | refine Ext.trans ?_ (by assumption))); first | done | fail)⟩
theorem May_no4 (y mo d h mi s : Int) (c1 : decide (y < 1) = false) (c2 : decide (9999 < y) = false) (c3 : decide (mo < 1) = false) (c4 : decide (12 < mo) = true) (w : World) :
    Calls Try.prog 25 #[.agg (tci y mo d h mi s)] w fun e w' => e = .returned (.bool false) ∧ Ext w w' := by
  unfold tci
  go_enter Try.func25, Try.ntmps25
  go_wp2_with fail
  go_ret
  exact ⟨rfl, (by (repeat (first | assumption | exact Ext.refl _ | apply Ext.drew | apply Ext.drewN | apply Ext.alloc | refine Ext.trans ?_ (by assumption))); first | done | fail)⟩
theorem May_no5 (y mo d h mi s : Int) (c1 : decide (y < 1) = false) (c2 : decide (9999 < y) = false) (c3 : decide (mo < 1) = false) (c4 : decide (12 < mo) = false) (c5 : decide (d < 1) = true) (w : World) :
    Calls Try.prog 25 #[.agg (tci y mo d h mi s)] w fun e w' => e = .returned (.bool false) ∧ Ext w w' := by
  unfold tci
  go_enter Try.func25, Try.ntmps25
  go_wp2_with fail
  go_ret
  exact ⟨rfl, (by (repeat (first | assumption | exact Ext.refl _ | apply Ext.drew | apply Ext.drewN | apply Ext.alloc | refine Ext.trans ?_ (by assumption))); first | done | fail)⟩
theorem May_no6 (y mo d h mi s : Int) (c1 : decide (y < 1) = false) (c2 : decide (9999 < y) = false) (c3 : decide (mo < 1) = false) (c4 : decide (12 < mo) = false) (c5 : decide (d < 1) = false) (c6 : decide (h < 0) = true) (w : World) :
    Calls Try.prog 25 #[.agg (tci y mo d h mi s)] w fun e w' => e = .returned (.bool false) ∧ Ext w w' := by
  unfold tci
  go_enter Try.func25, Try.ntmps25
  go_wp2_with fail
  go_ret
  exact ⟨rfl, (by (repeat (first | assumption | exact Ext.refl _ | apply Ext.drew | apply Ext.drewN | apply Ext.alloc | refine Ext.trans ?_ (by assumption))); first | done | fail)⟩
theorem May_no7 (y mo d h mi s : Int) (c1 : decide (y < 1) = false) (c2 : decide (9999 < y) = false) (c3 : decide (mo < 1) = false) (c4 : decide (12 < mo) = false) (c5 : decide (d < 1) = false) (c6 : decide (h < 0) = false) (c7 : decide (mi < 0) = true) (w : World) :
    Calls Try.prog 25 #[.agg (tci y mo d h mi s)] w fun e w' => e = .returned (.bool false) ∧ Ext w w' := by
  unfold tci
  go_enter Try.func25, Try.ntmps25
  go_wp2_with fail
  go_ret
  exact ⟨rfl, (by (repeat (first | assumption | exact Ext.refl _ | apply Ext.drew | apply Ext.drewN | apply Ext.alloc | refine Ext.trans ?_ (by assumption))); first | done | fail)⟩
theorem May_no8 (y mo d h mi s : Int) (c1 : decide (y < 1) = false) (c2 : decide (9999 < y) = false) (c3 : decide (mo < 1) = false) (c4 : decide (12 < mo) = false) (c5 : decide (d < 1) = false) (c6 : decide (h < 0) = false) (c7 : decide (mi < 0) = false) (c8 : decide (s < 0) = true) (w : World) :
    Calls Try.prog 25 #[.agg (tci y mo d h mi s)] w fun e w' => e = .returned (.bool false) ∧ Ext w w' := by
  unfold tci
  go_enter Try.func25, Try.ntmps25
  go_wp2_with fail
  go_ret
  exact ⟨rfl, (by (repeat (first | assumption | exact Ext.refl _ | apply Ext.drew | apply Ext.drewN | apply Ext.alloc | refine Ext.trans ?_ (by assumption))); first | done | fail)⟩
set_option maxHeartbeats 4000000 in
theorem May_not1 (y mo d h mi s D : Int) (c1 : decide (y < 1) = false) (c2 : decide (9999 < y) = false) (c3 : decide (mo < 1) = false) (c4 : decide (12 < mo) = false) (c5 : decide (d < 1) = false) (c6 : decide (h < 0) = false) (c7 : decide (mi < 0) = false) (c8 : decide (s < 0) = false) (e1 : decide (d ≤ D) = false) (hD : ∀ w : World, Calls Try.prog 44 #[.int .i64 y, .int .i64 mo] w fun e w' => e = .returned (.int .i64 D) ∧ w' = w) (w : World) :
    Calls Try.prog 25 #[.agg (tci y mo d h mi s)] w fun e w' => e = .returned (.bool false) ∧ Ext w w' := by
  unfold tci
  go_enter Try.func25, Try.ntmps25
  go_wp2_with fail
  go_quiet (first | (go_at_call 44; exact Calls.quiet_of_same (hD _)) | fail)
  go_wp2_with fail
  go_ret
  exact ⟨rfl, (by (repeat (first | assumption | exact Ext.refl _ | apply Ext.drew | apply Ext.drewN | apply Ext.alloc | refine Ext.trans ?_ (by assumption))); first | done | fail)⟩
set_option maxHeartbeats 4000000 in
theorem May_not2 (y mo d h mi s D : Int) (c1 : decide (y < 1) = false) (c2 : decide (9999 < y) = false) (c3 : decide (mo < 1) = false) (c4 : decide (12 < mo) = false) (c5 : decide (d < 1) = false) (c6 : decide (h < 0) = false) (c7 : decide (mi < 0) = false) (c8 : decide (s < 0) = false) (e1 : decide (d ≤ D) = true) (e2 : decide (h < 24) = false) (hD : ∀ w : World, Calls Try.prog 44 #[.int .i64 y, .int .i64 mo] w fun e w' => e = .returned (.int .i64 D) ∧ w' = w) (w : World) :
    Calls Try.prog 25 #[.agg (tci y mo d h mi s)] w fun e w' => e = .returned (.bool false) ∧ Ext w w' := by
  unfold tci
  go_enter Try.func25, Try.ntmps25
  go_wp2_with fail
  go_quiet (first | (go_at_call 44; exact Calls.quiet_of_same (hD _)) | fail)
  go_wp2_with fail
  go_ret
  exact ⟨rfl, (by (repeat (first | assumption | exact Ext.refl _ | apply Ext.drew | apply Ext.drewN | apply Ext.alloc | refine Ext.trans ?_ (by assumption))); first | done | fail)⟩
set_option maxHeartbeats 4000000 in
theorem May_not3 (y mo d h mi s D : Int) (c1 : decide (y < 1) = false) (c2 : decide (9999 < y) = false) (c3 : decide (mo < 1) = false) (c4 : decide (12 < mo) = false) (c5 : decide (d < 1) = false) (c6 : decide (h < 0) = false) (c7 : decide (mi < 0) = false) (c8 : decide (s < 0) = false) (e1 : decide (d ≤ D) = true) (e2 : decide (h < 24) = true) (e3 : decide (mi < 60) = false) (hD : ∀ w : World, Calls Try.prog 44 #[.int .i64 y, .int .i64 mo] w fun e w' => e = .returned (.int .i64 D) ∧ w' = w) (w : World) :
    Calls Try.prog 25 #[.agg (tci y mo d h mi s)] w fun e w' => e = .returned (.bool false) ∧ Ext w w' := by
  unfold tci
  go_enter Try.func25, Try.ntmps25
  go_wp2_with fail
  go_quiet (first | (go_at_call 44; exact Calls.quiet_of_same (hD _)) | fail)
  go_wp2_with fail
  go_ret
  exact ⟨rfl, (by (repeat (first | assumption | exact Ext.refl _ | apply Ext.drew | apply Ext.drewN | apply Ext.alloc | refine Ext.trans ?_ (by assumption))); first | done | fail)⟩
set_option maxHeartbeats 4000000 in
theorem May_not4 (y mo d h mi s D : Int) (c1 : decide (y < 1) = false) (c2 : decide (9999 < y) = false) (c3 : decide (mo < 1) = false) (c4 : decide (12 < mo) = false) (c5 : decide (d < 1) = false) (c6 : decide (h < 0) = false) (c7 : decide (mi < 0) = false) (c8 : decide (s < 0) = false) (e1 : decide (d ≤ D) = true) (e2 : decide (h < 24) = true) (e3 : decide (mi < 60) = true) (e4 : decide (s < 60) = false) (hD : ∀ w : World, Calls Try.prog 44 #[.int .i64 y, .int .i64 mo] w fun e w' => e = .returned (.int .i64 D) ∧ w' = w) (w : World) :
    Calls Try.prog 25 #[.agg (tci y mo d h mi s)] w fun e w' => e = .returned (.bool false) ∧ Ext w w' := by
  unfold tci
  go_enter Try.func25, Try.ntmps25
  go_wp2_with fail
  go_quiet (first | (go_at_call 44; exact Calls.quiet_of_same (hD _)) | fail)
  go_wp2_with fail
  go_ret
  exact ⟨rfl, (by (repeat (first | assumption | exact Ext.refl _ | apply Ext.drew | apply Ext.drewN | apply Ext.alloc | refine Ext.trans ?_ (by assumption))); first | done | fail)⟩
set_option maxHeartbeats 4000000 in
theorem May_yes (y mo d h mi s D : Int) (c1 : decide (y < 1) = false) (c2 : decide (9999 < y) = false) (c3 : decide (mo < 1) = false) (c4 : decide (12 < mo) = false) (c5 : decide (d < 1) = false) (c6 : decide (h < 0) = false) (c7 : decide (mi < 0) = false) (c8 : decide (s < 0) = false) (e1 : decide (d ≤ D) = true) (e2 : decide (h < 24) = true) (e3 : decide (mi < 60) = true) (e4 : decide (s < 60) = true) (hD : ∀ w : World, Calls Try.prog 44 #[.int .i64 y, .int .i64 mo] w fun e w' => e = .returned (.int .i64 D) ∧ w' = w) (w : World) :
    Calls Try.prog 25 #[.agg (tci y mo d h mi s)] w fun e w' => e = .returned (.bool true) ∧ Ext w w' := by
  unfold tci
  go_enter Try.func25, Try.ntmps25
  go_wp2_with fail
  go_quiet (first | (go_at_call 44; exact Calls.quiet_of_same (hD _)) | fail)
  go_wp2_with fail
  go_ret
  exact ⟨rfl, (by (repeat (first | assumption | exact Ext.refl _ | apply Ext.drew | apply Ext.drewN | apply Ext.alloc | refine Ext.trans ?_ (by assumption))); first | done | fail)⟩
theorem May_any (y mo d h mi s : Int) (w : World) (b : Bool) (hb : b = true ↔ MayI y mo d h mi s) : Calls Try.prog 25 #[.agg (tci y mo d h mi s)] w fun e w' => e = .returned (.bool b) ∧ Ext w w' := by
  rcases may_cases y mo d h mi s with hM | ⟨hM, hN⟩
  · obtain rfl : b = true := hb.2 hM
    obtain ⟨t, ht, rfl, rfl, rfl, rfl, rfl, rfl⟩ := hM
    have q1 := ht.y1
    have q2 := ht.y2
    have q3 := ht.m1
    have q4 := ht.m2
    have q5 := ht.d1
    have q6 := ht.d2
    have q7 := ht.h2
    have q8 := ht.i2
    have q9 := ht.s2
    exact May_yes _ _ _ _ _ _ (dimM t.y t.mo : Int) (decide_eq_false (by omega)) (decide_eq_false (by omega)) (decide_eq_false (by omega)) (decide_eq_false (by omega)) (decide_eq_false (by omega)) (decide_eq_false (by omega)) (decide_eq_false (by omega)) (decide_eq_false (by omega)) (decide_eq_true (by omega)) (decide_eq_true (by omega)) (decide_eq_true (by omega)) (decide_eq_true (by omega)) (Days_any t.y t.mo ⟨ht.m1, ht.m2⟩) w
  · have hbf : b = false := by
      cases b with
      | false => rfl
      | true => exact absurd (hb.1 rfl) hM
    subst hbf
    by_cases a1 : y < 1
    · exact May_no1 _ _ _ _ _ _ (decide_eq_true a1) w
    by_cases a2 : 9999 < y
    · exact May_no2 _ _ _ _ _ _ (decide_eq_false (by omega)) (decide_eq_true a2) w
    by_cases a3 : mo < 1
    · exact May_no3 _ _ _ _ _ _ (decide_eq_false (by omega)) (decide_eq_false (by omega)) (decide_eq_true a3) w
    by_cases a4 : 12 < mo
    · exact May_no4 _ _ _ _ _ _ (decide_eq_false (by omega)) (decide_eq_false (by omega)) (decide_eq_false (by omega)) (decide_eq_true a4) w
    by_cases a5 : d < 1
    · exact May_no5 _ _ _ _ _ _ (decide_eq_false (by omega)) (decide_eq_false (by omega)) (decide_eq_false (by omega)) (decide_eq_false (by omega)) (decide_eq_true a5) w
    by_cases a6 : h < 0
    · exact May_no6 _ _ _ _ _ _ (decide_eq_false (by omega)) (decide_eq_false (by omega)) (decide_eq_false (by omega)) (decide_eq_false (by omega)) (decide_eq_false (by omega)) (decide_eq_true a6) w
    by_cases a7 : mi < 0
    · exact May_no7 _ _ _ _ _ _ (decide_eq_false (by omega)) (decide_eq_false (by omega)) (decide_eq_false (by omega)) (decide_eq_false (by omega)) (decide_eq_false (by omega)) (decide_eq_false (by omega)) (decide_eq_true a7) w
    by_cases a8 : s < 0
    · exact May_no8 _ _ _ _ _ _ (decide_eq_false (by omega)) (decide_eq_false (by omega)) (decide_eq_false (by omega)) (decide_eq_false (by omega)) (decide_eq_false (by omega)) (decide_eq_false (by omega)) (decide_eq_false (by omega)) (decide_eq_true a8) w
    rcases hN with h1 | ⟨h1, h2⟩ | ⟨Y, M, rfl, rfl, k1, k2, h3⟩
    · omega
    · omega
    · have hD := Days_any Y M k2
      rcases h3 with h3 | ⟨h3, h4⟩ | ⟨h3, h4, h5⟩ | ⟨h3, h4, h5, h6⟩
      · exact May_not1 _ _ _ _ _ _ _ (decide_eq_false (by omega)) (decide_eq_false (by omega)) (decide_eq_false (by omega)) (decide_eq_false (by omega)) (decide_eq_false (by omega)) (decide_eq_false (by omega)) (decide_eq_false (by omega)) (decide_eq_false (by omega)) (decide_eq_false (by omega)) hD w
      · exact May_not2 _ _ _ _ _ _ _ (decide_eq_false (by omega)) (decide_eq_false (by omega)) (decide_eq_false (by omega)) (decide_eq_false (by omega)) (decide_eq_false (by omega)) (decide_eq_false (by omega)) (decide_eq_false (by omega)) (decide_eq_false (by omega)) (decide_eq_true (by omega)) (decide_eq_false (by omega)) hD w
      · exact May_not3 _ _ _ _ _ _ _ (decide_eq_false (by omega)) (decide_eq_false (by omega)) (decide_eq_false (by omega)) (decide_eq_false (by omega)) (decide_eq_false (by omega)) (decide_eq_false (by omega)) (decide_eq_false (by omega)) (decide_eq_false (by omega)) (decide_eq_true (by omega)) (decide_eq_true (by omega)) (decide_eq_false (by omega)) hD w
      · exact May_not4 _ _ _ _ _ _ _ (decide_eq_false (by omega)) (decide_eq_false (by omega)) (decide_eq_false (by omega)) (decide_eq_false (by omega)) (decide_eq_false (by omega)) (decide_eq_false (by omega)) (decide_eq_false (by omega)) (decide_eq_false (by omega)) (decide_eq_true (by omega)) (decide_eq_true (by omega)) (decide_eq_true (by omega)) (decide_eq_false (by omega)) hD w
end Go.Proofs.Ytfipgmjaabggjaa
