/-
  prim: isTime; the reference's May.
-/
import Derived.Test.YtfipgmjaabggjaaDoorVVa
namespace Go.Proofs.YtfipgmjaabggjaaDoor
open Go Go.RowKit
set_option maxRecDepth 4000

abbrev tmt : TypeId := 45
/-- six ints that are a moment, and the moment's cells -/
def tci (y mo d h mi s : Int) : Array Value := #[.int .i64 y, .int .i64 mo, .int .i64 d, .int .i64 h, .int .i64 mi, .int .i64 s]
def tcs (t : Tmt) : Array Value := tci t.y t.mo t.d t.h t.mi t.s
def MayI (y mo d h mi s : Int) : Prop := ∃ t, MayT t ∧ y = (t.y : Int) ∧ mo = (t.mo : Int) ∧ d = (t.d : Int) ∧ h = (t.h : Int) ∧ mi = (t.mi : Int) ∧ s = (t.s : Int)
/-- what is amiss first -/
theorem may_cases (y mo d h mi s : Int) : MayI y mo d h mi s ∨ (¬ MayI y mo d h mi s ∧ (¬ (1 ≤ y ∧ y ≤ 9999) ∨ ((1 ≤ y ∧ y ≤ 9999) ∧ ¬ (1 ≤ mo ∧ mo ≤ 12)) ∨
    ∃ Y M : Nat, y = (Y : Int) ∧ mo = (M : Int) ∧ (1 ≤ Y ∧ Y ≤ 9999) ∧ (1 ≤ M ∧ M ≤ 12) ∧ (¬ (1 ≤ d ∧ d ≤ (dimM Y M : Int)) ∨ ((1 ≤ d ∧ d ≤ (dimM Y M : Int)) ∧ ¬ (0 ≤ h ∧ h ≤ 23)) ∨ ((1 ≤ d ∧ d ≤ (dimM Y M : Int)) ∧ (0 ≤ h ∧ h ≤ 23) ∧ ¬ (0 ≤ mi ∧ mi ≤ 59)) ∨
      ((1 ≤ d ∧ d ≤ (dimM Y M : Int)) ∧ (0 ≤ h ∧ h ≤ 23) ∧ (0 ≤ mi ∧ mi ≤ 59) ∧ ¬ (0 ≤ s ∧ s ≤ 59))))) := by
  have hN : ∀ {P : Prop}, (∀ t, MayT t → y = (t.y : Int) → mo = (t.mo : Int) → d = (t.d : Int) → h = (t.h : Int) → mi = (t.mi : Int) → s = (t.s : Int) → P → False) → P → ¬ MayI y mo d h mi s := fun hp hP ⟨t, ht, a, b, c, e, f, g⟩ => hp t ht a b c e f g hP
  by_cases h1 : 1 ≤ y ∧ y ≤ 9999
  · by_cases h2 : 1 ≤ mo ∧ mo ≤ 12
    · obtain ⟨Y, rfl⟩ : ∃ Y : Nat, y = (Y : Int) := ⟨y.toNat, by omega⟩
      obtain ⟨M, rfl⟩ : ∃ M : Nat, mo = (M : Int) := ⟨mo.toNat, by omega⟩
      have k1 : 1 ≤ Y ∧ Y ≤ 9999 := by omega
      have k2 : 1 ≤ M ∧ M ≤ 12 := by omega
      have hD : ∀ t : Tmt, (Y : Int) = (t.y : Int) → (M : Int) = (t.mo : Int) → dimM Y M = dimM t.y t.mo := fun t a b => by
        rw [show Y = t.y by omega, show M = t.mo by omega]
      by_cases h3 : 1 ≤ d ∧ d ≤ (dimM Y M : Int)
      · by_cases h4 : 0 ≤ h ∧ h ≤ 23
        · by_cases h5 : 0 ≤ mi ∧ mi ≤ 59
          · by_cases h6 : 0 ≤ s ∧ s ≤ 59
            · refine .inl ⟨⟨Y, M, d.toNat, h.toNat, mi.toNat, s.toNat⟩, ⟨k1.1, k1.2, k2.1, k2.2, ?_, ?_, ?_, ?_, ?_⟩, rfl, rfl, ?_, ?_, ?_, ?_⟩
              all_goals first | (show 1 ≤ d.toNat; omega) | (show d.toNat ≤ dimM Y M; omega) | (show h.toNat ≤ 23; omega) | (show mi.toNat ≤ 59; omega) | (show s.toNat ≤ 59; omega) | (show d = (d.toNat : Int); omega) | (show h = (h.toNat : Int); omega) | (show mi = (mi.toNat : Int); omega) | (show s = (s.toNat : Int); omega)
            · exact .inr ⟨hN (fun t ht _ _ _ _ _ g hP => hP (by have := ht.s2; omega)) h6, .inr (.inr ⟨Y, M, rfl, rfl, k1, k2, .inr (.inr (.inr ⟨h3, h4, h5, h6⟩))⟩)⟩
          · exact .inr ⟨hN (fun t ht _ _ _ _ f _ hP => hP (by have := ht.i2; omega)) h5, .inr (.inr ⟨Y, M, rfl, rfl, k1, k2, .inr (.inr (.inl ⟨h3, h4, h5⟩))⟩)⟩
        · exact .inr ⟨hN (fun t ht _ _ _ e _ _ hP => hP (by have := ht.h2; omega)) h4, .inr (.inr ⟨Y, M, rfl, rfl, k1, k2, .inr (.inl ⟨h3, h4⟩)⟩)⟩
      · exact .inr ⟨hN (fun t ht a b c _ _ _ hP => hP (by have h7 := ht.d1; have h8 := ht.d2; have h9 := hD t a b; omega)) h3, .inr (.inr ⟨Y, M, rfl, rfl, k1, k2, .inl h3⟩)⟩
    · exact .inr ⟨hN (fun t ht _ b _ _ _ _ hP => hP (by have := ht.m1; have := ht.m2; omega)) h2, .inr (.inl ⟨h1, h2⟩)⟩
  · exact .inr ⟨hN (fun t ht a _ _ _ _ _ hP => hP (by have := ht.y1; have := ht.y2; omega)) h1, .inl h1⟩
set_option maxHeartbeats 4000000 in
theorem isTime_no1 (y mo d h mi s D : Int) (w1 : ∀ w : World, Calls Tryd.prog 76 #[.int .i64 y, .int .i64 1, .int .i64 9999] w fun e w' => e = .returned (.bool false) ∧ w' = w) (w : World) :
    Calls Tryd.prog 51 #[.agg (tci y mo d h mi s)] w fun e w' => e = .returned (.bool false) ∧ Ext w w' := by
  unfold tci
  go_enter Tryd.func51, Tryd.ntmps51
  go_wp2_with fail
  go_quiet (first | (go_at_call 76; first | with_reducible exact Calls.quiet_of_same (w1 _)) | fail)
  go_wp2_with fail
  go_ret
  exact ⟨rfl, (by (repeat (first | assumption | exact Ext.refl _ | apply Ext.drew | apply Ext.drewN | apply Ext.alloc | refine Ext.trans ?_ (by assumption))); first | done | fail)⟩
set_option maxHeartbeats 4000000 in
theorem isTime_no2 (y mo d h mi s D : Int) (w1 : ∀ w : World, Calls Tryd.prog 76 #[.int .i64 y, .int .i64 1, .int .i64 9999] w fun e w' => e = .returned (.bool true) ∧ w' = w) (w2 : ∀ w : World, Calls Tryd.prog 76 #[.int .i64 mo, .int .i64 1, .int .i64 12] w fun e w' => e = .returned (.bool false) ∧ w' = w) (w : World) :
    Calls Tryd.prog 51 #[.agg (tci y mo d h mi s)] w fun e w' => e = .returned (.bool false) ∧ Ext w w' := by
  unfold tci
  go_enter Tryd.func51, Tryd.ntmps51
  go_wp2_with fail
  go_quiet (first | (go_at_call 76; first | with_reducible exact Calls.quiet_of_same (w1 _) | with_reducible exact Calls.quiet_of_same (w2 _)) | fail)
  go_wp2_with fail
  go_ret
  exact ⟨rfl, (by (repeat (first | assumption | exact Ext.refl _ | apply Ext.drew | apply Ext.drewN | apply Ext.alloc | refine Ext.trans ?_ (by assumption))); first | done | fail)⟩
set_option maxHeartbeats 4000000 in
theorem isTime_no3 (y mo d h mi s D : Int) (w1 : ∀ w : World, Calls Tryd.prog 76 #[.int .i64 y, .int .i64 1, .int .i64 9999] w fun e w' => e = .returned (.bool true) ∧ w' = w) (w2 : ∀ w : World, Calls Tryd.prog 76 #[.int .i64 mo, .int .i64 1, .int .i64 12] w fun e w' => e = .returned (.bool true) ∧ w' = w) (w3 : ∀ w : World, Calls Tryd.prog 76 #[.int .i64 d, .int .i64 1, .int .i64 D] w fun e w' => e = .returned (.bool false) ∧ w' = w) (hD : ∀ w : World, Calls Tryd.prog 56 #[.int .i64 y, .int .i64 mo] w fun e w' => e = .returned (.int .i64 D) ∧ w' = w) (w : World) :
    Calls Tryd.prog 51 #[.agg (tci y mo d h mi s)] w fun e w' => e = .returned (.bool false) ∧ Ext w w' := by
  unfold tci
  go_enter Tryd.func51, Tryd.ntmps51
  go_wp2_with fail
  go_quiet (first | (go_at_call 76; first | with_reducible exact Calls.quiet_of_same (w1 _) | with_reducible exact Calls.quiet_of_same (w2 _) | with_reducible exact Calls.quiet_of_same (w3 _)) | (go_at_call 56; exact Calls.quiet_of_same (hD _)) | fail)
  go_wp2_with fail
  go_ret
  exact ⟨rfl, (by (repeat (first | assumption | exact Ext.refl _ | apply Ext.drew | apply Ext.drewN | apply Ext.alloc | refine Ext.trans ?_ (by assumption))); first | done | fail)⟩
set_option maxHeartbeats 4000000 in
theorem isTime_no4 (y mo d h mi s D : Int) (w1 : ∀ w : World, Calls Tryd.prog 76 #[.int .i64 y, .int .i64 1, .int .i64 9999] w fun e w' => e = .returned (.bool true) ∧ w' = w) (w2 : ∀ w : World, Calls Tryd.prog 76 #[.int .i64 mo, .int .i64 1, .int .i64 12] w fun e w' => e = .returned (.bool true) ∧ w' = w) (w3 : ∀ w : World, Calls Tryd.prog 76 #[.int .i64 d, .int .i64 1, .int .i64 D] w fun e w' => e = .returned (.bool true) ∧ w' = w) (w4 : ∀ w : World, Calls Tryd.prog 76 #[.int .i64 h, .int .i64 0, .int .i64 23] w fun e w' => e = .returned (.bool false) ∧ w' = w) (hD : ∀ w : World, Calls Tryd.prog 56 #[.int .i64 y, .int .i64 mo] w fun e w' => e = .returned (.int .i64 D) ∧ w' = w) (w : World) :
    Calls Tryd.prog 51 #[.agg (tci y mo d h mi s)] w fun e w' => e = .returned (.bool false) ∧ Ext w w' := by
  unfold tci
  go_enter Tryd.func51, Tryd.ntmps51
  go_wp2_with fail
  go_quiet (first | (go_at_call 76; first | with_reducible exact Calls.quiet_of_same (w1 _) | with_reducible exact Calls.quiet_of_same (w2 _) | with_reducible exact Calls.quiet_of_same (w3 _) | with_reducible exact Calls.quiet_of_same (w4 _)) | (go_at_call 56; exact Calls.quiet_of_same (hD _)) | fail)
  go_wp2_with fail
  go_ret
  exact ⟨rfl, (by (repeat (first | assumption | exact Ext.refl _ | apply Ext.drew | apply Ext.drewN | apply Ext.alloc | refine Ext.trans ?_ (by assumption))); first | done | fail)⟩
set_option maxHeartbeats 4000000 in
theorem isTime_no5 (y mo d h mi s D : Int) (w1 : ∀ w : World, Calls Tryd.prog 76 #[.int .i64 y, .int .i64 1, .int .i64 9999] w fun e w' => e = .returned (.bool true) ∧ w' = w) (w2 : ∀ w : World, Calls Tryd.prog 76 #[.int .i64 mo, .int .i64 1, .int .i64 12] w fun e w' => e = .returned (.bool true) ∧ w' = w) (w3 : ∀ w : World, Calls Tryd.prog 76 #[.int .i64 d, .int .i64 1, .int .i64 D] w fun e w' => e = .returned (.bool true) ∧ w' = w) (w4 : ∀ w : World, Calls Tryd.prog 76 #[.int .i64 h, .int .i64 0, .int .i64 23] w fun e w' => e = .returned (.bool true) ∧ w' = w) (w5 : ∀ w : World, Calls Tryd.prog 76 #[.int .i64 mi, .int .i64 0, .int .i64 59] w fun e w' => e = .returned (.bool false) ∧ w' = w) (hD : ∀ w : World, Calls Tryd.prog 56 #[.int .i64 y, .int .i64 mo] w fun e w' => e = .returned (.int .i64 D) ∧ w' = w) (w : World) :
    Calls Tryd.prog 51 #[.agg (tci y mo d h mi s)] w fun e w' => e = .returned (.bool false) ∧ Ext w w' := by
  unfold tci
  go_enter Tryd.func51, Tryd.ntmps51
  go_wp2_with fail
  go_quiet (first | (go_at_call 76; first | with_reducible exact Calls.quiet_of_same (w1 _) | with_reducible exact Calls.quiet_of_same (w2 _) | with_reducible exact Calls.quiet_of_same (w3 _) | with_reducible exact Calls.quiet_of_same (w4 _) | with_reducible exact Calls.quiet_of_same (w5 _)) | (go_at_call 56; exact Calls.quiet_of_same (hD _)) | fail)
  go_wp2_with fail
  go_ret
  exact ⟨rfl, (by (repeat (first | assumption | exact Ext.refl _ | apply Ext.drew | apply Ext.drewN | apply Ext.alloc | refine Ext.trans ?_ (by assumption))); first | done | fail)⟩
set_option maxHeartbeats 4000000 in
theorem isTime_no6 (y mo d h mi s D : Int) (w1 : ∀ w : World, Calls Tryd.prog 76 #[.int .i64 y, .int .i64 1, .int .i64 9999] w fun e w' => e = .returned (.bool true) ∧ w' = w) (w2 : ∀ w : World, Calls Tryd.prog 76 #[.int .i64 mo, .int .i64 1, .int .i64 12] w fun e w' => e = .returned (.bool true) ∧ w' = w) (w3 : ∀ w : World, Calls Tryd.prog 76 #[.int .i64 d, .int .i64 1, .int .i64 D] w fun e w' => e = .returned (.bool true) ∧ w' = w) (w4 : ∀ w : World, Calls Tryd.prog 76 #[.int .i64 h, .int .i64 0, .int .i64 23] w fun e w' => e = .returned (.bool true) ∧ w' = w) (w5 : ∀ w : World, Calls Tryd.prog 76 #[.int .i64 mi, .int .i64 0, .int .i64 59] w fun e w' => e = .returned (.bool true) ∧ w' = w) (w6 : ∀ w : World, Calls Tryd.prog 76 #[.int .i64 s, .int .i64 0, .int .i64 59] w fun e w' => e = .returned (.bool false) ∧ w' = w) (hD : ∀ w : World, Calls Tryd.prog 56 #[.int .i64 y, .int .i64 mo] w fun e w' => e = .returned (.int .i64 D) ∧ w' = w) (w : World) :
    Calls Tryd.prog 51 #[.agg (tci y mo d h mi s)] w fun e w' => e = .returned (.bool false) ∧ Ext w w' := by
  unfold tci
  go_enter Tryd.func51, Tryd.ntmps51
  go_wp2_with fail
  go_quiet (first | (go_at_call 76; first | with_reducible exact Calls.quiet_of_same (w1 _) | with_reducible exact Calls.quiet_of_same (w2 _) | with_reducible exact Calls.quiet_of_same (w3 _) | with_reducible exact Calls.quiet_of_same (w4 _) | with_reducible exact Calls.quiet_of_same (w5 _) | with_reducible exact Calls.quiet_of_same (w6 _)) | (go_at_call 56; exact Calls.quiet_of_same (hD _)) | fail)
  go_wp2_with fail
  go_ret
  exact ⟨rfl, (by (repeat (first | assumption | exact Ext.refl _ | apply Ext.drew | apply Ext.drewN | apply Ext.alloc | refine Ext.trans ?_ (by assumption))); first | done | fail)⟩
set_option maxHeartbeats 4000000 in
theorem isTime_yes (y mo d h mi s D : Int) (w1 : ∀ w : World, Calls Tryd.prog 76 #[.int .i64 y, .int .i64 1, .int .i64 9999] w fun e w' => e = .returned (.bool true) ∧ w' = w) (w2 : ∀ w : World, Calls Tryd.prog 76 #[.int .i64 mo, .int .i64 1, .int .i64 12] w fun e w' => e = .returned (.bool true) ∧ w' = w) (w3 : ∀ w : World, Calls Tryd.prog 76 #[.int .i64 d, .int .i64 1, .int .i64 D] w fun e w' => e = .returned (.bool true) ∧ w' = w) (w4 : ∀ w : World, Calls Tryd.prog 76 #[.int .i64 h, .int .i64 0, .int .i64 23] w fun e w' => e = .returned (.bool true) ∧ w' = w) (w5 : ∀ w : World, Calls Tryd.prog 76 #[.int .i64 mi, .int .i64 0, .int .i64 59] w fun e w' => e = .returned (.bool true) ∧ w' = w) (w6 : ∀ w : World, Calls Tryd.prog 76 #[.int .i64 s, .int .i64 0, .int .i64 59] w fun e w' => e = .returned (.bool true) ∧ w' = w) (hD : ∀ w : World, Calls Tryd.prog 56 #[.int .i64 y, .int .i64 mo] w fun e w' => e = .returned (.int .i64 D) ∧ w' = w) (w : World) :
    Calls Tryd.prog 51 #[.agg (tci y mo d h mi s)] w fun e w' => e = .returned (.bool true) ∧ Ext w w' := by
  unfold tci
  go_enter Tryd.func51, Tryd.ntmps51
  go_wp2_with fail
  go_quiet (first | (go_at_call 76; first | with_reducible exact Calls.quiet_of_same (w1 _) | with_reducible exact Calls.quiet_of_same (w2 _) | with_reducible exact Calls.quiet_of_same (w3 _) | with_reducible exact Calls.quiet_of_same (w4 _) | with_reducible exact Calls.quiet_of_same (w5 _) | with_reducible exact Calls.quiet_of_same (w6 _)) | (go_at_call 56; exact Calls.quiet_of_same (hD _)) | fail)
  go_wp2_with fail
  go_ret
  exact ⟨rfl, (by (repeat (first | assumption | exact Ext.refl _ | apply Ext.drew | apply Ext.drewN | apply Ext.alloc | refine Ext.trans ?_ (by assumption))); first | done | fail)⟩
theorem isTime_any (y mo d h mi s : Int) (w : World) (b : Bool) (hb : b = true ↔ MayI y mo d h mi s) : Calls Tryd.prog 51 #[.agg (tci y mo d h mi s)] w fun e w' => e = .returned (.bool b) ∧ Ext w w' := by
  rcases may_cases y mo d h mi s with hM | ⟨hM, hN⟩
  · obtain rfl : b = true := hb.2 hM
    obtain ⟨t, ht, rfl, rfl, rfl, rfl, rfl, rfl⟩ := hM
    exact isTime_yes _ _ _ _ _ _ (dimM t.y t.mo : Int) (within_yes _ _ _ (by have := ht.y1; omega) (by have := ht.y2; omega)) (within_yes _ _ _ (by have := ht.m1; omega) (by have := ht.m2; omega)) (within_yes _ _ _ (by have := ht.d1; omega) (by have := ht.d2; omega)) (within_yes _ _ _ (by omega) (by have := ht.h2; omega)) (within_yes _ _ _ (by omega) (by have := ht.i2; omega)) (within_yes _ _ _ (by omega) (by have := ht.s2; omega)) (daysOf_any t.y t.mo ⟨ht.m1, ht.m2⟩) w
  · have hbf : b = false := by
      cases b with
      | false => rfl
      | true => exact absurd (hb.1 rfl) hM
    subst hbf
    rcases hN with h1 | ⟨h1, h2⟩ | ⟨Y, M, rfl, rfl, k1, k2, h3⟩
    · exact isTime_no1 _ _ _ _ _ _ 0 (within_no _ _ _ h1) w
    · exact isTime_no2 _ _ _ _ _ _ 0 (within_yes _ _ _ h1.1 h1.2) (within_no _ _ _ h2) w
    · have w1 := within_yes (Y : Int) 1 9999 (by omega) (by omega)
      have w2 := within_yes (M : Int) 1 12 (by omega) (by omega)
      have hD := daysOf_any Y M k2
      rcases h3 with h3 | ⟨h3, h4⟩ | ⟨h3, h4, h5⟩ | ⟨h3, h4, h5, h6⟩
      · exact isTime_no3 _ _ _ _ _ _ _ w1 w2 (within_no _ _ _ h3) hD w
      · exact isTime_no4 _ _ _ _ _ _ _ w1 w2 (within_yes _ _ _ h3.1 h3.2) (within_no _ _ _ h4) hD w
      · exact isTime_no5 _ _ _ _ _ _ _ w1 w2 (within_yes _ _ _ h3.1 h3.2) (within_yes _ _ _ h4.1 h4.2) (within_no _ _ _ h5) hD w
      · exact isTime_no6 _ _ _ _ _ _ _ w1 w2 (within_yes _ _ _ h3.1 h3.2) (within_yes _ _ _ h4.1 h4.2) (within_yes _ _ _ h5.1 h5.2) (within_no _ _ _ h6) hD w
end Go.Proofs.YtfipgmjaabggjaaDoor
