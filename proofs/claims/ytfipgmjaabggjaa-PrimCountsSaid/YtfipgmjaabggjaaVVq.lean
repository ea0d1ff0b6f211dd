/-
  The reference's Count.
-/
import Derived.Test.YtfipgmjaabggjaaVVc
import Derived.Test.YtfipgmjaabggjaaVVf
namespace Go.Proofs.Ytfipgmjaabggjaa
open Go Go.RowKit
set_option maxRecDepth 4000

set_option maxHeartbeats 4000000 in
theorem refCount_any (t : Tmt) (ht : MayT t) (w : World) : Calls Try.prog 30 #[.agg (tcs t)] w fun e w' => e = .returned (.int .i64 (cntT t : Int)) ∧ Ext w w' := by
  have q1 := ht.y1
  have q2 := ht.y2
  have q3 := ht.m1
  have q4 := ht.m2
  have q5 := ht.d1
  have q6 := ht.d2
  have q7 := ht.h2
  have q8 := ht.i2
  have q9 := ht.s2
  have q0 := dim_hi t.y t.mo
  have hyy : ∀ k, k ≤ 9999 → ydN k ≤ 3652059 := fun k hk => by
    have h1 := ydN_mono hk
    have := ydN_eq 9999
    omega
  have hcnt : (ydN (t.y - 1) + mdN t.y (t.mo - 1) + t.d - 1) * 86400 + t.h * 3600 + t.mi * 60 + t.s = cntT t := by
    unfold cntT dayT
    have : ydN (t.y - 1) + mdN t.y (t.mo - 1) + t.d - 1 = ydN (t.y - 1) + mdN t.y (t.mo - 1) + (t.d - 1) := by omega
    rw [this]
  have hyd := hyy (t.y - 1) (by omega)
  have hm12 := mdN_hi t.y (t.mo - 1)
  have hmd := fun m => dim_hi t.y m
  have hms : ∀ m, mdN t.y (m + 1) = mdN t.y m + dimM t.y (m + 1) := fun m => rfl
  have hm0 : mdN t.y 0 = 0 := rfl
  have hmh := fun m => mdN_hi t.y m
  have hDd := fun m => Days_any t.y m
  clear ht
  unfold tcs
  obtain ⟨y, mo, d, h, mi, s⟩ := t
  simp only at *
  generalize cntT _ = C at *
  generalize hF : mdN y = F at *
  generalize hG : dimM y = G at *
  unfold tci at *
  obtain ⟨a, ha⟩ : ∃ a, a = ydN (y - 1) + F (mo - 1) := ⟨_, rfl⟩
  rw [← ha] at hcnt
  obtain ⟨z5, h5⟩ : ∃ z, z = a + d := ⟨_, rfl⟩
  obtain ⟨z4, h4⟩ : ∃ z, z = a + d - 1 := ⟨_, rfl⟩
  rw [← h4] at hcnt
  obtain ⟨z3, h3⟩ : ∃ z, z = z4 * 86400 := ⟨_, rfl⟩
  obtain ⟨z7, h7⟩ : ∃ z, z = h * 3600 := ⟨_, rfl⟩
  obtain ⟨z6, h6⟩ : ∃ z, z = mi * 60 := ⟨_, rfl⟩
  rw [← h3, ← h7, ← h6] at hcnt
  obtain ⟨z2, h2⟩ : ∃ z, z = z3 + z7 := ⟨_, rfl⟩
  obtain ⟨z1, h1⟩ : ∃ z, z = z2 + z6 := ⟨_, rfl⟩
  have e2 : IntKind.i64.wrap ((a : Int) + (d : Int)) = (z5 : Int) := by rw [IntKind.wrap_i64]; omega
  have e3 : IntKind.i64.wrap ((z5 : Int) - 1) = (z4 : Int) := by rw [IntKind.wrap_i64]; omega
  have e4 : IntKind.i64.wrap ((z4 : Int) * 86400) = (z3 : Int) := by rw [IntKind.wrap_i64]; omega
  have e5 : IntKind.i64.wrap ((h : Int) * 3600) = (z7 : Int) := by rw [IntKind.wrap_i64]; omega
  have e6 : IntKind.i64.wrap ((z3 : Int) + (z7 : Int)) = (z2 : Int) := by rw [IntKind.wrap_i64]; omega
  have e7 : IntKind.i64.wrap ((mi : Int) * 60) = (z6 : Int) := by rw [IntKind.wrap_i64]; omega
  have e8 : IntKind.i64.wrap ((z2 : Int) + (z6 : Int)) = (z1 : Int) := by rw [IntKind.wrap_i64]; omega
  have e9 : IntKind.i64.wrap ((z1 : Int) + (s : Int)) = (C : Int) := by rw [IntKind.wrap_i64]; omega
  have H2 := Kp.mk ha
  clear ha h1 h2 h3 h4 h5 h6 h7
  have HB := Kp.mk (Blk.new w tmt #[.int .i64 (y : Int), .int .i64 (mo : Int), .int .i64 (d : Int), .int .i64 (h : Int), .int .i64 (mi : Int), .int .i64 (s : Int)])
  have HF := Kp.mk (And.intro hm0 (And.intro hms (And.intro hmd hmh)))
  have HQ := Kp.mk (And.intro q3 (And.intro q4 (And.intro q1 q2)))
  have HE := Kp.mk hDd
  have HY := Kp.mk hyy
  clear hms hmd hmh hDd hm0 q1 q2 q3 q4 q5 q6 q7 q8 q9 q0 hyd hm12 hcnt hyy hF hG
  go_enter Try.func30, Try.ntmps30
  go_wp2_with fail
  obtain ⟨W0, hW0⟩ : ∃ W0, W0 = w.alloc (.cells #[.int .i64 (y : Int), .int .i64 (mo : Int), .int .i64 (d : Int), .int .i64 (h : Int), .int .i64 (mi : Int), .int .i64 (s : Int)] tmt) := ⟨_, rfl⟩
  have hxw : Ext w W0 := by rw [hW0]; exact (by (repeat (first | assumption | exact Ext.refl _ | apply Ext.drew | apply Ext.drewN | apply Ext.alloc | refine Ext.trans ?_ (by assumption))); first | done | fail)
  rw [← hW0] at HB ⊢
  clear hW0
  have HW := Kp.mk hxw
  clear hxw
  go_loopw [3, 4, 5] (fun v i b wr => ∃ k D : Nat, 1 ≤ k ∧ k ≤ y ∧ D = ydN (k - 1) ∧ i = .int .i64 (k : Int) ∧ v = .int .i64 (D : Int) ∧ Ext W0 wr) (fun _ i _ _ => y - (intOf i).toNat)
  case atStart => exact ⟨1, 0, by omega, HQ.out.2.2.1, rfl, rfl, rfl, Ext.refl _⟩
  case round =>
    obtain ⟨k, D, hk1, hk, hDk, rfl, rfl, hx⟩ := hrel
    obtain ⟨c0, k1, k2, k3, k4, k5⟩ := box6' HB.out hx
    have HX3 := Kp.mk hx
    by_cases hlt : k < y
    · have b1 : (k : Int) < (y : Int) := by omega
      have f1 : ydN (k - 1 + 1) = ydN (k - 1) + 365 + (if leapY (k - 1 + 1) = true then 1 else 0) := rfl
      rw [show k - 1 + 1 = k by omega] at f1
      have f2 := HY.out (k - 1) (by have := HQ.out.2.2.2; omega)
      have hy99 := HQ.out.2.2.2
      have s1 : IntKind.i64.wrap ((D : Int) + 365) = ((D + 365 : Nat) : Int) := by rw [IntKind.wrap_i64]; omega
      have s2 : IntKind.i64.wrap ((k : Int) + 1) = (k : Int) + 1 := by rw [IntKind.wrap_i64]; omega
      have s3 : IntKind.i64.wrap (((D + 365 : Nat) : Int) + 1) = ((D + 365 + 1 : Nat) : Int) := by rw [IntKind.wrap_i64]; omega
      have hL := fun W => Leap_any k W
      cases hlp : leapY k with
      | true =>
        rw [hlp] at hL
        rw [hlp, if_pos rfl, ← hDk] at f1
        have HR := Kp.mk (show D + 365 + 1 = ydN (k + 1 - 1) by rw [Nat.add_sub_cancel, f1])
        clear f1 hlp hx hDk f2 hy99
        generalize D + 365 + 1 = D3 at *
        generalize D + 365 = D2 at *
        go_wp2_with (go_at_call 51; refine (hL _).mono ?_; rintro e w3 ⟨rfl, hw⟩; obtain rfl : wr = w3 := hw.symm)
        go_roundw
        case rel => exact ⟨k + 1, D3, by omega, by omega, HR.out, by go_num, rfl, HX3.out.trans (by (repeat (first | assumption | exact Ext.refl _ | apply Ext.drew | apply Ext.drewN | apply Ext.alloc | refine Ext.trans ?_ (by assumption))); first | done | fail)⟩
        case measure => simp [intOf]; omega
      | false =>
        rw [hlp] at hL
        rw [hlp, if_neg Bool.false_ne_true, ← hDk] at f1
        have HR := Kp.mk (show D + 365 = ydN (k + 1 - 1) by rw [Nat.add_sub_cancel, f1])
        clear f1 hlp hx hDk f2 hy99
        generalize D + 365 + 1 = D3 at *
        generalize D + 365 = D2 at *
        go_wp2_with (go_at_call 51; refine (hL _).mono ?_; rintro e w3 ⟨rfl, hw⟩; obtain rfl : wr = w3 := hw.symm)
        go_roundw
        case rel => exact ⟨k + 1, D2, by omega, by omega, HR.out, by go_num, rfl, HX3.out.trans (by (repeat (first | assumption | exact Ext.refl _ | apply Ext.drew | apply Ext.drewN | apply Ext.alloc | refine Ext.trans ?_ (by assumption))); first | done | fail)⟩
        case measure => simp [intOf]; omega
    · obtain rfl : k = y := by omega
      have b1 : ¬ (k : Int) < (k : Int) := by omega
      have H2 := Kp.mk (show a = D + F (mo - 1) by rw [H2.out, hDk])
      have HD := Kp.mk hDk
      have hD9 := HY.out (k - 1) (by have := HQ.out.2.2.2; omega)
      rw [← hDk] at hD9
      clear hx hDk
      go_wp2_with fail
      clear c0 k1 k2 k3 k4 k5 b1
      go_loopw [3, 6] (fun v i wr => ∃ m E : Nat, 1 ≤ m ∧ m ≤ mo ∧ E = D + F (m - 1) ∧ i = .int .i64 (m : Int) ∧ v = .int .i64 (E : Int) ∧ Ext W0 wr) (fun _ i _ => mo - (intOf i).toNat)
      case atStart => exact ⟨1, D, by omega, HQ.out.1, by rw [show 1 - 1 = 0 from rfl, HF.out.1]; rfl, rfl, rfl, HX3.out⟩
      case round =>
        obtain ⟨m, E, hm1, hm, hEm, rfl, rfl, hx⟩ := hrel
        obtain ⟨c0, k1, k2, k3, k4, k5⟩ := box6' HB.out hx
        have HX5 := Kp.mk hx
        by_cases hlt2 : m < mo
        · have b1 : (m : Int) < (mo : Int) := by omega
          have hC := HE.out m ⟨hm1, by have := HQ.out.2.1; omega⟩
          have f1 := HF.out.2.1 (m - 1)
          rw [show m - 1 + 1 = m by omega] at f1
          have f2 := HF.out.2.2.1 m
          have f3 := HF.out.2.2.2 (m - 1)
          have s1 : IntKind.i64.wrap ((E : Int) + (G m : Int)) = ((E + G m : Nat) : Int) := by have := HQ.out.2.1; rw [IntKind.wrap_i64]; omega
          have s2 : IntKind.i64.wrap ((m : Int) + 1) = (m : Int) + 1 := by have := HQ.out.2.1; rw [IntKind.wrap_i64]; omega
          have HR := Kp.mk (show E + G m = D + F (m + 1 - 1) by rw [Nat.add_sub_cancel, f1, hEm]; omega)
          generalize E + G m = E2 at *
          generalize G m = gm at *
          clear f1 f2 f3 hx hEm
          go_wp2_with (go_at_call 44; refine (hC _).mono ?_; rintro e w3 ⟨rfl, hw⟩; obtain rfl : wr = w3 := hw.symm)
          go_roundw
          case rel => exact ⟨m + 1, E2, by omega, by omega, HR.out, by go_num, rfl, HX5.out.trans (by (repeat (first | assumption | exact Ext.refl _ | apply Ext.drew | apply Ext.drewN | apply Ext.alloc | refine Ext.trans ?_ (by assumption))); first | done | fail)⟩
          case measure => simp [intOf]; omega
        · obtain rfl : m = mo := by omega
          have b1 : ¬ (m : Int) < (m : Int) := by omega
          obtain rfl : a = E := H2.out.trans hEm.symm
          clear hx hEm
          go_wp2_with fail
          go_ret
          exact ⟨rfl, HW.out.trans (HX5.out.trans (by (repeat (first | assumption | exact Ext.refl _ | apply Ext.drew | apply Ext.drewN | apply Ext.alloc | refine Ext.trans ?_ (by assumption))); first | done | fail))⟩
end Go.Proofs.Ytfipgmjaabggjaa
