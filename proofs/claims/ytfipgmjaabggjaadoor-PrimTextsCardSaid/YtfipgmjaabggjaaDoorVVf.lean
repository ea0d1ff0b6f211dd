/-
  prim: Count.
-/
import Derived.Test.YtfipgmjaabggjaaDoorVVb
namespace Go.Proofs.YtfipgmjaabggjaaDoor
open Go Go.RowKit
set_option maxRecDepth 4000

theorem mdN_hi (y m : Nat) : mdN y m ≤ 31 * m := by
  induction m with
  | zero => exact Nat.le_refl _
  | succ m ih => rw [mdN]; have := dim_hi y (m + 1); omega
theorem box6' {w w' : World} {g t : Nat} {a b c d e f : Value} (h : Blk w g t #[a, b, c, d, e, f]) (hx : Ext w w') : w'.cell? ⟨g, 0, none⟩ = some a ∧ w'.cell? ⟨g, 1, none⟩ = some b ∧ w'.cell? ⟨g, 2, none⟩ = some c ∧ w'.cell? ⟨g, 3, none⟩ = some d ∧ w'.cell? ⟨g, 4, none⟩ = some e ∧ w'.cell? ⟨g, 5, none⟩ = some f := ⟨(h.ext hx).h.cell 0, (h.ext hx).h.cell 1, (h.ext hx).h.cell 2, (h.ext hx).h.cell 3, (h.ext hx).h.cell 4, (h.ext hx).h.cell 5⟩
set_option maxHeartbeats 2000000 in
theorem Count_no (y mo d h mi s : Int) (w : World) (hM : ¬ MayI y mo d h mi s) : Calls Tryd.prog 27 #[.agg (tci y mo d h mi s)] w fun e w' => e = .returned (.tuple #[.int .i64 0, err 1]) ∧ Ext w w' := by
  have hC := fun W => isTime_any y mo d h mi s W false (by simp [hM])
  unfold tci at *
  clear hM
  go_enter Tryd.func27, Tryd.ntmps27
  go_wp2_with fail
  refine (hC _).mono ?_
  rintro e w1 ⟨rfl, hx1⟩
  have HX := Kp.mk (show Ext w w1 from (by (repeat (first | assumption | exact Ext.refl _ | apply Ext.drew | apply Ext.drewN | apply Ext.alloc | refine Ext.trans ?_ (by assumption))); first | done | fail))
  clear hx1
  go_wp2_with fail
  go_ret2
  exact ⟨rfl, HX.out⟩
set_option maxHeartbeats 4000000 in
theorem Count_ok (t : Tmt) (ht : MayT t) (w : World) : Calls Tryd.prog 27 #[.agg (tcs t)] w fun e w' => e = .returned (.tuple #[.int .i64 (cntT t : Int), .nilIface]) ∧ Ext w w' := by
  have hC := fun W => isTime_any t.y t.mo t.d t.h t.mi t.s W true (by simp; exact ⟨t, ht, rfl, rfl, rfl, rfl, rfl, rfl⟩)
  have hA := fun W => daysAhead_any (t.y - 1) (by have := ht.y2; omega) W
  rw [show t.y - 1 + 1 = t.y by have := ht.y1; omega] at hA
  have hD := Kp.mk (fun m hm W => daysOf_any t.y m hm W)
  have q1 := ht.y1
  have q2 := ht.y2
  have q3 := ht.m1
  have q4 := ht.m2
  have q5 := ht.d1
  have q6 := ht.d2
  have q7 := ht.h2
  have q8 := ht.i2
  have q9 := ht.s2
  have q0 := dim_hi t.y t.mo
  have hyd : ydN (t.y - 1) ≤ 3652059 := by
    have h1 := ydN_mono (show t.y - 1 ≤ 9999 by omega)
    have := ydN_eq 9999
    omega
  have hm12 := mdN_hi t.y (t.mo - 1)
  have hcnt : (ydN (t.y - 1) + t.d - 1 + mdN t.y (t.mo - 1)) * 86400 + ((t.h * 60 + t.mi) * 60 + t.s) = cntT t := by
    unfold cntT dayT
    have : ydN (t.y - 1) + t.d - 1 + mdN t.y (t.mo - 1) = ydN (t.y - 1) + mdN t.y (t.mo - 1) + (t.d - 1) := by omega
    rw [this]
    omega
  have hmd := fun m => dim_hi t.y m
  have hms : ∀ m, mdN t.y (m + 1) = mdN t.y m + dimM t.y (m + 1) := fun m => rfl
  have hm0 : mdN t.y 0 = 0 := rfl
  have hmh := fun m => mdN_hi t.y m
  have hDd := fun m => daysOf_any t.y m
  clear ht
  unfold tcs
  obtain ⟨y, mo, d, h, mi, s⟩ := t
  simp only at *
  generalize cntT _ = C at *
  generalize ydN (y - 1) = Y0 at *
  generalize mdN y = F at *
  generalize dimM y = G at *
  unfold tci at *
  have e1 : IntKind.i64.wrap ((Y0 : Int) + (d : Int)) = ((Y0 + d : Nat) : Int) := by rw [IntKind.wrap_i64]; omega
  have e2 : IntKind.i64.wrap (((Y0 + d : Nat) : Int) - 1) = ((Y0 + d - 1 : Nat) : Int) := by rw [IntKind.wrap_i64]; omega
  have e3 : IntKind.i64.wrap ((h : Int) * 60) = ((h * 60 : Nat) : Int) := by rw [IntKind.wrap_i64]; omega
  have e4 : IntKind.i64.wrap (((h * 60 : Nat) : Int) + (mi : Int)) = ((h * 60 + mi : Nat) : Int) := by rw [IntKind.wrap_i64]; omega
  have e5 : IntKind.i64.wrap (((h * 60 + mi : Nat) : Int) * 60) = (((h * 60 + mi) * 60 : Nat) : Int) := by rw [IntKind.wrap_i64]; omega
  have e6 : IntKind.i64.wrap ((((h * 60 + mi) * 60 : Nat) : Int) + (s : Int)) = (((h * 60 + mi) * 60 + s : Nat) : Int) := by rw [IntKind.wrap_i64]; omega
  have e7 : IntKind.i64.wrap (((Y0 + d - 1 + F (mo - 1) : Nat) : Int) * 86400) = (((Y0 + d - 1 + F (mo - 1)) * 86400 : Nat) : Int) := by rw [IntKind.wrap_i64]; omega
  have e8 : IntKind.i64.wrap ((((Y0 + d - 1 + F (mo - 1)) * 86400 : Nat) : Int) + (((h * 60 + mi) * 60 + s : Nat) : Int)) = (C : Int) := by rw [IntKind.wrap_i64]; omega
  generalize (Y0 + d - 1 + F (mo - 1)) * 86400 = z7 at *
  generalize (h * 60 + mi) * 60 + s = z6 at *
  generalize (h * 60 + mi) * 60 = z5 at *
  generalize h * 60 + mi = z4 at *
  generalize h * 60 = z3 at *
  have hz0 : Y0 + d - 1 ≤ 3652100 := by omega
  generalize hz1 : Y0 + d - 1 = z1 at *
  generalize hz2 : Y0 + d = z2 at *
  have HB := Kp.mk (Blk.new w tmt #[.int .i64 (y : Int), .int .i64 (mo : Int), .int .i64 (d : Int), .int .i64 (h : Int), .int .i64 (mi : Int), .int .i64 (s : Int)])
  have HF := Kp.mk (And.intro hm0 (And.intro hms (And.intro hmd hmh)))
  have HQ := Kp.mk (And.intro q3 q4)
  have HE := Kp.mk hDd
  clear hms hmd hmh hDd hm0 q1 q2 q3 q4 q5 q6 q7 q8 q9 q0 hyd hm12 hcnt hz1 hz2
  go_enter Tryd.func27, Tryd.ntmps27
  go_wp2_with fail
  refine (hC _).mono ?_
  rintro e w1 ⟨rfl, hx1⟩
  obtain ⟨W0, hW0⟩ : ∃ W0, W0 = w.alloc (.cells #[.int .i64 (y : Int), .int .i64 (mo : Int), .int .i64 (d : Int), .int .i64 (h : Int), .int .i64 (mi : Int), .int .i64 (s : Int)] tmt) := ⟨_, rfl⟩
  have hxw : Ext w W0 := by rw [hW0]; exact (by (repeat (first | assumption | exact Ext.refl _ | apply Ext.drew | apply Ext.drewN | apply Ext.alloc | refine Ext.trans ?_ (by assumption))); first | done | fail)
  rw [← hW0] at hx1 HB
  clear hC hW0
  obtain ⟨c0, k1, k2, k3, k4, k5⟩ := box6' HB.out hx1
  have HX := Kp.mk hx1
  have HW := Kp.mk hxw
  clear hx1 hxw
  go_wp2_with fail
  go_quiet (first | (go_at_call 55; exact Calls.quiet_of_same (hA _)) | fail)
  go_wp2_with fail
  have HX2 := Kp.mk (show Ext W0 (w1.drewN nq) from HX.out.trans (by (repeat (first | assumption | exact Ext.refl _ | apply Ext.drew | apply Ext.drewN | apply Ext.alloc | refine Ext.trans ?_ (by assumption))); first | done | fail))
  clear c0 k1 k2 k3 k4 k5 e1 e2 hA
  go_loopw [4, 5] (fun v i wr => ∃ m D : Nat, 1 ≤ m ∧ m ≤ mo ∧ D = z1 + F (m - 1) ∧ i = .int .i64 (m : Int) ∧ v = .int .i64 (D : Int) ∧ Ext W0 wr) (fun _ i _ => mo - (intOf i).toNat)
  case atStart => exact ⟨1, z1, by omega, HQ.out.1, by rw [show 1 - 1 = 0 from rfl, HF.out.1]; rfl, rfl, rfl, HX2.out⟩
  case round =>
    obtain ⟨m, D, hm1, hm, hDm, rfl, rfl, hx⟩ := hrel
    obtain ⟨c0, k1, k2, k3, k4, k5⟩ := box6' HB.out hx
    have HX3 := Kp.mk hx
    by_cases hlt : m < mo
    · have b1 : (m : Int) < (mo : Int) := by omega
      have hC := HE.out m ⟨hm1, by have := HQ.out.2; omega⟩
      have f1 := HF.out.2.1 (m - 1)
      rw [show m - 1 + 1 = m by omega] at f1
      have f2 := HF.out.2.2.1 m
      have f3 := HF.out.2.2.2 (m - 1)
      have s1 : IntKind.i64.wrap ((D : Int) + (G m : Int)) = ((D + G m : Nat) : Int) := by have := HQ.out.2; rw [IntKind.wrap_i64]; omega
      have s2 : IntKind.i64.wrap ((m : Int) + 1) = (m : Int) + 1 := by have := HQ.out.2; rw [IntKind.wrap_i64]; omega
      have HR := Kp.mk (show D + G m = z1 + F (m + 1 - 1) by rw [Nat.add_sub_cancel, f1, hDm]; omega)
      generalize D + G m = D2 at *
      generalize G m = gm at *
      clear f1 f2 f3 hx hDm
      go_wp2_with (go_at_call 56; refine (hC _).mono ?_; rintro e w3 ⟨rfl, hw⟩; obtain rfl : wr = w3 := hw.symm)
      go_roundw
      case rel => exact ⟨m + 1, D2, by omega, by omega, HR.out, by go_num, rfl, HX3.out.trans (by (repeat (first | assumption | exact Ext.refl _ | apply Ext.drew | apply Ext.drewN | apply Ext.alloc | refine Ext.trans ?_ (by assumption))); first | done | fail)⟩
      case measure => simp [intOf]; omega
    · obtain rfl : m = mo := by omega
      have b1 : ¬ (m : Int) < (m : Int) := by omega
      rw [← hDm] at e7
      clear hx hDm
      go_wp2_with fail
      go_ret2
      exact ⟨rfl, HW.out.trans (HX3.out.trans (by (repeat (first | assumption | exact Ext.refl _ | apply Ext.drew | apply Ext.drewN | apply Ext.alloc | refine Ext.trans ?_ (by assumption))); first | done | fail))⟩
end Go.Proofs.YtfipgmjaabggjaaDoor
