/-
  The walk of the law NatInvs.
-/
import Derived.Test.YtpmoaccaknfodaaQh
namespace Go.Proofs.Ytpmoaccaknfodaa
open Go Go.RowKit

theorem InvVlong {w : World} {A B : Option Addr} {n c m d va vb : Nat} (ha : Nv w A n c va) (hb : Nv w B m d vb) (h : lng va ∨ lng vb) : Calls Try.prog 29 #[.slice A n c, .slice B m d] w (Bad1 w 4) := by
  obtain ⟨a, ha, rfl⟩ := ha
  obtain ⟨b, hb, rfl⟩ := hb
  exact Inv_long ha hb h
theorem gcd_mod (m a : Nat) : Nat.gcd m (a % m) = Nat.gcd m a := by rw [Nat.gcd_comm, ← Nat.gcd_rec]
theorem one_dg {v : Nat} (h : (dgs 65536 v).length = 1) : dg (dgs 65536 v) 0 = v := by
  have h1 := vl_take_all 65536 (dgs 65536 v) 1 (by omega)
  rw [show (1 : Nat) = 0 + 1 from rfl, vl_take_succ, vl_dgs (by decide)] at h1
  simpa [vl] using h1
/-- Euclid's way ends -/
theorem Eu.ends {a m : Nat} (hm : 2 ≤ m) (hg : Nat.gcd m a = 1) : ∀ (y x p q : Nat) (s : Bool), Eu a m x y p q s → ∃ v, v < m ∧ v * a % m = 1 := by
  intro y
  induction y using Nat.strongRecOn with
  | _ y ih =>
    intro x p q s h
    rcases Nat.eq_zero_or_pos y with hy | hy
    · subst hy
      have h1 := h.last
      rw [hg] at h1
      subst h1
      exact ⟨_, h.one hm⟩
    · exact ih (x % y) (Nat.mod_lt x hy) y q _ _ (h.next hy)
theorem invN_spec {a m : Nat} (hm : 2 ≤ m) (hg : Nat.gcd m a = 1) : invN a m < m ∧ invN a m * a % m = 1 := by
  obtain ⟨v, h1, h2⟩ := Eu.ends hm hg a m 0 1 true (Eu.start hm)
  have e := invN_eq h1 h2
  rw [← e]
  exact ⟨h1, h2⟩
set_option maxHeartbeats 8000000 in
set_option maxRecDepth 100000 in
theorem NatInvs_any {a m : List Nat} {Aa Am : Option Addr} {na nm ca cm : Nat} {w : World} (ha : Rd vL w Aa na ca a) (hm : Rd vL w Am nm cm m) (da : Dg BB a) (dm : Dg BB m) :
    Calls Try.prog 8 #[.slice Aa na ca, .slice Am nm cm] w fun e w' => e = .returned (.bool true) ∧ Below w.heap.size w w' := by
  have HU := Kp.mk (up_any w)
  have La := Kp.mk (fun u => light_any (A := Aa) (n := na) (c := ca) (w := u))
  have Lm := Kp.mk (fun u => light_any (A := Am) (n := nm) (c := cm) (w := u))
  rcases light_cases na nm with ⟨hna, hnm⟩ | hna | ⟨hna, hnm⟩
  · rw [decide_eq_true hna] at La
    have Na := Kp.mk (Nv.small ha da (by omega))
    have la := Kp.mk (Nat.lt_of_lt_of_le (vl_len ha da) (Nat.pow_le_pow_right (n := BB) (by decide) hna))
    rw [decide_eq_true hnm] at Lm
    have Nm := Kp.mk (Nv.small hm dm (by omega))
    have lm := Kp.mk (Nat.lt_of_lt_of_le (vl_len hm dm) (Nat.pow_le_pow_right (n := BB) (by decide) hnm))
    generalize vl BB a = va at *
    generalize vl BB m = vm at *
    clear ha da hm dm
    by_cases ga : lng va
    · have Ga := Kp.mk ga
      clear ga
      have ee := code_eq 4 4
      go_enter Try.func8, Try.ntmps8
      go_wp2_with fail
      refine (HU.out).mono ?_
      rintro e w1 ⟨rfl, x1⟩
      go_wp2_with fail
      refine (La.out _).mono ?_
      rintro e u1 ⟨rfl, rfl⟩
      go_wp2_with fail
      refine (Lm.out _).mono ?_
      rintro e u1 ⟨rfl, rfl⟩
      go_wp2_with fail
      refine (InvVlong (Na.out.ext (by (repeat (first | assumption | exact Ext.refl _ | apply Ext.drew | apply Ext.drewN | apply Ext.alloc | refine Ext.trans ?_ (by assumption))); first | done | fail)) (Nm.out.ext (by (repeat (first | assumption | exact Ext.refl _ | apply Ext.drew | apply Ext.drewN | apply Ext.alloc | refine Ext.trans ?_ (by assumption))); first | done | fail)) (.inl Ga.out)).mono ?_
      rintro e w2 ⟨rfl, x2⟩
      go_wp2_with fail
      refine (MayV (Na.out.ext (by (repeat (first | assumption | exact Ext.refl _ | apply Ext.drew | apply Ext.drewN | apply Ext.alloc | refine Ext.trans ?_ (by assumption))); first | done | fail)) false (by simp [Ga.out])).mono ?_
      rintro e w3 ⟨rfl, x3⟩
      have HX := Kp.mk (show Ext w w3 from (by (repeat (first | assumption | exact Ext.refl _ | apply Ext.drew | apply Ext.drewN | apply Ext.alloc | refine Ext.trans ?_ (by assumption))); first | done | fail))
      clear x1 x2 x3
      go_wp2_with fail
      go_ret
      exact ⟨rfl, HX.out.b⟩
    · by_cases gm : lng vm
      · have Ga := Kp.mk ga
        clear ga
        have Gm := Kp.mk gm
        clear gm
        have ee := code_eq 4 4
        go_enter Try.func8, Try.ntmps8
        go_wp2_with fail
        refine (HU.out).mono ?_
        rintro e w1 ⟨rfl, x1⟩
        go_wp2_with fail
        refine (La.out _).mono ?_
        rintro e u1 ⟨rfl, rfl⟩
        go_wp2_with fail
        refine (Lm.out _).mono ?_
        rintro e u1 ⟨rfl, rfl⟩
        go_wp2_with fail
        refine (InvVlong (Na.out.ext (by (repeat (first | assumption | exact Ext.refl _ | apply Ext.drew | apply Ext.drewN | apply Ext.alloc | refine Ext.trans ?_ (by assumption))); first | done | fail)) (Nm.out.ext (by (repeat (first | assumption | exact Ext.refl _ | apply Ext.drew | apply Ext.drewN | apply Ext.alloc | refine Ext.trans ?_ (by assumption))); first | done | fail)) (.inr Gm.out)).mono ?_
        rintro e w2 ⟨rfl, x2⟩
        go_wp2_with fail
        refine (MayV (Na.out.ext (by (repeat (first | assumption | exact Ext.refl _ | apply Ext.drew | apply Ext.drewN | apply Ext.alloc | refine Ext.trans ?_ (by assumption))); first | done | fail)) true (by simp [Ga.out])).mono ?_
        rintro e w3 ⟨rfl, x3⟩
        go_wp2_with fail
        refine (MayV (Nm.out.ext (by (repeat (first | assumption | exact Ext.refl _ | apply Ext.drew | apply Ext.drewN | apply Ext.alloc | refine Ext.trans ?_ (by assumption))); first | done | fail)) false (by simp [Gm.out])).mono ?_
        rintro e w4 ⟨rfl, x4⟩
        have HX := Kp.mk (show Ext w w4 from (by (repeat (first | assumption | exact Ext.refl _ | apply Ext.drew | apply Ext.drewN | apply Ext.alloc | refine Ext.trans ?_ (by assumption))); first | done | fail))
        clear x1 x2 x3 x4
        go_wp2_with fail
        go_ret
        exact ⟨rfl, HX.out.b⟩
      · by_cases h2 : vm < 2
        · have H2 := Kp.mk h2
          clear h2
          have Ga := Kp.mk ga
          clear ga
          have Gm := Kp.mk gm
          clear gm
          have ee := code_eq 1 1
          go_enter Try.func8, Try.ntmps8
          go_wp2_with fail
          refine (HU.out).mono ?_
          rintro e w1 ⟨rfl, x1⟩
          go_wp2_with fail
          refine (La.out _).mono ?_
          rintro e u1 ⟨rfl, rfl⟩
          go_wp2_with fail
          refine (Lm.out _).mono ?_
          rintro e u1 ⟨rfl, rfl⟩
          go_wp2_with fail
          refine (InvVlow (Na.out.ext (by (repeat (first | assumption | exact Ext.refl _ | apply Ext.drew | apply Ext.drewN | apply Ext.alloc | refine Ext.trans ?_ (by assumption))); first | done | fail)) (Nm.out.ext (by (repeat (first | assumption | exact Ext.refl _ | apply Ext.drew | apply Ext.drewN | apply Ext.alloc | refine Ext.trans ?_ (by assumption))); first | done | fail)) Ga.out Gm.out H2.out).mono ?_
          rintro e w2 ⟨rfl, x2⟩
          go_wp2_with fail
          refine (MayV (Na.out.ext (by (repeat (first | assumption | exact Ext.refl _ | apply Ext.drew | apply Ext.drewN | apply Ext.alloc | refine Ext.trans ?_ (by assumption))); first | done | fail)) true (by simp [Ga.out])).mono ?_
          rintro e w3 ⟨rfl, x3⟩
          go_wp2_with fail
          refine (MayV (Nm.out.ext (by (repeat (first | assumption | exact Ext.refl _ | apply Ext.drew | apply Ext.drewN | apply Ext.alloc | refine Ext.trans ?_ (by assumption))); first | done | fail)) true (by simp [Gm.out])).mono ?_
          rintro e w4 ⟨rfl, x4⟩
          go_wp2_with fail
          refine (OfV (Nm.out.ext (by (repeat (first | assumption | exact Ext.refl _ | apply Ext.drew | apply Ext.drewN | apply Ext.alloc | refine Ext.trans ?_ (by assumption))); first | done | fail))).mono ?_
          rintro e w5 ⟨A5, n5, c5, rfl, r5, _, x5⟩
          have I5 := Kp.mk r5
          have J5 := Kp.mk (Ni.of r5 lm.out (by decide))
          clear r5
          go_wp2_with fail
          have I2 : Ni (w5.alloc (.cells #[.int .i64 (2 : Int)] it)) (some ⟨w5.heap.size, 0, none⟩) 1 1 2 := ⟨by rw [← one_dgs (d := 2) (by decide) (by decide)]; exact lit1 w5 2 _ rfl, by omega⟩
          refine (RCmpV (J5.out.ext (by (repeat (first | assumption | exact Ext.refl _ | apply Ext.drew | apply Ext.drewN | apply Ext.alloc | refine Ext.trans ?_ (by assumption))); first | done | fail)) I2 (-1) (cmpI_lt H2.out)).mono ?_
          clear I2
          rintro e w6 ⟨rfl, x6'⟩
          have x6 : Ext w5 w6 := (show Ext w5 (w5.alloc (.cells #[.int .i64 (2 : Int)] it)) from (by (repeat (first | assumption | exact Ext.refl _ | apply Ext.drew | apply Ext.drewN | apply Ext.alloc | refine Ext.trans ?_ (by assumption))); first | done | fail)).trans x6'
          clear x6'
          have HX := Kp.mk (show Ext w w6 from (by (repeat (first | assumption | exact Ext.refl _ | apply Ext.drew | apply Ext.drewN | apply Ext.alloc | refine Ext.trans ?_ (by assumption))); first | done | fail))
          clear x1 x2 x3 x4 x5 x6
          go_wp2_with fail
          go_ret
          exact ⟨rfl, HX.out.b⟩
        · have H2 := Kp.mk (Nat.le_of_not_lt h2)
          clear h2
          by_cases hg : Nat.gcd vm va = 1
          · have HG := Kp.mk hg
            have hv := invN_spec H2.out hg
            have lv := Kp.mk (Nat.lt_trans hv.1 lm.out)
            have HV := Kp.mk hv
            have SV := Kp.mk (fun h : lng (invN va vm) => gm (Nat.lt_of_lt_of_le h (nl_mono (Nat.le_of_lt hv.1))))
            clear hg hv
            have Ga := Kp.mk ga
            clear ga
            have Gm := Kp.mk gm
            clear gm
            obtain ⟨z, hz, hz0⟩ : ∃ z, cmpI vm 2 = z ∧ ¬ z < 0 := ⟨_, rfl, cmpI_ge H2.out⟩
            have HZ := Kp.mk hz
            have hm0 : vm ≠ 0 := by have := H2.out; omega
            clear hz
            go_enter Try.func8, Try.ntmps8
            go_wp2_with fail
            refine (HU.out).mono ?_
            rintro e w1 ⟨rfl, x1⟩
            go_wp2_with fail
            refine (La.out _).mono ?_
            rintro e u1 ⟨rfl, rfl⟩
            go_wp2_with fail
            refine (Lm.out _).mono ?_
            rintro e u1 ⟨rfl, rfl⟩
            go_wp2_with fail
            refine (InvV (Na.out.ext (by (repeat (first | assumption | exact Ext.refl _ | apply Ext.drew | apply Ext.drewN | apply Ext.alloc | refine Ext.trans ?_ (by assumption))); first | done | fail)) (Nm.out.ext (by (repeat (first | assumption | exact Ext.refl _ | apply Ext.drew | apply Ext.drewN | apply Ext.alloc | refine Ext.trans ?_ (by assumption))); first | done | fail)) Ga.out Gm.out H2.out).mono ?_
            rintro e w2 (⟨hg2, A2, n2, c2, rfl, o2, x2⟩ | ⟨hg2, rfl, x2⟩)
            rotate_left
            · exact absurd HG.out hg2
            have R2 := Kp.mk o2
            clear o2 hg2
            go_wp2_with fail
            refine (MayV (Na.out.ext (by (repeat (first | assumption | exact Ext.refl _ | apply Ext.drew | apply Ext.drewN | apply Ext.alloc | refine Ext.trans ?_ (by assumption))); first | done | fail)) true (by simp [Ga.out])).mono ?_
            rintro e w3 ⟨rfl, x3⟩
            go_wp2_with fail
            refine (MayV (Nm.out.ext (by (repeat (first | assumption | exact Ext.refl _ | apply Ext.drew | apply Ext.drewN | apply Ext.alloc | refine Ext.trans ?_ (by assumption))); first | done | fail)) true (by simp [Gm.out])).mono ?_
            rintro e w4 ⟨rfl, x4⟩
            go_wp2_with fail
            refine (OfV (Nm.out.ext (by (repeat (first | assumption | exact Ext.refl _ | apply Ext.drew | apply Ext.drewN | apply Ext.alloc | refine Ext.trans ?_ (by assumption))); first | done | fail))).mono ?_
            rintro e w5 ⟨A5, n5, c5, rfl, r5, _, x5⟩
            have I5 := Kp.mk r5
            have J5 := Kp.mk (Ni.of r5 lm.out (by decide))
            clear r5
            go_wp2_with fail
            have I2 : Ni (w5.alloc (.cells #[.int .i64 (2 : Int)] it)) (some ⟨w5.heap.size, 0, none⟩) 1 1 2 := ⟨by rw [← one_dgs (d := 2) (by decide) (by decide)]; exact lit1 w5 2 _ rfl, by omega⟩
            refine (RCmpV (J5.out.ext (by (repeat (first | assumption | exact Ext.refl _ | apply Ext.drew | apply Ext.drewN | apply Ext.alloc | refine Ext.trans ?_ (by assumption))); first | done | fail)) I2 z HZ.out).mono ?_
            clear I2
            rintro e w6 ⟨rfl, x6'⟩
            have x6 : Ext w5 w6 := (show Ext w5 (w5.alloc (.cells #[.int .i64 (2 : Int)] it)) from (by (repeat (first | assumption | exact Ext.refl _ | apply Ext.drew | apply Ext.drewN | apply Ext.alloc | refine Ext.trans ?_ (by assumption))); first | done | fail)).trans x6'
            clear x6'
            go_wp2_with fail
            refine (OfV (Na.out.ext (by (repeat (first | assumption | exact Ext.refl _ | apply Ext.drew | apply Ext.drewN | apply Ext.alloc | refine Ext.trans ?_ (by assumption))); first | done | fail))).mono ?_
            rintro e w7 ⟨A7, n7, c7, rfl, r7, _, x7⟩
            have I7 := Kp.mk r7
            clear r7
            go_wp2_with fail
            refine (RRestV (I7.out.ext (by (repeat (first | assumption | exact Ext.refl _ | apply Ext.drew | apply Ext.drewN | apply Ext.alloc | refine Ext.trans ?_ (by assumption))); first | done | fail)) (I5.out.ext (by (repeat (first | assumption | exact Ext.refl _ | apply Ext.drew | apply Ext.drewN | apply Ext.alloc | refine Ext.trans ?_ (by assumption))); first | done | fail)) la.out lm.out (by decide) (by decide) hm0).mono ?_
            rintro e w8 ⟨A8, n8, c8, rfl, r8, _, x8⟩
            have I8 := Kp.mk r8
            clear r8
            go_wp2_with fail
            refine (RGcdV (I5.out.ext (by (repeat (first | assumption | exact Ext.refl _ | apply Ext.drew | apply Ext.drewN | apply Ext.alloc | refine Ext.trans ?_ (by assumption))); first | done | fail)) (I8.out.ext (by (repeat (first | assumption | exact Ext.refl _ | apply Ext.drew | apply Ext.drewN | apply Ext.alloc | refine Ext.trans ?_ (by assumption))); first | done | fail)) lm.out (Nat.lt_of_le_of_lt (Nat.mod_le _ _) la.out) (by decide) (by decide)).mono ?_
            rintro e w9 ⟨A9, n9, c9, rfl, r9, x9⟩
            rw [gcd_mod] at r9
            rw [HG.out, ← one_dgs (d := 1) (by decide) (by decide)] at r9
            obtain rfl : n9 = 1 := r9.len.symm
            obtain ⟨g9, o9, rfl⟩ := r9.some_ (by omega)
            have k9 := r9.dig 0 (by omega)
            unfold vI at k9
            rw [show dg [1] 0 = 1 from rfl, Nat.add_zero] at k9
            clear r9
            go_wp2_with fail
            refine (OfV (Nv.of R2.out SV.out |>.ext (by (repeat (first | assumption | exact Ext.refl _ | apply Ext.drew | apply Ext.drewN | apply Ext.alloc | refine Ext.trans ?_ (by assumption))); first | done | fail))).mono ?_
            rintro e w10 ⟨A10, n10, c10, rfl, r10, _, x10⟩
            have I10 := Kp.mk r10
            have J10 := Kp.mk (Ni.of r10 lv.out (by decide))
            clear r10
            go_wp2_with fail
            refine (RMulV (J10.out.ext (by (repeat (first | assumption | exact Ext.refl _ | apply Ext.drew | apply Ext.drewN | apply Ext.alloc | refine Ext.trans ?_ (by assumption))); first | done | fail)) (Ni.of (I7.out.ext (by (repeat (first | assumption | exact Ext.refl _ | apply Ext.drew | apply Ext.drewN | apply Ext.alloc | refine Ext.trans ?_ (by assumption))); first | done | fail)) la.out (by decide))).mono ?_
            rintro e w11 ⟨A11, n11, c11, rfl, r11, _, x11⟩
            have I11 := Kp.mk r11
            clear r11
            go_wp2_with fail
            refine (RRestV (I11.out.ext (by (repeat (first | assumption | exact Ext.refl _ | apply Ext.drew | apply Ext.drewN | apply Ext.alloc | refine Ext.trans ?_ (by assumption))); first | done | fail)) (I5.out.ext (by (repeat (first | assumption | exact Ext.refl _ | apply Ext.drew | apply Ext.drewN | apply Ext.alloc | refine Ext.trans ?_ (by assumption))); first | done | fail)) (lt_mul lv.out la.out (Nat.le_refl _)) lm.out (by decide) (by decide) hm0).mono ?_
            rintro e w12 ⟨A12, n12, c12, rfl, r12, _, x12⟩
            rw [HV.out.2, ← one_dgs (d := 1) (by decide) (by decide)] at r12
            obtain rfl : n12 = 1 := r12.len.symm
            obtain ⟨g12, o12, rfl⟩ := r12.some_ (by omega)
            have I12 := Kp.mk r12
            clear r12
            go_wp2_with fail
            refine (SameV ((R2.out.rd).ext (by (repeat (first | assumption | exact Ext.refl _ | apply Ext.drew | apply Ext.drewN | apply Ext.alloc | refine Ext.trans ?_ (by assumption))); first | done | fail)) (J10.out.ext (by (repeat (first | assumption | exact Ext.refl _ | apply Ext.drew | apply Ext.drewN | apply Ext.alloc | refine Ext.trans ?_ (by assumption))); first | done | fail))).mono ?_
            rintro e w13 ⟨rfl, x13⟩
            go_wp2_with fail
            refine (RCmpV (J10.out.ext (by (repeat (first | assumption | exact Ext.refl _ | apply Ext.drew | apply Ext.drewN | apply Ext.alloc | refine Ext.trans ?_ (by assumption))); first | done | fail)) (J5.out.ext (by (repeat (first | assumption | exact Ext.refl _ | apply Ext.drew | apply Ext.drewN | apply Ext.alloc | refine Ext.trans ?_ (by assumption))); first | done | fail)) (-1) (cmpI_lt HV.out.1)).mono ?_
            rintro e w14 ⟨rfl, x14⟩
            have k12 := (I12.out.ext (show Ext w12 w14 from (by (repeat (first | assumption | exact Ext.refl _ | apply Ext.drew | apply Ext.drewN | apply Ext.alloc | refine Ext.trans ?_ (by assumption))); first | done | fail))).dig 0 (by omega)
            unfold vI at k12
            rw [show dg [1] 0 = 1 from rfl, Nat.add_zero] at k12
            have HX := Kp.mk (show Ext w w14 from (by (repeat (first | assumption | exact Ext.refl _ | apply Ext.drew | apply Ext.drewN | apply Ext.alloc | refine Ext.trans ?_ (by assumption))); first | done | fail))
            clear x1 x2 x3 x4 x5 x6 x7 x8 x9 x10 x11 x12 x13 x14
            go_wp2_with fail
            go_ret
            exact ⟨rfl, HX.out.b⟩
          · have HG := Kp.mk hg
            clear hg
            have Ga := Kp.mk ga
            clear ga
            have Gm := Kp.mk gm
            clear gm
            have ee := code_eq 13 13
            obtain ⟨z, hz, hz0⟩ : ∃ z, cmpI vm 2 = z ∧ ¬ z < 0 := ⟨_, rfl, cmpI_ge H2.out⟩
            have HZ := Kp.mk hz
            have hm0 : vm ≠ 0 := by have := H2.out; omega
            clear hz
            go_enter Try.func8, Try.ntmps8
            go_wp2_with fail
            refine (HU.out).mono ?_
            rintro e w1 ⟨rfl, x1⟩
            go_wp2_with fail
            refine (La.out _).mono ?_
            rintro e u1 ⟨rfl, rfl⟩
            go_wp2_with fail
            refine (Lm.out _).mono ?_
            rintro e u1 ⟨rfl, rfl⟩
            go_wp2_with fail
            refine (InvV (Na.out.ext (by (repeat (first | assumption | exact Ext.refl _ | apply Ext.drew | apply Ext.drewN | apply Ext.alloc | refine Ext.trans ?_ (by assumption))); first | done | fail)) (Nm.out.ext (by (repeat (first | assumption | exact Ext.refl _ | apply Ext.drew | apply Ext.drewN | apply Ext.alloc | refine Ext.trans ?_ (by assumption))); first | done | fail)) Ga.out Gm.out H2.out).mono ?_
            rintro e w2 (⟨hg2, A2, n2, c2, rfl, o2, x2⟩ | ⟨hg2, rfl, x2⟩)
            · exact absurd hg2 HG.out
            clear hg2
            go_wp2_with fail
            refine (MayV (Na.out.ext (by (repeat (first | assumption | exact Ext.refl _ | apply Ext.drew | apply Ext.drewN | apply Ext.alloc | refine Ext.trans ?_ (by assumption))); first | done | fail)) true (by simp [Ga.out])).mono ?_
            rintro e w3 ⟨rfl, x3⟩
            go_wp2_with fail
            refine (MayV (Nm.out.ext (by (repeat (first | assumption | exact Ext.refl _ | apply Ext.drew | apply Ext.drewN | apply Ext.alloc | refine Ext.trans ?_ (by assumption))); first | done | fail)) true (by simp [Gm.out])).mono ?_
            rintro e w4 ⟨rfl, x4⟩
            go_wp2_with fail
            refine (OfV (Nm.out.ext (by (repeat (first | assumption | exact Ext.refl _ | apply Ext.drew | apply Ext.drewN | apply Ext.alloc | refine Ext.trans ?_ (by assumption))); first | done | fail))).mono ?_
            rintro e w5 ⟨A5, n5, c5, rfl, r5, _, x5⟩
            have I5 := Kp.mk r5
            have J5 := Kp.mk (Ni.of r5 lm.out (by decide))
            clear r5
            go_wp2_with fail
            have I2 : Ni (w5.alloc (.cells #[.int .i64 (2 : Int)] it)) (some ⟨w5.heap.size, 0, none⟩) 1 1 2 := ⟨by rw [← one_dgs (d := 2) (by decide) (by decide)]; exact lit1 w5 2 _ rfl, by omega⟩
            refine (RCmpV (J5.out.ext (by (repeat (first | assumption | exact Ext.refl _ | apply Ext.drew | apply Ext.drewN | apply Ext.alloc | refine Ext.trans ?_ (by assumption))); first | done | fail)) I2 z HZ.out).mono ?_
            clear I2
            rintro e w6 ⟨rfl, x6'⟩
            have x6 : Ext w5 w6 := (show Ext w5 (w5.alloc (.cells #[.int .i64 (2 : Int)] it)) from (by (repeat (first | assumption | exact Ext.refl _ | apply Ext.drew | apply Ext.drewN | apply Ext.alloc | refine Ext.trans ?_ (by assumption))); first | done | fail)).trans x6'
            clear x6'
            go_wp2_with fail
            refine (OfV (Na.out.ext (by (repeat (first | assumption | exact Ext.refl _ | apply Ext.drew | apply Ext.drewN | apply Ext.alloc | refine Ext.trans ?_ (by assumption))); first | done | fail))).mono ?_
            rintro e w7 ⟨A7, n7, c7, rfl, r7, _, x7⟩
            have I7 := Kp.mk r7
            clear r7
            go_wp2_with fail
            refine (RRestV (I7.out.ext (by (repeat (first | assumption | exact Ext.refl _ | apply Ext.drew | apply Ext.drewN | apply Ext.alloc | refine Ext.trans ?_ (by assumption))); first | done | fail)) (I5.out.ext (by (repeat (first | assumption | exact Ext.refl _ | apply Ext.drew | apply Ext.drewN | apply Ext.alloc | refine Ext.trans ?_ (by assumption))); first | done | fail)) la.out lm.out (by decide) (by decide) hm0).mono ?_
            rintro e w8 ⟨A8, n8, c8, rfl, r8, _, x8⟩
            have I8 := Kp.mk r8
            clear r8
            go_wp2_with fail
            refine (RGcdV (I5.out.ext (by (repeat (first | assumption | exact Ext.refl _ | apply Ext.drew | apply Ext.drewN | apply Ext.alloc | refine Ext.trans ?_ (by assumption))); first | done | fail)) (I8.out.ext (by (repeat (first | assumption | exact Ext.refl _ | apply Ext.drew | apply Ext.drewN | apply Ext.alloc | refine Ext.trans ?_ (by assumption))); first | done | fail)) lm.out (Nat.lt_of_le_of_lt (Nat.mod_le _ _) la.out) (by decide) (by decide)).mono ?_
            rintro e w9 ⟨A9, n9, c9, rfl, r9, x9⟩
            rw [gcd_mod] at r9
            have HX := Kp.mk (show Ext w w9 from (by (repeat (first | assumption | exact Ext.refl _ | apply Ext.drew | apply Ext.drewN | apply Ext.alloc | refine Ext.trans ?_ (by assumption))); first | done | fail))
            clear x1 x2 x3 x4 x5 x6 x7 x8 x9
            by_cases h9 : n9 = 1
            · subst h9
              obtain ⟨g9, o9, rfl⟩ := r9.some_ (by omega)
              have k9 := r9.dig 0 (by omega)
              unfold vI at k9
              rw [Nat.add_zero] at k9
              have q9 := one_dg r9.len
              have b9 : ¬ ((dg (dgs 65536 (Nat.gcd vm va)) 0 : Nat) : Int) = 1 := by have := HG.out; omega
              generalize dg (dgs 65536 (Nat.gcd vm va)) 0 = y9 at *
              clear r9 q9
              go_wp2_with fail
              go_ret
              exact ⟨rfl, HX.out.b⟩
            · have b9 : ¬ (n9 : Int) = 1 := by omega
              clear r9
              go_wp2_with fail
              go_ret
              exact ⟨rfl, HX.out.b⟩
  · rw [decide_eq_false (by omega)] at La
    clear ha da hm dm
    go_enter Try.func8, Try.ntmps8
    go_wp2_with fail
    refine (HU.out).mono ?_
    rintro e w1 ⟨rfl, x1⟩
    go_wp2_with fail
    refine (La.out _).mono ?_
    rintro e u1 ⟨rfl, rfl⟩
    go_wp2_with fail
    go_ret
    exact ⟨rfl, x1.b⟩
  · rw [decide_eq_true hna] at La
    rw [decide_eq_false (by omega)] at Lm
    clear ha da hm dm
    go_enter Try.func8, Try.ntmps8
    go_wp2_with fail
    refine (HU.out).mono ?_
    rintro e w1 ⟨rfl, x1⟩
    go_wp2_with fail
    refine (La.out _).mono ?_
    rintro e u1 ⟨rfl, rfl⟩
    go_wp2_with fail
    refine (Lm.out _).mono ?_
    rintro e u1 ⟨rfl, rfl⟩
    go_wp2_with fail
    go_ret
    exact ⟨rfl, x1.b⟩
end Go.Proofs.Ytpmoaccaknfodaa
