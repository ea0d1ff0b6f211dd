/-
  The walk of the law NatExps.
-/
import Derived.Test.YtpmoaccaknfodaaQh
namespace Go.Proofs.Ytpmoaccaknfodaa
open Go Go.RowKit

theorem ExpVlong {w : World} {A B E : Option Addr} {n c m d k f va vb ve : Nat} (ha : Nv w A n c va) (he : Nv w E k f ve) (hb : Nv w B m d vb) (h : lng va ∨ lng ve ∨ lng vb) : Calls Try.prog 27 #[.slice A n c, .slice E k f, .slice B m d] w (Bad1 w 4) := by
  obtain ⟨a, ha, rfl⟩ := ha
  obtain ⟨b, hb, rfl⟩ := hb
  obtain ⟨x, he, rfl⟩ := he
  exact Exp_long ha he hb h
set_option maxHeartbeats 8000000 in
set_option maxRecDepth 100000 in
theorem NatExps_any {a e m : List Nat} {Aa Ae Am : Option Addr} {na ne nm ca ce cm : Nat} {w : World} (ha : Rd vL w Aa na ca a) (he : Rd vL w Ae ne ce e) (hm : Rd vL w Am nm cm m) (da : Dg BB a) (de : Dg BB e) (dm : Dg BB m) :
    Calls Try.prog 7 #[.slice Aa na ca, .slice Ae ne ce, .slice Am nm cm] w fun e w' => e = .returned (.bool true) ∧ Below w.heap.size w w' := by
  have HU := Kp.mk (up_any w)
  have La := Kp.mk (fun u => light_any (A := Aa) (n := na) (c := ca) (w := u))
  have Le := Kp.mk (fun u => light_any (A := Ae) (n := ne) (c := ce) (w := u))
  have Lm := Kp.mk (fun u => light_any (A := Am) (n := nm) (c := cm) (w := u))
  have hcs : (na ≤ 100 ∧ ne ≤ 100 ∧ nm ≤ 100 ∧ (ne ≤ 3 ∨ 64 < ne) ∧ (nm ≤ 8 ∨ 64 < nm)) ∨ 100 < na ∨ (na ≤ 100 ∧ 3 < ne ∧ ne ≤ 64) ∨ (na ≤ 100 ∧ 100 < ne) ∨ (na ≤ 100 ∧ ne ≤ 100 ∧ (ne ≤ 3 ∨ 64 < ne) ∧ 8 < nm ∧ nm ≤ 64) ∨ (na ≤ 100 ∧ ne ≤ 100 ∧ (ne ≤ 3 ∨ 64 < ne) ∧ 100 < nm) := by omega
  rcases hcs with ⟨hna, hne, hnm, hE0, hM0⟩ | hna | ⟨hna, hne, hne2⟩ | ⟨hna, hne⟩ | ⟨hna, hne, hE0, hnm, hnm2⟩ | ⟨hna, hne, hE0, hnm⟩
  · rw [decide_eq_true hna] at La
    have Na := Kp.mk (Nv.small ha da (by omega))
    have la := Kp.mk (Nat.lt_of_lt_of_le (vl_len ha da) (Nat.pow_le_pow_right (n := BB) (by decide) hna))
    rw [decide_eq_true hne] at Le
    have Ne := Kp.mk (Nv.small he de (by omega))
    have le := Kp.mk (Nat.lt_of_lt_of_le (vl_len he de) (Nat.pow_le_pow_right (n := BB) (by decide) hne))
    rw [decide_eq_true hnm] at Lm
    have Nm := Kp.mk (Nv.small hm dm (by omega))
    have lm := Kp.mk (Nat.lt_of_lt_of_le (vl_len hm dm) (Nat.pow_le_pow_right (n := BB) (by decide) hnm))
    generalize vl BB a = va at *
    generalize vl BB e = ve at *
    generalize vl BB m = vm at *
    clear ha da he de hm dm
    have hE : (decide ((3 : Int) < (ne : Int)) = false) ∨ (decide ((3 : Int) < (ne : Int)) = true ∧ decide ((ne : Int) ≤ 64) = false) := hE0.elim (fun h => .inl (decide_eq_false (by omega))) (fun h => .inr ⟨decide_eq_true (by omega), decide_eq_false (by omega)⟩)
    have hM : (decide ((8 : Int) < (nm : Int)) = false) ∨ (decide ((8 : Int) < (nm : Int)) = true ∧ decide ((nm : Int) ≤ 64) = false) := hM0.elim (fun h => .inl (decide_eq_false (by omega))) (fun h => .inr ⟨decide_eq_true (by omega), decide_eq_false (by omega)⟩)
    clear hE0 hM0
    by_cases ga : lng va
    · have Ga := Kp.mk ga
      clear ga
      have ee := code_eq 4 4
      rcases hE with hE | ⟨hE, hE'⟩ <;> rcases hM with hM | ⟨hM, hM'⟩
      all_goals
        go_enter Try.func7, Try.ntmps7
        go_wp2_with fail
        refine (HU.out).mono ?_
        rintro e w1 ⟨rfl, x1⟩
        go_wp2_with fail
        refine (La.out _).mono ?_
        rintro e u1 ⟨rfl, rfl⟩
        go_wp2_with fail
        refine (Le.out _).mono ?_
        rintro e u1 ⟨rfl, rfl⟩
        go_wp2_with fail
        refine (Lm.out _).mono ?_
        rintro e u1 ⟨rfl, rfl⟩
        go_wp2_with fail
        refine (ExpVlong (Na.out.ext (by (repeat (first | assumption | exact Ext.refl _ | apply Ext.drew | apply Ext.drewN | apply Ext.alloc | refine Ext.trans ?_ (by assumption))); first | done | fail)) (Ne.out.ext (by (repeat (first | assumption | exact Ext.refl _ | apply Ext.drew | apply Ext.drewN | apply Ext.alloc | refine Ext.trans ?_ (by assumption))); first | done | fail)) (Nm.out.ext (by (repeat (first | assumption | exact Ext.refl _ | apply Ext.drew | apply Ext.drewN | apply Ext.alloc | refine Ext.trans ?_ (by assumption))); first | done | fail)) (.inl Ga.out)).mono ?_
        rintro e w2 ⟨rfl, x2⟩
        go_wp2_with fail
        refine (MayV (Na.out.ext (by (repeat (first | assumption | exact Ext.refl _ | apply Ext.drew | apply Ext.drewN | apply Ext.alloc | refine Ext.trans ?_ (by assumption))); first | done | fail)) false (by simp [Ga.out])).mono ?_
        rintro e w3 ⟨rfl, x3⟩
        have HX := Kp.mk (show Ext w w3 from (by (repeat (first | assumption | exact Ext.refl _ | apply Ext.drew | apply Ext.drewN | apply Ext.alloc | refine Ext.trans ?_ (by assumption))); first | done | fail))
        clear x1 x2 x3
        go_wp2_with fail
        go_ret
        exact ⟨rfl, HX.out.b⟩
    · by_cases ge : lng ve
      · have Ga := Kp.mk ga
        clear ga
        have Ge := Kp.mk ge
        clear ge
        have ee := code_eq 4 4
        rcases hE with hE | ⟨hE, hE'⟩ <;> rcases hM with hM | ⟨hM, hM'⟩
        all_goals
          go_enter Try.func7, Try.ntmps7
          go_wp2_with fail
          refine (HU.out).mono ?_
          rintro e w1 ⟨rfl, x1⟩
          go_wp2_with fail
          refine (La.out _).mono ?_
          rintro e u1 ⟨rfl, rfl⟩
          go_wp2_with fail
          refine (Le.out _).mono ?_
          rintro e u1 ⟨rfl, rfl⟩
          go_wp2_with fail
          refine (Lm.out _).mono ?_
          rintro e u1 ⟨rfl, rfl⟩
          go_wp2_with fail
          refine (ExpVlong (Na.out.ext (by (repeat (first | assumption | exact Ext.refl _ | apply Ext.drew | apply Ext.drewN | apply Ext.alloc | refine Ext.trans ?_ (by assumption))); first | done | fail)) (Ne.out.ext (by (repeat (first | assumption | exact Ext.refl _ | apply Ext.drew | apply Ext.drewN | apply Ext.alloc | refine Ext.trans ?_ (by assumption))); first | done | fail)) (Nm.out.ext (by (repeat (first | assumption | exact Ext.refl _ | apply Ext.drew | apply Ext.drewN | apply Ext.alloc | refine Ext.trans ?_ (by assumption))); first | done | fail)) (.inr (.inl Ge.out))).mono ?_
          rintro e w2 ⟨rfl, x2⟩
          go_wp2_with fail
          refine (MayV (Na.out.ext (by (repeat (first | assumption | exact Ext.refl _ | apply Ext.drew | apply Ext.drewN | apply Ext.alloc | refine Ext.trans ?_ (by assumption))); first | done | fail)) true (by simp [Ga.out])).mono ?_
          rintro e w3 ⟨rfl, x3⟩
          go_wp2_with fail
          refine (MayV (Ne.out.ext (by (repeat (first | assumption | exact Ext.refl _ | apply Ext.drew | apply Ext.drewN | apply Ext.alloc | refine Ext.trans ?_ (by assumption))); first | done | fail)) false (by simp [Ge.out])).mono ?_
          rintro e w4 ⟨rfl, x4⟩
          have HX := Kp.mk (show Ext w w4 from (by (repeat (first | assumption | exact Ext.refl _ | apply Ext.drew | apply Ext.drewN | apply Ext.alloc | refine Ext.trans ?_ (by assumption))); first | done | fail))
          clear x1 x2 x3 x4
          go_wp2_with fail
          go_ret
          exact ⟨rfl, HX.out.b⟩
      · by_cases gm : lng vm
        · have Ga := Kp.mk ga
          clear ga
          have Ge := Kp.mk ge
          clear ge
          have Gm := Kp.mk gm
          clear gm
          have ee := code_eq 4 4
          rcases hE with hE | ⟨hE, hE'⟩ <;> rcases hM with hM | ⟨hM, hM'⟩
          all_goals
            go_enter Try.func7, Try.ntmps7
            go_wp2_with fail
            refine (HU.out).mono ?_
            rintro e w1 ⟨rfl, x1⟩
            go_wp2_with fail
            refine (La.out _).mono ?_
            rintro e u1 ⟨rfl, rfl⟩
            go_wp2_with fail
            refine (Le.out _).mono ?_
            rintro e u1 ⟨rfl, rfl⟩
            go_wp2_with fail
            refine (Lm.out _).mono ?_
            rintro e u1 ⟨rfl, rfl⟩
            go_wp2_with fail
            refine (ExpVlong (Na.out.ext (by (repeat (first | assumption | exact Ext.refl _ | apply Ext.drew | apply Ext.drewN | apply Ext.alloc | refine Ext.trans ?_ (by assumption))); first | done | fail)) (Ne.out.ext (by (repeat (first | assumption | exact Ext.refl _ | apply Ext.drew | apply Ext.drewN | apply Ext.alloc | refine Ext.trans ?_ (by assumption))); first | done | fail)) (Nm.out.ext (by (repeat (first | assumption | exact Ext.refl _ | apply Ext.drew | apply Ext.drewN | apply Ext.alloc | refine Ext.trans ?_ (by assumption))); first | done | fail)) (.inr (.inr Gm.out))).mono ?_
            rintro e w2 ⟨rfl, x2⟩
            go_wp2_with fail
            refine (MayV (Na.out.ext (by (repeat (first | assumption | exact Ext.refl _ | apply Ext.drew | apply Ext.drewN | apply Ext.alloc | refine Ext.trans ?_ (by assumption))); first | done | fail)) true (by simp [Ga.out])).mono ?_
            rintro e w3 ⟨rfl, x3⟩
            go_wp2_with fail
            refine (MayV (Ne.out.ext (by (repeat (first | assumption | exact Ext.refl _ | apply Ext.drew | apply Ext.drewN | apply Ext.alloc | refine Ext.trans ?_ (by assumption))); first | done | fail)) true (by simp [Ge.out])).mono ?_
            rintro e w4 ⟨rfl, x4⟩
            go_wp2_with fail
            refine (MayV (Nm.out.ext (by (repeat (first | assumption | exact Ext.refl _ | apply Ext.drew | apply Ext.drewN | apply Ext.alloc | refine Ext.trans ?_ (by assumption))); first | done | fail)) false (by simp [Gm.out])).mono ?_
            rintro e w5 ⟨rfl, x5⟩
            have HX := Kp.mk (show Ext w w5 from (by (repeat (first | assumption | exact Ext.refl _ | apply Ext.drew | apply Ext.drewN | apply Ext.alloc | refine Ext.trans ?_ (by assumption))); first | done | fail))
            clear x1 x2 x3 x4 x5
            go_wp2_with fail
            go_ret
            exact ⟨rfl, HX.out.b⟩
        · by_cases g0 : vm = 0
          · subst g0
            have Ga := Kp.mk ga
            clear ga
            have Ge := Kp.mk ge
            clear ge
            have Gm := Kp.mk gm
            clear gm
            have ee := code_eq 1 1
            rcases hE with hE | ⟨hE, hE'⟩ <;> rcases hM with hM | ⟨hM, hM'⟩
            all_goals
              go_enter Try.func7, Try.ntmps7
              go_wp2_with fail
              refine (HU.out).mono ?_
              rintro e w1 ⟨rfl, x1⟩
              go_wp2_with fail
              refine (La.out _).mono ?_
              rintro e u1 ⟨rfl, rfl⟩
              go_wp2_with fail
              refine (Le.out _).mono ?_
              rintro e u1 ⟨rfl, rfl⟩
              go_wp2_with fail
              refine (Lm.out _).mono ?_
              rintro e u1 ⟨rfl, rfl⟩
              go_wp2_with fail
              refine (ExpV0 (Na.out.ext (by (repeat (first | assumption | exact Ext.refl _ | apply Ext.drew | apply Ext.drewN | apply Ext.alloc | refine Ext.trans ?_ (by assumption))); first | done | fail)) (Ne.out.ext (by (repeat (first | assumption | exact Ext.refl _ | apply Ext.drew | apply Ext.drewN | apply Ext.alloc | refine Ext.trans ?_ (by assumption))); first | done | fail)) (Nm.out.ext (by (repeat (first | assumption | exact Ext.refl _ | apply Ext.drew | apply Ext.drewN | apply Ext.alloc | refine Ext.trans ?_ (by assumption))); first | done | fail)) Ga.out Ge.out).mono ?_
              rintro e w2 ⟨rfl, x2⟩
              go_wp2_with fail
              refine (MayV (Na.out.ext (by (repeat (first | assumption | exact Ext.refl _ | apply Ext.drew | apply Ext.drewN | apply Ext.alloc | refine Ext.trans ?_ (by assumption))); first | done | fail)) true (by simp [Ga.out])).mono ?_
              rintro e w3 ⟨rfl, x3⟩
              go_wp2_with fail
              refine (MayV (Ne.out.ext (by (repeat (first | assumption | exact Ext.refl _ | apply Ext.drew | apply Ext.drewN | apply Ext.alloc | refine Ext.trans ?_ (by assumption))); first | done | fail)) true (by simp [Ge.out])).mono ?_
              rintro e w4 ⟨rfl, x4⟩
              go_wp2_with fail
              refine (MayV (Nm.out.ext (by (repeat (first | assumption | exact Ext.refl _ | apply Ext.drew | apply Ext.drewN | apply Ext.alloc | refine Ext.trans ?_ (by assumption))); first | done | fail)) true (by simp [Gm.out])).mono ?_
              rintro e w5 ⟨rfl, x5⟩
              go_wp2_with fail
              refine (OfV (Nm.out.ext (by (repeat (first | assumption | exact Ext.refl _ | apply Ext.drew | apply Ext.drewN | apply Ext.alloc | refine Ext.trans ?_ (by assumption))); first | done | fail))).mono ?_
              rintro e w6 ⟨A6, n6, c6, rfl, r6, _, x6⟩
              obtain rfl : n6 = 0 := r6.len.symm
              clear r6
              have HX := Kp.mk (show Ext w w6 from (by (repeat (first | assumption | exact Ext.refl _ | apply Ext.drew | apply Ext.drewN | apply Ext.alloc | refine Ext.trans ?_ (by assumption))); first | done | fail))
              clear x1 x2 x3 x4 x5 x6
              go_wp2_with fail
              go_ret
              exact ⟨rfl, HX.out.b⟩
          · have G0 := Kp.mk g0
            clear g0
            have Ga := Kp.mk ga
            clear ga
            have Ge := Kp.mk ge
            clear ge
            have Gm := Kp.mk gm
            clear gm
            rcases hE with hE | ⟨hE, hE'⟩ <;> rcases hM with hM | ⟨hM, hM'⟩
            all_goals
              go_enter Try.func7, Try.ntmps7
              go_wp2_with fail
              refine (HU.out).mono ?_
              rintro e w1 ⟨rfl, x1⟩
              go_wp2_with fail
              refine (La.out _).mono ?_
              rintro e u1 ⟨rfl, rfl⟩
              go_wp2_with fail
              refine (Le.out _).mono ?_
              rintro e u1 ⟨rfl, rfl⟩
              go_wp2_with fail
              refine (Lm.out _).mono ?_
              rintro e u1 ⟨rfl, rfl⟩
              go_wp2_with fail
              refine (ExpV (Na.out.ext (by (repeat (first | assumption | exact Ext.refl _ | apply Ext.drew | apply Ext.drewN | apply Ext.alloc | refine Ext.trans ?_ (by assumption))); first | done | fail)) (Ne.out.ext (by (repeat (first | assumption | exact Ext.refl _ | apply Ext.drew | apply Ext.drewN | apply Ext.alloc | refine Ext.trans ?_ (by assumption))); first | done | fail)) (Nm.out.ext (by (repeat (first | assumption | exact Ext.refl _ | apply Ext.drew | apply Ext.drewN | apply Ext.alloc | refine Ext.trans ?_ (by assumption))); first | done | fail)) Ga.out Ge.out Gm.out G0.out).mono ?_
              rintro e w2 ⟨A2, n2, c2, rfl, o2, x2⟩
              have R2 := Kp.mk o2.rd
              clear o2
              go_wp2_with fail
              refine (MayV (Na.out.ext (by (repeat (first | assumption | exact Ext.refl _ | apply Ext.drew | apply Ext.drewN | apply Ext.alloc | refine Ext.trans ?_ (by assumption))); first | done | fail)) true (by simp [Ga.out])).mono ?_
              rintro e w3 ⟨rfl, x3⟩
              go_wp2_with fail
              refine (MayV (Ne.out.ext (by (repeat (first | assumption | exact Ext.refl _ | apply Ext.drew | apply Ext.drewN | apply Ext.alloc | refine Ext.trans ?_ (by assumption))); first | done | fail)) true (by simp [Ge.out])).mono ?_
              rintro e w4 ⟨rfl, x4⟩
              go_wp2_with fail
              refine (MayV (Nm.out.ext (by (repeat (first | assumption | exact Ext.refl _ | apply Ext.drew | apply Ext.drewN | apply Ext.alloc | refine Ext.trans ?_ (by assumption))); first | done | fail)) true (by simp [Gm.out])).mono ?_
              rintro e w5 ⟨rfl, x5⟩
              go_wp2_with fail
              refine (OfV (Nm.out.ext (by (repeat (first | assumption | exact Ext.refl _ | apply Ext.drew | apply Ext.drewN | apply Ext.alloc | refine Ext.trans ?_ (by assumption))); first | done | fail))).mono ?_
              rintro e w6 ⟨A6, n6, c6, rfl, r6, _, x6⟩
              have b6 : ¬ (n6 : Int) = 0 := fun e => G0.out ((dgs_nil (B := 65536) (by decide) vm).1 (List.eq_nil_of_length_eq_zero (by have := r6.len; omega)))
              have I6 := Kp.mk r6
              clear r6
              go_wp2_with fail
              refine (OfV (Na.out.ext (by (repeat (first | assumption | exact Ext.refl _ | apply Ext.drew | apply Ext.drewN | apply Ext.alloc | refine Ext.trans ?_ (by assumption))); first | done | fail))).mono ?_
              rintro e w7 ⟨A7, n7, c7, rfl, r7, _, x7⟩
              have I7 := Kp.mk r7
              clear r7
              go_wp2_with fail
              refine (OfV (Ne.out.ext (by (repeat (first | assumption | exact Ext.refl _ | apply Ext.drew | apply Ext.drewN | apply Ext.alloc | refine Ext.trans ?_ (by assumption))); first | done | fail))).mono ?_
              rintro e w8 ⟨A8, n8, c8, rfl, r8, _, x8⟩
              have I8 := Kp.mk r8
              clear r8
              go_wp2_with fail
              refine (RExpV (I7.out.ext (by (repeat (first | assumption | exact Ext.refl _ | apply Ext.drew | apply Ext.drewN | apply Ext.alloc | refine Ext.trans ?_ (by assumption))); first | done | fail)) (I8.out.ext (by (repeat (first | assumption | exact Ext.refl _ | apply Ext.drew | apply Ext.drewN | apply Ext.alloc | refine Ext.trans ?_ (by assumption))); first | done | fail)) (I6.out.ext (by (repeat (first | assumption | exact Ext.refl _ | apply Ext.drew | apply Ext.drewN | apply Ext.alloc | refine Ext.trans ?_ (by assumption))); first | done | fail)) la.out le.out lm.out (by decide) (by decide) (by decide) G0.out).mono ?_
              rintro e w9 ⟨A9, n9, c9, rfl, r9, _, x9⟩
              have I9 := Kp.mk (Ni.of r9 (Nat.lt_trans (Nat.mod_lt _ (Nat.pos_of_ne_zero G0.out)) lm.out) (by decide))
              clear r9
              go_wp2_with fail
              refine (SameV (R2.out.ext (by (repeat (first | assumption | exact Ext.refl _ | apply Ext.drew | apply Ext.drewN | apply Ext.alloc | refine Ext.trans ?_ (by assumption))); first | done | fail)) (I9.out.ext (by (repeat (first | assumption | exact Ext.refl _ | apply Ext.drew | apply Ext.drewN | apply Ext.alloc | refine Ext.trans ?_ (by assumption))); first | done | fail))).mono ?_
              rintro e w10 ⟨rfl, x10⟩
              have HX := Kp.mk (show Ext w w10 from (by (repeat (first | assumption | exact Ext.refl _ | apply Ext.drew | apply Ext.drewN | apply Ext.alloc | refine Ext.trans ?_ (by assumption))); first | done | fail))
              clear x1 x2 x3 x4 x5 x6 x7 x8 x9 x10
              go_wp2_with fail
              go_ret
              exact ⟨rfl, HX.out.b⟩
  · rw [decide_eq_false (by omega)] at La
    clear ha da he de hm dm
    go_enter Try.func7, Try.ntmps7
    go_wp2_with fail
    refine (HU.out).mono ?_
    rintro e w1 ⟨rfl, x1⟩
    go_wp2_with fail
    refine (La.out _).mono ?_
    rintro e u1 ⟨rfl, rfl⟩
    go_wp2_with fail
    go_ret
    exact ⟨rfl, x1.b⟩
  · rw [decide_eq_true hna] at La
    have hE : decide ((3 : Int) < (ne : Int)) = true := decide_eq_true (by omega)
    have hE' : decide ((ne : Int) ≤ 64) = true := decide_eq_true (by omega)
    clear ha da he de hm dm
    go_enter Try.func7, Try.ntmps7
    go_wp2_with fail
    refine (HU.out).mono ?_
    rintro e w1 ⟨rfl, x1⟩
    go_wp2_with fail
    refine (La.out _).mono ?_
    rintro e u1 ⟨rfl, rfl⟩
    go_wp2_with fail
    go_ret
    exact ⟨rfl, x1.b⟩
  · rw [decide_eq_true hna] at La
    rw [decide_eq_false (by omega)] at Le
    have hE : decide ((3 : Int) < (ne : Int)) = true := decide_eq_true (by omega)
    have hE' : decide ((ne : Int) ≤ 64) = false := decide_eq_false (by omega)
    clear ha da he de hm dm
    go_enter Try.func7, Try.ntmps7
    go_wp2_with fail
    refine (HU.out).mono ?_
    rintro e w1 ⟨rfl, x1⟩
    go_wp2_with fail
    refine (La.out _).mono ?_
    rintro e u1 ⟨rfl, rfl⟩
    go_wp2_with fail
    refine (Le.out _).mono ?_
    rintro e u1 ⟨rfl, rfl⟩
    go_wp2_with fail
    go_ret
    exact ⟨rfl, x1.b⟩
  · rw [decide_eq_true hna] at La
    rw [decide_eq_true hne] at Le
    have hE : (decide ((3 : Int) < (ne : Int)) = false) ∨ (decide ((3 : Int) < (ne : Int)) = true ∧ decide ((ne : Int) ≤ 64) = false) := hE0.elim (fun h => .inl (decide_eq_false (by omega))) (fun h => .inr ⟨decide_eq_true (by omega), decide_eq_false (by omega)⟩)
    have hM : decide ((8 : Int) < (nm : Int)) = true := decide_eq_true (by omega)
    have hM' : decide ((nm : Int) ≤ 64) = true := decide_eq_true (by omega)
    clear ha da he de hm dm
    rcases hE with hE | ⟨hE, hE'⟩
    all_goals
      go_enter Try.func7, Try.ntmps7
      go_wp2_with fail
      refine (HU.out).mono ?_
      rintro e w1 ⟨rfl, x1⟩
      go_wp2_with fail
      refine (La.out _).mono ?_
      rintro e u1 ⟨rfl, rfl⟩
      go_wp2_with fail
      refine (Le.out _).mono ?_
      rintro e u1 ⟨rfl, rfl⟩
      go_wp2_with fail
      go_ret
      exact ⟨rfl, x1.b⟩
  · rw [decide_eq_true hna] at La
    rw [decide_eq_true hne] at Le
    have hE : (decide ((3 : Int) < (ne : Int)) = false) ∨ (decide ((3 : Int) < (ne : Int)) = true ∧ decide ((ne : Int) ≤ 64) = false) := hE0.elim (fun h => .inl (decide_eq_false (by omega))) (fun h => .inr ⟨decide_eq_true (by omega), decide_eq_false (by omega)⟩)
    rw [decide_eq_false (by omega)] at Lm
    have hM : decide ((8 : Int) < (nm : Int)) = true := decide_eq_true (by omega)
    have hM' : decide ((nm : Int) ≤ 64) = false := decide_eq_false (by omega)
    clear ha da he de hm dm
    rcases hE with hE | ⟨hE, hE'⟩
    all_goals
      go_enter Try.func7, Try.ntmps7
      go_wp2_with fail
      refine (HU.out).mono ?_
      rintro e w1 ⟨rfl, x1⟩
      go_wp2_with fail
      refine (La.out _).mono ?_
      rintro e u1 ⟨rfl, rfl⟩
      go_wp2_with fail
      refine (Le.out _).mono ?_
      rintro e u1 ⟨rfl, rfl⟩
      go_wp2_with fail
      refine (Lm.out _).mono ?_
      rintro e u1 ⟨rfl, rfl⟩
      go_wp2_with fail
      go_ret
      exact ⟨rfl, x1.b⟩
end Go.Proofs.Ytpmoaccaknfodaa
