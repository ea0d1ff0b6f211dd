/-
  The walks of the laws NatMuls, NatSums.
-/
import Derived.Test.YtpmoaccaknfodaaQa
namespace Go.Proofs.Ytpmoaccaknfodaa
open Go Go.RowKit

theorem cmpI_nonneg {a b : Nat} (h : b ≤ a) : ¬ cmpI a b < 0 := by
  rcases Nat.lt_or_ge b a with h1 | h1
  · rw [cmpI_gt h1]; decide
  · rw [show a = b by omega, cmpI_eq]; decide
theorem AddVlong {w : World} {A B : Option Addr} {n c m d va vb : Nat} (ha : Nv w A n c va) (hb : Nv w B m d vb) (h : lng va ∨ lng vb) : Calls Try.prog 17 #[.slice A n c, .slice B m d] w (Bad1 w 4) := by
  obtain ⟨a, ha, rfl⟩ := ha
  obtain ⟨b, hb, rfl⟩ := hb
  exact Add_long ha hb h
theorem MulVlong {w : World} {A B : Option Addr} {n c m d va vb : Nat} (ha : Nv w A n c va) (hb : Nv w B m d vb) (h : lng va ∨ lng vb) : Calls Try.prog 23 #[.slice A n c, .slice B m d] w (Bad1 w 4) := by
  obtain ⟨a, ha, rfl⟩ := ha
  obtain ⟨b, hb, rfl⟩ := hb
  exact Mul_long ha hb h
theorem SubVlong {w : World} {A B : Option Addr} {n c m d va vb : Nat} (ha : Nv w A n c va) (hb : Nv w B m d vb) (h : lng va ∨ lng vb) : Calls Try.prog 18 #[.slice A n c, .slice B m d] w (Bad1 w 4) := by
  obtain ⟨a, ha, rfl⟩ := ha
  obtain ⟨b, hb, rfl⟩ := hb
  exact Sub_long ha hb h
set_option maxHeartbeats 8000000 in
set_option maxRecDepth 100000 in
theorem NatMuls_any {a b : List Nat} {Aa Ab : Option Addr} {na nb ca cb : Nat} {w : World} (ha : Rd vL w Aa na ca a) (hb : Rd vL w Ab nb cb b) (da : Dg BB a) (db : Dg BB b) :
    Calls Try.prog 5 #[.slice Aa na ca, .slice Ab nb cb] w fun e w' => e = .returned (.bool true) ∧ Below w.heap.size w w' := by
  have HU := Kp.mk (up_any w)
  have La := Kp.mk (fun u => light_any (A := Aa) (n := na) (c := ca) (w := u))
  have Lb := Kp.mk (fun u => light_any (A := Ab) (n := nb) (c := cb) (w := u))
  rcases light_cases na nb with ⟨hna, hnb⟩ | hna | ⟨hna, hnb⟩
  · rw [decide_eq_true hna] at La
    have Na := Kp.mk (Nv.small ha da (by omega))
    have la := Kp.mk (Nat.lt_of_lt_of_le (vl_len ha da) (Nat.pow_le_pow_right (n := BB) (by decide) hna))
    rw [decide_eq_true hnb] at Lb
    have Nb := Kp.mk (Nv.small hb db (by omega))
    have lb := Kp.mk (Nat.lt_of_lt_of_le (vl_len hb db) (Nat.pow_le_pow_right (n := BB) (by decide) hnb))
    generalize vl BB a = va at *
    generalize vl BB b = vb at *
    clear ha da hb db
    by_cases ga : lng va
    · have GA := Kp.mk ga
      have ee := code_eq 4 4
      clear ga
      go_enter Try.func5, Try.ntmps5
      go_wp2_with fail
      refine (HU.out).mono ?_
      rintro e w1 ⟨rfl, x1⟩
      go_wp2_with fail
      refine (La.out _).mono ?_
      rintro e u1 ⟨rfl, rfl⟩
      go_wp2_with fail
      refine (Lb.out _).mono ?_
      rintro e u2 ⟨rfl, rfl⟩
      go_wp2_with fail
      refine (MulVlong (Na.out.ext (by (repeat (first | assumption | exact Ext.refl _ | apply Ext.drew | apply Ext.drewN | apply Ext.alloc | refine Ext.trans ?_ (by assumption))); first | done | fail)) (Nb.out.ext (by (repeat (first | assumption | exact Ext.refl _ | apply Ext.drew | apply Ext.drewN | apply Ext.alloc | refine Ext.trans ?_ (by assumption))); first | done | fail)) (.inl GA.out)).mono ?_
      rintro e w2 ⟨rfl, x2⟩
      go_wp2_with fail
      refine (MayV (Na.out.ext (by (repeat (first | assumption | exact Ext.refl _ | apply Ext.drew | apply Ext.drewN | apply Ext.alloc | refine Ext.trans ?_ (by assumption))); first | done | fail)) false (by simp [GA.out])).mono ?_
      rintro e w3 ⟨rfl, x3⟩
      have HX := Kp.mk (show Ext w w3 from (by (repeat (first | assumption | exact Ext.refl _ | apply Ext.drew | apply Ext.drewN | apply Ext.alloc | refine Ext.trans ?_ (by assumption))); first | done | fail))
      clear x1 x2 x3
      go_wp2_with fail
      go_ret
      exact ⟨rfl, HX.out.b⟩
    · by_cases gb : lng vb
      · have ee := code_eq 4 4
        have GA := Kp.mk ga
        have GB := Kp.mk gb
        clear ga gb
        go_enter Try.func5, Try.ntmps5
        go_wp2_with fail
        refine (HU.out).mono ?_
        rintro e w1 ⟨rfl, x1⟩
        go_wp2_with fail
        refine (La.out _).mono ?_
        rintro e u1 ⟨rfl, rfl⟩
        go_wp2_with fail
        refine (Lb.out _).mono ?_
        rintro e u2 ⟨rfl, rfl⟩
        go_wp2_with fail
        refine (MulVlong (Na.out.ext (by (repeat (first | assumption | exact Ext.refl _ | apply Ext.drew | apply Ext.drewN | apply Ext.alloc | refine Ext.trans ?_ (by assumption))); first | done | fail)) (Nb.out.ext (by (repeat (first | assumption | exact Ext.refl _ | apply Ext.drew | apply Ext.drewN | apply Ext.alloc | refine Ext.trans ?_ (by assumption))); first | done | fail)) (.inr GB.out)).mono ?_
        rintro e w2 ⟨rfl, x2⟩
        go_wp2_with fail
        refine (MayV (Na.out.ext (by (repeat (first | assumption | exact Ext.refl _ | apply Ext.drew | apply Ext.drewN | apply Ext.alloc | refine Ext.trans ?_ (by assumption))); first | done | fail)) true (by simp [GA.out])).mono ?_
        rintro e w3 ⟨rfl, x3⟩
        go_wp2_with fail
        refine (MayV (Nb.out.ext (by (repeat (first | assumption | exact Ext.refl _ | apply Ext.drew | apply Ext.drewN | apply Ext.alloc | refine Ext.trans ?_ (by assumption))); first | done | fail)) false (by simp [GB.out])).mono ?_
        rintro e w4 ⟨rfl, x4⟩
        have HX := Kp.mk (show Ext w w4 from (by (repeat (first | assumption | exact Ext.refl _ | apply Ext.drew | apply Ext.drewN | apply Ext.alloc | refine Ext.trans ?_ (by assumption))); first | done | fail))
        clear x1 x2 x3 x4
        go_wp2_with fail
        go_ret
        exact ⟨rfl, HX.out.b⟩
      · have GA := Kp.mk ga
        have GB := Kp.mk gb
        clear ga gb
        go_enter Try.func5, Try.ntmps5
        go_wp2_with fail
        refine (HU.out).mono ?_
        rintro e w1 ⟨rfl, x1⟩
        go_wp2_with fail
        refine (La.out _).mono ?_
        rintro e u1 ⟨rfl, rfl⟩
        go_wp2_with fail
        refine (Lb.out _).mono ?_
        rintro e u2 ⟨rfl, rfl⟩
        go_wp2_with fail
        refine (MulV (Na.out.ext (by (repeat (first | assumption | exact Ext.refl _ | apply Ext.drew | apply Ext.drewN | apply Ext.alloc | refine Ext.trans ?_ (by assumption))); first | done | fail)) (Nb.out.ext (by (repeat (first | assumption | exact Ext.refl _ | apply Ext.drew | apply Ext.drewN | apply Ext.alloc | refine Ext.trans ?_ (by assumption))); first | done | fail)) GA.out GB.out).mono ?_
        rintro e w2 ⟨A2, n2, c2, rfl, o2, x2⟩
        have R2 := Kp.mk o2.rd
        clear o2
        go_wp2_with fail
        refine (MayV (Na.out.ext (by (repeat (first | assumption | exact Ext.refl _ | apply Ext.drew | apply Ext.drewN | apply Ext.alloc | refine Ext.trans ?_ (by assumption))); first | done | fail)) true (by simp [GA.out])).mono ?_
        rintro e w3 ⟨rfl, x3⟩
        go_wp2_with fail
        refine (MayV (Nb.out.ext (by (repeat (first | assumption | exact Ext.refl _ | apply Ext.drew | apply Ext.drewN | apply Ext.alloc | refine Ext.trans ?_ (by assumption))); first | done | fail)) true (by simp [GB.out])).mono ?_
        rintro e w4 ⟨rfl, x4⟩
        go_wp2_with fail
        refine (OfV (Na.out.ext (by (repeat (first | assumption | exact Ext.refl _ | apply Ext.drew | apply Ext.drewN | apply Ext.alloc | refine Ext.trans ?_ (by assumption))); first | done | fail))).mono ?_
        rintro e w5 ⟨A5, n5, c5, rfl, r5, _, x5⟩
        have I5 := Kp.mk (Ni.of r5 la.out (by decide))
        clear r5
        go_wp2_with fail
        refine (OfV (Nb.out.ext (by (repeat (first | assumption | exact Ext.refl _ | apply Ext.drew | apply Ext.drewN | apply Ext.alloc | refine Ext.trans ?_ (by assumption))); first | done | fail))).mono ?_
        rintro e w6 ⟨A6, n6, c6, rfl, r6, _, x6⟩
        have I6 := Kp.mk (Ni.of r6 lb.out (by decide))
        clear r6
        go_wp2_with fail
        refine (RMulV (I5.out.ext (by (repeat (first | assumption | exact Ext.refl _ | apply Ext.drew | apply Ext.drewN | apply Ext.alloc | refine Ext.trans ?_ (by assumption))); first | done | fail)) (I6.out.ext (by (repeat (first | assumption | exact Ext.refl _ | apply Ext.drew | apply Ext.drewN | apply Ext.alloc | refine Ext.trans ?_ (by assumption))); first | done | fail))).mono ?_
        rintro e w7 ⟨A7, n7, c7, rfl, r7, _, x7⟩
        have I7 := Kp.mk (Ni.of r7 (lt_mul la.out lb.out (Nat.le_refl _)) (by decide))
        clear r7
        go_wp2_with fail
        refine (SameV (R2.out.ext (by (repeat (first | assumption | exact Ext.refl _ | apply Ext.drew | apply Ext.drewN | apply Ext.alloc | refine Ext.trans ?_ (by assumption))); first | done | fail)) (I7.out.ext (by (repeat (first | assumption | exact Ext.refl _ | apply Ext.drew | apply Ext.drewN | apply Ext.alloc | refine Ext.trans ?_ (by assumption))); first | done | fail))).mono ?_
        rintro e w8 ⟨rfl, x8⟩
        have HX := Kp.mk (show Ext w w8 from (by (repeat (first | assumption | exact Ext.refl _ | apply Ext.drew | apply Ext.drewN | apply Ext.alloc | refine Ext.trans ?_ (by assumption))); first | done | fail))
        clear x1 x2 x3 x4 x5 x6 x7 x8
        go_wp2_with fail
        go_ret
        exact ⟨rfl, HX.out.b⟩
  · rw [decide_eq_false (by omega)] at La
    clear ha da hb db
    go_enter Try.func5, Try.ntmps5
    go_wp2_with fail
    refine (HU.out).mono ?_
    rintro e w1 ⟨rfl, x1⟩
    go_wp2_with fail
    refine (La.out _).mono ?_
    rintro e u1 ⟨rfl, rfl⟩
    go_wp2_with fail
    go_ret
    exact ⟨rfl, x1.b⟩
  · rw [decide_eq_true hna] at La
    rw [decide_eq_false (by omega)] at Lb
    clear ha da hb db
    go_enter Try.func5, Try.ntmps5
    go_wp2_with fail
    refine (HU.out).mono ?_
    rintro e w1 ⟨rfl, x1⟩
    go_wp2_with fail
    refine (La.out _).mono ?_
    rintro e u1 ⟨rfl, rfl⟩
    go_wp2_with fail
    refine (Lb.out _).mono ?_
    rintro e u1 ⟨rfl, rfl⟩
    go_wp2_with fail
    go_ret
    exact ⟨rfl, x1.b⟩
set_option maxHeartbeats 8000000 in
set_option maxRecDepth 100000 in
theorem NatSums_any {a b : List Nat} {Aa Ab : Option Addr} {na nb ca cb : Nat} {w : World} (ha : Rd vL w Aa na ca a) (hb : Rd vL w Ab nb cb b) (da : Dg BB a) (db : Dg BB b) :
    Calls Try.prog 4 #[.slice Aa na ca, .slice Ab nb cb] w fun e w' => e = .returned (.bool true) ∧ Below w.heap.size w w' := by
  have HU := Kp.mk (up_any w)
  have La := Kp.mk (fun u => light_any (A := Aa) (n := na) (c := ca) (w := u))
  have Lb := Kp.mk (fun u => light_any (A := Ab) (n := nb) (c := cb) (w := u))
  rcases light_cases na nb with ⟨hna, hnb⟩ | hna | ⟨hna, hnb⟩
  · rw [decide_eq_true hna] at La
    have Na := Kp.mk (Nv.small ha da (by omega))
    have la := Kp.mk (Nat.lt_of_lt_of_le (vl_len ha da) (Nat.pow_le_pow_right (n := BB) (by decide) hna))
    rw [decide_eq_true hnb] at Lb
    have Nb := Kp.mk (Nv.small hb db (by omega))
    have lb := Kp.mk (Nat.lt_of_lt_of_le (vl_len hb db) (Nat.pow_le_pow_right (n := BB) (by decide) hnb))
    generalize vl BB a = va at *
    generalize vl BB b = vb at *
    clear ha da hb db
    by_cases ga : lng va
    · have ee := code_eq 4 4
      have GA := Kp.mk ga
      clear ga
      go_enter Try.func4, Try.ntmps4
      go_wp2_with fail
      refine (HU.out).mono ?_
      rintro e w1 ⟨rfl, x1⟩
      go_wp2_with fail
      refine (La.out _).mono ?_
      rintro e u1 ⟨rfl, rfl⟩
      go_wp2_with fail
      refine (Lb.out _).mono ?_
      rintro e u2 ⟨rfl, rfl⟩
      go_wp2_with fail
      refine (AddVlong (Na.out.ext (by (repeat (first | assumption | exact Ext.refl _ | apply Ext.drew | apply Ext.drewN | apply Ext.alloc | refine Ext.trans ?_ (by assumption))); first | done | fail)) (Nb.out.ext (by (repeat (first | assumption | exact Ext.refl _ | apply Ext.drew | apply Ext.drewN | apply Ext.alloc | refine Ext.trans ?_ (by assumption))); first | done | fail)) (.inl GA.out)).mono ?_
      rintro e w2 ⟨rfl, x2⟩
      go_wp2_with fail
      refine (SubVlong (Na.out.ext (by (repeat (first | assumption | exact Ext.refl _ | apply Ext.drew | apply Ext.drewN | apply Ext.alloc | refine Ext.trans ?_ (by assumption))); first | done | fail)) (Nb.out.ext (by (repeat (first | assumption | exact Ext.refl _ | apply Ext.drew | apply Ext.drewN | apply Ext.alloc | refine Ext.trans ?_ (by assumption))); first | done | fail)) (.inl GA.out)).mono ?_
      rintro e w3 ⟨rfl, x3⟩
      go_wp2_with fail
      refine (MayV (Na.out.ext (by (repeat (first | assumption | exact Ext.refl _ | apply Ext.drew | apply Ext.drewN | apply Ext.alloc | refine Ext.trans ?_ (by assumption))); first | done | fail)) false (by simp [GA.out])).mono ?_
      rintro e w4 ⟨rfl, x4⟩
      have HX := Kp.mk (show Ext w w4 from (by (repeat (first | assumption | exact Ext.refl _ | apply Ext.drew | apply Ext.drewN | apply Ext.alloc | refine Ext.trans ?_ (by assumption))); first | done | fail))
      clear x1 x2 x3 x4
      go_wp2_with fail
      go_ret
      exact ⟨rfl, HX.out.b⟩
    · by_cases gb : lng vb
      · have ee := code_eq 4 4
        have GA := Kp.mk ga
        have GB := Kp.mk gb
        clear ga gb
        go_enter Try.func4, Try.ntmps4
        go_wp2_with fail
        refine (HU.out).mono ?_
        rintro e w1 ⟨rfl, x1⟩
        go_wp2_with fail
        refine (La.out _).mono ?_
        rintro e u1 ⟨rfl, rfl⟩
        go_wp2_with fail
        refine (Lb.out _).mono ?_
        rintro e u2 ⟨rfl, rfl⟩
        go_wp2_with fail
        refine (AddVlong (Na.out.ext (by (repeat (first | assumption | exact Ext.refl _ | apply Ext.drew | apply Ext.drewN | apply Ext.alloc | refine Ext.trans ?_ (by assumption))); first | done | fail)) (Nb.out.ext (by (repeat (first | assumption | exact Ext.refl _ | apply Ext.drew | apply Ext.drewN | apply Ext.alloc | refine Ext.trans ?_ (by assumption))); first | done | fail)) (.inr GB.out)).mono ?_
        rintro e w2 ⟨rfl, x2⟩
        go_wp2_with fail
        refine (SubVlong (Na.out.ext (by (repeat (first | assumption | exact Ext.refl _ | apply Ext.drew | apply Ext.drewN | apply Ext.alloc | refine Ext.trans ?_ (by assumption))); first | done | fail)) (Nb.out.ext (by (repeat (first | assumption | exact Ext.refl _ | apply Ext.drew | apply Ext.drewN | apply Ext.alloc | refine Ext.trans ?_ (by assumption))); first | done | fail)) (.inr GB.out)).mono ?_
        rintro e w3 ⟨rfl, x3⟩
        go_wp2_with fail
        refine (MayV (Na.out.ext (by (repeat (first | assumption | exact Ext.refl _ | apply Ext.drew | apply Ext.drewN | apply Ext.alloc | refine Ext.trans ?_ (by assumption))); first | done | fail)) true (by simp [GA.out])).mono ?_
        rintro e w4 ⟨rfl, x4⟩
        go_wp2_with fail
        refine (MayV (Nb.out.ext (by (repeat (first | assumption | exact Ext.refl _ | apply Ext.drew | apply Ext.drewN | apply Ext.alloc | refine Ext.trans ?_ (by assumption))); first | done | fail)) false (by simp [GB.out])).mono ?_
        rintro e w5 ⟨rfl, x5⟩
        have HX := Kp.mk (show Ext w w5 from (by (repeat (first | assumption | exact Ext.refl _ | apply Ext.drew | apply Ext.drewN | apply Ext.alloc | refine Ext.trans ?_ (by assumption))); first | done | fail))
        clear x1 x2 x3 x4 x5
        go_wp2_with fail
        go_ret
        exact ⟨rfl, HX.out.b⟩
      · by_cases hl : va < vb
        · have GA := Kp.mk ga
          have GB := Kp.mk gb
          clear ga gb
          have ee := code_eq 1 1
          have HL := Kp.mk hl
          clear hl
          go_enter Try.func4, Try.ntmps4
          go_wp2_with fail
          refine (HU.out).mono ?_
          rintro e w1 ⟨rfl, x1⟩
          go_wp2_with fail
          refine (La.out _).mono ?_
          rintro e u1 ⟨rfl, rfl⟩
          go_wp2_with fail
          refine (Lb.out _).mono ?_
          rintro e u2 ⟨rfl, rfl⟩
          go_wp2_with fail
          refine (AddV (Na.out.ext (by (repeat (first | assumption | exact Ext.refl _ | apply Ext.drew | apply Ext.drewN | apply Ext.alloc | refine Ext.trans ?_ (by assumption))); first | done | fail)) (Nb.out.ext (by (repeat (first | assumption | exact Ext.refl _ | apply Ext.drew | apply Ext.drewN | apply Ext.alloc | refine Ext.trans ?_ (by assumption))); first | done | fail)) GA.out GB.out).mono ?_
          rintro e w2 ⟨A2, n2, c2, rfl, o2, x2⟩
          have R2 := Kp.mk o2.rd
          clear o2
          go_wp2_with fail
          refine (SubVlow (Na.out.ext (by (repeat (first | assumption | exact Ext.refl _ | apply Ext.drew | apply Ext.drewN | apply Ext.alloc | refine Ext.trans ?_ (by assumption))); first | done | fail)) (Nb.out.ext (by (repeat (first | assumption | exact Ext.refl _ | apply Ext.drew | apply Ext.drewN | apply Ext.alloc | refine Ext.trans ?_ (by assumption))); first | done | fail)) GA.out GB.out HL.out).mono ?_
          rintro e w3 ⟨rfl, x3⟩
          go_wp2_with fail
          refine (MayV (Na.out.ext (by (repeat (first | assumption | exact Ext.refl _ | apply Ext.drew | apply Ext.drewN | apply Ext.alloc | refine Ext.trans ?_ (by assumption))); first | done | fail)) true (by simp [GA.out])).mono ?_
          rintro e w4 ⟨rfl, x4⟩
          go_wp2_with fail
          refine (MayV (Nb.out.ext (by (repeat (first | assumption | exact Ext.refl _ | apply Ext.drew | apply Ext.drewN | apply Ext.alloc | refine Ext.trans ?_ (by assumption))); first | done | fail)) true (by simp [GB.out])).mono ?_
          rintro e w5 ⟨rfl, x5⟩
          go_wp2_with fail
          refine (OfV (Na.out.ext (by (repeat (first | assumption | exact Ext.refl _ | apply Ext.drew | apply Ext.drewN | apply Ext.alloc | refine Ext.trans ?_ (by assumption))); first | done | fail))).mono ?_
          rintro e w6 ⟨A6, n6, c6, rfl, r6, _, x6⟩
          have I6 := Kp.mk (Ni.of r6 la.out (by decide))
          clear r6
          go_wp2_with fail
          refine (OfV (Nb.out.ext (by (repeat (first | assumption | exact Ext.refl _ | apply Ext.drew | apply Ext.drewN | apply Ext.alloc | refine Ext.trans ?_ (by assumption))); first | done | fail))).mono ?_
          rintro e w7 ⟨A7, n7, c7, rfl, r7, _, x7⟩
          have I7 := Kp.mk (Ni.of r7 lb.out (by decide))
          clear r7
          go_wp2_with fail
          refine (RAddV (I6.out.ext (by (repeat (first | assumption | exact Ext.refl _ | apply Ext.drew | apply Ext.drewN | apply Ext.alloc | refine Ext.trans ?_ (by assumption))); first | done | fail)) (I7.out.ext (by (repeat (first | assumption | exact Ext.refl _ | apply Ext.drew | apply Ext.drewN | apply Ext.alloc | refine Ext.trans ?_ (by assumption))); first | done | fail))).mono ?_
          rintro e w8 ⟨A8, n8, c8, rfl, r8, _, x8⟩
          have I8 := Kp.mk (Ni.of r8 (lt_add la.out lb.out (show 100 < 101 by decide) (show 100 < 101 by decide)) (by decide))
          clear r8
          go_wp2_with fail
          refine (SameV (R2.out.ext (by (repeat (first | assumption | exact Ext.refl _ | apply Ext.drew | apply Ext.drewN | apply Ext.alloc | refine Ext.trans ?_ (by assumption))); first | done | fail)) (I8.out.ext (by (repeat (first | assumption | exact Ext.refl _ | apply Ext.drew | apply Ext.drewN | apply Ext.alloc | refine Ext.trans ?_ (by assumption))); first | done | fail))).mono ?_
          rintro e w9 ⟨rfl, x9⟩
          go_wp2_with fail
          refine (RCmpV (I6.out.ext (by (repeat (first | assumption | exact Ext.refl _ | apply Ext.drew | apply Ext.drewN | apply Ext.alloc | refine Ext.trans ?_ (by assumption))); first | done | fail)) (I7.out.ext (by (repeat (first | assumption | exact Ext.refl _ | apply Ext.drew | apply Ext.drewN | apply Ext.alloc | refine Ext.trans ?_ (by assumption))); first | done | fail)) (-1) (cmpI_lt HL.out)).mono ?_
          rintro e w10 ⟨rfl, x10⟩
          have HX := Kp.mk (show Ext w w10 from (by (repeat (first | assumption | exact Ext.refl _ | apply Ext.drew | apply Ext.drewN | apply Ext.alloc | refine Ext.trans ?_ (by assumption))); first | done | fail))
          clear x1 x2 x3 x4 x5 x6 x7 x8 x9 x10
          go_wp2_with fail
          go_ret
          exact ⟨rfl, HX.out.b⟩
        · have GA := Kp.mk ga
          have GB := Kp.mk gb
          clear ga gb
          have HL := Kp.mk (Nat.le_of_not_lt hl)
          obtain ⟨z, hz, hz0⟩ : ∃ z, cmpI va vb = z ∧ ¬ z < 0 := ⟨_, rfl, cmpI_nonneg (Nat.le_of_not_lt hl)⟩
          have HZ := Kp.mk hz
          clear hl hz
          go_enter Try.func4, Try.ntmps4
          go_wp2_with fail
          refine (HU.out).mono ?_
          rintro e w1 ⟨rfl, x1⟩
          go_wp2_with fail
          refine (La.out _).mono ?_
          rintro e u1 ⟨rfl, rfl⟩
          go_wp2_with fail
          refine (Lb.out _).mono ?_
          rintro e u2 ⟨rfl, rfl⟩
          go_wp2_with fail
          refine (AddV (Na.out.ext (by (repeat (first | assumption | exact Ext.refl _ | apply Ext.drew | apply Ext.drewN | apply Ext.alloc | refine Ext.trans ?_ (by assumption))); first | done | fail)) (Nb.out.ext (by (repeat (first | assumption | exact Ext.refl _ | apply Ext.drew | apply Ext.drewN | apply Ext.alloc | refine Ext.trans ?_ (by assumption))); first | done | fail)) GA.out GB.out).mono ?_
          rintro e w2 ⟨A2, n2, c2, rfl, o2, x2⟩
          have R2 := Kp.mk o2.rd
          clear o2
          go_wp2_with fail
          refine (SubV (Na.out.ext (by (repeat (first | assumption | exact Ext.refl _ | apply Ext.drew | apply Ext.drewN | apply Ext.alloc | refine Ext.trans ?_ (by assumption))); first | done | fail)) (Nb.out.ext (by (repeat (first | assumption | exact Ext.refl _ | apply Ext.drew | apply Ext.drewN | apply Ext.alloc | refine Ext.trans ?_ (by assumption))); first | done | fail)) GA.out GB.out HL.out).mono ?_
          rintro e w3 ⟨A3, n3, c3, rfl, o3, x3⟩
          have R3 := Kp.mk o3.rd
          clear o3
          go_wp2_with fail
          refine (MayV (Na.out.ext (by (repeat (first | assumption | exact Ext.refl _ | apply Ext.drew | apply Ext.drewN | apply Ext.alloc | refine Ext.trans ?_ (by assumption))); first | done | fail)) true (by simp [GA.out])).mono ?_
          rintro e w4 ⟨rfl, x4⟩
          go_wp2_with fail
          refine (MayV (Nb.out.ext (by (repeat (first | assumption | exact Ext.refl _ | apply Ext.drew | apply Ext.drewN | apply Ext.alloc | refine Ext.trans ?_ (by assumption))); first | done | fail)) true (by simp [GB.out])).mono ?_
          rintro e w5 ⟨rfl, x5⟩
          go_wp2_with fail
          refine (OfV (Na.out.ext (by (repeat (first | assumption | exact Ext.refl _ | apply Ext.drew | apply Ext.drewN | apply Ext.alloc | refine Ext.trans ?_ (by assumption))); first | done | fail))).mono ?_
          rintro e w6 ⟨A6, n6, c6, rfl, r6, _, x6⟩
          have I6 := Kp.mk (Ni.of r6 la.out (by decide))
          clear r6
          go_wp2_with fail
          refine (OfV (Nb.out.ext (by (repeat (first | assumption | exact Ext.refl _ | apply Ext.drew | apply Ext.drewN | apply Ext.alloc | refine Ext.trans ?_ (by assumption))); first | done | fail))).mono ?_
          rintro e w7 ⟨A7, n7, c7, rfl, r7, _, x7⟩
          have I7 := Kp.mk (Ni.of r7 lb.out (by decide))
          clear r7
          go_wp2_with fail
          refine (RAddV (I6.out.ext (by (repeat (first | assumption | exact Ext.refl _ | apply Ext.drew | apply Ext.drewN | apply Ext.alloc | refine Ext.trans ?_ (by assumption))); first | done | fail)) (I7.out.ext (by (repeat (first | assumption | exact Ext.refl _ | apply Ext.drew | apply Ext.drewN | apply Ext.alloc | refine Ext.trans ?_ (by assumption))); first | done | fail))).mono ?_
          rintro e w8 ⟨A8, n8, c8, rfl, r8, _, x8⟩
          have I8 := Kp.mk (Ni.of r8 (lt_add la.out lb.out (show 100 < 101 by decide) (show 100 < 101 by decide)) (by decide))
          clear r8
          go_wp2_with fail
          refine (SameV (R2.out.ext (by (repeat (first | assumption | exact Ext.refl _ | apply Ext.drew | apply Ext.drewN | apply Ext.alloc | refine Ext.trans ?_ (by assumption))); first | done | fail)) (I8.out.ext (by (repeat (first | assumption | exact Ext.refl _ | apply Ext.drew | apply Ext.drewN | apply Ext.alloc | refine Ext.trans ?_ (by assumption))); first | done | fail))).mono ?_
          rintro e w9 ⟨rfl, x9⟩
          go_wp2_with fail
          refine (RCmpV (I6.out.ext (by (repeat (first | assumption | exact Ext.refl _ | apply Ext.drew | apply Ext.drewN | apply Ext.alloc | refine Ext.trans ?_ (by assumption))); first | done | fail)) (I7.out.ext (by (repeat (first | assumption | exact Ext.refl _ | apply Ext.drew | apply Ext.drewN | apply Ext.alloc | refine Ext.trans ?_ (by assumption))); first | done | fail)) z HZ.out).mono ?_
          rintro e w10 ⟨rfl, x10⟩
          go_wp2_with fail
          refine (RSubV (I6.out.ext (by (repeat (first | assumption | exact Ext.refl _ | apply Ext.drew | apply Ext.drewN | apply Ext.alloc | refine Ext.trans ?_ (by assumption))); first | done | fail)) (I7.out.ext (by (repeat (first | assumption | exact Ext.refl _ | apply Ext.drew | apply Ext.drewN | apply Ext.alloc | refine Ext.trans ?_ (by assumption))); first | done | fail)) HL.out).mono ?_
          rintro e w11 ⟨A11, n11, c11, rfl, r11, _, x11⟩
          have I11 := Kp.mk (Ni.of r11 (Nat.lt_of_le_of_lt (Nat.sub_le _ _) la.out) (by decide))
          clear r11
          go_wp2_with fail
          refine (SameV (R3.out.ext (by (repeat (first | assumption | exact Ext.refl _ | apply Ext.drew | apply Ext.drewN | apply Ext.alloc | refine Ext.trans ?_ (by assumption))); first | done | fail)) (I11.out.ext (by (repeat (first | assumption | exact Ext.refl _ | apply Ext.drew | apply Ext.drewN | apply Ext.alloc | refine Ext.trans ?_ (by assumption))); first | done | fail))).mono ?_
          rintro e w12 ⟨rfl, x12⟩
          have HX := Kp.mk (show Ext w w12 from (by (repeat (first | assumption | exact Ext.refl _ | apply Ext.drew | apply Ext.drewN | apply Ext.alloc | refine Ext.trans ?_ (by assumption))); first | done | fail))
          clear x1 x2 x3 x4 x5 x6 x7 x8 x9 x10 x11 x12
          go_wp2_with fail
          go_ret
          exact ⟨rfl, HX.out.b⟩
  · rw [decide_eq_false (by omega)] at La
    clear ha da hb db
    go_enter Try.func4, Try.ntmps4
    go_wp2_with fail
    refine (HU.out).mono ?_
    rintro e w1 ⟨rfl, x1⟩
    go_wp2_with fail
    refine (La.out _).mono ?_
    rintro e u1 ⟨rfl, rfl⟩
    go_wp2_with fail
    go_ret
    exact ⟨rfl, x1.b⟩
  · rw [decide_eq_true hna] at La
    rw [decide_eq_false (by omega)] at Lb
    clear ha da hb db
    go_enter Try.func4, Try.ntmps4
    go_wp2_with fail
    refine (HU.out).mono ?_
    rintro e w1 ⟨rfl, x1⟩
    go_wp2_with fail
    refine (La.out _).mono ?_
    rintro e u1 ⟨rfl, rfl⟩
    go_wp2_with fail
    refine (Lb.out _).mono ?_
    rintro e u1 ⟨rfl, rfl⟩
    go_wp2_with fail
    go_ret
    exact ⟨rfl, x1.b⟩
end Go.Proofs.Ytpmoaccaknfodaa
