/-
  The walk of the law NatDivs.
-/
import Derived.Test.YtpmoaccaknfodaaQg
namespace Go.Proofs.Ytpmoaccaknfodaa
open Go Go.RowKit

section
variable {w : World} {A B E : Option Addr} {n c m d k f va vb ve : Nat}
theorem DivVlong (ha : Nv w A n c va) (hb : Nv w B m d vb) (h : lng va ∨ lng vb) : Calls Try.prog 25 #[.slice A n c, .slice B m d] w (Bad2 w 4) := by
  obtain ⟨a, ha, rfl⟩ := ha
  obtain ⟨b, hb, rfl⟩ := hb
  exact Div_long ha hb h
theorem rd_n {v k : Nat} (h : Rd vI w A n c (dgs 65536 v)) (hv : v < BB ^ k) : n ≤ 2 * k := by have h1 := len16 hv; have h2 := h.len; omega
theorem RDivV {j k : Nat} (ha : Rd vI w A n c (dgs 65536 va)) (hb : Rd vI w B m d (dgs 65536 vb)) (la : va < BB ^ j) (lb : vb < BB ^ k) (hj : j ≤ 400) (hk : k ≤ 400) (h0 : vb ≠ 0) : Calls Try.prog 26 #[.slice A n c, .slice B m d] w (DivR w va vb) :=
  div_any ⟨ha, by have := rd_n ha la; omega⟩ ⟨hb, by have := rd_n hb lb; omega⟩ (by have := rd_n ha la; omega) (by have := rd_n hb lb; omega) h0
theorem RRestV {j k : Nat} (ha : Rd vI w A n c (dgs 65536 va)) (hb : Rd vI w B m d (dgs 65536 vb)) (la : va < BB ^ j) (lb : vb < BB ^ k) (hj : j ≤ 400) (hk : k ≤ 400) (h0 : vb ≠ 0) : Calls Try.prog 31 #[.slice A n c, .slice B m d] w (FreshN w (va % vb)) :=
  rest_any ⟨ha, by have := rd_n ha la; omega⟩ ⟨hb, by have := rd_n hb lb; omega⟩ (by have := rd_n ha la; omega) (by have := rd_n hb lb; omega) h0
theorem RExpV {i j k l : Nat} (ha : Rd vI w A n c (dgs 65536 va)) (he : Rd vI w E l f (dgs 65536 ve)) (hb : Rd vI w B m d (dgs 65536 vb)) (la : va < BB ^ i) (le : ve < BB ^ j) (lb : vb < BB ^ k) (hi : i ≤ 400) (hj : j ≤ 400) (hk : k ≤ 400) (h0 : vb ≠ 0) : Calls Try.prog 28 #[.slice A n c, .slice E l f, .slice B m d] w (FreshN w (va ^ ve % vb)) :=
  exp_any ⟨ha, by have := rd_n ha la; omega⟩ ⟨he, by have := rd_n he le; omega⟩ ⟨hb, by have := rd_n hb lb; omega⟩ (by have := rd_n ha la; omega) (by have := rd_n he le; omega) (by have := rd_n hb lb; omega) h0
theorem RGcdV {j k : Nat} (ha : Rd vI w A n c (dgs 65536 va)) (hb : Rd vI w B m d (dgs 65536 vb)) (la : va < BB ^ j) (lb : vb < BB ^ k) (hj : j ≤ 400) (hk : k ≤ 400) :
    Calls Try.prog 30 #[.slice A n c, .slice B m d] w fun e w' => ∃ A' n' c', e = .returned (.slice A' n' c') ∧ Rd vI w' A' n' c' (dgs 65536 (Nat.gcd va vb)) ∧ Ext w w' :=
  gcd_any ⟨ha, by have := rd_n ha la; omega⟩ ⟨hb, by have := rd_n hb lb; omega⟩ (by have := rd_n ha la; omega) (by have := rd_n hb lb; omega)
end
set_option maxHeartbeats 8000000 in
set_option maxRecDepth 100000 in
theorem NatDivs_any {a b : List Nat} {Aa Ab : Option Addr} {na nb ca cb : Nat} {w : World} (ha : Rd vL w Aa na ca a) (hb : Rd vL w Ab nb cb b) (da : Dg BB a) (db : Dg BB b) :
    Calls Try.prog 6 #[.slice Aa na ca, .slice Ab nb cb] w fun e w' => e = .returned (.bool true) ∧ Below w.heap.size w w' := by
  have HU := Kp.mk (up_any w)
  have La := Kp.mk (fun u => light_any (A := Aa) (n := na) (c := ca) (w := u))
  have Lb := Kp.mk (fun u => light_any (A := Ab) (n := nb) (c := cb) (w := u))
  rcases light_cases na nb with ⟨hna, hnb⟩ | hna | ⟨hna, hnb⟩
  · rw [decide_eq_true hna] at La
    have Na := Kp.mk (Nv.small ha da (by omega))
    have la := Kp.mk (Nat.lt_of_lt_of_le (vl_len ha da) (Nat.pow_le_pow_right (n := BB) (by decide) hna))
    rw [decide_eq_true hnb] at Lb
    have Nb := Kp.mk (Nv.small hb db (by omega))
    have lb := Kp.mk (Nat.lt_of_lt_of_le (vl_len hb db) (Nat.pow_le_pow_right (n := BB) (by decide) hnb))
    generalize vl BB a = va at *
    generalize vl BB b = vb at *
    clear ha da hb db
    by_cases ga : lng va
    · have Ga := Kp.mk ga
      clear ga
      have ee := code_eq 4 4
      go_enter Try.func6, Try.ntmps6
      go_wp2_with fail
      refine (HU.out).mono ?_
      rintro e w1 ⟨rfl, x1⟩
      go_wp2_with fail
      refine (La.out _).mono ?_
      rintro e u1 ⟨rfl, rfl⟩
      go_wp2_with fail
      refine (Lb.out _).mono ?_
      rintro e u1 ⟨rfl, rfl⟩
      go_wp2_with fail
      refine (DivVlong (Na.out.ext (by (repeat (first | assumption | exact Ext.refl _ | apply Ext.drew | apply Ext.drewN | apply Ext.alloc | refine Ext.trans ?_ (by assumption))); first | done | fail)) (Nb.out.ext (by (repeat (first | assumption | exact Ext.refl _ | apply Ext.drew | apply Ext.drewN | apply Ext.alloc | refine Ext.trans ?_ (by assumption))); first | done | fail)) (.inl Ga.out)).mono ?_
      rintro e w2 ⟨rfl, x2⟩
      go_wp2_with fail
      refine (MayV (Na.out.ext (by (repeat (first | assumption | exact Ext.refl _ | apply Ext.drew | apply Ext.drewN | apply Ext.alloc | refine Ext.trans ?_ (by assumption))); first | done | fail)) false (by simp [Ga.out])).mono ?_
      rintro e w3 ⟨rfl, x3⟩
      have HX := Kp.mk (show Ext w w3 from (by (repeat (first | assumption | exact Ext.refl _ | apply Ext.drew | apply Ext.drewN | apply Ext.alloc | refine Ext.trans ?_ (by assumption))); first | done | fail))
      clear x1 x2 x3
      go_wp2_with fail
      go_ret
      exact ⟨rfl, HX.out.b⟩
    · by_cases gb : lng vb
      · have Ga := Kp.mk ga
        clear ga
        have Gb := Kp.mk gb
        clear gb
        have ee := code_eq 4 4
        go_enter Try.func6, Try.ntmps6
        go_wp2_with fail
        refine (HU.out).mono ?_
        rintro e w1 ⟨rfl, x1⟩
        go_wp2_with fail
        refine (La.out _).mono ?_
        rintro e u1 ⟨rfl, rfl⟩
        go_wp2_with fail
        refine (Lb.out _).mono ?_
        rintro e u1 ⟨rfl, rfl⟩
        go_wp2_with fail
        refine (DivVlong (Na.out.ext (by (repeat (first | assumption | exact Ext.refl _ | apply Ext.drew | apply Ext.drewN | apply Ext.alloc | refine Ext.trans ?_ (by assumption))); first | done | fail)) (Nb.out.ext (by (repeat (first | assumption | exact Ext.refl _ | apply Ext.drew | apply Ext.drewN | apply Ext.alloc | refine Ext.trans ?_ (by assumption))); first | done | fail)) (.inr Gb.out)).mono ?_
        rintro e w2 ⟨rfl, x2⟩
        go_wp2_with fail
        refine (MayV (Na.out.ext (by (repeat (first | assumption | exact Ext.refl _ | apply Ext.drew | apply Ext.drewN | apply Ext.alloc | refine Ext.trans ?_ (by assumption))); first | done | fail)) true (by simp [Ga.out])).mono ?_
        rintro e w3 ⟨rfl, x3⟩
        go_wp2_with fail
        refine (MayV (Nb.out.ext (by (repeat (first | assumption | exact Ext.refl _ | apply Ext.drew | apply Ext.drewN | apply Ext.alloc | refine Ext.trans ?_ (by assumption))); first | done | fail)) false (by simp [Gb.out])).mono ?_
        rintro e w4 ⟨rfl, x4⟩
        have HX := Kp.mk (show Ext w w4 from (by (repeat (first | assumption | exact Ext.refl _ | apply Ext.drew | apply Ext.drewN | apply Ext.alloc | refine Ext.trans ?_ (by assumption))); first | done | fail))
        clear x1 x2 x3 x4
        go_wp2_with fail
        go_ret
        exact ⟨rfl, HX.out.b⟩
      · by_cases g0 : vb = 0
        · subst g0
          have Ga := Kp.mk ga
          clear ga
          have Gb := Kp.mk gb
          clear gb
          have ee := code_eq 1 1
          go_enter Try.func6, Try.ntmps6
          go_wp2_with fail
          refine (HU.out).mono ?_
          rintro e w1 ⟨rfl, x1⟩
          go_wp2_with fail
          refine (La.out _).mono ?_
          rintro e u1 ⟨rfl, rfl⟩
          go_wp2_with fail
          refine (Lb.out _).mono ?_
          rintro e u1 ⟨rfl, rfl⟩
          go_wp2_with fail
          refine (DivV0 (Na.out.ext (by (repeat (first | assumption | exact Ext.refl _ | apply Ext.drew | apply Ext.drewN | apply Ext.alloc | refine Ext.trans ?_ (by assumption))); first | done | fail)) (Nb.out.ext (by (repeat (first | assumption | exact Ext.refl _ | apply Ext.drew | apply Ext.drewN | apply Ext.alloc | refine Ext.trans ?_ (by assumption))); first | done | fail)) Ga.out).mono ?_
          rintro e w2 ⟨rfl, x2⟩
          go_wp2_with fail
          refine (MayV (Na.out.ext (by (repeat (first | assumption | exact Ext.refl _ | apply Ext.drew | apply Ext.drewN | apply Ext.alloc | refine Ext.trans ?_ (by assumption))); first | done | fail)) true (by simp [Ga.out])).mono ?_
          rintro e w3 ⟨rfl, x3⟩
          go_wp2_with fail
          refine (MayV (Nb.out.ext (by (repeat (first | assumption | exact Ext.refl _ | apply Ext.drew | apply Ext.drewN | apply Ext.alloc | refine Ext.trans ?_ (by assumption))); first | done | fail)) true (by simp [Gb.out])).mono ?_
          rintro e w4 ⟨rfl, x4⟩
          go_wp2_with fail
          refine (OfV (Nb.out.ext (by (repeat (first | assumption | exact Ext.refl _ | apply Ext.drew | apply Ext.drewN | apply Ext.alloc | refine Ext.trans ?_ (by assumption))); first | done | fail))).mono ?_
          rintro e w5 ⟨A5, n5, c5, rfl, r5, _, x5⟩
          obtain rfl : n5 = 0 := r5.len.symm
          clear r5
          have HX := Kp.mk (show Ext w w5 from (by (repeat (first | assumption | exact Ext.refl _ | apply Ext.drew | apply Ext.drewN | apply Ext.alloc | refine Ext.trans ?_ (by assumption))); first | done | fail))
          clear x1 x2 x3 x4 x5
          go_wp2_with fail
          go_ret
          exact ⟨rfl, HX.out.b⟩
        · have G0 := Kp.mk g0
          clear g0
          have Ga := Kp.mk ga
          clear ga
          have Gb := Kp.mk gb
          clear gb
          go_enter Try.func6, Try.ntmps6
          go_wp2_with fail
          refine (HU.out).mono ?_
          rintro e w1 ⟨rfl, x1⟩
          go_wp2_with fail
          refine (La.out _).mono ?_
          rintro e u1 ⟨rfl, rfl⟩
          go_wp2_with fail
          refine (Lb.out _).mono ?_
          rintro e u1 ⟨rfl, rfl⟩
          go_wp2_with fail
          refine (DivV (Na.out.ext (by (repeat (first | assumption | exact Ext.refl _ | apply Ext.drew | apply Ext.drewN | apply Ext.alloc | refine Ext.trans ?_ (by assumption))); first | done | fail)) (Nb.out.ext (by (repeat (first | assumption | exact Ext.refl _ | apply Ext.drew | apply Ext.drewN | apply Ext.alloc | refine Ext.trans ?_ (by assumption))); first | done | fail)) Ga.out Gb.out G0.out).mono ?_
          rintro e w2 ⟨A2, n2, c2, A3, n3, c3, rfl, o2, o3, x2⟩
          have R2 := Kp.mk o2.rd
          have R3 := Kp.mk o3.rd
          clear o2 o3
          go_wp2_with fail
          refine (MayV (Na.out.ext (by (repeat (first | assumption | exact Ext.refl _ | apply Ext.drew | apply Ext.drewN | apply Ext.alloc | refine Ext.trans ?_ (by assumption))); first | done | fail)) true (by simp [Ga.out])).mono ?_
          rintro e w3 ⟨rfl, x3⟩
          go_wp2_with fail
          refine (MayV (Nb.out.ext (by (repeat (first | assumption | exact Ext.refl _ | apply Ext.drew | apply Ext.drewN | apply Ext.alloc | refine Ext.trans ?_ (by assumption))); first | done | fail)) true (by simp [Gb.out])).mono ?_
          rintro e w4 ⟨rfl, x4⟩
          go_wp2_with fail
          refine (OfV (Nb.out.ext (by (repeat (first | assumption | exact Ext.refl _ | apply Ext.drew | apply Ext.drewN | apply Ext.alloc | refine Ext.trans ?_ (by assumption))); first | done | fail))).mono ?_
          rintro e w5 ⟨A5, n5, c5, rfl, r5, _, x5⟩
          have b5 : ¬ (n5 : Int) = 0 := fun e => G0.out ((dgs_nil (B := 65536) (by decide) vb).1 (List.eq_nil_of_length_eq_zero (by have := r5.len; omega)))
          have I5 := Kp.mk r5
          clear r5
          go_wp2_with fail
          refine (OfV (Na.out.ext (by (repeat (first | assumption | exact Ext.refl _ | apply Ext.drew | apply Ext.drewN | apply Ext.alloc | refine Ext.trans ?_ (by assumption))); first | done | fail))).mono ?_
          rintro e w6 ⟨A6, n6, c6, rfl, r6, _, x6⟩
          have I6 := Kp.mk r6
          clear r6
          go_wp2_with fail
          refine (RDivV (I6.out.ext (by (repeat (first | assumption | exact Ext.refl _ | apply Ext.drew | apply Ext.drewN | apply Ext.alloc | refine Ext.trans ?_ (by assumption))); first | done | fail)) (I5.out.ext (by (repeat (first | assumption | exact Ext.refl _ | apply Ext.drew | apply Ext.drewN | apply Ext.alloc | refine Ext.trans ?_ (by assumption))); first | done | fail)) la.out lb.out (by decide) (by decide) G0.out).mono ?_
          rintro e w7 ⟨A7, n7, c7, A8, n8, c8, rfl, o7, o8, x7⟩
          have I7 := Kp.mk (Ni.of o7.rd (Nat.lt_of_le_of_lt (Nat.div_le_self _ _) la.out) (by decide))
          have I8 := Kp.mk (Ni.of o8.rd (Nat.lt_of_le_of_lt (Nat.mod_le _ _) la.out) (by decide))
          clear o7 o8
          go_wp2_with fail
          refine (SameV (R2.out.ext (by (repeat (first | assumption | exact Ext.refl _ | apply Ext.drew | apply Ext.drewN | apply Ext.alloc | refine Ext.trans ?_ (by assumption))); first | done | fail)) (I7.out.ext (by (repeat (first | assumption | exact Ext.refl _ | apply Ext.drew | apply Ext.drewN | apply Ext.alloc | refine Ext.trans ?_ (by assumption))); first | done | fail))).mono ?_
          rintro e w8 ⟨rfl, x8⟩
          go_wp2_with fail
          refine (SameV (R3.out.ext (by (repeat (first | assumption | exact Ext.refl _ | apply Ext.drew | apply Ext.drewN | apply Ext.alloc | refine Ext.trans ?_ (by assumption))); first | done | fail)) (I8.out.ext (by (repeat (first | assumption | exact Ext.refl _ | apply Ext.drew | apply Ext.drewN | apply Ext.alloc | refine Ext.trans ?_ (by assumption))); first | done | fail))).mono ?_
          rintro e w9 ⟨rfl, x9⟩
          have HX := Kp.mk (show Ext w w9 from (by (repeat (first | assumption | exact Ext.refl _ | apply Ext.drew | apply Ext.drewN | apply Ext.alloc | refine Ext.trans ?_ (by assumption))); first | done | fail))
          clear x1 x2 x3 x4 x5 x6 x7 x8 x9
          go_wp2_with fail
          go_ret
          exact ⟨rfl, HX.out.b⟩
  · rw [decide_eq_false (by omega)] at La
    clear ha da hb db
    go_enter Try.func6, Try.ntmps6
    go_wp2_with fail
    refine (HU.out).mono ?_
    rintro e w1 ⟨rfl, x1⟩
    go_wp2_with fail
    refine (La.out _).mono ?_
    rintro e u1 ⟨rfl, rfl⟩
    go_wp2_with fail
    go_ret
    exact ⟨rfl, x1.b⟩
  · rw [decide_eq_true hna] at La
    rw [decide_eq_false (by omega)] at Lb
    clear ha da hb db
    go_enter Try.func6, Try.ntmps6
    go_wp2_with fail
    refine (HU.out).mono ?_
    rintro e w1 ⟨rfl, x1⟩
    go_wp2_with fail
    refine (La.out _).mono ?_
    rintro e u1 ⟨rfl, rfl⟩
    go_wp2_with fail
    refine (Lb.out _).mono ?_
    rintro e u1 ⟨rfl, rfl⟩
    go_wp2_with fail
    go_ret
    exact ⟨rfl, x1.b⟩
end Go.Proofs.Ytpmoaccaknfodaa
