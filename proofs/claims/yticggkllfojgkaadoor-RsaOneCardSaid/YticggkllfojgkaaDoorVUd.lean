/-
  The walk of the law RsaOne.
-/
import Derived.Test.YticggkllfojgkaaDoorVUc
import Derived.Test.YticggkllfojgkaaDoorM19
import Derived.Test.YticggkllfojgkaaDoorM21
namespace Go.Proofs.YticggkllfojgkaaDoor
open Go Go.RowKit
set_option maxRecDepth 4000

set_option maxHeartbeats 8000000 in
set_option maxRecDepth 100000 in
theorem RsaOne_any {w : World} {AN AE Ab As_ At : Option Addr} {nN nE nb_ ns nt cN cE cb cs ct : Nat} {lN lE : List Nat} {lb ls lt : List (BitVec 8)} (hN : Nk w AN nN cN lN) (hE : Nk w AE nE cE lE) (hb : Bs w Ab nb_ cb lb) (hs : Bs w As_ ns cs ls) (ht : Bs w At nt ct lt) (hw : Lay w) :
    Calls Tryd.prog 5 #[.agg #[.slice AN nN cN, .slice AE nE cE], .slice Ab nb_ cb, .slice As_ ns cs, .slice At nt ct] w fun e w' => e = .returned (.bool true) ∧ Below w.heap.size w w' := by
  have HU := Kp.mk (fun u => up6_any u)
  have HB := Kp.mk (Blk.new w 25 #[.slice AN nN cN, .slice AE nE cE])
  have hways : (70 < nN) ∨ (¬ 70 < nN ∧ 2 < nE) ∨ (¬ 70 < nN ∧ ¬ 2 < nE ∧ 300 < ns) ∨ (¬ 70 < nN ∧ ¬ 2 < nE ∧ ¬ 300 < ns ∧ 300 < nt) ∨ (¬ 70 < nN ∧ ¬ 2 < nE ∧ ¬ 300 < ns ∧ ¬ 300 < nt) := by omega
  rcases hways with h1 | ⟨h1, h2⟩ | ⟨h1, h2, h3⟩ | ⟨h1, h2, h3, h4⟩ | ⟨h1, h2, h3, h4⟩
  · have g0 : (70 : Int) < (nN : Int) := by omega
    have g0' : 70 < nN := by omega
    clear hN hE hb hs ht hw h1
    go_enter Tryd.func5, Tryd.ntmps5
    go_wp2_with fail
    refine (HU.out _).mono ?_
    rintro e w1 ⟨rfl, x⟩
    have x1 := x
    clear x
    obtain ⟨c0, c1⟩ := box2 HB.out (show Ext (w.alloc (.cells #[.slice AN nN cN, .slice AE nE cE] 25)) w1 from (by (repeat (first | assumption | exact Ext.refl _ | apply Ext.drew | apply Ext.drewN | apply Ext.alloc | refine Ext.trans ?_ (by assumption))); first | done | fail))
    have HX := Kp.mk (show Ext w w1 from (by (repeat (first | assumption | exact Ext.refl _ | apply Ext.drew | apply Ext.drewN | apply Ext.alloc | refine Ext.trans ?_ (by assumption))); first | done | fail))
    clear x1
    go_wp2_with fail
    go_ret
    exact ⟨rfl, HX.out.b⟩
  · have g0 : decide ((70 : Int) < (nN : Int)) = false := decide_eq_false (by omega)
    have g0' : decide (70 < nN) = false := decide_eq_false (by omega)
    have g1 : (2 : Int) < (nE : Int) := by omega
    have g1' : 2 < nE := by omega
    clear hN hE hb hs ht hw h1 h2
    go_enter Tryd.func5, Tryd.ntmps5
    go_wp2_with fail
    refine (HU.out _).mono ?_
    rintro e w1 ⟨rfl, x⟩
    have x1 := x
    clear x
    obtain ⟨c0, c1⟩ := box2 HB.out (show Ext (w.alloc (.cells #[.slice AN nN cN, .slice AE nE cE] 25)) w1 from (by (repeat (first | assumption | exact Ext.refl _ | apply Ext.drew | apply Ext.drewN | apply Ext.alloc | refine Ext.trans ?_ (by assumption))); first | done | fail))
    have HX := Kp.mk (show Ext w w1 from (by (repeat (first | assumption | exact Ext.refl _ | apply Ext.drew | apply Ext.drewN | apply Ext.alloc | refine Ext.trans ?_ (by assumption))); first | done | fail))
    clear x1
    go_wp2_with fail
    go_ret
    exact ⟨rfl, HX.out.b⟩
  · have g0 : decide ((70 : Int) < (nN : Int)) = false := decide_eq_false (by omega)
    have g0' : decide (70 < nN) = false := decide_eq_false (by omega)
    have g1 : decide ((2 : Int) < (nE : Int)) = false := decide_eq_false (by omega)
    have g1' : decide (2 < nE) = false := decide_eq_false (by omega)
    have g2 : (300 : Int) < (ns : Int) := by omega
    have g2' : 300 < ns := by omega
    clear hN hE hb hs ht hw h1 h2 h3
    go_enter Tryd.func5, Tryd.ntmps5
    go_wp2_with fail
    refine (HU.out _).mono ?_
    rintro e w1 ⟨rfl, x⟩
    have x1 := x
    clear x
    obtain ⟨c0, c1⟩ := box2 HB.out (show Ext (w.alloc (.cells #[.slice AN nN cN, .slice AE nE cE] 25)) w1 from (by (repeat (first | assumption | exact Ext.refl _ | apply Ext.drew | apply Ext.drewN | apply Ext.alloc | refine Ext.trans ?_ (by assumption))); first | done | fail))
    have HX := Kp.mk (show Ext w w1 from (by (repeat (first | assumption | exact Ext.refl _ | apply Ext.drew | apply Ext.drewN | apply Ext.alloc | refine Ext.trans ?_ (by assumption))); first | done | fail))
    clear x1
    go_wp2_with fail
    go_ret
    exact ⟨rfl, HX.out.b⟩
  · have g0 : decide ((70 : Int) < (nN : Int)) = false := decide_eq_false (by omega)
    have g0' : decide (70 < nN) = false := decide_eq_false (by omega)
    have g1 : decide ((2 : Int) < (nE : Int)) = false := decide_eq_false (by omega)
    have g1' : decide (2 < nE) = false := decide_eq_false (by omega)
    have g2 : decide ((300 : Int) < (ns : Int)) = false := decide_eq_false (by omega)
    have g2' : decide (300 < ns) = false := decide_eq_false (by omega)
    have g3 : (300 : Int) < (nt : Int) := by omega
    have g3' : 300 < nt := by omega
    clear hN hE hb hs ht hw h1 h2 h3 h4
    go_enter Tryd.func5, Tryd.ntmps5
    go_wp2_with fail
    refine (HU.out _).mono ?_
    rintro e w1 ⟨rfl, x⟩
    have x1 := x
    clear x
    obtain ⟨c0, c1⟩ := box2 HB.out (show Ext (w.alloc (.cells #[.slice AN nN cN, .slice AE nE cE] 25)) w1 from (by (repeat (first | assumption | exact Ext.refl _ | apply Ext.drew | apply Ext.drewN | apply Ext.alloc | refine Ext.trans ?_ (by assumption))); first | done | fail))
    have HX := Kp.mk (show Ext w w1 from (by (repeat (first | assumption | exact Ext.refl _ | apply Ext.drew | apply Ext.drewN | apply Ext.alloc | refine Ext.trans ?_ (by assumption))); first | done | fail))
    clear x1
    go_wp2_with fail
    go_ret
    exact ⟨rfl, HX.out.b⟩
  · have g0 : decide ((70 : Int) < (nN : Int)) = false := decide_eq_false (by omega)
    have g0' : decide (70 < nN) = false := decide_eq_false (by omega)
    have g1 : decide ((2 : Int) < (nE : Int)) = false := decide_eq_false (by omega)
    have g1' : decide (2 < nE) = false := decide_eq_false (by omega)
    have g2 : decide ((300 : Int) < (ns : Int)) = false := decide_eq_false (by omega)
    have g2' : decide (300 < ns) = false := decide_eq_false (by omega)
    have g3 : decide ((300 : Int) < (nt : Int)) = false := decide_eq_false (by omega)
    have g3' : decide (300 < nt) = false := decide_eq_false (by omega)
    have NN := Kp.mk (Nv.small hN.r hN.d (by omega))
    have bN := Kp.mk (Nat.lt_of_lt_of_le (vl_len hN.r hN.d) (Nat.pow_le_pow_right (n := BB) (by decide) (show nN ≤ 70 by omega)))
    obtain ⟨vN, hvN⟩ : ∃ v, vl BB lN = v := ⟨_, rfl⟩
    rw [hvN] at NN bN
    clear hN hvN
    have NE := Kp.mk (Nv.small hE.r hE.d (by omega))
    have bE := Kp.mk (Nat.lt_of_lt_of_le (vl_len hE.r hE.d) (Nat.pow_le_pow_right (n := BB) (by decide) (show nE ≤ 70 by omega)))
    obtain ⟨vE, hvE⟩ : ∃ v, vl BB lE = v := ⟨_, rfl⟩
    rw [hvE] at NE bE
    clear hE hvE
    have HG := Kp.mk hs
    have HT := Kp.mk ht
    have hs3 : ns ≤ 300 := by omega
    have ht3 : nt ≤ 300 := by omega
    have HBb := Kp.mk (hb.take (min nb_ 300) (Nat.min_le_left _ _))
    have HBo := Kp.mk hb
    have hb3 : min nb_ 300 ≤ 300 := Nat.min_le_right _ _
    have HW := Kp.mk hw
    clear h1 h2 h3 h4 hb hs ht hw
    obtain ⟨lq, hlq⟩ : ∃ lq, lb.take (min nb_ 300) = lq := ⟨_, rfl⟩
    have HQ := Kp.mk hlq
    rw [hlq] at HBb
    clear hlq
    by_cases hp : PubOk vN vE
    rotate_left
    · have HP := Kp.mk hp
      clear hp
      go_enter Tryd.func5, Tryd.ntmps5
      go_wp2_with fail
      refine (HU.out _).mono ?_
      rintro e w1 ⟨rfl, x⟩
      have x1 := x
      clear x
      obtain ⟨c0, c1⟩ := box2 HB.out (show Ext (w.alloc (.cells #[.slice AN nN cN, .slice AE nE cE] 25)) w1 from (by (repeat (first | assumption | exact Ext.refl _ | apply Ext.drew | apply Ext.drewN | apply Ext.alloc | refine Ext.trans ?_ (by assumption))); first | done | fail))
      go_wp2_with fail
      refine (cut6_any (HBo.out.ext (show Ext w w1 from (by (repeat (first | assumption | exact Ext.refl _ | apply Ext.drew | apply Ext.drewN | apply Ext.alloc | refine Ext.trans ?_ (by assumption))); first | done | fail))) 300 rfl).mono ?_
      rintro e w2 ⟨rfl, _, hw⟩
      subst hw
      generalize min nb_ 300 = nq at *
      obtain ⟨c0, c1⟩ := box2 HB.out (show Ext (w.alloc (.cells #[.slice AN nN cN, .slice AE nE cE] 25)) w2 from (by (repeat (first | assumption | exact Ext.refl _ | apply Ext.drew | apply Ext.drewN | apply Ext.alloc | refine Ext.trans ?_ (by assumption))); first | done | fail))
      go_wp2_with (first | ((with_reducible refine at_load_to 40 4 ?_); refine wpList_load_row rfl 25 _ rfl w.heap.size rfl 25 _ (0, 0) _ (HB.out.ext (show Ext (w.alloc (.cells #[.slice AN nN cN, .slice AE nE cE] 25)) w2 from (by (repeat (first | assumption | exact Ext.refl _ | apply Ext.drew | apply Ext.drewN | apply Ext.alloc | refine Ext.trans ?_ (by assumption))); first | done | fail))).h Tryd.underlying25 rfl szP2 ?_) | fail)
      refine (Verify_arg (NN.out.ext (by (repeat (first | assumption | exact Ext.refl _ | apply Ext.drew | apply Ext.drewN | apply Ext.alloc | refine Ext.trans ?_ (by assumption))); first | done | fail)) (NE.out.ext (by (repeat (first | assumption | exact Ext.refl _ | apply Ext.drew | apply Ext.drewN | apply Ext.alloc | refine Ext.trans ?_ (by assumption))); first | done | fail)) HP.out).mono ?_
      rintro e w3 ⟨rfl, x⟩
      have x3 := Ext.trans (show Ext w2 _ from (by (repeat (first | assumption | exact Ext.refl _ | apply Ext.drew | apply Ext.drewN | apply Ext.alloc | refine Ext.trans ?_ (by assumption))); first | done | fail)) x
      clear x
      obtain ⟨c0, c1⟩ := box2 HB.out (show Ext (w.alloc (.cells #[.slice AN nN cN, .slice AE nE cE] 25)) w3 from (by (repeat (first | assumption | exact Ext.refl _ | apply Ext.drew | apply Ext.drewN | apply Ext.alloc | refine Ext.trans ?_ (by assumption))); first | done | fail))
      go_wp2_with (first | ((with_reducible refine at_load_to 44 4 ?_); refine wpList_load_row rfl 25 _ rfl w.heap.size rfl 25 _ (0, 0) _ (HB.out.ext (show Ext (w.alloc (.cells #[.slice AN nN cN, .slice AE nE cE] 25)) w3 from (by (repeat (first | assumption | exact Ext.refl _ | apply Ext.drew | apply Ext.drewN | apply Ext.alloc | refine Ext.trans ?_ (by assumption))); first | done | fail))).h Tryd.underlying25 rfl szP2 ?_) | fail)
      refine (Verify_arg (NN.out.ext (by (repeat (first | assumption | exact Ext.refl _ | apply Ext.drew | apply Ext.drewN | apply Ext.alloc | refine Ext.trans ?_ (by assumption))); first | done | fail)) (NE.out.ext (by (repeat (first | assumption | exact Ext.refl _ | apply Ext.drew | apply Ext.drewN | apply Ext.alloc | refine Ext.trans ?_ (by assumption))); first | done | fail)) HP.out).mono ?_
      rintro e w4 ⟨rfl, x⟩
      have x4 := Ext.trans (show Ext w3 _ from (by (repeat (first | assumption | exact Ext.refl _ | apply Ext.drew | apply Ext.drewN | apply Ext.alloc | refine Ext.trans ?_ (by assumption))); first | done | fail)) x
      clear x
      have HX := Kp.mk (show Ext w w4 from (by (repeat (first | assumption | exact Ext.refl _ | apply Ext.drew | apply Ext.drewN | apply Ext.alloc | refine Ext.trans ?_ (by assumption))); first | done | fail))
      clear x1 x3 x4
      go_wp2_with fail
      go_ret
      exact ⟨rfl, HX.out.b⟩
    · by_cases hx1 : rs ls vE vN = some (sgL (dgH lq) (nb vN))
      rotate_left
      · have HP := Kp.mk hp
        have HX1 := Kp.mk hx1
        clear hp hx1
        go_enter Tryd.func5, Tryd.ntmps5
        go_wp2_with fail
        refine (HU.out _).mono ?_
        rintro e w1 ⟨rfl, x⟩
        have x1 := x
        clear x
        obtain ⟨c0, c1⟩ := box2 HB.out (show Ext (w.alloc (.cells #[.slice AN nN cN, .slice AE nE cE] 25)) w1 from (by (repeat (first | assumption | exact Ext.refl _ | apply Ext.drew | apply Ext.drewN | apply Ext.alloc | refine Ext.trans ?_ (by assumption))); first | done | fail))
        go_wp2_with fail
        refine (cut6_any (HBo.out.ext (show Ext w w1 from (by (repeat (first | assumption | exact Ext.refl _ | apply Ext.drew | apply Ext.drewN | apply Ext.alloc | refine Ext.trans ?_ (by assumption))); first | done | fail))) 300 rfl).mono ?_
        rintro e w2 ⟨rfl, _, hw⟩
        subst hw
        generalize min nb_ 300 = nq at *
        obtain ⟨c0, c1⟩ := box2 HB.out (show Ext (w.alloc (.cells #[.slice AN nN cN, .slice AE nE cE] 25)) w2 from (by (repeat (first | assumption | exact Ext.refl _ | apply Ext.drew | apply Ext.drewN | apply Ext.alloc | refine Ext.trans ?_ (by assumption))); first | done | fail))
        go_wp2_with (first | ((with_reducible refine at_load_to 40 4 ?_); refine wpList_load_row rfl 25 _ rfl w.heap.size rfl 25 _ (0, 0) _ (HB.out.ext (show Ext (w.alloc (.cells #[.slice AN nN cN, .slice AE nE cE] 25)) w2 from (by (repeat (first | assumption | exact Ext.refl _ | apply Ext.drew | apply Ext.drewN | apply Ext.alloc | refine Ext.trans ?_ (by assumption))); first | done | fail))).h Tryd.underlying25 rfl szP2 ?_) | fail)
        refine (Verify_all (NN.out.ext (by (repeat (first | assumption | exact Ext.refl _ | apply Ext.drew | apply Ext.drewN | apply Ext.alloc | refine Ext.trans ?_ (by assumption))); first | done | fail)) (NE.out.ext (by (repeat (first | assumption | exact Ext.refl _ | apply Ext.drew | apply Ext.drewN | apply Ext.alloc | refine Ext.trans ?_ (by assumption))); first | done | fail)) (HBb.out.ext (by (repeat (first | assumption | exact Ext.refl _ | apply Ext.drew | apply Ext.drewN | apply Ext.alloc | refine Ext.trans ?_ (by assumption))); first | done | fail)) (HG.out.ext (by (repeat (first | assumption | exact Ext.refl _ | apply Ext.drew | apply Ext.drewN | apply Ext.alloc | refine Ext.trans ?_ (by assumption))); first | done | fail)) (by omega) HP.out (HW.out.ext (by (repeat (first | assumption | exact Ext.refl _ | apply Ext.drew | apply Ext.drewN | apply Ext.alloc | refine Ext.trans ?_ (by assumption))); first | done | fail))).mono ?_
        rintro e w3 ⟨rfl, x⟩
        have x3 := Ext.trans (show Ext w2 _ from (by (repeat (first | assumption | exact Ext.refl _ | apply Ext.drew | apply Ext.drewN | apply Ext.alloc | refine Ext.trans ?_ (by assumption))); first | done | fail)) x
        clear x
        rw [verE_no HX1.out]
        obtain ⟨c0, c1⟩ := box2 HB.out (show Ext (w.alloc (.cells #[.slice AN nN cN, .slice AE nE cE] 25)) w3 from (by (repeat (first | assumption | exact Ext.refl _ | apply Ext.drew | apply Ext.drewN | apply Ext.alloc | refine Ext.trans ?_ (by assumption))); first | done | fail))
        go_wp2_with (first | ((with_reducible refine at_load_to 44 4 ?_); refine wpList_load_row rfl 25 _ rfl w.heap.size rfl 25 _ (0, 0) _ (HB.out.ext (show Ext (w.alloc (.cells #[.slice AN nN cN, .slice AE nE cE] 25)) w3 from (by (repeat (first | assumption | exact Ext.refl _ | apply Ext.drew | apply Ext.drewN | apply Ext.alloc | refine Ext.trans ?_ (by assumption))); first | done | fail))).h Tryd.underlying25 rfl szP2 ?_) | fail)
        refine (Verify_all (NN.out.ext (by (repeat (first | assumption | exact Ext.refl _ | apply Ext.drew | apply Ext.drewN | apply Ext.alloc | refine Ext.trans ?_ (by assumption))); first | done | fail)) (NE.out.ext (by (repeat (first | assumption | exact Ext.refl _ | apply Ext.drew | apply Ext.drewN | apply Ext.alloc | refine Ext.trans ?_ (by assumption))); first | done | fail)) (HBb.out.ext (by (repeat (first | assumption | exact Ext.refl _ | apply Ext.drew | apply Ext.drewN | apply Ext.alloc | refine Ext.trans ?_ (by assumption))); first | done | fail)) (HT.out.ext (by (repeat (first | assumption | exact Ext.refl _ | apply Ext.drew | apply Ext.drewN | apply Ext.alloc | refine Ext.trans ?_ (by assumption))); first | done | fail)) (by omega) HP.out (HW.out.ext (by (repeat (first | assumption | exact Ext.refl _ | apply Ext.drew | apply Ext.drewN | apply Ext.alloc | refine Ext.trans ?_ (by assumption))); first | done | fail))).mono ?_
        rintro e w4 ⟨rfl, x⟩
        have x4 := Ext.trans (show Ext w3 _ from (by (repeat (first | assumption | exact Ext.refl _ | apply Ext.drew | apply Ext.drewN | apply Ext.alloc | refine Ext.trans ?_ (by assumption))); first | done | fail)) x
        clear x
        generalize verE lt lq vE vN = E2
        have HX := Kp.mk (show Ext w w4 from (by (repeat (first | assumption | exact Ext.refl _ | apply Ext.drew | apply Ext.drewN | apply Ext.alloc | refine Ext.trans ?_ (by assumption))); first | done | fail))
        clear x1 x3 x4
        go_wp2_with fail
        go_ret
        exact ⟨rfl, HX.out.b⟩
      · by_cases hx2 : rs lt vE vN = some (sgL (dgH lq) (nb vN))
        rotate_left
        · have HP := Kp.mk hp
          have HX1 := Kp.mk hx1
          have HX2 := Kp.mk hx2
          clear hp hx1 hx2
          go_enter Tryd.func5, Tryd.ntmps5
          go_wp2_with fail
          refine (HU.out _).mono ?_
          rintro e w1 ⟨rfl, x⟩
          have x1 := x
          clear x
          obtain ⟨c0, c1⟩ := box2 HB.out (show Ext (w.alloc (.cells #[.slice AN nN cN, .slice AE nE cE] 25)) w1 from (by (repeat (first | assumption | exact Ext.refl _ | apply Ext.drew | apply Ext.drewN | apply Ext.alloc | refine Ext.trans ?_ (by assumption))); first | done | fail))
          go_wp2_with fail
          refine (cut6_any (HBo.out.ext (show Ext w w1 from (by (repeat (first | assumption | exact Ext.refl _ | apply Ext.drew | apply Ext.drewN | apply Ext.alloc | refine Ext.trans ?_ (by assumption))); first | done | fail))) 300 rfl).mono ?_
          rintro e w2 ⟨rfl, _, hw⟩
          subst hw
          generalize min nb_ 300 = nq at *
          obtain ⟨c0, c1⟩ := box2 HB.out (show Ext (w.alloc (.cells #[.slice AN nN cN, .slice AE nE cE] 25)) w2 from (by (repeat (first | assumption | exact Ext.refl _ | apply Ext.drew | apply Ext.drewN | apply Ext.alloc | refine Ext.trans ?_ (by assumption))); first | done | fail))
          go_wp2_with (first | ((with_reducible refine at_load_to 40 4 ?_); refine wpList_load_row rfl 25 _ rfl w.heap.size rfl 25 _ (0, 0) _ (HB.out.ext (show Ext (w.alloc (.cells #[.slice AN nN cN, .slice AE nE cE] 25)) w2 from (by (repeat (first | assumption | exact Ext.refl _ | apply Ext.drew | apply Ext.drewN | apply Ext.alloc | refine Ext.trans ?_ (by assumption))); first | done | fail))).h Tryd.underlying25 rfl szP2 ?_) | fail)
          refine (Verify_all (NN.out.ext (by (repeat (first | assumption | exact Ext.refl _ | apply Ext.drew | apply Ext.drewN | apply Ext.alloc | refine Ext.trans ?_ (by assumption))); first | done | fail)) (NE.out.ext (by (repeat (first | assumption | exact Ext.refl _ | apply Ext.drew | apply Ext.drewN | apply Ext.alloc | refine Ext.trans ?_ (by assumption))); first | done | fail)) (HBb.out.ext (by (repeat (first | assumption | exact Ext.refl _ | apply Ext.drew | apply Ext.drewN | apply Ext.alloc | refine Ext.trans ?_ (by assumption))); first | done | fail)) (HG.out.ext (by (repeat (first | assumption | exact Ext.refl _ | apply Ext.drew | apply Ext.drewN | apply Ext.alloc | refine Ext.trans ?_ (by assumption))); first | done | fail)) (by omega) HP.out (HW.out.ext (by (repeat (first | assumption | exact Ext.refl _ | apply Ext.drew | apply Ext.drewN | apply Ext.alloc | refine Ext.trans ?_ (by assumption))); first | done | fail))).mono ?_
          rintro e w3 ⟨rfl, x⟩
          have x3 := Ext.trans (show Ext w2 _ from (by (repeat (first | assumption | exact Ext.refl _ | apply Ext.drew | apply Ext.drewN | apply Ext.alloc | refine Ext.trans ?_ (by assumption))); first | done | fail)) x
          clear x
          rw [verE_yes HX1.out]
          obtain ⟨c0, c1⟩ := box2 HB.out (show Ext (w.alloc (.cells #[.slice AN nN cN, .slice AE nE cE] 25)) w3 from (by (repeat (first | assumption | exact Ext.refl _ | apply Ext.drew | apply Ext.drewN | apply Ext.alloc | refine Ext.trans ?_ (by assumption))); first | done | fail))
          go_wp2_with (first | ((with_reducible refine at_load_to 44 4 ?_); refine wpList_load_row rfl 25 _ rfl w.heap.size rfl 25 _ (0, 0) _ (HB.out.ext (show Ext (w.alloc (.cells #[.slice AN nN cN, .slice AE nE cE] 25)) w3 from (by (repeat (first | assumption | exact Ext.refl _ | apply Ext.drew | apply Ext.drewN | apply Ext.alloc | refine Ext.trans ?_ (by assumption))); first | done | fail))).h Tryd.underlying25 rfl szP2 ?_) | fail)
          refine (Verify_all (NN.out.ext (by (repeat (first | assumption | exact Ext.refl _ | apply Ext.drew | apply Ext.drewN | apply Ext.alloc | refine Ext.trans ?_ (by assumption))); first | done | fail)) (NE.out.ext (by (repeat (first | assumption | exact Ext.refl _ | apply Ext.drew | apply Ext.drewN | apply Ext.alloc | refine Ext.trans ?_ (by assumption))); first | done | fail)) (HBb.out.ext (by (repeat (first | assumption | exact Ext.refl _ | apply Ext.drew | apply Ext.drewN | apply Ext.alloc | refine Ext.trans ?_ (by assumption))); first | done | fail)) (HT.out.ext (by (repeat (first | assumption | exact Ext.refl _ | apply Ext.drew | apply Ext.drewN | apply Ext.alloc | refine Ext.trans ?_ (by assumption))); first | done | fail)) (by omega) HP.out (HW.out.ext (by (repeat (first | assumption | exact Ext.refl _ | apply Ext.drew | apply Ext.drewN | apply Ext.alloc | refine Ext.trans ?_ (by assumption))); first | done | fail))).mono ?_
          rintro e w4 ⟨rfl, x⟩
          have x4 := Ext.trans (show Ext w3 _ from (by (repeat (first | assumption | exact Ext.refl _ | apply Ext.drew | apply Ext.drewN | apply Ext.alloc | refine Ext.trans ?_ (by assumption))); first | done | fail)) x
          clear x
          rw [verE_no HX2.out]
          have HX := Kp.mk (show Ext w w4 from (by (repeat (first | assumption | exact Ext.refl _ | apply Ext.drew | apply Ext.drewN | apply Ext.alloc | refine Ext.trans ?_ (by assumption))); first | done | fail))
          clear x1 x3 x4
          go_wp2_with fail
          go_ret
          exact ⟨rfl, HX.out.b⟩
        · have HP := Kp.mk hp
          have HX1 := Kp.mk hx1
          have HX2 := Kp.mk hx2
          clear hp hx1 hx2
          go_enter Tryd.func5, Tryd.ntmps5
          go_wp2_with fail
          refine (HU.out _).mono ?_
          rintro e w1 ⟨rfl, x⟩
          have x1 := x
          clear x
          obtain ⟨c0, c1⟩ := box2 HB.out (show Ext (w.alloc (.cells #[.slice AN nN cN, .slice AE nE cE] 25)) w1 from (by (repeat (first | assumption | exact Ext.refl _ | apply Ext.drew | apply Ext.drewN | apply Ext.alloc | refine Ext.trans ?_ (by assumption))); first | done | fail))
          go_wp2_with fail
          refine (cut6_any (HBo.out.ext (show Ext w w1 from (by (repeat (first | assumption | exact Ext.refl _ | apply Ext.drew | apply Ext.drewN | apply Ext.alloc | refine Ext.trans ?_ (by assumption))); first | done | fail))) 300 rfl).mono ?_
          rintro e w2 ⟨rfl, _, hw⟩
          subst hw
          generalize min nb_ 300 = nq at *
          obtain ⟨c0, c1⟩ := box2 HB.out (show Ext (w.alloc (.cells #[.slice AN nN cN, .slice AE nE cE] 25)) w2 from (by (repeat (first | assumption | exact Ext.refl _ | apply Ext.drew | apply Ext.drewN | apply Ext.alloc | refine Ext.trans ?_ (by assumption))); first | done | fail))
          go_wp2_with (first | ((with_reducible refine at_load_to 40 4 ?_); refine wpList_load_row rfl 25 _ rfl w.heap.size rfl 25 _ (0, 0) _ (HB.out.ext (show Ext (w.alloc (.cells #[.slice AN nN cN, .slice AE nE cE] 25)) w2 from (by (repeat (first | assumption | exact Ext.refl _ | apply Ext.drew | apply Ext.drewN | apply Ext.alloc | refine Ext.trans ?_ (by assumption))); first | done | fail))).h Tryd.underlying25 rfl szP2 ?_) | fail)
          refine (Verify_all (NN.out.ext (by (repeat (first | assumption | exact Ext.refl _ | apply Ext.drew | apply Ext.drewN | apply Ext.alloc | refine Ext.trans ?_ (by assumption))); first | done | fail)) (NE.out.ext (by (repeat (first | assumption | exact Ext.refl _ | apply Ext.drew | apply Ext.drewN | apply Ext.alloc | refine Ext.trans ?_ (by assumption))); first | done | fail)) (HBb.out.ext (by (repeat (first | assumption | exact Ext.refl _ | apply Ext.drew | apply Ext.drewN | apply Ext.alloc | refine Ext.trans ?_ (by assumption))); first | done | fail)) (HG.out.ext (by (repeat (first | assumption | exact Ext.refl _ | apply Ext.drew | apply Ext.drewN | apply Ext.alloc | refine Ext.trans ?_ (by assumption))); first | done | fail)) (by omega) HP.out (HW.out.ext (by (repeat (first | assumption | exact Ext.refl _ | apply Ext.drew | apply Ext.drewN | apply Ext.alloc | refine Ext.trans ?_ (by assumption))); first | done | fail))).mono ?_
          rintro e w3 ⟨rfl, x⟩
          have x3 := Ext.trans (show Ext w2 _ from (by (repeat (first | assumption | exact Ext.refl _ | apply Ext.drew | apply Ext.drewN | apply Ext.alloc | refine Ext.trans ?_ (by assumption))); first | done | fail)) x
          clear x
          rw [verE_yes HX1.out]
          obtain ⟨c0, c1⟩ := box2 HB.out (show Ext (w.alloc (.cells #[.slice AN nN cN, .slice AE nE cE] 25)) w3 from (by (repeat (first | assumption | exact Ext.refl _ | apply Ext.drew | apply Ext.drewN | apply Ext.alloc | refine Ext.trans ?_ (by assumption))); first | done | fail))
          go_wp2_with (first | ((with_reducible refine at_load_to 44 4 ?_); refine wpList_load_row rfl 25 _ rfl w.heap.size rfl 25 _ (0, 0) _ (HB.out.ext (show Ext (w.alloc (.cells #[.slice AN nN cN, .slice AE nE cE] 25)) w3 from (by (repeat (first | assumption | exact Ext.refl _ | apply Ext.drew | apply Ext.drewN | apply Ext.alloc | refine Ext.trans ?_ (by assumption))); first | done | fail))).h Tryd.underlying25 rfl szP2 ?_) | fail)
          refine (Verify_all (NN.out.ext (by (repeat (first | assumption | exact Ext.refl _ | apply Ext.drew | apply Ext.drewN | apply Ext.alloc | refine Ext.trans ?_ (by assumption))); first | done | fail)) (NE.out.ext (by (repeat (first | assumption | exact Ext.refl _ | apply Ext.drew | apply Ext.drewN | apply Ext.alloc | refine Ext.trans ?_ (by assumption))); first | done | fail)) (HBb.out.ext (by (repeat (first | assumption | exact Ext.refl _ | apply Ext.drew | apply Ext.drewN | apply Ext.alloc | refine Ext.trans ?_ (by assumption))); first | done | fail)) (HT.out.ext (by (repeat (first | assumption | exact Ext.refl _ | apply Ext.drew | apply Ext.drewN | apply Ext.alloc | refine Ext.trans ?_ (by assumption))); first | done | fail)) (by omega) HP.out (HW.out.ext (by (repeat (first | assumption | exact Ext.refl _ | apply Ext.drew | apply Ext.drewN | apply Ext.alloc | refine Ext.trans ?_ (by assumption))); first | done | fail))).mono ?_
          rintro e w4 ⟨rfl, x⟩
          have x4 := Ext.trans (show Ext w3 _ from (by (repeat (first | assumption | exact Ext.refl _ | apply Ext.drew | apply Ext.drewN | apply Ext.alloc | refine Ext.trans ?_ (by assumption))); first | done | fail)) x
          clear x
          rw [verE_yes HX2.out]
          obtain ⟨c0, c1⟩ := box2 HB.out (show Ext (w.alloc (.cells #[.slice AN nN cN, .slice AE nE cE] 25)) w4 from (by (repeat (first | assumption | exact Ext.refl _ | apply Ext.drew | apply Ext.drewN | apply Ext.alloc | refine Ext.trans ?_ (by assumption))); first | done | fail))
          go_wp2_with fail
          refine (Power_some (HG.out.ext (by (repeat (first | assumption | exact Ext.refl _ | apply Ext.drew | apply Ext.drewN | apply Ext.alloc | refine Ext.trans ?_ (by assumption))); first | done | fail)) (NE.out.ext (by (repeat (first | assumption | exact Ext.refl _ | apply Ext.drew | apply Ext.drewN | apply Ext.alloc | refine Ext.trans ?_ (by assumption))); first | done | fail)) (NN.out.ext (by (repeat (first | assumption | exact Ext.refl _ | apply Ext.drew | apply Ext.drewN | apply Ext.alloc | refine Ext.trans ?_ (by assumption))); first | done | fail)) bE.out (by decide) HP.out.2.1 HP.out.n0 HX1.out).mono ?_
          rintro e w5 ⟨A7, c7, rfl, s7, x⟩
          have x5 := Ext.trans (show Ext w4 _ from (by (repeat (first | assumption | exact Ext.refl _ | apply Ext.drew | apply Ext.drewN | apply Ext.alloc | refine Ext.trans ?_ (by assumption))); first | done | fail)) x
          clear x
          have S7 := Kp.mk s7
          clear s7
          obtain ⟨c0, c1⟩ := box2 HB.out (show Ext (w.alloc (.cells #[.slice AN nN cN, .slice AE nE cE] 25)) w5 from (by (repeat (first | assumption | exact Ext.refl _ | apply Ext.drew | apply Ext.drewN | apply Ext.alloc | refine Ext.trans ?_ (by assumption))); first | done | fail))
          go_wp2_with fail
          refine (Power_some (HT.out.ext (by (repeat (first | assumption | exact Ext.refl _ | apply Ext.drew | apply Ext.drewN | apply Ext.alloc | refine Ext.trans ?_ (by assumption))); first | done | fail)) (NE.out.ext (by (repeat (first | assumption | exact Ext.refl _ | apply Ext.drew | apply Ext.drewN | apply Ext.alloc | refine Ext.trans ?_ (by assumption))); first | done | fail)) (NN.out.ext (by (repeat (first | assumption | exact Ext.refl _ | apply Ext.drew | apply Ext.drewN | apply Ext.alloc | refine Ext.trans ?_ (by assumption))); first | done | fail)) bE.out (by decide) HP.out.2.1 HP.out.n0 HX2.out).mono ?_
          rintro e w6 ⟨A8, c8, rfl, s8, x⟩
          have x6 := Ext.trans (show Ext w5 _ from (by (repeat (first | assumption | exact Ext.refl _ | apply Ext.drew | apply Ext.drewN | apply Ext.alloc | refine Ext.trans ?_ (by assumption))); first | done | fail)) x
          clear x
          have k8 := s8.str (Ext.refl _)
          have k7 := (S7.out.ext (show Ext _ w6 from (by (repeat (first | assumption | exact Ext.refl _ | apply Ext.drew | apply Ext.drewN | apply Ext.alloc | refine Ext.trans ?_ (by assumption))); first | done | fail))).str (Ext.refl _)
          clear s8
          have HX := Kp.mk (show Ext w w6 from (by (repeat (first | assumption | exact Ext.refl _ | apply Ext.drew | apply Ext.drewN | apply Ext.alloc | refine Ext.trans ?_ (by assumption))); first | done | fail))
          clear x1 x3 x4 x5 x6
          go_wp2_with fail
          go_ret
          exact ⟨by first | rfl | simp, HX.out.b⟩
end Go.Proofs.YticggkllfojgkaaDoor
