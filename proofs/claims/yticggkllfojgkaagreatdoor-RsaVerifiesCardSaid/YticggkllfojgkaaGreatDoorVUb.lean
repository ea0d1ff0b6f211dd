/-
  The walk of the law RsaVerifies.
-/
import Derived.Test.YticggkllfojgkaaGreatDoorM22
import Derived.Test.YticggkllfojgkaaGreatDoorM28
import Derived.Test.YticggkllfojgkaaGreatDoorM29
namespace Go.Proofs.YticggkllfojgkaaGreatDoor
open Go Go.RowKit
set_option maxRecDepth 4000

theorem drewN_x {w w' : World} (h : ∃ k, w' = w.drewN k) : Ext w w' := by
  obtain ⟨k, rfl⟩ := h
  exact (by (repeat (first | assumption | exact Ext.refl _ | apply Ext.drew | apply Ext.drewN | apply Ext.alloc | refine Ext.trans ?_ (by assumption))); first | done | fail)

set_option maxHeartbeats 8000000 in
set_option maxRecDepth 100000 in
theorem RsaVerifies_any {w : World} {AN AE Ab As_ : Option Addr} {nN nE nb_ ns cN cE cb cs : Nat} {lN lE : List Nat} {lb ls : List (BitVec 8)} (hN : Nk w AN nN cN lN) (hE : Nk w AE nE cE lE) (hb : Bs w Ab nb_ cb lb) (hs : Bs w As_ ns cs ls) (hw : Lay w) :
    Calls Tryz.prog 4 #[.agg #[.slice AN nN cN, .slice AE nE cE], .slice Ab nb_ cb, .slice As_ ns cs] w fun e w' => e = .returned (.bool true) ∧ Below w.heap.size w w' := by
  have HU := Kp.mk (fun u => up6_any u)
  have HB := Kp.mk (Blk.new w 40 #[.slice AN nN cN, .slice AE nE cE])
  have hways : ¬ (nN ≤ 70 ∧ nE ≤ 70 ∧ 0 ≤ 70) ∨ ((nN ≤ 70 ∧ nE ≤ 70 ∧ 0 ≤ 70) ∧ 2 < nE) ∨ ((nN ≤ 70 ∧ nE ≤ 70 ∧ 0 ≤ 70) ∧ ¬ 2 < nE ∧ 300 < ns) ∨ ((nN ≤ 70 ∧ nE ≤ 70 ∧ 0 ≤ 70) ∧ ¬ 2 < nE ∧ ¬ 300 < ns) := by omega
  rcases hways with hl | ⟨hl, h1⟩ | ⟨hl, h1, h2⟩ | ⟨hl, h1, h2⟩
  · have HL := Kp.mk hl
    clear hl hN hE hb hs hw 
    go_enter Tryz.func4, Tryz.ntmps4
    go_wp2_with fail
    refine (HU.out _).mono ?_
    rintro e w1 ⟨rfl, x⟩
    have x1 := x
    clear x
    obtain ⟨c0, c1⟩ := box2 HB.out (show Ext (w.alloc (.cells #[.slice AN nN cN, .slice AE nE cE] 40)) w1 from (by (repeat (first | assumption | exact Ext.refl _ | apply Ext.drew | apply Ext.drewN | apply Ext.alloc | refine Ext.trans ?_ (by assumption))); first | done | fail))
    go_wp2_with fail
    refine (light6_any (D := none) (k := 0) (f := 0) false ⟨(fun h => nomatch h), fun h => absurd h HL.out⟩).mono ?_
    rintro e w2 ⟨rfl, x⟩
    have x2 := Ext.trans (show Ext w1 _ from (by (repeat (first | assumption | exact Ext.refl _ | apply Ext.drew | apply Ext.drewN | apply Ext.alloc | refine Ext.trans ?_ (by assumption))); first | done | fail)) x
    clear x
    obtain ⟨c0, c1⟩ := box2 HB.out (show Ext (w.alloc (.cells #[.slice AN nN cN, .slice AE nE cE] 40)) w2 from (by (repeat (first | assumption | exact Ext.refl _ | apply Ext.drew | apply Ext.drewN | apply Ext.alloc | refine Ext.trans ?_ (by assumption))); first | done | fail))
    have HX := Kp.mk (show Ext w w2 from (by (repeat (first | assumption | exact Ext.refl _ | apply Ext.drew | apply Ext.drewN | apply Ext.alloc | refine Ext.trans ?_ (by assumption))); first | done | fail))
    clear x1 x2
    go_wp2_with fail
    go_ret
    exact ⟨rfl, HX.out.b⟩
  · have HL := Kp.mk hl
    have g0 : (2 : Int) < (nE : Int) := by omega
    have g0' : 2 < nE := by omega
    clear hl hN hE hb hs hw h1
    go_enter Tryz.func4, Tryz.ntmps4
    go_wp2_with fail
    refine (HU.out _).mono ?_
    rintro e w1 ⟨rfl, x⟩
    have x1 := x
    clear x
    obtain ⟨c0, c1⟩ := box2 HB.out (show Ext (w.alloc (.cells #[.slice AN nN cN, .slice AE nE cE] 40)) w1 from (by (repeat (first | assumption | exact Ext.refl _ | apply Ext.drew | apply Ext.drewN | apply Ext.alloc | refine Ext.trans ?_ (by assumption))); first | done | fail))
    go_wp2_with fail
    refine (light6_any (D := none) (k := 0) (f := 0) true ⟨fun _ => HL.out, fun _ => rfl⟩).mono ?_
    rintro e w2 ⟨rfl, x⟩
    have x2 := Ext.trans (show Ext w1 _ from (by (repeat (first | assumption | exact Ext.refl _ | apply Ext.drew | apply Ext.drewN | apply Ext.alloc | refine Ext.trans ?_ (by assumption))); first | done | fail)) x
    clear x
    obtain ⟨c0, c1⟩ := box2 HB.out (show Ext (w.alloc (.cells #[.slice AN nN cN, .slice AE nE cE] 40)) w2 from (by (repeat (first | assumption | exact Ext.refl _ | apply Ext.drew | apply Ext.drewN | apply Ext.alloc | refine Ext.trans ?_ (by assumption))); first | done | fail))
    have HX := Kp.mk (show Ext w w2 from (by (repeat (first | assumption | exact Ext.refl _ | apply Ext.drew | apply Ext.drewN | apply Ext.alloc | refine Ext.trans ?_ (by assumption))); first | done | fail))
    clear x1 x2
    go_wp2_with fail
    go_ret
    exact ⟨rfl, HX.out.b⟩
  · have HL := Kp.mk hl
    have g0 : decide ((2 : Int) < (nE : Int)) = false := decide_eq_false (by omega)
    have g0' : decide (2 < nE) = false := decide_eq_false (by omega)
    have g1 : (300 : Int) < (ns : Int) := by omega
    have g1' : 300 < ns := by omega
    clear hl hN hE hb hs hw h1 h2
    go_enter Tryz.func4, Tryz.ntmps4
    go_wp2_with fail
    refine (HU.out _).mono ?_
    rintro e w1 ⟨rfl, x⟩
    have x1 := x
    clear x
    obtain ⟨c0, c1⟩ := box2 HB.out (show Ext (w.alloc (.cells #[.slice AN nN cN, .slice AE nE cE] 40)) w1 from (by (repeat (first | assumption | exact Ext.refl _ | apply Ext.drew | apply Ext.drewN | apply Ext.alloc | refine Ext.trans ?_ (by assumption))); first | done | fail))
    go_wp2_with fail
    refine (light6_any (D := none) (k := 0) (f := 0) true ⟨fun _ => HL.out, fun _ => rfl⟩).mono ?_
    rintro e w2 ⟨rfl, x⟩
    have x2 := Ext.trans (show Ext w1 _ from (by (repeat (first | assumption | exact Ext.refl _ | apply Ext.drew | apply Ext.drewN | apply Ext.alloc | refine Ext.trans ?_ (by assumption))); first | done | fail)) x
    clear x
    obtain ⟨c0, c1⟩ := box2 HB.out (show Ext (w.alloc (.cells #[.slice AN nN cN, .slice AE nE cE] 40)) w2 from (by (repeat (first | assumption | exact Ext.refl _ | apply Ext.drew | apply Ext.drewN | apply Ext.alloc | refine Ext.trans ?_ (by assumption))); first | done | fail))
    have HX := Kp.mk (show Ext w w2 from (by (repeat (first | assumption | exact Ext.refl _ | apply Ext.drew | apply Ext.drewN | apply Ext.alloc | refine Ext.trans ?_ (by assumption))); first | done | fail))
    clear x1 x2
    go_wp2_with fail
    go_ret
    exact ⟨rfl, HX.out.b⟩
  · have HL := Kp.mk hl
    have g0 : decide ((2 : Int) < (nE : Int)) = false := decide_eq_false (by omega)
    have g0' : decide (2 < nE) = false := decide_eq_false (by omega)
    have g1 : decide ((300 : Int) < (ns : Int)) = false := decide_eq_false (by omega)
    have g1' : decide (300 < ns) = false := decide_eq_false (by omega)
    have NN := Kp.mk (Nv.small hN.r hN.d (by omega))
    have bN := Kp.mk (Nat.lt_of_lt_of_le (vl_len hN.r hN.d) (Nat.pow_le_pow_right (n := BB) (by decide) (show nN ≤ 70 by omega)))
    obtain ⟨vN, hvN⟩ : ∃ v, vl BB lN = v := ⟨_, rfl⟩
    rw [hvN] at NN bN
    clear hN hvN
    have NE := Kp.mk (Nv.small hE.r hE.d (by omega))
    have bE := Kp.mk (Nat.lt_of_lt_of_le (vl_len hE.r hE.d) (Nat.pow_le_pow_right (n := BB) (by decide) (show nE ≤ 70 by omega)))
    obtain ⟨vE, hvE⟩ : ∃ v, vl BB lE = v := ⟨_, rfl⟩
    rw [hvE] at NE bE
    clear hE hvE
    have HG := Kp.mk hs
    have hs3 : ns ≤ 300 := by omega
    have HBb := Kp.mk (hb.take (min nb_ 300) (Nat.min_le_left _ _))
    have HBo := Kp.mk hb
    have hb3 : min nb_ 300 ≤ 300 := Nat.min_le_right _ _
    have HW := Kp.mk hw
    have e1 := code_eq 1 1
    have e8 := code_eq 8 8
    clear hl h1 h2 hb hs hw
    obtain ⟨lq, hlq⟩ : ∃ lq, lb.take (min nb_ 300) = lq := ⟨_, rfl⟩
    have HQ := Kp.mk hlq
    rw [hlq] at HBb
    clear hlq
    by_cases hp : PubOk vN vE
    rotate_left
    · have HP := Kp.mk hp
      clear hp
      go_enter Tryz.func4, Tryz.ntmps4
      go_wp2_with fail
      refine (HU.out _).mono ?_
      rintro e w1 ⟨rfl, x⟩
      have x1 := x
      clear x
      obtain ⟨c0, c1⟩ := box2 HB.out (show Ext (w.alloc (.cells #[.slice AN nN cN, .slice AE nE cE] 40)) w1 from (by (repeat (first | assumption | exact Ext.refl _ | apply Ext.drew | apply Ext.drewN | apply Ext.alloc | refine Ext.trans ?_ (by assumption))); first | done | fail))
      go_wp2_with fail
      refine (light6_any (D := none) (k := 0) (f := 0) true ⟨fun _ => HL.out, fun _ => rfl⟩).mono ?_
      rintro e w2 ⟨rfl, x⟩
      have x2 := Ext.trans (show Ext w1 _ from (by (repeat (first | assumption | exact Ext.refl _ | apply Ext.drew | apply Ext.drewN | apply Ext.alloc | refine Ext.trans ?_ (by assumption))); first | done | fail)) x
      clear x
      obtain ⟨c0, c1⟩ := box2 HB.out (show Ext (w.alloc (.cells #[.slice AN nN cN, .slice AE nE cE] 40)) w2 from (by (repeat (first | assumption | exact Ext.refl _ | apply Ext.drew | apply Ext.drewN | apply Ext.alloc | refine Ext.trans ?_ (by assumption))); first | done | fail))
      go_wp2_with fail
      refine (cut6_any (HBo.out.ext (show Ext w w2 from (by (repeat (first | assumption | exact Ext.refl _ | apply Ext.drew | apply Ext.drewN | apply Ext.alloc | refine Ext.trans ?_ (by assumption))); first | done | fail))) 300 rfl).mono ?_
      rintro e w3 ⟨rfl, _, hw⟩
      subst hw
      generalize min nb_ 300 = nq at *
      obtain ⟨c0, c1⟩ := box2 HB.out (show Ext (w.alloc (.cells #[.slice AN nN cN, .slice AE nE cE] 40)) w3 from (by (repeat (first | assumption | exact Ext.refl _ | apply Ext.drew | apply Ext.drewN | apply Ext.alloc | refine Ext.trans ?_ (by assumption))); first | done | fail))
      go_wp2_with (first | ((with_reducible refine at_load_to 37 3 ?_); refine wpList_load_row rfl 40 _ rfl w.heap.size rfl 40 _ (0, 0) _ (HB.out.ext (show Ext (w.alloc (.cells #[.slice AN nN cN, .slice AE nE cE] 40)) w3 from (by (repeat (first | assumption | exact Ext.refl _ | apply Ext.drew | apply Ext.drewN | apply Ext.alloc | refine Ext.trans ?_ (by assumption))); first | done | fail))).h Tryz.underlying40 rfl szP2 ?_) | fail)
      refine (Verify_arg (NN.out.ext (by (repeat (first | assumption | exact Ext.refl _ | apply Ext.drew | apply Ext.drewN | apply Ext.alloc | refine Ext.trans ?_ (by assumption))); first | done | fail)) (NE.out.ext (by (repeat (first | assumption | exact Ext.refl _ | apply Ext.drew | apply Ext.drewN | apply Ext.alloc | refine Ext.trans ?_ (by assumption))); first | done | fail)) HP.out).mono ?_
      rintro e w4 ⟨rfl, x⟩
      have x4 := Ext.trans (show Ext w3 _ from (by (repeat (first | assumption | exact Ext.refl _ | apply Ext.drew | apply Ext.drewN | apply Ext.alloc | refine Ext.trans ?_ (by assumption))); first | done | fail)) x
      clear x
      obtain ⟨c0, c1⟩ := box2 HB.out (show Ext (w.alloc (.cells #[.slice AN nN cN, .slice AE nE cE] 40)) w4 from (by (repeat (first | assumption | exact Ext.refl _ | apply Ext.drew | apply Ext.drewN | apply Ext.alloc | refine Ext.trans ?_ (by assumption))); first | done | fail))
      go_wp2_with (first | ((with_reducible refine at_load_to 41 3 ?_); refine wpList_load_row rfl 40 _ rfl w.heap.size rfl 40 _ (0, 0) _ (HB.out.ext (show Ext (w.alloc (.cells #[.slice AN nN cN, .slice AE nE cE] 40)) w4 from (by (repeat (first | assumption | exact Ext.refl _ | apply Ext.drew | apply Ext.drewN | apply Ext.alloc | refine Ext.trans ?_ (by assumption))); first | done | fail))).h Tryz.underlying40 rfl szP2 ?_) | fail)
      refine (refPublic_any (NN.out.ext (by (repeat (first | assumption | exact Ext.refl _ | apply Ext.drew | apply Ext.drewN | apply Ext.alloc | refine Ext.trans ?_ (by assumption))); first | done | fail)) (NE.out.ext (by (repeat (first | assumption | exact Ext.refl _ | apply Ext.drew | apply Ext.drewN | apply Ext.alloc | refine Ext.trans ?_ (by assumption))); first | done | fail)) bN.out bE.out (by decide) (by decide) false (by simp [HP.out])).mono ?_
      rintro e w5 ⟨rfl, x⟩
      have x5 := Ext.trans (show Ext w4 _ from (by (repeat (first | assumption | exact Ext.refl _ | apply Ext.drew | apply Ext.drewN | apply Ext.alloc | refine Ext.trans ?_ (by assumption))); first | done | fail)) x
      clear x
      obtain ⟨c0, c1⟩ := box2 HB.out (show Ext (w.alloc (.cells #[.slice AN nN cN, .slice AE nE cE] 40)) w5 from (by (repeat (first | assumption | exact Ext.refl _ | apply Ext.drew | apply Ext.drewN | apply Ext.alloc | refine Ext.trans ?_ (by assumption))); first | done | fail))
      have HX := Kp.mk (show Ext w w5 from (by (repeat (first | assumption | exact Ext.refl _ | apply Ext.drew | apply Ext.drewN | apply Ext.alloc | refine Ext.trans ?_ (by assumption))); first | done | fail))
      clear x1 x2 x4 x5
      go_wp2_with fail
      go_ret
      exact ⟨rfl, HX.out.b⟩
    · cases hr : rs ls vE vN with
      | none =>
        have HP := Kp.mk hp
        have HR := Kp.mk hr
        clear hp hr
        go_enter Tryz.func4, Tryz.ntmps4
        go_wp2_with fail
        refine (HU.out _).mono ?_
        rintro e w1 ⟨rfl, x⟩
        have x1 := x
        clear x
        obtain ⟨c0, c1⟩ := box2 HB.out (show Ext (w.alloc (.cells #[.slice AN nN cN, .slice AE nE cE] 40)) w1 from (by (repeat (first | assumption | exact Ext.refl _ | apply Ext.drew | apply Ext.drewN | apply Ext.alloc | refine Ext.trans ?_ (by assumption))); first | done | fail))
        go_wp2_with fail
        refine (light6_any (D := none) (k := 0) (f := 0) true ⟨fun _ => HL.out, fun _ => rfl⟩).mono ?_
        rintro e w2 ⟨rfl, x⟩
        have x2 := Ext.trans (show Ext w1 _ from (by (repeat (first | assumption | exact Ext.refl _ | apply Ext.drew | apply Ext.drewN | apply Ext.alloc | refine Ext.trans ?_ (by assumption))); first | done | fail)) x
        clear x
        obtain ⟨c0, c1⟩ := box2 HB.out (show Ext (w.alloc (.cells #[.slice AN nN cN, .slice AE nE cE] 40)) w2 from (by (repeat (first | assumption | exact Ext.refl _ | apply Ext.drew | apply Ext.drewN | apply Ext.alloc | refine Ext.trans ?_ (by assumption))); first | done | fail))
        go_wp2_with fail
        refine (cut6_any (HBo.out.ext (show Ext w w2 from (by (repeat (first | assumption | exact Ext.refl _ | apply Ext.drew | apply Ext.drewN | apply Ext.alloc | refine Ext.trans ?_ (by assumption))); first | done | fail))) 300 rfl).mono ?_
        rintro e w3 ⟨rfl, _, hw⟩
        subst hw
        generalize min nb_ 300 = nq at *
        obtain ⟨c0, c1⟩ := box2 HB.out (show Ext (w.alloc (.cells #[.slice AN nN cN, .slice AE nE cE] 40)) w3 from (by (repeat (first | assumption | exact Ext.refl _ | apply Ext.drew | apply Ext.drewN | apply Ext.alloc | refine Ext.trans ?_ (by assumption))); first | done | fail))
        go_wp2_with (first | ((with_reducible refine at_load_to 37 3 ?_); refine wpList_load_row rfl 40 _ rfl w.heap.size rfl 40 _ (0, 0) _ (HB.out.ext (show Ext (w.alloc (.cells #[.slice AN nN cN, .slice AE nE cE] 40)) w3 from (by (repeat (first | assumption | exact Ext.refl _ | apply Ext.drew | apply Ext.drewN | apply Ext.alloc | refine Ext.trans ?_ (by assumption))); first | done | fail))).h Tryz.underlying40 rfl szP2 ?_) | fail)
        refine (Verify_wrong (NN.out.ext (by (repeat (first | assumption | exact Ext.refl _ | apply Ext.drew | apply Ext.drewN | apply Ext.alloc | refine Ext.trans ?_ (by assumption))); first | done | fail)) (NE.out.ext (by (repeat (first | assumption | exact Ext.refl _ | apply Ext.drew | apply Ext.drewN | apply Ext.alloc | refine Ext.trans ?_ (by assumption))); first | done | fail)) (HBb.out.ext (by (repeat (first | assumption | exact Ext.refl _ | apply Ext.drew | apply Ext.drewN | apply Ext.alloc | refine Ext.trans ?_ (by assumption))); first | done | fail)) (HG.out.ext (by (repeat (first | assumption | exact Ext.refl _ | apply Ext.drew | apply Ext.drewN | apply Ext.alloc | refine Ext.trans ?_ (by assumption))); first | done | fail)) (by omega) HP.out HR.out).mono ?_
        rintro e w4 ⟨rfl, x⟩
        have x4 := Ext.trans (show Ext w3 _ from (by (repeat (first | assumption | exact Ext.refl _ | apply Ext.drew | apply Ext.drewN | apply Ext.alloc | refine Ext.trans ?_ (by assumption))); first | done | fail)) x
        clear x
        obtain ⟨c0, c1⟩ := box2 HB.out (show Ext (w.alloc (.cells #[.slice AN nN cN, .slice AE nE cE] 40)) w4 from (by (repeat (first | assumption | exact Ext.refl _ | apply Ext.drew | apply Ext.drewN | apply Ext.alloc | refine Ext.trans ?_ (by assumption))); first | done | fail))
        go_wp2_with (first | ((with_reducible refine at_load_to 41 3 ?_); refine wpList_load_row rfl 40 _ rfl w.heap.size rfl 40 _ (0, 0) _ (HB.out.ext (show Ext (w.alloc (.cells #[.slice AN nN cN, .slice AE nE cE] 40)) w4 from (by (repeat (first | assumption | exact Ext.refl _ | apply Ext.drew | apply Ext.drewN | apply Ext.alloc | refine Ext.trans ?_ (by assumption))); first | done | fail))).h Tryz.underlying40 rfl szP2 ?_) | fail)
        refine (refPublic_any (NN.out.ext (by (repeat (first | assumption | exact Ext.refl _ | apply Ext.drew | apply Ext.drewN | apply Ext.alloc | refine Ext.trans ?_ (by assumption))); first | done | fail)) (NE.out.ext (by (repeat (first | assumption | exact Ext.refl _ | apply Ext.drew | apply Ext.drewN | apply Ext.alloc | refine Ext.trans ?_ (by assumption))); first | done | fail)) bN.out bE.out (by decide) (by decide) true (by simp [HP.out])).mono ?_
        rintro e w5 ⟨rfl, x⟩
        have x5 := Ext.trans (show Ext w4 _ from (by (repeat (first | assumption | exact Ext.refl _ | apply Ext.drew | apply Ext.drewN | apply Ext.alloc | refine Ext.trans ?_ (by assumption))); first | done | fail)) x
        clear x
        obtain ⟨c0, c1⟩ := box2 HB.out (show Ext (w.alloc (.cells #[.slice AN nN cN, .slice AE nE cE] 40)) w5 from (by (repeat (first | assumption | exact Ext.refl _ | apply Ext.drew | apply Ext.drewN | apply Ext.alloc | refine Ext.trans ?_ (by assumption))); first | done | fail))
        go_wp2_with fail
        refine (Power_none (B := AE) (m := nE) (d := cE) (HG.out.ext (by (repeat (first | assumption | exact Ext.refl _ | apply Ext.drew | apply Ext.drewN | apply Ext.alloc | refine Ext.trans ?_ (by assumption))); first | done | fail)) (NN.out.ext (by (repeat (first | assumption | exact Ext.refl _ | apply Ext.drew | apply Ext.drewN | apply Ext.alloc | refine Ext.trans ?_ (by assumption))); first | done | fail)) (by omega) HP.out.2.1 HR.out).mono ?_
        rintro e w6 ⟨rfl, x⟩
        have x6 := Ext.trans (show Ext w5 _ from (by (repeat (first | assumption | exact Ext.refl _ | apply Ext.drew | apply Ext.drewN | apply Ext.alloc | refine Ext.trans ?_ (by assumption))); first | done | fail)) x
        clear x
        obtain ⟨c0, c1⟩ := box2 HB.out (show Ext (w.alloc (.cells #[.slice AN nN cN, .slice AE nE cE] 40)) w6 from (by (repeat (first | assumption | exact Ext.refl _ | apply Ext.drew | apply Ext.drewN | apply Ext.alloc | refine Ext.trans ?_ (by assumption))); first | done | fail))
        have HX := Kp.mk (show Ext w w6 from (by (repeat (first | assumption | exact Ext.refl _ | apply Ext.drew | apply Ext.drewN | apply Ext.alloc | refine Ext.trans ?_ (by assumption))); first | done | fail))
        clear x1 x2 x4 x5 x6
        go_wp2_with fail
        go_quiet (fail)
        go_wp2_with fail
        go_ret
        exact ⟨rfl, (HX.out.trans (drewN_x ⟨_, rfl⟩)).b⟩
      | some r =>
        by_cases hq : r = sgL (dgH lq) (nb vN)
        · have HP := Kp.mk hp
          have HR := Kp.mk hr
          have HEQ := Kp.mk hq
          obtain ⟨N, hN⟩ : ∃ N, nb vN = N := ⟨_, rfl⟩
          have HS := Kp.mk hN
          have hlo := hp.1
          have hhi := hp.2.1
          rw [hN] at hlo hhi
          clear hN
          have QQ := Kp.mk (show ((strOf r).toList == (strOf (sgL (dgH lq) N)).toList) = true by rw [str_beq, ← HS.out]; exact beq_iff_eq.2 hq)
          clear hq
          clear hp hr
          go_enter Tryz.func4, Tryz.ntmps4
          go_wp2_with fail
          refine (HU.out _).mono ?_
          rintro e w1 ⟨rfl, x⟩
          have x1 := x
          clear x
          obtain ⟨c0, c1⟩ := box2 HB.out (show Ext (w.alloc (.cells #[.slice AN nN cN, .slice AE nE cE] 40)) w1 from (by (repeat (first | assumption | exact Ext.refl _ | apply Ext.drew | apply Ext.drewN | apply Ext.alloc | refine Ext.trans ?_ (by assumption))); first | done | fail))
          go_wp2_with fail
          refine (light6_any (D := none) (k := 0) (f := 0) true ⟨fun _ => HL.out, fun _ => rfl⟩).mono ?_
          rintro e w2 ⟨rfl, x⟩
          have x2 := Ext.trans (show Ext w1 _ from (by (repeat (first | assumption | exact Ext.refl _ | apply Ext.drew | apply Ext.drewN | apply Ext.alloc | refine Ext.trans ?_ (by assumption))); first | done | fail)) x
          clear x
          obtain ⟨c0, c1⟩ := box2 HB.out (show Ext (w.alloc (.cells #[.slice AN nN cN, .slice AE nE cE] 40)) w2 from (by (repeat (first | assumption | exact Ext.refl _ | apply Ext.drew | apply Ext.drewN | apply Ext.alloc | refine Ext.trans ?_ (by assumption))); first | done | fail))
          go_wp2_with fail
          refine (cut6_any (HBo.out.ext (show Ext w w2 from (by (repeat (first | assumption | exact Ext.refl _ | apply Ext.drew | apply Ext.drewN | apply Ext.alloc | refine Ext.trans ?_ (by assumption))); first | done | fail))) 300 rfl).mono ?_
          rintro e w3 ⟨rfl, _, hw⟩
          subst hw
          generalize min nb_ 300 = nq at *
          obtain ⟨c0, c1⟩ := box2 HB.out (show Ext (w.alloc (.cells #[.slice AN nN cN, .slice AE nE cE] 40)) w3 from (by (repeat (first | assumption | exact Ext.refl _ | apply Ext.drew | apply Ext.drewN | apply Ext.alloc | refine Ext.trans ?_ (by assumption))); first | done | fail))
          go_wp2_with (first | ((with_reducible refine at_load_to 37 3 ?_); refine wpList_load_row rfl 40 _ rfl w.heap.size rfl 40 _ (0, 0) _ (HB.out.ext (show Ext (w.alloc (.cells #[.slice AN nN cN, .slice AE nE cE] 40)) w3 from (by (repeat (first | assumption | exact Ext.refl _ | apply Ext.drew | apply Ext.drewN | apply Ext.alloc | refine Ext.trans ?_ (by assumption))); first | done | fail))).h Tryz.underlying40 rfl szP2 ?_) | fail)
          refine (Verify_ok (NN.out.ext (by (repeat (first | assumption | exact Ext.refl _ | apply Ext.drew | apply Ext.drewN | apply Ext.alloc | refine Ext.trans ?_ (by assumption))); first | done | fail)) (NE.out.ext (by (repeat (first | assumption | exact Ext.refl _ | apply Ext.drew | apply Ext.drewN | apply Ext.alloc | refine Ext.trans ?_ (by assumption))); first | done | fail)) (HBb.out.ext (by (repeat (first | assumption | exact Ext.refl _ | apply Ext.drew | apply Ext.drewN | apply Ext.alloc | refine Ext.trans ?_ (by assumption))); first | done | fail)) (HG.out.ext (by (repeat (first | assumption | exact Ext.refl _ | apply Ext.drew | apply Ext.drewN | apply Ext.alloc | refine Ext.trans ?_ (by assumption))); first | done | fail)) (by omega) HP.out (HW.out.ext (by (repeat (first | assumption | exact Ext.refl _ | apply Ext.drew | apply Ext.drewN | apply Ext.alloc | refine Ext.trans ?_ (by assumption))); first | done | fail)) HR.out HEQ.out).mono ?_
          rintro e w4 ⟨rfl, x⟩
          have x4 := Ext.trans (show Ext w3 _ from (by (repeat (first | assumption | exact Ext.refl _ | apply Ext.drew | apply Ext.drewN | apply Ext.alloc | refine Ext.trans ?_ (by assumption))); first | done | fail)) x
          clear x
          obtain ⟨c0, c1⟩ := box2 HB.out (show Ext (w.alloc (.cells #[.slice AN nN cN, .slice AE nE cE] 40)) w4 from (by (repeat (first | assumption | exact Ext.refl _ | apply Ext.drew | apply Ext.drewN | apply Ext.alloc | refine Ext.trans ?_ (by assumption))); first | done | fail))
          go_wp2_with (first | ((with_reducible refine at_load_to 41 3 ?_); refine wpList_load_row rfl 40 _ rfl w.heap.size rfl 40 _ (0, 0) _ (HB.out.ext (show Ext (w.alloc (.cells #[.slice AN nN cN, .slice AE nE cE] 40)) w4 from (by (repeat (first | assumption | exact Ext.refl _ | apply Ext.drew | apply Ext.drewN | apply Ext.alloc | refine Ext.trans ?_ (by assumption))); first | done | fail))).h Tryz.underlying40 rfl szP2 ?_) | fail)
          refine (refPublic_any (NN.out.ext (by (repeat (first | assumption | exact Ext.refl _ | apply Ext.drew | apply Ext.drewN | apply Ext.alloc | refine Ext.trans ?_ (by assumption))); first | done | fail)) (NE.out.ext (by (repeat (first | assumption | exact Ext.refl _ | apply Ext.drew | apply Ext.drewN | apply Ext.alloc | refine Ext.trans ?_ (by assumption))); first | done | fail)) bN.out bE.out (by decide) (by decide) true (by simp [HP.out])).mono ?_
          rintro e w5 ⟨rfl, x⟩
          have x5 := Ext.trans (show Ext w4 _ from (by (repeat (first | assumption | exact Ext.refl _ | apply Ext.drew | apply Ext.drewN | apply Ext.alloc | refine Ext.trans ?_ (by assumption))); first | done | fail)) x
          clear x
          obtain ⟨c0, c1⟩ := box2 HB.out (show Ext (w.alloc (.cells #[.slice AN nN cN, .slice AE nE cE] 40)) w5 from (by (repeat (first | assumption | exact Ext.refl _ | apply Ext.drew | apply Ext.drewN | apply Ext.alloc | refine Ext.trans ?_ (by assumption))); first | done | fail))
          go_wp2_with fail
          refine (Power_some (HG.out.ext (by (repeat (first | assumption | exact Ext.refl _ | apply Ext.drew | apply Ext.drewN | apply Ext.alloc | refine Ext.trans ?_ (by assumption))); first | done | fail)) (NE.out.ext (by (repeat (first | assumption | exact Ext.refl _ | apply Ext.drew | apply Ext.drewN | apply Ext.alloc | refine Ext.trans ?_ (by assumption))); first | done | fail)) (NN.out.ext (by (repeat (first | assumption | exact Ext.refl _ | apply Ext.drew | apply Ext.drewN | apply Ext.alloc | refine Ext.trans ?_ (by assumption))); first | done | fail)) bE.out (by decide) HP.out.2.1 HP.out.n0 HR.out).mono ?_
          rintro e w6 ⟨A7, c7, rfl, s7, x⟩
          have x6 := Ext.trans (show Ext w5 _ from (by (repeat (first | assumption | exact Ext.refl _ | apply Ext.drew | apply Ext.drewN | apply Ext.alloc | refine Ext.trans ?_ (by assumption))); first | done | fail)) x
          clear x
          rw [HS.out] at s7 ⊢
          have S7 := Kp.mk s7
          clear s7
          obtain ⟨m0, m1⟩ := box2s (HB.out.ext (show Ext (w.alloc (.cells #[.slice AN nN cN, .slice AE nE cE] 40)) w6 from (by (repeat (first | assumption | exact Ext.refl _ | apply Ext.drew | apply Ext.drewN | apply Ext.alloc | refine Ext.trans ?_ (by assumption))); first | done | fail)))
          have QN := Kp.mk (NN.out.ext (show Ext _ w6 from (by (repeat (first | assumption | exact Ext.refl _ | apply Ext.drew | apply Ext.drewN | apply Ext.alloc | refine Ext.trans ?_ (by assumption))); first | done | fail)))
          have QB := Kp.mk (HBb.out.ext (show Ext _ w6 from (by (repeat (first | assumption | exact Ext.refl _ | apply Ext.drew | apply Ext.drewN | apply Ext.alloc | refine Ext.trans ?_ (by assumption))); first | done | fail)))
          have Q7 := Kp.mk (S7.out.ext (show Ext _ w6 from (by (repeat (first | assumption | exact Ext.refl _ | apply Ext.drew | apply Ext.drewN | apply Ext.alloc | refine Ext.trans ?_ (by assumption))); first | done | fail)))
          have HX := Kp.mk (show Ext w w6 from (by (repeat (first | assumption | exact Ext.refl _ | apply Ext.drew | apply Ext.drewN | apply Ext.alloc | refine Ext.trans ?_ (by assumption))); first | done | fail))
          clear x1 x2 x4 x5 x6
          clear c0 c1
          have h7 := fun (w' : World) (hx : Ext w6 w') => Q7.out.str hx
          go_wp2_with fail
          refine wp_region_held_drew (S := fun w' => Ext w6 w') (by kernel_rfl) (Ext.refl w6).drew (fun hHeld => ?_)
          refine wpAnyH_take (i := 0) (oi := ⟨some 60, _, _, _, _, _⟩) (v := ?_) rfl (by kernel_rfl) (by kernel_rfl) (by kernel_rfl) (fun _ _ _ h => h) (Or.inl ⟨by rfl, ?_⟩) (by assumption) ?_
          rotate_left
          · (intro w hSw; (try dsimp only at hSw); go_simp; try with_reducible rfl)
          try simp only [Act.put, List.setIfInBounds_toArray, List.set_cons_zero, List.set_cons_succ]
          refine wpAnyH_take (i := 1) (oi := ⟨some 61, _, _, _, _, _⟩) (v := ?_) rfl (by kernel_rfl) (by kernel_rfl) (by kernel_rfl) (fun _ _ _ h => h) (Or.inl ⟨by rfl, ?_⟩) (by assumption) ?_
          rotate_left
          · (intro w hSw; (try dsimp only at hSw); go_simp; try with_reducible rfl)
          try simp only [Act.put, List.setIfInBounds_toArray, List.set_cons_zero, List.set_cons_succ]
          refine wpAnyH_take (i := 2) (oi := ⟨some 62, _, _, _, _, _⟩) (v := ?_) rfl (by kernel_rfl) (by kernel_rfl) (by kernel_rfl) (fun _ _ _ h => h) (Or.inl ⟨by rfl, ?_⟩) (by assumption) ?_
          rotate_left
          · (intro w hSw; (try dsimp only at hSw); go_simp; try with_reducible rfl)
          try simp only [Act.put, List.setIfInBounds_toArray, List.set_cons_zero, List.set_cons_succ]
          refine wpAnyH_take (i := 3) (oi := ⟨some 63, _, _, _, _, _⟩) (v := ?_) rfl (by kernel_rfl) (by kernel_rfl) (by kernel_rfl) (fun _ _ _ h => h) (Or.inl ⟨by rfl, ?_⟩) (by assumption) ?_
          rotate_left
          · (intro w hSw; (try dsimp only at hSw); go_simp; try with_reducible rfl)
          try simp only [Act.put, List.setIfInBounds_toArray, List.set_cons_zero, List.set_cons_succ]
          refine wpAnyH_take (i := 4) (oi := ⟨some 64, _, _, _, _, _⟩) (v := ?_) rfl (by kernel_rfl) (by kernel_rfl) (by kernel_rfl) (fun _ _ _ h => h) (Or.inl ⟨by rfl, ?_⟩) (by assumption) ?_
          rotate_left
          · (intro w hSw; (try dsimp only at hSw); go_simp; try with_reducible rfl)
          try simp only [Act.put, List.setIfInBounds_toArray, List.set_cons_zero, List.set_cons_succ]
          refine wpAnyH_take (i := 5) (oi := ⟨some 65, _, _, _, _, _⟩) (v := ?_) rfl (by kernel_rfl) (by kernel_rfl) (by kernel_rfl) (fun _ _ _ h => h) (Or.inl ⟨by rfl, ?_⟩) (by assumption) ?_
          rotate_left
          · (intro w hSw; (try dsimp only at hSw); go_simp; try with_reducible rfl)
          try simp only [Act.put, List.setIfInBounds_toArray, List.set_cons_zero, List.set_cons_succ]
          refine wpAnyH_take (i := 6) (oi := ⟨some 66, _, _, _, _, _⟩) (v := ?_) rfl (by kernel_rfl) (by kernel_rfl) (by kernel_rfl) (fun _ _ _ h => h) (Or.inl ⟨by rfl, ?_⟩) (by assumption) ?_
          rotate_left
          · (intro w hSw; (try dsimp only at hSw); go_simp; try with_reducible rfl)
          try simp only [Act.put, List.setIfInBounds_toArray, List.set_cons_zero, List.set_cons_succ]
          refine next_one 7 (by kernel_rfl) rfl (by rfl) fun K' HK' => ?_
          go_simp
          refine (refSize_any (QN.out.ext hHeld) bN.out (by decide)).mono ?_
          rintro e wa ⟨rfl, xa⟩
          rw [HS.out]
          have ya := hHeld.trans xa
          have hS2 := Ext.trans hHeld xa
          refine held_go HK' hS2 (fun _ => ?_)
          clear HK'
          refine held_more (S' := fun w' => Ext wa w') (fun _ h => Ext.trans hS2 h) _ _ _ _ ?_
          clear hHeld hS2
          have hHeld : Ext wa wa := Ext.refl _
          try simp only [Act.put, List.setIfInBounds_toArray, List.set_cons_zero, List.set_cons_succ]
          refine next_one 8 (by kernel_rfl) rfl (by rfl) fun K' HK' => ?_
          go_simp
          refine (Laid_any (QB.out.ext ya) (by omega) hlo hhi).mono ?_
          rintro e wb ⟨Ab_, cb_, rfl, sb, _, xb⟩
          have yb := ya.trans xb
          have hS2 := Ext.trans hHeld xb
          refine held_go HK' hS2 (fun _ => ?_)
          clear HK'
          refine held_more (S' := fun w' => Ext wb w') (fun _ h => Ext.trans hS2 h) _ _ _ _ ?_
          clear hHeld hS2
          have hHeld : Ext wb wb := Ext.refl _
          try simp only [Act.put, List.setIfInBounds_toArray, List.set_cons_zero, List.set_cons_succ]
          have hb4 := fun (w' : World) (hx : Ext wb w') => sb.str hx
          have hqq := QQ.out
          have HXC := Kp.mk (HX.out.trans yb)
          refine wpAnyH_take (i := 9) (oi := ⟨some 69, _, _, _, _, _⟩) (v := ?_) rfl (by kernel_rfl) (by kernel_rfl) (by kernel_rfl) (fun _ _ _ h => h) (Or.inl ⟨by rfl, ?_⟩) (by assumption) ?_
          rotate_left
          · (intro w hSw; (try dsimp only at hSw); go_simp; try with_reducible rfl)
          try simp only [Act.put, List.setIfInBounds_toArray, List.set_cons_zero, List.set_cons_succ]
          refine wpAnyH_take (i := 10) (oi := ⟨some 70, _, _, _, _, _⟩) (v := ?_) rfl (by kernel_rfl) (by kernel_rfl) (by kernel_rfl) (fun _ _ _ h => h) (Or.inl ⟨by rfl, ?_⟩) (by assumption) ?_
          rotate_left
          · (intro w hSw; (try dsimp only at hSw); go_simp; try with_reducible rfl)
          try simp only [Act.put, List.setIfInBounds_toArray, List.set_cons_zero, List.set_cons_succ]
          refine wpAnyH_take (i := 11) (oi := ⟨some 71, _, _, _, _, _⟩) (v := ?_) rfl (by kernel_rfl) (by kernel_rfl) (by kernel_rfl) (fun _ _ _ h => h) (Or.inl ⟨by rfl, ?_⟩) (by assumption) ?_
          rotate_left
          · (intro w hSw; (try dsimp only at hSw); go_simp; try with_reducible rfl)
          try simp only [Act.put, List.setIfInBounds_toArray, List.set_cons_zero, List.set_cons_succ]
          refine wpAnyH_take (i := 12) (oi := ⟨some 13, _, _, _, _, _⟩) (v := ?_) rfl (by kernel_rfl) (by kernel_rfl) (by kernel_rfl) (fun _ _ _ h => h) (Or.inl ⟨by rfl, ?_⟩) (by assumption) ?_
          rotate_left
          · (intro w hSw; (try dsimp only at hSw); go_simp; try with_reducible rfl)
          try simp only [Act.put, List.setIfInBounds_toArray, List.set_cons_zero, List.set_cons_succ]
          refine wpAnyH_done (by kernel_rfl) ?_ _
          clear m0 m1 sb h7 hb4
          go_wp2_with fail
          go_ret
          exact ⟨by first | rfl | simp, HXC.out.b⟩
        · have HP := Kp.mk hp
          have HR := Kp.mk hr
          have HEQ := Kp.mk hq
          obtain ⟨N, hN⟩ : ∃ N, nb vN = N := ⟨_, rfl⟩
          have HS := Kp.mk hN
          have hlo := hp.1
          have hhi := hp.2.1
          rw [hN] at hlo hhi
          clear hN
          have QQ := Kp.mk (show ((strOf r).toList == (strOf (sgL (dgH lq) N)).toList) = false by rw [str_beq, ← HS.out]; exact beq_eq_false_iff_ne.2 hq)
          clear hq
          clear hp hr
          go_enter Tryz.func4, Tryz.ntmps4
          go_wp2_with fail
          refine (HU.out _).mono ?_
          rintro e w1 ⟨rfl, x⟩
          have x1 := x
          clear x
          obtain ⟨c0, c1⟩ := box2 HB.out (show Ext (w.alloc (.cells #[.slice AN nN cN, .slice AE nE cE] 40)) w1 from (by (repeat (first | assumption | exact Ext.refl _ | apply Ext.drew | apply Ext.drewN | apply Ext.alloc | refine Ext.trans ?_ (by assumption))); first | done | fail))
          go_wp2_with fail
          refine (light6_any (D := none) (k := 0) (f := 0) true ⟨fun _ => HL.out, fun _ => rfl⟩).mono ?_
          rintro e w2 ⟨rfl, x⟩
          have x2 := Ext.trans (show Ext w1 _ from (by (repeat (first | assumption | exact Ext.refl _ | apply Ext.drew | apply Ext.drewN | apply Ext.alloc | refine Ext.trans ?_ (by assumption))); first | done | fail)) x
          clear x
          obtain ⟨c0, c1⟩ := box2 HB.out (show Ext (w.alloc (.cells #[.slice AN nN cN, .slice AE nE cE] 40)) w2 from (by (repeat (first | assumption | exact Ext.refl _ | apply Ext.drew | apply Ext.drewN | apply Ext.alloc | refine Ext.trans ?_ (by assumption))); first | done | fail))
          go_wp2_with fail
          refine (cut6_any (HBo.out.ext (show Ext w w2 from (by (repeat (first | assumption | exact Ext.refl _ | apply Ext.drew | apply Ext.drewN | apply Ext.alloc | refine Ext.trans ?_ (by assumption))); first | done | fail))) 300 rfl).mono ?_
          rintro e w3 ⟨rfl, _, hw⟩
          subst hw
          generalize min nb_ 300 = nq at *
          obtain ⟨c0, c1⟩ := box2 HB.out (show Ext (w.alloc (.cells #[.slice AN nN cN, .slice AE nE cE] 40)) w3 from (by (repeat (first | assumption | exact Ext.refl _ | apply Ext.drew | apply Ext.drewN | apply Ext.alloc | refine Ext.trans ?_ (by assumption))); first | done | fail))
          go_wp2_with (first | ((with_reducible refine at_load_to 37 3 ?_); refine wpList_load_row rfl 40 _ rfl w.heap.size rfl 40 _ (0, 0) _ (HB.out.ext (show Ext (w.alloc (.cells #[.slice AN nN cN, .slice AE nE cE] 40)) w3 from (by (repeat (first | assumption | exact Ext.refl _ | apply Ext.drew | apply Ext.drewN | apply Ext.alloc | refine Ext.trans ?_ (by assumption))); first | done | fail))).h Tryz.underlying40 rfl szP2 ?_) | fail)
          refine (Verify_no (NN.out.ext (by (repeat (first | assumption | exact Ext.refl _ | apply Ext.drew | apply Ext.drewN | apply Ext.alloc | refine Ext.trans ?_ (by assumption))); first | done | fail)) (NE.out.ext (by (repeat (first | assumption | exact Ext.refl _ | apply Ext.drew | apply Ext.drewN | apply Ext.alloc | refine Ext.trans ?_ (by assumption))); first | done | fail)) (HBb.out.ext (by (repeat (first | assumption | exact Ext.refl _ | apply Ext.drew | apply Ext.drewN | apply Ext.alloc | refine Ext.trans ?_ (by assumption))); first | done | fail)) (HG.out.ext (by (repeat (first | assumption | exact Ext.refl _ | apply Ext.drew | apply Ext.drewN | apply Ext.alloc | refine Ext.trans ?_ (by assumption))); first | done | fail)) (by omega) HP.out (HW.out.ext (by (repeat (first | assumption | exact Ext.refl _ | apply Ext.drew | apply Ext.drewN | apply Ext.alloc | refine Ext.trans ?_ (by assumption))); first | done | fail)) HR.out HEQ.out).mono ?_
          rintro e w4 ⟨rfl, x⟩
          have x4 := Ext.trans (show Ext w3 _ from (by (repeat (first | assumption | exact Ext.refl _ | apply Ext.drew | apply Ext.drewN | apply Ext.alloc | refine Ext.trans ?_ (by assumption))); first | done | fail)) x
          clear x
          obtain ⟨c0, c1⟩ := box2 HB.out (show Ext (w.alloc (.cells #[.slice AN nN cN, .slice AE nE cE] 40)) w4 from (by (repeat (first | assumption | exact Ext.refl _ | apply Ext.drew | apply Ext.drewN | apply Ext.alloc | refine Ext.trans ?_ (by assumption))); first | done | fail))
          go_wp2_with (first | ((with_reducible refine at_load_to 41 3 ?_); refine wpList_load_row rfl 40 _ rfl w.heap.size rfl 40 _ (0, 0) _ (HB.out.ext (show Ext (w.alloc (.cells #[.slice AN nN cN, .slice AE nE cE] 40)) w4 from (by (repeat (first | assumption | exact Ext.refl _ | apply Ext.drew | apply Ext.drewN | apply Ext.alloc | refine Ext.trans ?_ (by assumption))); first | done | fail))).h Tryz.underlying40 rfl szP2 ?_) | fail)
          refine (refPublic_any (NN.out.ext (by (repeat (first | assumption | exact Ext.refl _ | apply Ext.drew | apply Ext.drewN | apply Ext.alloc | refine Ext.trans ?_ (by assumption))); first | done | fail)) (NE.out.ext (by (repeat (first | assumption | exact Ext.refl _ | apply Ext.drew | apply Ext.drewN | apply Ext.alloc | refine Ext.trans ?_ (by assumption))); first | done | fail)) bN.out bE.out (by decide) (by decide) true (by simp [HP.out])).mono ?_
          rintro e w5 ⟨rfl, x⟩
          have x5 := Ext.trans (show Ext w4 _ from (by (repeat (first | assumption | exact Ext.refl _ | apply Ext.drew | apply Ext.drewN | apply Ext.alloc | refine Ext.trans ?_ (by assumption))); first | done | fail)) x
          clear x
          obtain ⟨c0, c1⟩ := box2 HB.out (show Ext (w.alloc (.cells #[.slice AN nN cN, .slice AE nE cE] 40)) w5 from (by (repeat (first | assumption | exact Ext.refl _ | apply Ext.drew | apply Ext.drewN | apply Ext.alloc | refine Ext.trans ?_ (by assumption))); first | done | fail))
          go_wp2_with fail
          refine (Power_some (HG.out.ext (by (repeat (first | assumption | exact Ext.refl _ | apply Ext.drew | apply Ext.drewN | apply Ext.alloc | refine Ext.trans ?_ (by assumption))); first | done | fail)) (NE.out.ext (by (repeat (first | assumption | exact Ext.refl _ | apply Ext.drew | apply Ext.drewN | apply Ext.alloc | refine Ext.trans ?_ (by assumption))); first | done | fail)) (NN.out.ext (by (repeat (first | assumption | exact Ext.refl _ | apply Ext.drew | apply Ext.drewN | apply Ext.alloc | refine Ext.trans ?_ (by assumption))); first | done | fail)) bE.out (by decide) HP.out.2.1 HP.out.n0 HR.out).mono ?_
          rintro e w6 ⟨A7, c7, rfl, s7, x⟩
          have x6 := Ext.trans (show Ext w5 _ from (by (repeat (first | assumption | exact Ext.refl _ | apply Ext.drew | apply Ext.drewN | apply Ext.alloc | refine Ext.trans ?_ (by assumption))); first | done | fail)) x
          clear x
          rw [HS.out] at s7 ⊢
          have S7 := Kp.mk s7
          clear s7
          obtain ⟨m0, m1⟩ := box2s (HB.out.ext (show Ext (w.alloc (.cells #[.slice AN nN cN, .slice AE nE cE] 40)) w6 from (by (repeat (first | assumption | exact Ext.refl _ | apply Ext.drew | apply Ext.drewN | apply Ext.alloc | refine Ext.trans ?_ (by assumption))); first | done | fail)))
          have QN := Kp.mk (NN.out.ext (show Ext _ w6 from (by (repeat (first | assumption | exact Ext.refl _ | apply Ext.drew | apply Ext.drewN | apply Ext.alloc | refine Ext.trans ?_ (by assumption))); first | done | fail)))
          have QB := Kp.mk (HBb.out.ext (show Ext _ w6 from (by (repeat (first | assumption | exact Ext.refl _ | apply Ext.drew | apply Ext.drewN | apply Ext.alloc | refine Ext.trans ?_ (by assumption))); first | done | fail)))
          have Q7 := Kp.mk (S7.out.ext (show Ext _ w6 from (by (repeat (first | assumption | exact Ext.refl _ | apply Ext.drew | apply Ext.drewN | apply Ext.alloc | refine Ext.trans ?_ (by assumption))); first | done | fail)))
          have HX := Kp.mk (show Ext w w6 from (by (repeat (first | assumption | exact Ext.refl _ | apply Ext.drew | apply Ext.drewN | apply Ext.alloc | refine Ext.trans ?_ (by assumption))); first | done | fail))
          clear x1 x2 x4 x5 x6
          clear c0 c1
          have h7 := fun (w' : World) (hx : Ext w6 w') => Q7.out.str hx
          go_wp2_with fail
          refine wp_region_held_drew (S := fun w' => Ext w6 w') (by kernel_rfl) (Ext.refl w6).drew (fun hHeld => ?_)
          refine wpAnyH_take (i := 0) (oi := ⟨some 60, _, _, _, _, _⟩) (v := ?_) rfl (by kernel_rfl) (by kernel_rfl) (by kernel_rfl) (fun _ _ _ h => h) (Or.inl ⟨by rfl, ?_⟩) (by assumption) ?_
          rotate_left
          · (intro w hSw; (try dsimp only at hSw); go_simp; try with_reducible rfl)
          try simp only [Act.put, List.setIfInBounds_toArray, List.set_cons_zero, List.set_cons_succ]
          refine wpAnyH_take (i := 1) (oi := ⟨some 61, _, _, _, _, _⟩) (v := ?_) rfl (by kernel_rfl) (by kernel_rfl) (by kernel_rfl) (fun _ _ _ h => h) (Or.inl ⟨by rfl, ?_⟩) (by assumption) ?_
          rotate_left
          · (intro w hSw; (try dsimp only at hSw); go_simp; try with_reducible rfl)
          try simp only [Act.put, List.setIfInBounds_toArray, List.set_cons_zero, List.set_cons_succ]
          refine wpAnyH_take (i := 2) (oi := ⟨some 62, _, _, _, _, _⟩) (v := ?_) rfl (by kernel_rfl) (by kernel_rfl) (by kernel_rfl) (fun _ _ _ h => h) (Or.inl ⟨by rfl, ?_⟩) (by assumption) ?_
          rotate_left
          · (intro w hSw; (try dsimp only at hSw); go_simp; try with_reducible rfl)
          try simp only [Act.put, List.setIfInBounds_toArray, List.set_cons_zero, List.set_cons_succ]
          refine wpAnyH_take (i := 3) (oi := ⟨some 63, _, _, _, _, _⟩) (v := ?_) rfl (by kernel_rfl) (by kernel_rfl) (by kernel_rfl) (fun _ _ _ h => h) (Or.inl ⟨by rfl, ?_⟩) (by assumption) ?_
          rotate_left
          · (intro w hSw; (try dsimp only at hSw); go_simp; try with_reducible rfl)
          try simp only [Act.put, List.setIfInBounds_toArray, List.set_cons_zero, List.set_cons_succ]
          refine wpAnyH_take (i := 4) (oi := ⟨some 64, _, _, _, _, _⟩) (v := ?_) rfl (by kernel_rfl) (by kernel_rfl) (by kernel_rfl) (fun _ _ _ h => h) (Or.inl ⟨by rfl, ?_⟩) (by assumption) ?_
          rotate_left
          · (intro w hSw; (try dsimp only at hSw); go_simp; try with_reducible rfl)
          try simp only [Act.put, List.setIfInBounds_toArray, List.set_cons_zero, List.set_cons_succ]
          refine wpAnyH_take (i := 5) (oi := ⟨some 65, _, _, _, _, _⟩) (v := ?_) rfl (by kernel_rfl) (by kernel_rfl) (by kernel_rfl) (fun _ _ _ h => h) (Or.inl ⟨by rfl, ?_⟩) (by assumption) ?_
          rotate_left
          · (intro w hSw; (try dsimp only at hSw); go_simp; try with_reducible rfl)
          try simp only [Act.put, List.setIfInBounds_toArray, List.set_cons_zero, List.set_cons_succ]
          refine wpAnyH_take (i := 6) (oi := ⟨some 66, _, _, _, _, _⟩) (v := ?_) rfl (by kernel_rfl) (by kernel_rfl) (by kernel_rfl) (fun _ _ _ h => h) (Or.inl ⟨by rfl, ?_⟩) (by assumption) ?_
          rotate_left
          · (intro w hSw; (try dsimp only at hSw); go_simp; try with_reducible rfl)
          try simp only [Act.put, List.setIfInBounds_toArray, List.set_cons_zero, List.set_cons_succ]
          refine next_one 7 (by kernel_rfl) rfl (by rfl) fun K' HK' => ?_
          go_simp
          refine (refSize_any (QN.out.ext hHeld) bN.out (by decide)).mono ?_
          rintro e wa ⟨rfl, xa⟩
          rw [HS.out]
          have ya := hHeld.trans xa
          have hS2 := Ext.trans hHeld xa
          refine held_go HK' hS2 (fun _ => ?_)
          clear HK'
          refine held_more (S' := fun w' => Ext wa w') (fun _ h => Ext.trans hS2 h) _ _ _ _ ?_
          clear hHeld hS2
          have hHeld : Ext wa wa := Ext.refl _
          try simp only [Act.put, List.setIfInBounds_toArray, List.set_cons_zero, List.set_cons_succ]
          refine next_one 8 (by kernel_rfl) rfl (by rfl) fun K' HK' => ?_
          go_simp
          refine (Laid_any (QB.out.ext ya) (by omega) hlo hhi).mono ?_
          rintro e wb ⟨Ab_, cb_, rfl, sb, _, xb⟩
          have yb := ya.trans xb
          have hS2 := Ext.trans hHeld xb
          refine held_go HK' hS2 (fun _ => ?_)
          clear HK'
          refine held_more (S' := fun w' => Ext wb w') (fun _ h => Ext.trans hS2 h) _ _ _ _ ?_
          clear hHeld hS2
          have hHeld : Ext wb wb := Ext.refl _
          try simp only [Act.put, List.setIfInBounds_toArray, List.set_cons_zero, List.set_cons_succ]
          have hb4 := fun (w' : World) (hx : Ext wb w') => sb.str hx
          have hqq := QQ.out
          have HXC := Kp.mk (HX.out.trans yb)
          refine wpAnyH_take (i := 9) (oi := ⟨some 69, _, _, _, _, _⟩) (v := ?_) rfl (by kernel_rfl) (by kernel_rfl) (by kernel_rfl) (fun _ _ _ h => h) (Or.inl ⟨by rfl, ?_⟩) (by assumption) ?_
          rotate_left
          · (intro w hSw; (try dsimp only at hSw); go_simp; try with_reducible rfl)
          try simp only [Act.put, List.setIfInBounds_toArray, List.set_cons_zero, List.set_cons_succ]
          refine wpAnyH_take (i := 10) (oi := ⟨some 70, _, _, _, _, _⟩) (v := ?_) rfl (by kernel_rfl) (by kernel_rfl) (by kernel_rfl) (fun _ _ _ h => h) (Or.inl ⟨by rfl, ?_⟩) (by assumption) ?_
          rotate_left
          · (intro w hSw; (try dsimp only at hSw); go_simp; try with_reducible rfl)
          try simp only [Act.put, List.setIfInBounds_toArray, List.set_cons_zero, List.set_cons_succ]
          refine wpAnyH_take (i := 11) (oi := ⟨some 71, _, _, _, _, _⟩) (v := ?_) rfl (by kernel_rfl) (by kernel_rfl) (by kernel_rfl) (fun _ _ _ h => h) (Or.inl ⟨by rfl, ?_⟩) (by assumption) ?_
          rotate_left
          · (intro w hSw; (try dsimp only at hSw); go_simp; try with_reducible rfl)
          try simp only [Act.put, List.setIfInBounds_toArray, List.set_cons_zero, List.set_cons_succ]
          refine wpAnyH_take (i := 12) (oi := ⟨some 13, _, _, _, _, _⟩) (v := ?_) rfl (by kernel_rfl) (by kernel_rfl) (by kernel_rfl) (fun _ _ _ h => h) (Or.inl ⟨by rfl, ?_⟩) (by assumption) ?_
          rotate_left
          · (intro w hSw; (try dsimp only at hSw); go_simp; try with_reducible rfl)
          try simp only [Act.put, List.setIfInBounds_toArray, List.set_cons_zero, List.set_cons_succ]
          refine wpAnyH_done (by kernel_rfl) ?_ _
          clear m0 m1 sb h7 hb4
          go_wp2_with fail
          go_ret
          exact ⟨by first | rfl | simp, HXC.out.b⟩
end Go.Proofs.YticggkllfojgkaaGreatDoor
