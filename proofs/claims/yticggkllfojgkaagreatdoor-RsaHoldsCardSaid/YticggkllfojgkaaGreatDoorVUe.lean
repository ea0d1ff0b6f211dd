/-
  The walk of the law RsaHolds.
-/
import Derived.Test.YticggkllfojgkaaGreatDoorVUc
import Derived.Test.YticggkllfojgkaaGreatDoorVTz
import Derived.Test.YticggkllfojgkaaGreatDoorM28
import Derived.Test.YticggkllfojgkaaGreatDoorM29
namespace Go.Proofs.YticggkllfojgkaaGreatDoor
open Go Go.RowKit
set_option maxRecDepth 4000

set_option maxHeartbeats 8000000 in
set_option maxRecDepth 100000 in
theorem RsaHolds_any {w : World} {AN AE AD Ab At Af : Option Addr} {nN nE nD nb_ nt nf cN cE cD cb ct cf : Nat} {lN lE lD : List Nat} {lb lt lf : List (BitVec 8)} (hN : Nk w AN nN cN lN) (hE : Nk w AE nE cE lE) (hD : Nk w AD nD cD lD) (hb : Bs w Ab nb_ cb lb) (ht : Bs w At nt ct lt) (hf : Bs w Af nf cf lf) (hw : Lay w) :
    Calls Tryz.prog 5 #[.agg #[.slice AN nN cN, .slice AE nE cE, .slice AD nD cD], .slice Ab nb_ cb, .slice At nt ct, .slice Af nf cf] w fun e w' => e = .returned (.bool true) ∧ Below w.heap.size w w' := by
  have HU := Kp.mk (fun u => up6_any u)
  have HB := Kp.mk (Blk.new w 25 #[.slice AN nN cN, .slice AE nE cE, .slice AD nD cD])
  have hways : ¬ (nN ≤ 70 ∧ nE ≤ 70 ∧ nD ≤ 70) ∨ ((nN ≤ 70 ∧ nE ≤ 70 ∧ nD ≤ 70) ∧ 2 < nE) ∨ ((nN ≤ 70 ∧ nE ≤ 70 ∧ nD ≤ 70) ∧ ¬ 2 < nE ∧ 300 < nt) ∨ ((nN ≤ 70 ∧ nE ≤ 70 ∧ nD ≤ 70) ∧ ¬ 2 < nE ∧ ¬ 300 < nt ∧ 300 < nf) ∨ ((nN ≤ 70 ∧ nE ≤ 70 ∧ nD ≤ 70) ∧ ¬ 2 < nE ∧ ¬ 300 < nt ∧ ¬ 300 < nf) := by omega
  rcases hways with hl | ⟨hl, h1⟩ | ⟨hl, h1, h2⟩ | ⟨hl, h1, h2, h3⟩ | ⟨hl, h1, h2, h3⟩
  · have HL := Kp.mk hl
    clear hl hN hE hD hb ht hf hw 
    go_enter Tryz.func5, Tryz.ntmps5
    go_wp2_with fail
    refine (HU.out _).mono ?_
    rintro e w1 ⟨rfl, x⟩
    have x1 := x
    clear x
    obtain ⟨c0, c1, c2⟩ := box3 HB.out (show Ext (w.alloc (.cells #[.slice AN nN cN, .slice AE nE cE, .slice AD nD cD] 25)) w1 from (by (repeat (first | assumption | exact Ext.refl _ | apply Ext.drew | apply Ext.drewN | apply Ext.alloc | refine Ext.trans ?_ (by assumption))); first | done | fail))
    go_wp2_with (first | ((with_reducible refine at_load_to 27 4 ?_); refine wpList_load_row rfl 25 _ rfl w.heap.size rfl 25 _ (0, 0) _ (HB.out.ext (show Ext (w.alloc (.cells #[.slice AN nN cN, .slice AE nE cE, .slice AD nD cD] 25)) w1 from (by (repeat (first | assumption | exact Ext.refl _ | apply Ext.drew | apply Ext.drewN | apply Ext.alloc | refine Ext.trans ?_ (by assumption))); first | done | fail))).h Tryz.underlying25 rfl szS ?_) | fail)
    refine (light6_any false ⟨(fun h => nomatch h), fun h => absurd h HL.out⟩).mono ?_
    rintro e w2 ⟨rfl, x⟩
    have x2 := Ext.trans (show Ext w1 _ from (by (repeat (first | assumption | exact Ext.refl _ | apply Ext.drew | apply Ext.drewN | apply Ext.alloc | refine Ext.trans ?_ (by assumption))); first | done | fail)) x
    clear x
    obtain ⟨c0, c1, c2⟩ := box3 HB.out (show Ext (w.alloc (.cells #[.slice AN nN cN, .slice AE nE cE, .slice AD nD cD] 25)) w2 from (by (repeat (first | assumption | exact Ext.refl _ | apply Ext.drew | apply Ext.drewN | apply Ext.alloc | refine Ext.trans ?_ (by assumption))); first | done | fail))
    have HX := Kp.mk (show Ext w w2 from (by (repeat (first | assumption | exact Ext.refl _ | apply Ext.drew | apply Ext.drewN | apply Ext.alloc | refine Ext.trans ?_ (by assumption))); first | done | fail))
    clear x1 x2
    go_wp2_with fail
    go_ret
    exact ⟨rfl, HX.out.b⟩
  · have HL := Kp.mk hl
    have g0 : (2 : Int) < (nE : Int) := by omega
    have g0' : 2 < nE := by omega
    clear hl hN hE hD hb ht hf hw h1
    go_enter Tryz.func5, Tryz.ntmps5
    go_wp2_with fail
    refine (HU.out _).mono ?_
    rintro e w1 ⟨rfl, x⟩
    have x1 := x
    clear x
    obtain ⟨c0, c1, c2⟩ := box3 HB.out (show Ext (w.alloc (.cells #[.slice AN nN cN, .slice AE nE cE, .slice AD nD cD] 25)) w1 from (by (repeat (first | assumption | exact Ext.refl _ | apply Ext.drew | apply Ext.drewN | apply Ext.alloc | refine Ext.trans ?_ (by assumption))); first | done | fail))
    go_wp2_with (first | ((with_reducible refine at_load_to 27 4 ?_); refine wpList_load_row rfl 25 _ rfl w.heap.size rfl 25 _ (0, 0) _ (HB.out.ext (show Ext (w.alloc (.cells #[.slice AN nN cN, .slice AE nE cE, .slice AD nD cD] 25)) w1 from (by (repeat (first | assumption | exact Ext.refl _ | apply Ext.drew | apply Ext.drewN | apply Ext.alloc | refine Ext.trans ?_ (by assumption))); first | done | fail))).h Tryz.underlying25 rfl szS ?_) | fail)
    refine (light6_any true ⟨fun _ => HL.out, fun _ => rfl⟩).mono ?_
    rintro e w2 ⟨rfl, x⟩
    have x2 := Ext.trans (show Ext w1 _ from (by (repeat (first | assumption | exact Ext.refl _ | apply Ext.drew | apply Ext.drewN | apply Ext.alloc | refine Ext.trans ?_ (by assumption))); first | done | fail)) x
    clear x
    obtain ⟨c0, c1, c2⟩ := box3 HB.out (show Ext (w.alloc (.cells #[.slice AN nN cN, .slice AE nE cE, .slice AD nD cD] 25)) w2 from (by (repeat (first | assumption | exact Ext.refl _ | apply Ext.drew | apply Ext.drewN | apply Ext.alloc | refine Ext.trans ?_ (by assumption))); first | done | fail))
    have HX := Kp.mk (show Ext w w2 from (by (repeat (first | assumption | exact Ext.refl _ | apply Ext.drew | apply Ext.drewN | apply Ext.alloc | refine Ext.trans ?_ (by assumption))); first | done | fail))
    clear x1 x2
    go_wp2_with fail
    go_ret
    exact ⟨rfl, HX.out.b⟩
  · have HL := Kp.mk hl
    have g0 : decide ((2 : Int) < (nE : Int)) = false := decide_eq_false (by omega)
    have g0' : decide (2 < nE) = false := decide_eq_false (by omega)
    have g1 : (300 : Int) < (nt : Int) := by omega
    have g1' : 300 < nt := by omega
    clear hl hN hE hD hb ht hf hw h1 h2
    go_enter Tryz.func5, Tryz.ntmps5
    go_wp2_with fail
    refine (HU.out _).mono ?_
    rintro e w1 ⟨rfl, x⟩
    have x1 := x
    clear x
    obtain ⟨c0, c1, c2⟩ := box3 HB.out (show Ext (w.alloc (.cells #[.slice AN nN cN, .slice AE nE cE, .slice AD nD cD] 25)) w1 from (by (repeat (first | assumption | exact Ext.refl _ | apply Ext.drew | apply Ext.drewN | apply Ext.alloc | refine Ext.trans ?_ (by assumption))); first | done | fail))
    go_wp2_with (first | ((with_reducible refine at_load_to 27 4 ?_); refine wpList_load_row rfl 25 _ rfl w.heap.size rfl 25 _ (0, 0) _ (HB.out.ext (show Ext (w.alloc (.cells #[.slice AN nN cN, .slice AE nE cE, .slice AD nD cD] 25)) w1 from (by (repeat (first | assumption | exact Ext.refl _ | apply Ext.drew | apply Ext.drewN | apply Ext.alloc | refine Ext.trans ?_ (by assumption))); first | done | fail))).h Tryz.underlying25 rfl szS ?_) | fail)
    refine (light6_any true ⟨fun _ => HL.out, fun _ => rfl⟩).mono ?_
    rintro e w2 ⟨rfl, x⟩
    have x2 := Ext.trans (show Ext w1 _ from (by (repeat (first | assumption | exact Ext.refl _ | apply Ext.drew | apply Ext.drewN | apply Ext.alloc | refine Ext.trans ?_ (by assumption))); first | done | fail)) x
    clear x
    obtain ⟨c0, c1, c2⟩ := box3 HB.out (show Ext (w.alloc (.cells #[.slice AN nN cN, .slice AE nE cE, .slice AD nD cD] 25)) w2 from (by (repeat (first | assumption | exact Ext.refl _ | apply Ext.drew | apply Ext.drewN | apply Ext.alloc | refine Ext.trans ?_ (by assumption))); first | done | fail))
    have HX := Kp.mk (show Ext w w2 from (by (repeat (first | assumption | exact Ext.refl _ | apply Ext.drew | apply Ext.drewN | apply Ext.alloc | refine Ext.trans ?_ (by assumption))); first | done | fail))
    clear x1 x2
    go_wp2_with fail
    go_ret
    exact ⟨rfl, HX.out.b⟩
  · have HL := Kp.mk hl
    have g0 : decide ((2 : Int) < (nE : Int)) = false := decide_eq_false (by omega)
    have g0' : decide (2 < nE) = false := decide_eq_false (by omega)
    have g1 : decide ((300 : Int) < (nt : Int)) = false := decide_eq_false (by omega)
    have g1' : decide (300 < nt) = false := decide_eq_false (by omega)
    have g2 : (300 : Int) < (nf : Int) := by omega
    have g2' : 300 < nf := by omega
    clear hl hN hE hD hb ht hf hw h1 h2 h3
    go_enter Tryz.func5, Tryz.ntmps5
    go_wp2_with fail
    refine (HU.out _).mono ?_
    rintro e w1 ⟨rfl, x⟩
    have x1 := x
    clear x
    obtain ⟨c0, c1, c2⟩ := box3 HB.out (show Ext (w.alloc (.cells #[.slice AN nN cN, .slice AE nE cE, .slice AD nD cD] 25)) w1 from (by (repeat (first | assumption | exact Ext.refl _ | apply Ext.drew | apply Ext.drewN | apply Ext.alloc | refine Ext.trans ?_ (by assumption))); first | done | fail))
    go_wp2_with (first | ((with_reducible refine at_load_to 27 4 ?_); refine wpList_load_row rfl 25 _ rfl w.heap.size rfl 25 _ (0, 0) _ (HB.out.ext (show Ext (w.alloc (.cells #[.slice AN nN cN, .slice AE nE cE, .slice AD nD cD] 25)) w1 from (by (repeat (first | assumption | exact Ext.refl _ | apply Ext.drew | apply Ext.drewN | apply Ext.alloc | refine Ext.trans ?_ (by assumption))); first | done | fail))).h Tryz.underlying25 rfl szS ?_) | fail)
    refine (light6_any true ⟨fun _ => HL.out, fun _ => rfl⟩).mono ?_
    rintro e w2 ⟨rfl, x⟩
    have x2 := Ext.trans (show Ext w1 _ from (by (repeat (first | assumption | exact Ext.refl _ | apply Ext.drew | apply Ext.drewN | apply Ext.alloc | refine Ext.trans ?_ (by assumption))); first | done | fail)) x
    clear x
    obtain ⟨c0, c1, c2⟩ := box3 HB.out (show Ext (w.alloc (.cells #[.slice AN nN cN, .slice AE nE cE, .slice AD nD cD] 25)) w2 from (by (repeat (first | assumption | exact Ext.refl _ | apply Ext.drew | apply Ext.drewN | apply Ext.alloc | refine Ext.trans ?_ (by assumption))); first | done | fail))
    have HX := Kp.mk (show Ext w w2 from (by (repeat (first | assumption | exact Ext.refl _ | apply Ext.drew | apply Ext.drewN | apply Ext.alloc | refine Ext.trans ?_ (by assumption))); first | done | fail))
    clear x1 x2
    go_wp2_with fail
    go_ret
    exact ⟨rfl, HX.out.b⟩
  · have HL := Kp.mk hl
    have g0 : decide ((2 : Int) < (nE : Int)) = false := decide_eq_false (by omega)
    have g0' : decide (2 < nE) = false := decide_eq_false (by omega)
    have g1 : decide ((300 : Int) < (nt : Int)) = false := decide_eq_false (by omega)
    have g1' : decide (300 < nt) = false := decide_eq_false (by omega)
    have g2 : decide ((300 : Int) < (nf : Int)) = false := decide_eq_false (by omega)
    have g2' : decide (300 < nf) = false := decide_eq_false (by omega)
    have NN := Kp.mk (Nv.small hN.r hN.d (by omega))
    have bN := Kp.mk (Nat.lt_of_lt_of_le (vl_len hN.r hN.d) (Nat.pow_le_pow_right (n := BB) (by decide) (show nN ≤ 70 by omega)))
    obtain ⟨vN, hvN⟩ : ∃ v, vl BB lN = v := ⟨_, rfl⟩
    rw [hvN] at NN bN
    clear hN hvN
    have NE := Kp.mk (Nv.small hE.r hE.d (by omega))
    have bE := Kp.mk (Nat.lt_of_lt_of_le (vl_len hE.r hE.d) (Nat.pow_le_pow_right (n := BB) (by decide) (show nE ≤ 70 by omega)))
    obtain ⟨vE, hvE⟩ : ∃ v, vl BB lE = v := ⟨_, rfl⟩
    rw [hvE] at NE bE
    clear hE hvE
    have ND := Kp.mk (Nv.small hD.r hD.d (by omega))
    have bD := Kp.mk (Nat.lt_of_lt_of_le (vl_len hD.r hD.d) (Nat.pow_le_pow_right (n := BB) (by decide) (show nD ≤ 70 by omega)))
    obtain ⟨vD, hvD⟩ : ∃ v, vl BB lD = v := ⟨_, rfl⟩
    rw [hvD] at ND bD
    clear hD hvD
    have HT := Kp.mk ht
    have HF := Kp.mk hf
    have hlen := hf.len
    have ht3 : nt ≤ 300 := by omega
    have hf3 : nf ≤ 300 := by omega
    have HBb := Kp.mk (hb.take (min nb_ 300) (Nat.min_le_left _ _))
    have HBo := Kp.mk hb
    have hb3 : min nb_ 300 ≤ 300 := Nat.min_le_right _ _
    have HW := Kp.mk hw
    have ee8 := code_eq 8 8
    have en8 := code_neq 8 8
    clear hl h1 h2 h3 hb ht hf hw
    obtain ⟨lq, hlq⟩ : ∃ lq, lb.take (min nb_ 300) = lq := ⟨_, rfl⟩
    have HQ := Kp.mk hlq
    rw [hlq] at HBb
    clear hlq
    by_cases hp : SecOk vN vE vD
    rotate_left
    · have HP := Kp.mk hp
      clear hp hlen
      go_enter Tryz.func5, Tryz.ntmps5
      go_wp2_with fail
      refine (HU.out _).mono ?_
      rintro e w1 ⟨rfl, x⟩
      have x1 := x
      clear x
      obtain ⟨c0, c1, c2⟩ := box3 HB.out (show Ext (w.alloc (.cells #[.slice AN nN cN, .slice AE nE cE, .slice AD nD cD] 25)) w1 from (by (repeat (first | assumption | exact Ext.refl _ | apply Ext.drew | apply Ext.drewN | apply Ext.alloc | refine Ext.trans ?_ (by assumption))); first | done | fail))
      go_wp2_with (first | ((with_reducible refine at_load_to 27 4 ?_); refine wpList_load_row rfl 25 _ rfl w.heap.size rfl 25 _ (0, 0) _ (HB.out.ext (show Ext (w.alloc (.cells #[.slice AN nN cN, .slice AE nE cE, .slice AD nD cD] 25)) w1 from (by (repeat (first | assumption | exact Ext.refl _ | apply Ext.drew | apply Ext.drewN | apply Ext.alloc | refine Ext.trans ?_ (by assumption))); first | done | fail))).h Tryz.underlying25 rfl szS ?_) | fail)
      refine (light6_any true ⟨fun _ => HL.out, fun _ => rfl⟩).mono ?_
      rintro e w2 ⟨rfl, x⟩
      have x2 := Ext.trans (show Ext w1 _ from (by (repeat (first | assumption | exact Ext.refl _ | apply Ext.drew | apply Ext.drewN | apply Ext.alloc | refine Ext.trans ?_ (by assumption))); first | done | fail)) x
      clear x
      obtain ⟨c0, c1, c2⟩ := box3 HB.out (show Ext (w.alloc (.cells #[.slice AN nN cN, .slice AE nE cE, .slice AD nD cD] 25)) w2 from (by (repeat (first | assumption | exact Ext.refl _ | apply Ext.drew | apply Ext.drewN | apply Ext.alloc | refine Ext.trans ?_ (by assumption))); first | done | fail))
      go_wp2_with fail
      refine (cut6_any (HBo.out.ext (show Ext w w2 from (by (repeat (first | assumption | exact Ext.refl _ | apply Ext.drew | apply Ext.drewN | apply Ext.alloc | refine Ext.trans ?_ (by assumption))); first | done | fail))) 300 rfl).mono ?_
      rintro e w3 ⟨rfl, _, hw⟩
      subst hw
      generalize min nb_ 300 = nq at *
      obtain ⟨c0, c1, c2⟩ := box3 HB.out (show Ext (w.alloc (.cells #[.slice AN nN cN, .slice AE nE cE, .slice AD nD cD] 25)) w3 from (by (repeat (first | assumption | exact Ext.refl _ | apply Ext.drew | apply Ext.drewN | apply Ext.alloc | refine Ext.trans ?_ (by assumption))); first | done | fail))
      go_wp2_with (first | ((with_reducible refine at_load_to 51 4 ?_); refine wpList_load_row rfl 25 _ rfl w.heap.size rfl 25 _ (0, 0) _ (HB.out.ext (show Ext (w.alloc (.cells #[.slice AN nN cN, .slice AE nE cE, .slice AD nD cD] 25)) w3 from (by (repeat (first | assumption | exact Ext.refl _ | apply Ext.drew | apply Ext.drewN | apply Ext.alloc | refine Ext.trans ?_ (by assumption))); first | done | fail))).h Tryz.underlying25 rfl szS ?_) | fail)
      refine (Sign_arg (NN.out.ext (by (repeat (first | assumption | exact Ext.refl _ | apply Ext.drew | apply Ext.drewN | apply Ext.alloc | refine Ext.trans ?_ (by assumption))); first | done | fail)) (NE.out.ext (by (repeat (first | assumption | exact Ext.refl _ | apply Ext.drew | apply Ext.drewN | apply Ext.alloc | refine Ext.trans ?_ (by assumption))); first | done | fail)) (ND.out.ext (by (repeat (first | assumption | exact Ext.refl _ | apply Ext.drew | apply Ext.drewN | apply Ext.alloc | refine Ext.trans ?_ (by assumption))); first | done | fail)) HP.out).mono ?_
      rintro e w4 ⟨rfl, x⟩
      have x4 := Ext.trans (show Ext w3 _ from (by (repeat (first | assumption | exact Ext.refl _ | apply Ext.drew | apply Ext.drewN | apply Ext.alloc | refine Ext.trans ?_ (by assumption))); first | done | fail)) x
      clear x
      have HX := Kp.mk (show Ext w w4 from (by (repeat (first | assumption | exact Ext.refl _ | apply Ext.drew | apply Ext.drewN | apply Ext.alloc | refine Ext.trans ?_ (by assumption))); first | done | fail))
      clear x1 x2 x4
      go_wp2_with fail
      go_ret
      exact ⟨rfl, HX.out.b⟩
    · obtain ⟨N, hN1⟩ : ∃ N, nb vN = N := ⟨_, rfl⟩
      obtain ⟨r, hr⟩ := rs_laid (l := sgL (dgH lq) (nb vN)) (vn := vN) vD (sgL_len _ _ (dg_len _) (by have := hp.1.1; omega)) (sgL_head _ _)
      obtain ⟨r2, hr2⟩ := rs_again hr hp.1.n0 vE
      obtain ⟨bz, hv0, hg0, hvb0⟩ := ver_nil r lq vE vN
      have hvb : ((strOf r2).toList == (strOf (sgL (dgH lq) N)).toList) = bz := by
        rw [str_beq, ← hN1]
        cases bz
        · exact beq_eq_false_iff_ne.2 fun h => by have := hvb0.2 (by rw [hr2, h]); cases this
        · have := hvb0.1 rfl
          rw [hr2] at this
          exact beq_iff_eq.2 (Option.some.inj this)
      have hv := And.intro hv0 hg0
      clear hvb0 hv0 hg0
      by_cases g5 : N < nt + 11
      · have HP := Kp.mk hp
        have HR := Kp.mk hr
        have HR2 := Kp.mk hr2
        have HV := Kp.mk hv
        have HVB := Kp.mk hvb
        have HS := Kp.mk hN1
        have hlo := hp.1.1
        have hhi := hp.1.2.1
        rw [hN1] at hlo hhi
        have H1 := Kp.mk g5
        clear hp hr hr2 hv hvb hN1 g5 hlen
        go_enter Tryz.func5, Tryz.ntmps5
        go_wp2_with fail
        refine (HU.out _).mono ?_
        rintro e w1 ⟨rfl, x⟩
        have x1 := x
        clear x
        obtain ⟨c0, c1, c2⟩ := box3 HB.out (show Ext (w.alloc (.cells #[.slice AN nN cN, .slice AE nE cE, .slice AD nD cD] 25)) w1 from (by (repeat (first | assumption | exact Ext.refl _ | apply Ext.drew | apply Ext.drewN | apply Ext.alloc | refine Ext.trans ?_ (by assumption))); first | done | fail))
        go_wp2_with (first | ((with_reducible refine at_load_to 27 4 ?_); refine wpList_load_row rfl 25 _ rfl w.heap.size rfl 25 _ (0, 0) _ (HB.out.ext (show Ext (w.alloc (.cells #[.slice AN nN cN, .slice AE nE cE, .slice AD nD cD] 25)) w1 from (by (repeat (first | assumption | exact Ext.refl _ | apply Ext.drew | apply Ext.drewN | apply Ext.alloc | refine Ext.trans ?_ (by assumption))); first | done | fail))).h Tryz.underlying25 rfl szS ?_) | fail)
        refine (light6_any true ⟨fun _ => HL.out, fun _ => rfl⟩).mono ?_
        rintro e w2 ⟨rfl, x⟩
        have x2 := Ext.trans (show Ext w1 _ from (by (repeat (first | assumption | exact Ext.refl _ | apply Ext.drew | apply Ext.drewN | apply Ext.alloc | refine Ext.trans ?_ (by assumption))); first | done | fail)) x
        clear x
        obtain ⟨c0, c1, c2⟩ := box3 HB.out (show Ext (w.alloc (.cells #[.slice AN nN cN, .slice AE nE cE, .slice AD nD cD] 25)) w2 from (by (repeat (first | assumption | exact Ext.refl _ | apply Ext.drew | apply Ext.drewN | apply Ext.alloc | refine Ext.trans ?_ (by assumption))); first | done | fail))
        go_wp2_with fail
        refine (cut6_any (HBo.out.ext (show Ext w w2 from (by (repeat (first | assumption | exact Ext.refl _ | apply Ext.drew | apply Ext.drewN | apply Ext.alloc | refine Ext.trans ?_ (by assumption))); first | done | fail))) 300 rfl).mono ?_
        rintro e w3 ⟨rfl, _, hw⟩
        subst hw
        generalize min nb_ 300 = nq at *
        obtain ⟨c0, c1, c2⟩ := box3 HB.out (show Ext (w.alloc (.cells #[.slice AN nN cN, .slice AE nE cE, .slice AD nD cD] 25)) w3 from (by (repeat (first | assumption | exact Ext.refl _ | apply Ext.drew | apply Ext.drewN | apply Ext.alloc | refine Ext.trans ?_ (by assumption))); first | done | fail))
        go_wp2_with (first | ((with_reducible refine at_load_to 51 4 ?_); refine wpList_load_row rfl 25 _ rfl w.heap.size rfl 25 _ (0, 0) _ (HB.out.ext (show Ext (w.alloc (.cells #[.slice AN nN cN, .slice AE nE cE, .slice AD nD cD] 25)) w3 from (by (repeat (first | assumption | exact Ext.refl _ | apply Ext.drew | apply Ext.drewN | apply Ext.alloc | refine Ext.trans ?_ (by assumption))); first | done | fail))).h Tryz.underlying25 rfl szS ?_) | fail)
        refine (Sign_ok (NN.out.ext (by (repeat (first | assumption | exact Ext.refl _ | apply Ext.drew | apply Ext.drewN | apply Ext.alloc | refine Ext.trans ?_ (by assumption))); first | done | fail)) (NE.out.ext (by (repeat (first | assumption | exact Ext.refl _ | apply Ext.drew | apply Ext.drewN | apply Ext.alloc | refine Ext.trans ?_ (by assumption))); first | done | fail)) (ND.out.ext (by (repeat (first | assumption | exact Ext.refl _ | apply Ext.drew | apply Ext.drewN | apply Ext.alloc | refine Ext.trans ?_ (by assumption))); first | done | fail)) (HBb.out.ext (by (repeat (first | assumption | exact Ext.refl _ | apply Ext.drew | apply Ext.drewN | apply Ext.alloc | refine Ext.trans ?_ (by assumption))); first | done | fail)) (HW.out.ext (by (repeat (first | assumption | exact Ext.refl _ | apply Ext.drew | apply Ext.drewN | apply Ext.alloc | refine Ext.trans ?_ (by assumption))); first | done | fail)) (by omega) HP.out HR.out).mono ?_
        rintro e w4 ⟨A9, c9, rfl, s9, _, x⟩
        have x4 := Ext.trans (show Ext w3 _ from (by (repeat (first | assumption | exact Ext.refl _ | apply Ext.drew | apply Ext.drewN | apply Ext.alloc | refine Ext.trans ?_ (by assumption))); first | done | fail)) x
        clear x
        rw [HS.out] at s9 ⊢
        have S9 := Kp.mk s9
        clear s9
        obtain ⟨c0, c1, c2⟩ := box3 HB.out (show Ext (w.alloc (.cells #[.slice AN nN cN, .slice AE nE cE, .slice AD nD cD] 25)) w4 from (by (repeat (first | assumption | exact Ext.refl _ | apply Ext.drew | apply Ext.drewN | apply Ext.alloc | refine Ext.trans ?_ (by assumption))); first | done | fail))
        go_wp2_with fail
        refine (refSize_any (NN.out.ext (by (repeat (first | assumption | exact Ext.refl _ | apply Ext.drew | apply Ext.drewN | apply Ext.alloc | refine Ext.trans ?_ (by assumption))); first | done | fail)) bN.out (by decide)).mono ?_
        rintro e w5 ⟨rfl, x⟩
        have x5 := Ext.trans (show Ext w4 _ from (by (repeat (first | assumption | exact Ext.refl _ | apply Ext.drew | apply Ext.drewN | apply Ext.alloc | refine Ext.trans ?_ (by assumption))); first | done | fail)) x
        clear x
        rw [HS.out]
        obtain ⟨c0, c1, c2⟩ := box3 HB.out (show Ext (w.alloc (.cells #[.slice AN nN cN, .slice AE nE cE, .slice AD nD cD] 25)) w5 from (by (repeat (first | assumption | exact Ext.refl _ | apply Ext.drew | apply Ext.drewN | apply Ext.alloc | refine Ext.trans ?_ (by assumption))); first | done | fail))
        go_wp2_with fail
        refine (Laid_any (HBb.out.ext (by (repeat (first | assumption | exact Ext.refl _ | apply Ext.drew | apply Ext.drewN | apply Ext.alloc | refine Ext.trans ?_ (by assumption))); first | done | fail)) (by omega) hlo hhi).mono ?_
        rintro e w6 ⟨A8, c8, rfl, s8, _, x⟩
        have x6 := Ext.trans (show Ext w5 _ from (by (repeat (first | assumption | exact Ext.refl _ | apply Ext.drew | apply Ext.drewN | apply Ext.alloc | refine Ext.trans ?_ (by assumption))); first | done | fail)) x
        clear x
        have S8 := Kp.mk s8
        clear s8
        obtain ⟨c0, c1, c2⟩ := box3 HB.out (show Ext (w.alloc (.cells #[.slice AN nN cN, .slice AE nE cE, .slice AD nD cD] 25)) w6 from (by (repeat (first | assumption | exact Ext.refl _ | apply Ext.drew | apply Ext.drewN | apply Ext.alloc | refine Ext.trans ?_ (by assumption))); first | done | fail))
        go_wp2_with fail
        refine (Power_some (S9.out.ext (by (repeat (first | assumption | exact Ext.refl _ | apply Ext.drew | apply Ext.drewN | apply Ext.alloc | refine Ext.trans ?_ (by assumption))); first | done | fail)) (NE.out.ext (by (repeat (first | assumption | exact Ext.refl _ | apply Ext.drew | apply Ext.drewN | apply Ext.alloc | refine Ext.trans ?_ (by assumption))); first | done | fail)) (NN.out.ext (by (repeat (first | assumption | exact Ext.refl _ | apply Ext.drew | apply Ext.drewN | apply Ext.alloc | refine Ext.trans ?_ (by assumption))); first | done | fail)) bE.out (by decide) HP.out.1.2.1 HP.out.1.n0 HR2.out).mono ?_
        rintro e w7 ⟨A7, c7, rfl, s7, x⟩
        have x7 := Ext.trans (show Ext w6 _ from (by (repeat (first | assumption | exact Ext.refl _ | apply Ext.drew | apply Ext.drewN | apply Ext.alloc | refine Ext.trans ?_ (by assumption))); first | done | fail)) x
        clear x
        rw [HS.out] at s7 ⊢
        have S7 := Kp.mk s7
        clear s7
        obtain ⟨c0, c1, c2⟩ := box3 HB.out (show Ext (w.alloc (.cells #[.slice AN nN cN, .slice AE nE cE, .slice AD nD cD] 25)) w7 from (by (repeat (first | assumption | exact Ext.refl _ | apply Ext.drew | apply Ext.drewN | apply Ext.alloc | refine Ext.trans ?_ (by assumption))); first | done | fail))
        go_wp2_with (first | ((with_reducible refine at_load_to 73 4 ?_); refine wpList_load_row rfl 25 _ rfl w.heap.size rfl 25 _ (0, 0) _ (HB.out.ext (show Ext (w.alloc (.cells #[.slice AN nN cN, .slice AE nE cE, .slice AD nD cD] 25)) w7 from (by (repeat (first | assumption | exact Ext.refl _ | apply Ext.drew | apply Ext.drewN | apply Ext.alloc | refine Ext.trans ?_ (by assumption))); first | done | fail))).h Tryz.underlying25 rfl szS ?_) | fail)
        refine (public6_any).mono ?_
        rintro e w8 ⟨rfl, x⟩
        have x8 := Ext.trans (show Ext w7 _ from (by (repeat (first | assumption | exact Ext.refl _ | apply Ext.drew | apply Ext.drewN | apply Ext.alloc | refine Ext.trans ?_ (by assumption))); first | done | fail)) x
        clear x
        obtain ⟨c0, c1, c2⟩ := box3 HB.out (show Ext (w.alloc (.cells #[.slice AN nN cN, .slice AE nE cE, .slice AD nD cD] 25)) w8 from (by (repeat (first | assumption | exact Ext.refl _ | apply Ext.drew | apply Ext.drewN | apply Ext.alloc | refine Ext.trans ?_ (by assumption))); first | done | fail))
        go_wp2_with fail
        refine (Verify_all (NN.out.ext (by (repeat (first | assumption | exact Ext.refl _ | apply Ext.drew | apply Ext.drewN | apply Ext.alloc | refine Ext.trans ?_ (by assumption))); first | done | fail)) (NE.out.ext (by (repeat (first | assumption | exact Ext.refl _ | apply Ext.drew | apply Ext.drewN | apply Ext.alloc | refine Ext.trans ?_ (by assumption))); first | done | fail)) (HBb.out.ext (by (repeat (first | assumption | exact Ext.refl _ | apply Ext.drew | apply Ext.drewN | apply Ext.alloc | refine Ext.trans ?_ (by assumption))); first | done | fail)) (S9.out.ext (by (repeat (first | assumption | exact Ext.refl _ | apply Ext.drew | apply Ext.drewN | apply Ext.alloc | refine Ext.trans ?_ (by assumption))); first | done | fail)) (by omega) HP.out.1 (HW.out.ext (by (repeat (first | assumption | exact Ext.refl _ | apply Ext.drew | apply Ext.drewN | apply Ext.alloc | refine Ext.trans ?_ (by assumption))); first | done | fail))).mono ?_
        rintro e w9 ⟨rfl, x⟩
        have x9 := Ext.trans (show Ext w8 _ from (by (repeat (first | assumption | exact Ext.refl _ | apply Ext.drew | apply Ext.drewN | apply Ext.alloc | refine Ext.trans ?_ (by assumption))); first | done | fail)) x
        clear x
        generalize hEv : verE r lq vE vN = Ev at HV ⊢
        clear hEv
        obtain ⟨c0, c1, c2⟩ := box3 HB.out (show Ext (w.alloc (.cells #[.slice AN nN cN, .slice AE nE cE, .slice AD nD cD] 25)) w9 from (by (repeat (first | assumption | exact Ext.refl _ | apply Ext.drew | apply Ext.drewN | apply Ext.alloc | refine Ext.trans ?_ (by assumption))); first | done | fail))
        go_wp2_with (first | ((with_reducible refine at_load_to 78 4 ?_); refine wpList_load_row rfl 25 _ rfl w.heap.size rfl 25 _ (0, 0) _ (HB.out.ext (show Ext (w.alloc (.cells #[.slice AN nN cN, .slice AE nE cE, .slice AD nD cD] 25)) w9 from (by (repeat (first | assumption | exact Ext.refl _ | apply Ext.drew | apply Ext.drewN | apply Ext.alloc | refine Ext.trans ?_ (by assumption))); first | done | fail))).h Tryz.underlying25 rfl szS ?_) | fail)
        refine (public6_any).mono ?_
        rintro e w10 ⟨rfl, x⟩
        have x10 := Ext.trans (show Ext w9 _ from (by (repeat (first | assumption | exact Ext.refl _ | apply Ext.drew | apply Ext.drewN | apply Ext.alloc | refine Ext.trans ?_ (by assumption))); first | done | fail)) x
        clear x
        have hO := Own.new w10 w10.heap.size 1 [0] rfl (Nat.le_refl _) (by decide)
        have hxO : Ext w10 (w10.alloc (.cells (bv [0]) 5)) := (by (repeat (first | assumption | exact Ext.refl _ | apply Ext.drew | apply Ext.drewN | apply Ext.alloc | refine Ext.trans ?_ (by assumption))); first | done | fail)
        have s9b := (S9.out.ext (show Ext _ w10 from (by (repeat (first | assumption | exact Ext.refl _ | apply Ext.drew | apply Ext.drewN | apply Ext.alloc | refine Ext.trans ?_ (by assumption))); first | done | fail))).ext hxO
        go_wp2_with (first | (at_builtin; refine wpList_append_bs rfl (.tmp 81) (.tmp 82) rfl w10.heap.size _ 1 [0] rfl hO A9 N c9 r rfl s9b (by omega) (1 + N) rfl _ rfl w10 hxO (Nat.le_refl _) hxO.size ?_; intro A6 c6 wp ho6 xp _) | fail)
        have S6 := Kp.mk ho6.bs
        clear ho6 hO s9b hxO
        refine (Verify_wrong (NN.out.ext (by (repeat (first | assumption | exact Ext.refl _ | apply Ext.drew | apply Ext.drewN | apply Ext.alloc | refine Ext.trans ?_ (by assumption))); first | done | fail)) (NE.out.ext (by (repeat (first | assumption | exact Ext.refl _ | apply Ext.drew | apply Ext.drewN | apply Ext.alloc | refine Ext.trans ?_ (by assumption))); first | done | fail)) (HBb.out.ext (by (repeat (first | assumption | exact Ext.refl _ | apply Ext.drew | apply Ext.drewN | apply Ext.alloc | refine Ext.trans ?_ (by assumption))); first | done | fail)) S6.out (by omega) HP.out.1 (rs_len (by have := rs_out HR.out; rw [HS.out] at this; simp [this, HS.out]))).mono ?_
        rintro e w11 ⟨rfl, x⟩
        have x11 := Ext.trans (show Ext wp _ from (by (repeat (first | assumption | exact Ext.refl _ | apply Ext.drew | apply Ext.drewN | apply Ext.alloc | refine Ext.trans ?_ (by assumption))); first | done | fail)) x
        clear x
        have QN := Kp.mk (NN.out.ext (show Ext _ w11 from (by (repeat (first | assumption | exact Ext.refl _ | apply Ext.drew | apply Ext.drewN | apply Ext.alloc | refine Ext.trans ?_ (by assumption))); first | done | fail)))
        have QE := Kp.mk (NE.out.ext (show Ext _ w11 from (by (repeat (first | assumption | exact Ext.refl _ | apply Ext.drew | apply Ext.drewN | apply Ext.alloc | refine Ext.trans ?_ (by assumption))); first | done | fail)))
        have QD := Kp.mk (ND.out.ext (show Ext _ w11 from (by (repeat (first | assumption | exact Ext.refl _ | apply Ext.drew | apply Ext.drewN | apply Ext.alloc | refine Ext.trans ?_ (by assumption))); first | done | fail)))
        have Q9 := Kp.mk (S9.out.ext (show Ext _ w11 from (by (repeat (first | assumption | exact Ext.refl _ | apply Ext.drew | apply Ext.drewN | apply Ext.alloc | refine Ext.trans ?_ (by assumption))); first | done | fail)))
        have QT := Kp.mk (HT.out.ext (show Ext _ w11 from (by (repeat (first | assumption | exact Ext.refl _ | apply Ext.drew | apply Ext.drewN | apply Ext.alloc | refine Ext.trans ?_ (by assumption))); first | done | fail)))
        have QF := Kp.mk (HF.out.ext (show Ext _ w11 from (by (repeat (first | assumption | exact Ext.refl _ | apply Ext.drew | apply Ext.drewN | apply Ext.alloc | refine Ext.trans ?_ (by assumption))); first | done | fail)))
        have HBv := Kp.mk (HB.out.ext (show Ext (w.alloc (.cells #[.slice AN nN cN, .slice AE nE cE, .slice AD nD cD] 25)) w11 from (by (repeat (first | assumption | exact Ext.refl _ | apply Ext.drew | apply Ext.drewN | apply Ext.alloc | refine Ext.trans ?_ (by assumption))); first | done | fail)))
        have h7 := fun (w' : World) (hx : Ext w11 w') => (S7.out.ext (show Ext _ w11 from (by (repeat (first | assumption | exact Ext.refl _ | apply Ext.drew | apply Ext.drewN | apply Ext.alloc | refine Ext.trans ?_ (by assumption))); first | done | fail))).str hx
        have h8 := fun (w' : World) (hx : Ext w11 w') => (S8.out.ext (show Ext _ w11 from (by (repeat (first | assumption | exact Ext.refl _ | apply Ext.drew | apply Ext.drewN | apply Ext.alloc | refine Ext.trans ?_ (by assumption))); first | done | fail))).str hx
        obtain ⟨hvv, hgv⟩ := HV.out
        have hvb := HVB.out
        have HX := Kp.mk (show Ext w w11 from (by (repeat (first | assumption | exact Ext.refl _ | apply Ext.drew | apply Ext.drewN | apply Ext.alloc | refine Ext.trans ?_ (by assumption))); first | done | fail))
        clear x1 x2 x4 x5 x6 x7 x8 x9 x10 xp x11
        clear c0 c1 c2
        go_wp2_with fail
        refine wp_region_held_drew (S := fun w' => Ext w11 w') (by kernel_rfl) (Ext.refl w11).drew (fun hHeld => ?_)
        refine wpAnyH_take (i := 0) (oi := ⟨some 85, _, _, _, _, _⟩) (v := ?_) rfl (by kernel_rfl) (by kernel_rfl) (by kernel_rfl) (fun _ _ _ h => h) (Or.inl ⟨by rfl, ?_⟩) (by assumption) ?_
        rotate_left
        · (intro w hSw; (try dsimp only at hSw); go_simp; try with_reducible rfl)
        try simp only [Act.put, List.setIfInBounds_toArray, List.set_cons_zero, List.set_cons_succ]
        refine wpAnyH_take (i := 1) (oi := ⟨some 86, _, _, _, _, _⟩) (v := ?_) rfl (by kernel_rfl) (by kernel_rfl) (by kernel_rfl) (fun _ _ _ h => h) (Or.inl ⟨by rfl, ?_⟩) (by assumption) ?_
        rotate_left
        · (intro w hSw; (try dsimp only at hSw); go_simp; try with_reducible rfl)
        try simp only [Act.put, List.setIfInBounds_toArray, List.set_cons_zero, List.set_cons_succ]
        refine wpAnyH_take (i := 2) (oi := ⟨some 87, _, _, _, _, _⟩) (v := ?_) rfl (by kernel_rfl) (by kernel_rfl) (by kernel_rfl) (fun _ _ _ h => h) (Or.inl ⟨by rfl, ?_⟩) (by assumption) ?_
        rotate_left
        · (intro w hSw; (try dsimp only at hSw); go_simp; try with_reducible rfl)
        try simp only [Act.put, List.setIfInBounds_toArray, List.set_cons_zero, List.set_cons_succ]
        refine wpAnyH_take (i := 3) (oi := ⟨some 88, _, _, _, _, _⟩) (v := ?_) rfl (by kernel_rfl) (by kernel_rfl) (by kernel_rfl) (fun _ _ _ h => h) (Or.inl ⟨by rfl, ?_⟩) (by assumption) ?_
        rotate_left
        · (intro w hSw; (try dsimp only at hSw); go_simp; try with_reducible rfl)
        try simp only [Act.put, List.setIfInBounds_toArray, List.set_cons_zero, List.set_cons_succ]
        refine wpAnyH_take (i := 4) (oi := ⟨some 89, _, _, _, _, _⟩) (v := ?_) rfl (by kernel_rfl) (by kernel_rfl) (by kernel_rfl) (fun _ _ _ h => h) (Or.inl ⟨by rfl, ?_⟩) (by assumption) ?_
        rotate_left
        · (intro w hSw; (try dsimp only at hSw); go_simp; try with_reducible rfl)
        try simp only [Act.put, List.setIfInBounds_toArray, List.set_cons_zero, List.set_cons_succ]
        refine wpAnyH_take (i := 5) (oi := ⟨some 90, _, _, _, _, _⟩) (v := ?_) rfl (by kernel_rfl) (by kernel_rfl) (by kernel_rfl) (fun _ _ _ h => h) (Or.inl ⟨by rfl, ?_⟩) (by assumption) ?_
        rotate_left
        · (intro w hSw; (try dsimp only at hSw); go_simp; try with_reducible rfl)
        try simp only [Act.put, List.setIfInBounds_toArray, List.set_cons_zero, List.set_cons_succ]
        refine wpAnyH_take (i := 6) (oi := ⟨some 91, _, _, _, _, _⟩) (v := ?_) rfl (by kernel_rfl) (by kernel_rfl) (by kernel_rfl) (fun _ _ _ h => h) (Or.inl ⟨by rfl, ?_⟩) (by assumption) ?_
        rotate_left
        · (intro w hSw; (try dsimp only at hSw); go_simp; try with_reducible rfl)
        try simp only [Act.put, List.setIfInBounds_toArray, List.set_cons_zero, List.set_cons_succ]
        refine wpAnyH_take (i := 7) (oi := ⟨some 92, _, _, _, _, _⟩) (v := ?_) rfl (by kernel_rfl) (by kernel_rfl) (by kernel_rfl) (fun _ _ _ h => h) (Or.inl ⟨by rfl, ?_⟩) (by assumption) ?_
        rotate_left
        · (intro w hSw; (try dsimp only at hSw); go_simp; try with_reducible rfl)
        try simp only [Act.put, List.setIfInBounds_toArray, List.set_cons_zero, List.set_cons_succ]
        refine wpAnyH_take (i := 8) (oi := ⟨some 93, _, _, _, _, _⟩) (v := ?_) rfl (by kernel_rfl) (by kernel_rfl) (by kernel_rfl) (fun _ _ _ h => h) (Or.inl ⟨by rfl, ?_⟩) (by assumption) ?_
        rotate_left
        · (intro w hSw; (try dsimp only at hSw); go_simp; try with_reducible rfl)
        try simp only [Act.put, List.setIfInBounds_toArray, List.set_cons_zero, List.set_cons_succ]
        refine wpAnyH_take (i := 9) (oi := ⟨some 94, _, _, _, _, _⟩) (v := ?_) rfl (by kernel_rfl) (by kernel_rfl) (by kernel_rfl) (fun _ _ _ h => h) (Or.inl ⟨by rfl, ?_⟩) (by assumption) ?_
        rotate_left
        · (intro w hSw; (try dsimp only at hSw); go_simp; try with_reducible rfl)
        try simp only [Act.put, List.setIfInBounds_toArray, List.set_cons_zero, List.set_cons_succ]
        refine wpAnyH_take (i := 10) (oi := ⟨some 95, _, _, _, _, _⟩) (v := ?_) rfl (by kernel_rfl) (by kernel_rfl) (by kernel_rfl) (fun _ _ _ h => h) (Or.inl ⟨by rfl, ?_⟩) (by assumption) ?_
        rotate_left
        · (intro w hSw; (try dsimp only at hSw); go_simp; try with_reducible rfl)
        try simp only [Act.put, List.setIfInBounds_toArray, List.set_cons_zero, List.set_cons_succ]
        refine wpAnyH_take (i := 11) (oi := ⟨some 96, _, _, _, _, _⟩) (v := ?_) rfl (by kernel_rfl) (by kernel_rfl) (by kernel_rfl) (fun _ _ _ h => h) (Or.inl ⟨by rfl, ?_⟩) (by assumption) ?_
        rotate_left
        · (intro w hSw; (try dsimp only at hSw); go_simp; try with_reducible rfl)
        try simp only [Act.put, List.setIfInBounds_toArray, List.set_cons_zero, List.set_cons_succ]
        refine wpAnyH_take (i := 12) (oi := ⟨some 97, _, _, _, _, _⟩) (v := ?_) rfl (by kernel_rfl) (by kernel_rfl) (by kernel_rfl) (fun _ _ _ h => h) (Or.inl ⟨by rfl, ?_⟩) (by assumption) ?_
        rotate_left
        · (intro w hSw; (try dsimp only at hSw); go_simp; try with_reducible rfl)
        try simp only [Act.put, List.setIfInBounds_toArray, List.set_cons_zero, List.set_cons_succ]
        refine wpAnyH_take (i := 13) (oi := ⟨some 98, _, _, _, _, _⟩) (v := ?_) rfl (by kernel_rfl) (by kernel_rfl) (by kernel_rfl) (fun _ _ _ h => h) (Or.inl ⟨by rfl, ?_⟩) (by assumption) ?_
        rotate_left
        · (intro w hSw; (try dsimp only at hSw); go_simp; try with_reducible rfl)
        try simp only [Act.put, List.setIfInBounds_toArray, List.set_cons_zero, List.set_cons_succ]
        refine wpAnyH_take (i := 14) (oi := ⟨some 99, _, _, _, _, _⟩) (v := ?_) rfl (by kernel_rfl) (by kernel_rfl) (by kernel_rfl) (fun _ _ _ h => h) (Or.inl ⟨by rfl, ?_⟩) (by assumption) ?_
        rotate_left
        · (intro w hSw; (try dsimp only at hSw); go_simp; try with_reducible rfl)
        try simp only [Act.put, List.setIfInBounds_toArray, List.set_cons_zero, List.set_cons_succ]
        refine wpAnyH_take (i := 15) (oi := ⟨some 100, _, _, _, _, _⟩) (v := ?_) rfl (by kernel_rfl) (by kernel_rfl) (by kernel_rfl) (fun _ _ _ h => h) (Or.inl ⟨by rfl, ?_⟩) (by assumption) ?_
        rotate_left
        · (intro w hSw; (try dsimp only at hSw); go_simp; try with_reducible rfl)
        try simp only [Act.put, List.setIfInBounds_toArray, List.set_cons_zero, List.set_cons_succ]
        refine wpAnyH_take (i := 16) (oi := ⟨some 101, _, _, _, _, _⟩) (v := ?_) rfl (by kernel_rfl) (by kernel_rfl) (by kernel_rfl) (fun _ _ _ h => h) (Or.inl ⟨by rfl, ?_⟩) (by assumption) ?_
        rotate_left
        · (intro w hSw; (try dsimp only at hSw); go_simp; try with_reducible rfl)
        try simp only [Act.put, List.setIfInBounds_toArray, List.set_cons_zero, List.set_cons_succ]
        refine wpAnyH_done (by kernel_rfl) ?_ _
        clear h7 h8 hvv hgv hvb
        have xd := (show Ext w11 w11.drew from (Ext.refl _).drew)
        generalize w11.drew = wd at *
        obtain ⟨c0, c1, c2⟩ := box3 HBv.out (show Ext w11 wd from (by (repeat (first | assumption | exact Ext.refl _ | apply Ext.drew | apply Ext.drewN | apply Ext.alloc | refine Ext.trans ?_ (by assumption))); first | done | fail))
        go_wp2_with (first | ((with_reducible refine at_load_to 103 4 ?_); refine wpList_load_row rfl 25 _ rfl w.heap.size rfl 25 _ (0, 0) _ (HBv.out.ext (show Ext w11 wd from (by (repeat (first | assumption | exact Ext.refl _ | apply Ext.drew | apply Ext.drewN | apply Ext.alloc | refine Ext.trans ?_ (by assumption))); first | done | fail))).h Tryz.underlying25 rfl szS ?_) | fail)
        refine (public6_any).mono ?_
        rintro e w12 ⟨rfl, x⟩
        have x12 := Ext.trans (show Ext wd _ from (by (repeat (first | assumption | exact Ext.refl _ | apply Ext.drew | apply Ext.drewN | apply Ext.alloc | refine Ext.trans ?_ (by assumption))); first | done | fail)) x
        clear x
        obtain ⟨c0, c1, c2⟩ := box3 HBv.out (show Ext w11 w12 from (by (repeat (first | assumption | exact Ext.refl _ | apply Ext.drew | apply Ext.drewN | apply Ext.alloc | refine Ext.trans ?_ (by assumption))); first | done | fail))
        go_wp2_with fail
        refine (Hide_long (QN.out.ext (by (repeat (first | assumption | exact Ext.refl _ | apply Ext.drew | apply Ext.drewN | apply Ext.alloc | refine Ext.trans ?_ (by assumption))); first | done | fail)) (QE.out.ext (by (repeat (first | assumption | exact Ext.refl _ | apply Ext.drew | apply Ext.drewN | apply Ext.alloc | refine Ext.trans ?_ (by assumption))); first | done | fail)) (QT.out.ext (by (repeat (first | assumption | exact Ext.refl _ | apply Ext.drew | apply Ext.drewN | apply Ext.alloc | refine Ext.trans ?_ (by assumption))); first | done | fail)) (QF.out.ext (by (repeat (first | assumption | exact Ext.refl _ | apply Ext.drew | apply Ext.drewN | apply Ext.alloc | refine Ext.trans ?_ (by assumption))); first | done | fail)) (by omega) (by omega) HP.out.1 (by rw [HS.out]; exact H1.out)).mono ?_
        rintro e w13 ⟨rfl, x⟩
        have x13 := Ext.trans (show Ext w12 _ from (by (repeat (first | assumption | exact Ext.refl _ | apply Ext.drew | apply Ext.drewN | apply Ext.alloc | refine Ext.trans ?_ (by assumption))); first | done | fail)) x
        clear x
        have HXX := Kp.mk (show Ext w11 w13 from (by (repeat (first | assumption | exact Ext.refl _ | apply Ext.drew | apply Ext.drewN | apply Ext.alloc | refine Ext.trans ?_ (by assumption))); first | done | fail))
        clear xd x12 x13
        go_wp2_with fail
        go_ret
        exact ⟨rfl, (HX.out.trans HXX.out).b⟩
      · by_cases hbad : nf ≠ N - 3 - nt ∨ fz lf < lf.length
        · have HP := Kp.mk hp
          have HR := Kp.mk hr
          have HR2 := Kp.mk hr2
          have HV := Kp.mk hv
          have HVB := Kp.mk hvb
          have HS := Kp.mk hN1
          have hlo := hp.1.1
          have hhi := hp.1.2.1
          rw [hN1] at hlo hhi
          have H1 := Kp.mk (Nat.le_of_not_lt g5)
          have H2 := Kp.mk hbad
          clear hp hr hr2 hv hvb hN1 g5 hbad hlen
          go_enter Tryz.func5, Tryz.ntmps5
          go_wp2_with fail
          refine (HU.out _).mono ?_
          rintro e w1 ⟨rfl, x⟩
          have x1 := x
          clear x
          obtain ⟨c0, c1, c2⟩ := box3 HB.out (show Ext (w.alloc (.cells #[.slice AN nN cN, .slice AE nE cE, .slice AD nD cD] 25)) w1 from (by (repeat (first | assumption | exact Ext.refl _ | apply Ext.drew | apply Ext.drewN | apply Ext.alloc | refine Ext.trans ?_ (by assumption))); first | done | fail))
          go_wp2_with (first | ((with_reducible refine at_load_to 27 4 ?_); refine wpList_load_row rfl 25 _ rfl w.heap.size rfl 25 _ (0, 0) _ (HB.out.ext (show Ext (w.alloc (.cells #[.slice AN nN cN, .slice AE nE cE, .slice AD nD cD] 25)) w1 from (by (repeat (first | assumption | exact Ext.refl _ | apply Ext.drew | apply Ext.drewN | apply Ext.alloc | refine Ext.trans ?_ (by assumption))); first | done | fail))).h Tryz.underlying25 rfl szS ?_) | fail)
          refine (light6_any true ⟨fun _ => HL.out, fun _ => rfl⟩).mono ?_
          rintro e w2 ⟨rfl, x⟩
          have x2 := Ext.trans (show Ext w1 _ from (by (repeat (first | assumption | exact Ext.refl _ | apply Ext.drew | apply Ext.drewN | apply Ext.alloc | refine Ext.trans ?_ (by assumption))); first | done | fail)) x
          clear x
          obtain ⟨c0, c1, c2⟩ := box3 HB.out (show Ext (w.alloc (.cells #[.slice AN nN cN, .slice AE nE cE, .slice AD nD cD] 25)) w2 from (by (repeat (first | assumption | exact Ext.refl _ | apply Ext.drew | apply Ext.drewN | apply Ext.alloc | refine Ext.trans ?_ (by assumption))); first | done | fail))
          go_wp2_with fail
          refine (cut6_any (HBo.out.ext (show Ext w w2 from (by (repeat (first | assumption | exact Ext.refl _ | apply Ext.drew | apply Ext.drewN | apply Ext.alloc | refine Ext.trans ?_ (by assumption))); first | done | fail))) 300 rfl).mono ?_
          rintro e w3 ⟨rfl, _, hw⟩
          subst hw
          generalize min nb_ 300 = nq at *
          obtain ⟨c0, c1, c2⟩ := box3 HB.out (show Ext (w.alloc (.cells #[.slice AN nN cN, .slice AE nE cE, .slice AD nD cD] 25)) w3 from (by (repeat (first | assumption | exact Ext.refl _ | apply Ext.drew | apply Ext.drewN | apply Ext.alloc | refine Ext.trans ?_ (by assumption))); first | done | fail))
          go_wp2_with (first | ((with_reducible refine at_load_to 51 4 ?_); refine wpList_load_row rfl 25 _ rfl w.heap.size rfl 25 _ (0, 0) _ (HB.out.ext (show Ext (w.alloc (.cells #[.slice AN nN cN, .slice AE nE cE, .slice AD nD cD] 25)) w3 from (by (repeat (first | assumption | exact Ext.refl _ | apply Ext.drew | apply Ext.drewN | apply Ext.alloc | refine Ext.trans ?_ (by assumption))); first | done | fail))).h Tryz.underlying25 rfl szS ?_) | fail)
          refine (Sign_ok (NN.out.ext (by (repeat (first | assumption | exact Ext.refl _ | apply Ext.drew | apply Ext.drewN | apply Ext.alloc | refine Ext.trans ?_ (by assumption))); first | done | fail)) (NE.out.ext (by (repeat (first | assumption | exact Ext.refl _ | apply Ext.drew | apply Ext.drewN | apply Ext.alloc | refine Ext.trans ?_ (by assumption))); first | done | fail)) (ND.out.ext (by (repeat (first | assumption | exact Ext.refl _ | apply Ext.drew | apply Ext.drewN | apply Ext.alloc | refine Ext.trans ?_ (by assumption))); first | done | fail)) (HBb.out.ext (by (repeat (first | assumption | exact Ext.refl _ | apply Ext.drew | apply Ext.drewN | apply Ext.alloc | refine Ext.trans ?_ (by assumption))); first | done | fail)) (HW.out.ext (by (repeat (first | assumption | exact Ext.refl _ | apply Ext.drew | apply Ext.drewN | apply Ext.alloc | refine Ext.trans ?_ (by assumption))); first | done | fail)) (by omega) HP.out HR.out).mono ?_
          rintro e w4 ⟨A9, c9, rfl, s9, _, x⟩
          have x4 := Ext.trans (show Ext w3 _ from (by (repeat (first | assumption | exact Ext.refl _ | apply Ext.drew | apply Ext.drewN | apply Ext.alloc | refine Ext.trans ?_ (by assumption))); first | done | fail)) x
          clear x
          rw [HS.out] at s9 ⊢
          have S9 := Kp.mk s9
          clear s9
          obtain ⟨c0, c1, c2⟩ := box3 HB.out (show Ext (w.alloc (.cells #[.slice AN nN cN, .slice AE nE cE, .slice AD nD cD] 25)) w4 from (by (repeat (first | assumption | exact Ext.refl _ | apply Ext.drew | apply Ext.drewN | apply Ext.alloc | refine Ext.trans ?_ (by assumption))); first | done | fail))
          go_wp2_with fail
          refine (refSize_any (NN.out.ext (by (repeat (first | assumption | exact Ext.refl _ | apply Ext.drew | apply Ext.drewN | apply Ext.alloc | refine Ext.trans ?_ (by assumption))); first | done | fail)) bN.out (by decide)).mono ?_
          rintro e w5 ⟨rfl, x⟩
          have x5 := Ext.trans (show Ext w4 _ from (by (repeat (first | assumption | exact Ext.refl _ | apply Ext.drew | apply Ext.drewN | apply Ext.alloc | refine Ext.trans ?_ (by assumption))); first | done | fail)) x
          clear x
          rw [HS.out]
          obtain ⟨c0, c1, c2⟩ := box3 HB.out (show Ext (w.alloc (.cells #[.slice AN nN cN, .slice AE nE cE, .slice AD nD cD] 25)) w5 from (by (repeat (first | assumption | exact Ext.refl _ | apply Ext.drew | apply Ext.drewN | apply Ext.alloc | refine Ext.trans ?_ (by assumption))); first | done | fail))
          go_wp2_with fail
          refine (Laid_any (HBb.out.ext (by (repeat (first | assumption | exact Ext.refl _ | apply Ext.drew | apply Ext.drewN | apply Ext.alloc | refine Ext.trans ?_ (by assumption))); first | done | fail)) (by omega) hlo hhi).mono ?_
          rintro e w6 ⟨A8, c8, rfl, s8, _, x⟩
          have x6 := Ext.trans (show Ext w5 _ from (by (repeat (first | assumption | exact Ext.refl _ | apply Ext.drew | apply Ext.drewN | apply Ext.alloc | refine Ext.trans ?_ (by assumption))); first | done | fail)) x
          clear x
          have S8 := Kp.mk s8
          clear s8
          obtain ⟨c0, c1, c2⟩ := box3 HB.out (show Ext (w.alloc (.cells #[.slice AN nN cN, .slice AE nE cE, .slice AD nD cD] 25)) w6 from (by (repeat (first | assumption | exact Ext.refl _ | apply Ext.drew | apply Ext.drewN | apply Ext.alloc | refine Ext.trans ?_ (by assumption))); first | done | fail))
          go_wp2_with fail
          refine (Power_some (S9.out.ext (by (repeat (first | assumption | exact Ext.refl _ | apply Ext.drew | apply Ext.drewN | apply Ext.alloc | refine Ext.trans ?_ (by assumption))); first | done | fail)) (NE.out.ext (by (repeat (first | assumption | exact Ext.refl _ | apply Ext.drew | apply Ext.drewN | apply Ext.alloc | refine Ext.trans ?_ (by assumption))); first | done | fail)) (NN.out.ext (by (repeat (first | assumption | exact Ext.refl _ | apply Ext.drew | apply Ext.drewN | apply Ext.alloc | refine Ext.trans ?_ (by assumption))); first | done | fail)) bE.out (by decide) HP.out.1.2.1 HP.out.1.n0 HR2.out).mono ?_
          rintro e w7 ⟨A7, c7, rfl, s7, x⟩
          have x7 := Ext.trans (show Ext w6 _ from (by (repeat (first | assumption | exact Ext.refl _ | apply Ext.drew | apply Ext.drewN | apply Ext.alloc | refine Ext.trans ?_ (by assumption))); first | done | fail)) x
          clear x
          rw [HS.out] at s7 ⊢
          have S7 := Kp.mk s7
          clear s7
          obtain ⟨c0, c1, c2⟩ := box3 HB.out (show Ext (w.alloc (.cells #[.slice AN nN cN, .slice AE nE cE, .slice AD nD cD] 25)) w7 from (by (repeat (first | assumption | exact Ext.refl _ | apply Ext.drew | apply Ext.drewN | apply Ext.alloc | refine Ext.trans ?_ (by assumption))); first | done | fail))
          go_wp2_with (first | ((with_reducible refine at_load_to 73 4 ?_); refine wpList_load_row rfl 25 _ rfl w.heap.size rfl 25 _ (0, 0) _ (HB.out.ext (show Ext (w.alloc (.cells #[.slice AN nN cN, .slice AE nE cE, .slice AD nD cD] 25)) w7 from (by (repeat (first | assumption | exact Ext.refl _ | apply Ext.drew | apply Ext.drewN | apply Ext.alloc | refine Ext.trans ?_ (by assumption))); first | done | fail))).h Tryz.underlying25 rfl szS ?_) | fail)
          refine (public6_any).mono ?_
          rintro e w8 ⟨rfl, x⟩
          have x8 := Ext.trans (show Ext w7 _ from (by (repeat (first | assumption | exact Ext.refl _ | apply Ext.drew | apply Ext.drewN | apply Ext.alloc | refine Ext.trans ?_ (by assumption))); first | done | fail)) x
          clear x
          obtain ⟨c0, c1, c2⟩ := box3 HB.out (show Ext (w.alloc (.cells #[.slice AN nN cN, .slice AE nE cE, .slice AD nD cD] 25)) w8 from (by (repeat (first | assumption | exact Ext.refl _ | apply Ext.drew | apply Ext.drewN | apply Ext.alloc | refine Ext.trans ?_ (by assumption))); first | done | fail))
          go_wp2_with fail
          refine (Verify_all (NN.out.ext (by (repeat (first | assumption | exact Ext.refl _ | apply Ext.drew | apply Ext.drewN | apply Ext.alloc | refine Ext.trans ?_ (by assumption))); first | done | fail)) (NE.out.ext (by (repeat (first | assumption | exact Ext.refl _ | apply Ext.drew | apply Ext.drewN | apply Ext.alloc | refine Ext.trans ?_ (by assumption))); first | done | fail)) (HBb.out.ext (by (repeat (first | assumption | exact Ext.refl _ | apply Ext.drew | apply Ext.drewN | apply Ext.alloc | refine Ext.trans ?_ (by assumption))); first | done | fail)) (S9.out.ext (by (repeat (first | assumption | exact Ext.refl _ | apply Ext.drew | apply Ext.drewN | apply Ext.alloc | refine Ext.trans ?_ (by assumption))); first | done | fail)) (by omega) HP.out.1 (HW.out.ext (by (repeat (first | assumption | exact Ext.refl _ | apply Ext.drew | apply Ext.drewN | apply Ext.alloc | refine Ext.trans ?_ (by assumption))); first | done | fail))).mono ?_
          rintro e w9 ⟨rfl, x⟩
          have x9 := Ext.trans (show Ext w8 _ from (by (repeat (first | assumption | exact Ext.refl _ | apply Ext.drew | apply Ext.drewN | apply Ext.alloc | refine Ext.trans ?_ (by assumption))); first | done | fail)) x
          clear x
          generalize hEv : verE r lq vE vN = Ev at HV ⊢
          clear hEv
          obtain ⟨c0, c1, c2⟩ := box3 HB.out (show Ext (w.alloc (.cells #[.slice AN nN cN, .slice AE nE cE, .slice AD nD cD] 25)) w9 from (by (repeat (first | assumption | exact Ext.refl _ | apply Ext.drew | apply Ext.drewN | apply Ext.alloc | refine Ext.trans ?_ (by assumption))); first | done | fail))
          go_wp2_with (first | ((with_reducible refine at_load_to 78 4 ?_); refine wpList_load_row rfl 25 _ rfl w.heap.size rfl 25 _ (0, 0) _ (HB.out.ext (show Ext (w.alloc (.cells #[.slice AN nN cN, .slice AE nE cE, .slice AD nD cD] 25)) w9 from (by (repeat (first | assumption | exact Ext.refl _ | apply Ext.drew | apply Ext.drewN | apply Ext.alloc | refine Ext.trans ?_ (by assumption))); first | done | fail))).h Tryz.underlying25 rfl szS ?_) | fail)
          refine (public6_any).mono ?_
          rintro e w10 ⟨rfl, x⟩
          have x10 := Ext.trans (show Ext w9 _ from (by (repeat (first | assumption | exact Ext.refl _ | apply Ext.drew | apply Ext.drewN | apply Ext.alloc | refine Ext.trans ?_ (by assumption))); first | done | fail)) x
          clear x
          have hO := Own.new w10 w10.heap.size 1 [0] rfl (Nat.le_refl _) (by decide)
          have hxO : Ext w10 (w10.alloc (.cells (bv [0]) 5)) := (by (repeat (first | assumption | exact Ext.refl _ | apply Ext.drew | apply Ext.drewN | apply Ext.alloc | refine Ext.trans ?_ (by assumption))); first | done | fail)
          have s9b := (S9.out.ext (show Ext _ w10 from (by (repeat (first | assumption | exact Ext.refl _ | apply Ext.drew | apply Ext.drewN | apply Ext.alloc | refine Ext.trans ?_ (by assumption))); first | done | fail))).ext hxO
          go_wp2_with (first | (at_builtin; refine wpList_append_bs rfl (.tmp 81) (.tmp 82) rfl w10.heap.size _ 1 [0] rfl hO A9 N c9 r rfl s9b (by omega) (1 + N) rfl _ rfl w10 hxO (Nat.le_refl _) hxO.size ?_; intro A6 c6 wp ho6 xp _) | fail)
          have S6 := Kp.mk ho6.bs
          clear ho6 hO s9b hxO
          refine (Verify_wrong (NN.out.ext (by (repeat (first | assumption | exact Ext.refl _ | apply Ext.drew | apply Ext.drewN | apply Ext.alloc | refine Ext.trans ?_ (by assumption))); first | done | fail)) (NE.out.ext (by (repeat (first | assumption | exact Ext.refl _ | apply Ext.drew | apply Ext.drewN | apply Ext.alloc | refine Ext.trans ?_ (by assumption))); first | done | fail)) (HBb.out.ext (by (repeat (first | assumption | exact Ext.refl _ | apply Ext.drew | apply Ext.drewN | apply Ext.alloc | refine Ext.trans ?_ (by assumption))); first | done | fail)) S6.out (by omega) HP.out.1 (rs_len (by have := rs_out HR.out; rw [HS.out] at this; simp [this, HS.out]))).mono ?_
          rintro e w11 ⟨rfl, x⟩
          have x11 := Ext.trans (show Ext wp _ from (by (repeat (first | assumption | exact Ext.refl _ | apply Ext.drew | apply Ext.drewN | apply Ext.alloc | refine Ext.trans ?_ (by assumption))); first | done | fail)) x
          clear x
          have QN := Kp.mk (NN.out.ext (show Ext _ w11 from (by (repeat (first | assumption | exact Ext.refl _ | apply Ext.drew | apply Ext.drewN | apply Ext.alloc | refine Ext.trans ?_ (by assumption))); first | done | fail)))
          have QE := Kp.mk (NE.out.ext (show Ext _ w11 from (by (repeat (first | assumption | exact Ext.refl _ | apply Ext.drew | apply Ext.drewN | apply Ext.alloc | refine Ext.trans ?_ (by assumption))); first | done | fail)))
          have QD := Kp.mk (ND.out.ext (show Ext _ w11 from (by (repeat (first | assumption | exact Ext.refl _ | apply Ext.drew | apply Ext.drewN | apply Ext.alloc | refine Ext.trans ?_ (by assumption))); first | done | fail)))
          have Q9 := Kp.mk (S9.out.ext (show Ext _ w11 from (by (repeat (first | assumption | exact Ext.refl _ | apply Ext.drew | apply Ext.drewN | apply Ext.alloc | refine Ext.trans ?_ (by assumption))); first | done | fail)))
          have QT := Kp.mk (HT.out.ext (show Ext _ w11 from (by (repeat (first | assumption | exact Ext.refl _ | apply Ext.drew | apply Ext.drewN | apply Ext.alloc | refine Ext.trans ?_ (by assumption))); first | done | fail)))
          have QF := Kp.mk (HF.out.ext (show Ext _ w11 from (by (repeat (first | assumption | exact Ext.refl _ | apply Ext.drew | apply Ext.drewN | apply Ext.alloc | refine Ext.trans ?_ (by assumption))); first | done | fail)))
          have HBv := Kp.mk (HB.out.ext (show Ext (w.alloc (.cells #[.slice AN nN cN, .slice AE nE cE, .slice AD nD cD] 25)) w11 from (by (repeat (first | assumption | exact Ext.refl _ | apply Ext.drew | apply Ext.drewN | apply Ext.alloc | refine Ext.trans ?_ (by assumption))); first | done | fail)))
          have h7 := fun (w' : World) (hx : Ext w11 w') => (S7.out.ext (show Ext _ w11 from (by (repeat (first | assumption | exact Ext.refl _ | apply Ext.drew | apply Ext.drewN | apply Ext.alloc | refine Ext.trans ?_ (by assumption))); first | done | fail))).str hx
          have h8 := fun (w' : World) (hx : Ext w11 w') => (S8.out.ext (show Ext _ w11 from (by (repeat (first | assumption | exact Ext.refl _ | apply Ext.drew | apply Ext.drewN | apply Ext.alloc | refine Ext.trans ?_ (by assumption))); first | done | fail))).str hx
          obtain ⟨hvv, hgv⟩ := HV.out
          have hvb := HVB.out
          have HX := Kp.mk (show Ext w w11 from (by (repeat (first | assumption | exact Ext.refl _ | apply Ext.drew | apply Ext.drewN | apply Ext.alloc | refine Ext.trans ?_ (by assumption))); first | done | fail))
          clear x1 x2 x4 x5 x6 x7 x8 x9 x10 xp x11
          clear c0 c1 c2
          go_wp2_with fail
          refine wp_region_held_drew (S := fun w' => Ext w11 w') (by kernel_rfl) (Ext.refl w11).drew (fun hHeld => ?_)
          refine wpAnyH_take (i := 0) (oi := ⟨some 85, _, _, _, _, _⟩) (v := ?_) rfl (by kernel_rfl) (by kernel_rfl) (by kernel_rfl) (fun _ _ _ h => h) (Or.inl ⟨by rfl, ?_⟩) (by assumption) ?_
          rotate_left
          · (intro w hSw; (try dsimp only at hSw); go_simp; try with_reducible rfl)
          try simp only [Act.put, List.setIfInBounds_toArray, List.set_cons_zero, List.set_cons_succ]
          refine wpAnyH_take (i := 1) (oi := ⟨some 86, _, _, _, _, _⟩) (v := ?_) rfl (by kernel_rfl) (by kernel_rfl) (by kernel_rfl) (fun _ _ _ h => h) (Or.inl ⟨by rfl, ?_⟩) (by assumption) ?_
          rotate_left
          · (intro w hSw; (try dsimp only at hSw); go_simp; try with_reducible rfl)
          try simp only [Act.put, List.setIfInBounds_toArray, List.set_cons_zero, List.set_cons_succ]
          refine wpAnyH_take (i := 2) (oi := ⟨some 87, _, _, _, _, _⟩) (v := ?_) rfl (by kernel_rfl) (by kernel_rfl) (by kernel_rfl) (fun _ _ _ h => h) (Or.inl ⟨by rfl, ?_⟩) (by assumption) ?_
          rotate_left
          · (intro w hSw; (try dsimp only at hSw); go_simp; try with_reducible rfl)
          try simp only [Act.put, List.setIfInBounds_toArray, List.set_cons_zero, List.set_cons_succ]
          refine wpAnyH_take (i := 3) (oi := ⟨some 88, _, _, _, _, _⟩) (v := ?_) rfl (by kernel_rfl) (by kernel_rfl) (by kernel_rfl) (fun _ _ _ h => h) (Or.inl ⟨by rfl, ?_⟩) (by assumption) ?_
          rotate_left
          · (intro w hSw; (try dsimp only at hSw); go_simp; try with_reducible rfl)
          try simp only [Act.put, List.setIfInBounds_toArray, List.set_cons_zero, List.set_cons_succ]
          refine wpAnyH_take (i := 4) (oi := ⟨some 89, _, _, _, _, _⟩) (v := ?_) rfl (by kernel_rfl) (by kernel_rfl) (by kernel_rfl) (fun _ _ _ h => h) (Or.inl ⟨by rfl, ?_⟩) (by assumption) ?_
          rotate_left
          · (intro w hSw; (try dsimp only at hSw); go_simp; try with_reducible rfl)
          try simp only [Act.put, List.setIfInBounds_toArray, List.set_cons_zero, List.set_cons_succ]
          refine wpAnyH_take (i := 5) (oi := ⟨some 90, _, _, _, _, _⟩) (v := ?_) rfl (by kernel_rfl) (by kernel_rfl) (by kernel_rfl) (fun _ _ _ h => h) (Or.inl ⟨by rfl, ?_⟩) (by assumption) ?_
          rotate_left
          · (intro w hSw; (try dsimp only at hSw); go_simp; try with_reducible rfl)
          try simp only [Act.put, List.setIfInBounds_toArray, List.set_cons_zero, List.set_cons_succ]
          refine wpAnyH_take (i := 6) (oi := ⟨some 91, _, _, _, _, _⟩) (v := ?_) rfl (by kernel_rfl) (by kernel_rfl) (by kernel_rfl) (fun _ _ _ h => h) (Or.inl ⟨by rfl, ?_⟩) (by assumption) ?_
          rotate_left
          · (intro w hSw; (try dsimp only at hSw); go_simp; try with_reducible rfl)
          try simp only [Act.put, List.setIfInBounds_toArray, List.set_cons_zero, List.set_cons_succ]
          refine wpAnyH_take (i := 7) (oi := ⟨some 92, _, _, _, _, _⟩) (v := ?_) rfl (by kernel_rfl) (by kernel_rfl) (by kernel_rfl) (fun _ _ _ h => h) (Or.inl ⟨by rfl, ?_⟩) (by assumption) ?_
          rotate_left
          · (intro w hSw; (try dsimp only at hSw); go_simp; try with_reducible rfl)
          try simp only [Act.put, List.setIfInBounds_toArray, List.set_cons_zero, List.set_cons_succ]
          refine wpAnyH_take (i := 8) (oi := ⟨some 93, _, _, _, _, _⟩) (v := ?_) rfl (by kernel_rfl) (by kernel_rfl) (by kernel_rfl) (fun _ _ _ h => h) (Or.inl ⟨by rfl, ?_⟩) (by assumption) ?_
          rotate_left
          · (intro w hSw; (try dsimp only at hSw); go_simp; try with_reducible rfl)
          try simp only [Act.put, List.setIfInBounds_toArray, List.set_cons_zero, List.set_cons_succ]
          refine wpAnyH_take (i := 9) (oi := ⟨some 94, _, _, _, _, _⟩) (v := ?_) rfl (by kernel_rfl) (by kernel_rfl) (by kernel_rfl) (fun _ _ _ h => h) (Or.inl ⟨by rfl, ?_⟩) (by assumption) ?_
          rotate_left
          · (intro w hSw; (try dsimp only at hSw); go_simp; try with_reducible rfl)
          try simp only [Act.put, List.setIfInBounds_toArray, List.set_cons_zero, List.set_cons_succ]
          refine wpAnyH_take (i := 10) (oi := ⟨some 95, _, _, _, _, _⟩) (v := ?_) rfl (by kernel_rfl) (by kernel_rfl) (by kernel_rfl) (fun _ _ _ h => h) (Or.inl ⟨by rfl, ?_⟩) (by assumption) ?_
          rotate_left
          · (intro w hSw; (try dsimp only at hSw); go_simp; try with_reducible rfl)
          try simp only [Act.put, List.setIfInBounds_toArray, List.set_cons_zero, List.set_cons_succ]
          refine wpAnyH_take (i := 11) (oi := ⟨some 96, _, _, _, _, _⟩) (v := ?_) rfl (by kernel_rfl) (by kernel_rfl) (by kernel_rfl) (fun _ _ _ h => h) (Or.inl ⟨by rfl, ?_⟩) (by assumption) ?_
          rotate_left
          · (intro w hSw; (try dsimp only at hSw); go_simp; try with_reducible rfl)
          try simp only [Act.put, List.setIfInBounds_toArray, List.set_cons_zero, List.set_cons_succ]
          refine wpAnyH_take (i := 12) (oi := ⟨some 97, _, _, _, _, _⟩) (v := ?_) rfl (by kernel_rfl) (by kernel_rfl) (by kernel_rfl) (fun _ _ _ h => h) (Or.inl ⟨by rfl, ?_⟩) (by assumption) ?_
          rotate_left
          · (intro w hSw; (try dsimp only at hSw); go_simp; try with_reducible rfl)
          try simp only [Act.put, List.setIfInBounds_toArray, List.set_cons_zero, List.set_cons_succ]
          refine wpAnyH_take (i := 13) (oi := ⟨some 98, _, _, _, _, _⟩) (v := ?_) rfl (by kernel_rfl) (by kernel_rfl) (by kernel_rfl) (fun _ _ _ h => h) (Or.inl ⟨by rfl, ?_⟩) (by assumption) ?_
          rotate_left
          · (intro w hSw; (try dsimp only at hSw); go_simp; try with_reducible rfl)
          try simp only [Act.put, List.setIfInBounds_toArray, List.set_cons_zero, List.set_cons_succ]
          refine wpAnyH_take (i := 14) (oi := ⟨some 99, _, _, _, _, _⟩) (v := ?_) rfl (by kernel_rfl) (by kernel_rfl) (by kernel_rfl) (fun _ _ _ h => h) (Or.inl ⟨by rfl, ?_⟩) (by assumption) ?_
          rotate_left
          · (intro w hSw; (try dsimp only at hSw); go_simp; try with_reducible rfl)
          try simp only [Act.put, List.setIfInBounds_toArray, List.set_cons_zero, List.set_cons_succ]
          refine wpAnyH_take (i := 15) (oi := ⟨some 100, _, _, _, _, _⟩) (v := ?_) rfl (by kernel_rfl) (by kernel_rfl) (by kernel_rfl) (fun _ _ _ h => h) (Or.inl ⟨by rfl, ?_⟩) (by assumption) ?_
          rotate_left
          · (intro w hSw; (try dsimp only at hSw); go_simp; try with_reducible rfl)
          try simp only [Act.put, List.setIfInBounds_toArray, List.set_cons_zero, List.set_cons_succ]
          refine wpAnyH_take (i := 16) (oi := ⟨some 101, _, _, _, _, _⟩) (v := ?_) rfl (by kernel_rfl) (by kernel_rfl) (by kernel_rfl) (fun _ _ _ h => h) (Or.inl ⟨by rfl, ?_⟩) (by assumption) ?_
          rotate_left
          · (intro w hSw; (try dsimp only at hSw); go_simp; try with_reducible rfl)
          try simp only [Act.put, List.setIfInBounds_toArray, List.set_cons_zero, List.set_cons_succ]
          refine wpAnyH_done (by kernel_rfl) ?_ _
          clear h7 h8 hvv hgv hvb
          have xd := (show Ext w11 w11.drew from (Ext.refl _).drew)
          generalize w11.drew = wd at *
          obtain ⟨c0, c1, c2⟩ := box3 HBv.out (show Ext w11 wd from (by (repeat (first | assumption | exact Ext.refl _ | apply Ext.drew | apply Ext.drewN | apply Ext.alloc | refine Ext.trans ?_ (by assumption))); first | done | fail))
          go_wp2_with (first | ((with_reducible refine at_load_to 103 4 ?_); refine wpList_load_row rfl 25 _ rfl w.heap.size rfl 25 _ (0, 0) _ (HBv.out.ext (show Ext w11 wd from (by (repeat (first | assumption | exact Ext.refl _ | apply Ext.drew | apply Ext.drewN | apply Ext.alloc | refine Ext.trans ?_ (by assumption))); first | done | fail))).h Tryz.underlying25 rfl szS ?_) | fail)
          refine (public6_any).mono ?_
          rintro e w12 ⟨rfl, x⟩
          have x12 := Ext.trans (show Ext wd _ from (by (repeat (first | assumption | exact Ext.refl _ | apply Ext.drew | apply Ext.drewN | apply Ext.alloc | refine Ext.trans ?_ (by assumption))); first | done | fail)) x
          clear x
          obtain ⟨c0, c1, c2⟩ := box3 HBv.out (show Ext w11 w12 from (by (repeat (first | assumption | exact Ext.refl _ | apply Ext.drew | apply Ext.drewN | apply Ext.alloc | refine Ext.trans ?_ (by assumption))); first | done | fail))
          go_wp2_with fail
          refine (Hide_fill (QN.out.ext (by (repeat (first | assumption | exact Ext.refl _ | apply Ext.drew | apply Ext.drewN | apply Ext.alloc | refine Ext.trans ?_ (by assumption))); first | done | fail)) (QE.out.ext (by (repeat (first | assumption | exact Ext.refl _ | apply Ext.drew | apply Ext.drewN | apply Ext.alloc | refine Ext.trans ?_ (by assumption))); first | done | fail)) (QT.out.ext (by (repeat (first | assumption | exact Ext.refl _ | apply Ext.drew | apply Ext.drewN | apply Ext.alloc | refine Ext.trans ?_ (by assumption))); first | done | fail)) (QF.out.ext (by (repeat (first | assumption | exact Ext.refl _ | apply Ext.drew | apply Ext.drewN | apply Ext.alloc | refine Ext.trans ?_ (by assumption))); first | done | fail)) (by omega) (by omega) HP.out.1 (by rw [HS.out]; exact H1.out) (by rw [HS.out]; exact H2.out)).mono ?_
          rintro e w13 ⟨rfl, x⟩
          have x13 := Ext.trans (show Ext w12 _ from (by (repeat (first | assumption | exact Ext.refl _ | apply Ext.drew | apply Ext.drewN | apply Ext.alloc | refine Ext.trans ?_ (by assumption))); first | done | fail)) x
          clear x
          have HXX := Kp.mk (show Ext w11 w13 from (by (repeat (first | assumption | exact Ext.refl _ | apply Ext.drew | apply Ext.drewN | apply Ext.alloc | refine Ext.trans ?_ (by assumption))); first | done | fail))
          clear xd x12 x13
          go_wp2_with fail
          go_ret
          exact ⟨rfl, (HX.out.trans HXX.out).b⟩
        · have hge := Nat.le_of_not_lt g5
          have hy2 : nf = N - 3 - nt := by
            rcases Nat.lt_trichotomy nf (N - 3 - nt) with h | h | h
            · exact absurd (.inl (by omega)) hbad
            · exact h
            · exact absurd (.inl (by omega)) hbad
          have hz : fz lf = lf.length := by
            have h1 := fz_le lf
            rcases Nat.lt_or_ge (fz lf) lf.length with h | h
            · exact absurd (.inr h) hbad
            · omega
          obtain ⟨c_, hc⟩ := rs_laid (l := hdL lf lt) (vn := vN) vE (by rw [hdL_len, hlen, HT.out.len, hN1]; omega) (hdL_head _ _)
          obtain ⟨c3, hc3⟩ := rs_again hc hp.1.n0 vD
          by_cases hne : c3 = hdL lf lt
          · subst hne
            have HP := Kp.mk hp
            have HR := Kp.mk hr
            have HR2 := Kp.mk hr2
            have HV := Kp.mk hv
            have HVB := Kp.mk hvb
            have HS := Kp.mk hN1
            have hlo := hp.1.1
            have hhi := hp.1.2.1
            rw [hN1] at hlo hhi
            have H1 := Kp.mk hge
            have H2 := Kp.mk hy2
            have H3 := Kp.mk hz
            have H4 := Kp.mk hc
            have H5 := Kp.mk hc3
            clear hp hr hr2 hv hvb hN1 hge hy2 hz hc hc3 g5 hbad hlen
            go_enter Tryz.func5, Tryz.ntmps5
            go_wp2_with fail
            refine (HU.out _).mono ?_
            rintro e w1 ⟨rfl, x⟩
            have x1 := x
            clear x
            obtain ⟨c0, c1, c2⟩ := box3 HB.out (show Ext (w.alloc (.cells #[.slice AN nN cN, .slice AE nE cE, .slice AD nD cD] 25)) w1 from (by (repeat (first | assumption | exact Ext.refl _ | apply Ext.drew | apply Ext.drewN | apply Ext.alloc | refine Ext.trans ?_ (by assumption))); first | done | fail))
            go_wp2_with (first | ((with_reducible refine at_load_to 27 4 ?_); refine wpList_load_row rfl 25 _ rfl w.heap.size rfl 25 _ (0, 0) _ (HB.out.ext (show Ext (w.alloc (.cells #[.slice AN nN cN, .slice AE nE cE, .slice AD nD cD] 25)) w1 from (by (repeat (first | assumption | exact Ext.refl _ | apply Ext.drew | apply Ext.drewN | apply Ext.alloc | refine Ext.trans ?_ (by assumption))); first | done | fail))).h Tryz.underlying25 rfl szS ?_) | fail)
            refine (light6_any true ⟨fun _ => HL.out, fun _ => rfl⟩).mono ?_
            rintro e w2 ⟨rfl, x⟩
            have x2 := Ext.trans (show Ext w1 _ from (by (repeat (first | assumption | exact Ext.refl _ | apply Ext.drew | apply Ext.drewN | apply Ext.alloc | refine Ext.trans ?_ (by assumption))); first | done | fail)) x
            clear x
            obtain ⟨c0, c1, c2⟩ := box3 HB.out (show Ext (w.alloc (.cells #[.slice AN nN cN, .slice AE nE cE, .slice AD nD cD] 25)) w2 from (by (repeat (first | assumption | exact Ext.refl _ | apply Ext.drew | apply Ext.drewN | apply Ext.alloc | refine Ext.trans ?_ (by assumption))); first | done | fail))
            go_wp2_with fail
            refine (cut6_any (HBo.out.ext (show Ext w w2 from (by (repeat (first | assumption | exact Ext.refl _ | apply Ext.drew | apply Ext.drewN | apply Ext.alloc | refine Ext.trans ?_ (by assumption))); first | done | fail))) 300 rfl).mono ?_
            rintro e w3 ⟨rfl, _, hw⟩
            subst hw
            generalize min nb_ 300 = nq at *
            obtain ⟨c0, c1, c2⟩ := box3 HB.out (show Ext (w.alloc (.cells #[.slice AN nN cN, .slice AE nE cE, .slice AD nD cD] 25)) w3 from (by (repeat (first | assumption | exact Ext.refl _ | apply Ext.drew | apply Ext.drewN | apply Ext.alloc | refine Ext.trans ?_ (by assumption))); first | done | fail))
            go_wp2_with (first | ((with_reducible refine at_load_to 51 4 ?_); refine wpList_load_row rfl 25 _ rfl w.heap.size rfl 25 _ (0, 0) _ (HB.out.ext (show Ext (w.alloc (.cells #[.slice AN nN cN, .slice AE nE cE, .slice AD nD cD] 25)) w3 from (by (repeat (first | assumption | exact Ext.refl _ | apply Ext.drew | apply Ext.drewN | apply Ext.alloc | refine Ext.trans ?_ (by assumption))); first | done | fail))).h Tryz.underlying25 rfl szS ?_) | fail)
            refine (Sign_ok (NN.out.ext (by (repeat (first | assumption | exact Ext.refl _ | apply Ext.drew | apply Ext.drewN | apply Ext.alloc | refine Ext.trans ?_ (by assumption))); first | done | fail)) (NE.out.ext (by (repeat (first | assumption | exact Ext.refl _ | apply Ext.drew | apply Ext.drewN | apply Ext.alloc | refine Ext.trans ?_ (by assumption))); first | done | fail)) (ND.out.ext (by (repeat (first | assumption | exact Ext.refl _ | apply Ext.drew | apply Ext.drewN | apply Ext.alloc | refine Ext.trans ?_ (by assumption))); first | done | fail)) (HBb.out.ext (by (repeat (first | assumption | exact Ext.refl _ | apply Ext.drew | apply Ext.drewN | apply Ext.alloc | refine Ext.trans ?_ (by assumption))); first | done | fail)) (HW.out.ext (by (repeat (first | assumption | exact Ext.refl _ | apply Ext.drew | apply Ext.drewN | apply Ext.alloc | refine Ext.trans ?_ (by assumption))); first | done | fail)) (by omega) HP.out HR.out).mono ?_
            rintro e w4 ⟨A9, c9, rfl, s9, _, x⟩
            have x4 := Ext.trans (show Ext w3 _ from (by (repeat (first | assumption | exact Ext.refl _ | apply Ext.drew | apply Ext.drewN | apply Ext.alloc | refine Ext.trans ?_ (by assumption))); first | done | fail)) x
            clear x
            rw [HS.out] at s9 ⊢
            have S9 := Kp.mk s9
            clear s9
            obtain ⟨c0, c1, c2⟩ := box3 HB.out (show Ext (w.alloc (.cells #[.slice AN nN cN, .slice AE nE cE, .slice AD nD cD] 25)) w4 from (by (repeat (first | assumption | exact Ext.refl _ | apply Ext.drew | apply Ext.drewN | apply Ext.alloc | refine Ext.trans ?_ (by assumption))); first | done | fail))
            go_wp2_with fail
            refine (refSize_any (NN.out.ext (by (repeat (first | assumption | exact Ext.refl _ | apply Ext.drew | apply Ext.drewN | apply Ext.alloc | refine Ext.trans ?_ (by assumption))); first | done | fail)) bN.out (by decide)).mono ?_
            rintro e w5 ⟨rfl, x⟩
            have x5 := Ext.trans (show Ext w4 _ from (by (repeat (first | assumption | exact Ext.refl _ | apply Ext.drew | apply Ext.drewN | apply Ext.alloc | refine Ext.trans ?_ (by assumption))); first | done | fail)) x
            clear x
            rw [HS.out]
            obtain ⟨c0, c1, c2⟩ := box3 HB.out (show Ext (w.alloc (.cells #[.slice AN nN cN, .slice AE nE cE, .slice AD nD cD] 25)) w5 from (by (repeat (first | assumption | exact Ext.refl _ | apply Ext.drew | apply Ext.drewN | apply Ext.alloc | refine Ext.trans ?_ (by assumption))); first | done | fail))
            go_wp2_with fail
            refine (Laid_any (HBb.out.ext (by (repeat (first | assumption | exact Ext.refl _ | apply Ext.drew | apply Ext.drewN | apply Ext.alloc | refine Ext.trans ?_ (by assumption))); first | done | fail)) (by omega) hlo hhi).mono ?_
            rintro e w6 ⟨A8, c8, rfl, s8, _, x⟩
            have x6 := Ext.trans (show Ext w5 _ from (by (repeat (first | assumption | exact Ext.refl _ | apply Ext.drew | apply Ext.drewN | apply Ext.alloc | refine Ext.trans ?_ (by assumption))); first | done | fail)) x
            clear x
            have S8 := Kp.mk s8
            clear s8
            obtain ⟨c0, c1, c2⟩ := box3 HB.out (show Ext (w.alloc (.cells #[.slice AN nN cN, .slice AE nE cE, .slice AD nD cD] 25)) w6 from (by (repeat (first | assumption | exact Ext.refl _ | apply Ext.drew | apply Ext.drewN | apply Ext.alloc | refine Ext.trans ?_ (by assumption))); first | done | fail))
            go_wp2_with fail
            refine (Power_some (S9.out.ext (by (repeat (first | assumption | exact Ext.refl _ | apply Ext.drew | apply Ext.drewN | apply Ext.alloc | refine Ext.trans ?_ (by assumption))); first | done | fail)) (NE.out.ext (by (repeat (first | assumption | exact Ext.refl _ | apply Ext.drew | apply Ext.drewN | apply Ext.alloc | refine Ext.trans ?_ (by assumption))); first | done | fail)) (NN.out.ext (by (repeat (first | assumption | exact Ext.refl _ | apply Ext.drew | apply Ext.drewN | apply Ext.alloc | refine Ext.trans ?_ (by assumption))); first | done | fail)) bE.out (by decide) HP.out.1.2.1 HP.out.1.n0 HR2.out).mono ?_
            rintro e w7 ⟨A7, c7, rfl, s7, x⟩
            have x7 := Ext.trans (show Ext w6 _ from (by (repeat (first | assumption | exact Ext.refl _ | apply Ext.drew | apply Ext.drewN | apply Ext.alloc | refine Ext.trans ?_ (by assumption))); first | done | fail)) x
            clear x
            rw [HS.out] at s7 ⊢
            have S7 := Kp.mk s7
            clear s7
            obtain ⟨c0, c1, c2⟩ := box3 HB.out (show Ext (w.alloc (.cells #[.slice AN nN cN, .slice AE nE cE, .slice AD nD cD] 25)) w7 from (by (repeat (first | assumption | exact Ext.refl _ | apply Ext.drew | apply Ext.drewN | apply Ext.alloc | refine Ext.trans ?_ (by assumption))); first | done | fail))
            go_wp2_with (first | ((with_reducible refine at_load_to 73 4 ?_); refine wpList_load_row rfl 25 _ rfl w.heap.size rfl 25 _ (0, 0) _ (HB.out.ext (show Ext (w.alloc (.cells #[.slice AN nN cN, .slice AE nE cE, .slice AD nD cD] 25)) w7 from (by (repeat (first | assumption | exact Ext.refl _ | apply Ext.drew | apply Ext.drewN | apply Ext.alloc | refine Ext.trans ?_ (by assumption))); first | done | fail))).h Tryz.underlying25 rfl szS ?_) | fail)
            refine (public6_any).mono ?_
            rintro e w8 ⟨rfl, x⟩
            have x8 := Ext.trans (show Ext w7 _ from (by (repeat (first | assumption | exact Ext.refl _ | apply Ext.drew | apply Ext.drewN | apply Ext.alloc | refine Ext.trans ?_ (by assumption))); first | done | fail)) x
            clear x
            obtain ⟨c0, c1, c2⟩ := box3 HB.out (show Ext (w.alloc (.cells #[.slice AN nN cN, .slice AE nE cE, .slice AD nD cD] 25)) w8 from (by (repeat (first | assumption | exact Ext.refl _ | apply Ext.drew | apply Ext.drewN | apply Ext.alloc | refine Ext.trans ?_ (by assumption))); first | done | fail))
            go_wp2_with fail
            refine (Verify_all (NN.out.ext (by (repeat (first | assumption | exact Ext.refl _ | apply Ext.drew | apply Ext.drewN | apply Ext.alloc | refine Ext.trans ?_ (by assumption))); first | done | fail)) (NE.out.ext (by (repeat (first | assumption | exact Ext.refl _ | apply Ext.drew | apply Ext.drewN | apply Ext.alloc | refine Ext.trans ?_ (by assumption))); first | done | fail)) (HBb.out.ext (by (repeat (first | assumption | exact Ext.refl _ | apply Ext.drew | apply Ext.drewN | apply Ext.alloc | refine Ext.trans ?_ (by assumption))); first | done | fail)) (S9.out.ext (by (repeat (first | assumption | exact Ext.refl _ | apply Ext.drew | apply Ext.drewN | apply Ext.alloc | refine Ext.trans ?_ (by assumption))); first | done | fail)) (by omega) HP.out.1 (HW.out.ext (by (repeat (first | assumption | exact Ext.refl _ | apply Ext.drew | apply Ext.drewN | apply Ext.alloc | refine Ext.trans ?_ (by assumption))); first | done | fail))).mono ?_
            rintro e w9 ⟨rfl, x⟩
            have x9 := Ext.trans (show Ext w8 _ from (by (repeat (first | assumption | exact Ext.refl _ | apply Ext.drew | apply Ext.drewN | apply Ext.alloc | refine Ext.trans ?_ (by assumption))); first | done | fail)) x
            clear x
            generalize hEv : verE r lq vE vN = Ev at HV ⊢
            clear hEv
            obtain ⟨c0, c1, c2⟩ := box3 HB.out (show Ext (w.alloc (.cells #[.slice AN nN cN, .slice AE nE cE, .slice AD nD cD] 25)) w9 from (by (repeat (first | assumption | exact Ext.refl _ | apply Ext.drew | apply Ext.drewN | apply Ext.alloc | refine Ext.trans ?_ (by assumption))); first | done | fail))
            go_wp2_with (first | ((with_reducible refine at_load_to 78 4 ?_); refine wpList_load_row rfl 25 _ rfl w.heap.size rfl 25 _ (0, 0) _ (HB.out.ext (show Ext (w.alloc (.cells #[.slice AN nN cN, .slice AE nE cE, .slice AD nD cD] 25)) w9 from (by (repeat (first | assumption | exact Ext.refl _ | apply Ext.drew | apply Ext.drewN | apply Ext.alloc | refine Ext.trans ?_ (by assumption))); first | done | fail))).h Tryz.underlying25 rfl szS ?_) | fail)
            refine (public6_any).mono ?_
            rintro e w10 ⟨rfl, x⟩
            have x10 := Ext.trans (show Ext w9 _ from (by (repeat (first | assumption | exact Ext.refl _ | apply Ext.drew | apply Ext.drewN | apply Ext.alloc | refine Ext.trans ?_ (by assumption))); first | done | fail)) x
            clear x
            have hO := Own.new w10 w10.heap.size 1 [0] rfl (Nat.le_refl _) (by decide)
            have hxO : Ext w10 (w10.alloc (.cells (bv [0]) 5)) := (by (repeat (first | assumption | exact Ext.refl _ | apply Ext.drew | apply Ext.drewN | apply Ext.alloc | refine Ext.trans ?_ (by assumption))); first | done | fail)
            have s9b := (S9.out.ext (show Ext _ w10 from (by (repeat (first | assumption | exact Ext.refl _ | apply Ext.drew | apply Ext.drewN | apply Ext.alloc | refine Ext.trans ?_ (by assumption))); first | done | fail))).ext hxO
            go_wp2_with (first | (at_builtin; refine wpList_append_bs rfl (.tmp 81) (.tmp 82) rfl w10.heap.size _ 1 [0] rfl hO A9 N c9 r rfl s9b (by omega) (1 + N) rfl _ rfl w10 hxO (Nat.le_refl _) hxO.size ?_; intro A6 c6 wp ho6 xp _) | fail)
            have S6 := Kp.mk ho6.bs
            clear ho6 hO s9b hxO
            refine (Verify_wrong (NN.out.ext (by (repeat (first | assumption | exact Ext.refl _ | apply Ext.drew | apply Ext.drewN | apply Ext.alloc | refine Ext.trans ?_ (by assumption))); first | done | fail)) (NE.out.ext (by (repeat (first | assumption | exact Ext.refl _ | apply Ext.drew | apply Ext.drewN | apply Ext.alloc | refine Ext.trans ?_ (by assumption))); first | done | fail)) (HBb.out.ext (by (repeat (first | assumption | exact Ext.refl _ | apply Ext.drew | apply Ext.drewN | apply Ext.alloc | refine Ext.trans ?_ (by assumption))); first | done | fail)) S6.out (by omega) HP.out.1 (rs_len (by have := rs_out HR.out; rw [HS.out] at this; simp [this, HS.out]))).mono ?_
            rintro e w11 ⟨rfl, x⟩
            have x11 := Ext.trans (show Ext wp _ from (by (repeat (first | assumption | exact Ext.refl _ | apply Ext.drew | apply Ext.drewN | apply Ext.alloc | refine Ext.trans ?_ (by assumption))); first | done | fail)) x
            clear x
            have QN := Kp.mk (NN.out.ext (show Ext _ w11 from (by (repeat (first | assumption | exact Ext.refl _ | apply Ext.drew | apply Ext.drewN | apply Ext.alloc | refine Ext.trans ?_ (by assumption))); first | done | fail)))
            have QE := Kp.mk (NE.out.ext (show Ext _ w11 from (by (repeat (first | assumption | exact Ext.refl _ | apply Ext.drew | apply Ext.drewN | apply Ext.alloc | refine Ext.trans ?_ (by assumption))); first | done | fail)))
            have QD := Kp.mk (ND.out.ext (show Ext _ w11 from (by (repeat (first | assumption | exact Ext.refl _ | apply Ext.drew | apply Ext.drewN | apply Ext.alloc | refine Ext.trans ?_ (by assumption))); first | done | fail)))
            have Q9 := Kp.mk (S9.out.ext (show Ext _ w11 from (by (repeat (first | assumption | exact Ext.refl _ | apply Ext.drew | apply Ext.drewN | apply Ext.alloc | refine Ext.trans ?_ (by assumption))); first | done | fail)))
            have QT := Kp.mk (HT.out.ext (show Ext _ w11 from (by (repeat (first | assumption | exact Ext.refl _ | apply Ext.drew | apply Ext.drewN | apply Ext.alloc | refine Ext.trans ?_ (by assumption))); first | done | fail)))
            have QF := Kp.mk (HF.out.ext (show Ext _ w11 from (by (repeat (first | assumption | exact Ext.refl _ | apply Ext.drew | apply Ext.drewN | apply Ext.alloc | refine Ext.trans ?_ (by assumption))); first | done | fail)))
            have HBv := Kp.mk (HB.out.ext (show Ext (w.alloc (.cells #[.slice AN nN cN, .slice AE nE cE, .slice AD nD cD] 25)) w11 from (by (repeat (first | assumption | exact Ext.refl _ | apply Ext.drew | apply Ext.drewN | apply Ext.alloc | refine Ext.trans ?_ (by assumption))); first | done | fail)))
            have h7 := fun (w' : World) (hx : Ext w11 w') => (S7.out.ext (show Ext _ w11 from (by (repeat (first | assumption | exact Ext.refl _ | apply Ext.drew | apply Ext.drewN | apply Ext.alloc | refine Ext.trans ?_ (by assumption))); first | done | fail))).str hx
            have h8 := fun (w' : World) (hx : Ext w11 w') => (S8.out.ext (show Ext _ w11 from (by (repeat (first | assumption | exact Ext.refl _ | apply Ext.drew | apply Ext.drewN | apply Ext.alloc | refine Ext.trans ?_ (by assumption))); first | done | fail))).str hx
            obtain ⟨hvv, hgv⟩ := HV.out
            have hvb := HVB.out
            have HX := Kp.mk (show Ext w w11 from (by (repeat (first | assumption | exact Ext.refl _ | apply Ext.drew | apply Ext.drewN | apply Ext.alloc | refine Ext.trans ?_ (by assumption))); first | done | fail))
            clear x1 x2 x4 x5 x6 x7 x8 x9 x10 xp x11
            clear c0 c1 c2
            go_wp2_with fail
            refine wp_region_held_drew (S := fun w' => Ext w11 w') (by kernel_rfl) (Ext.refl w11).drew (fun hHeld => ?_)
            refine wpAnyH_take (i := 0) (oi := ⟨some 85, _, _, _, _, _⟩) (v := ?_) rfl (by kernel_rfl) (by kernel_rfl) (by kernel_rfl) (fun _ _ _ h => h) (Or.inl ⟨by rfl, ?_⟩) (by assumption) ?_
            rotate_left
            · (intro w hSw; (try dsimp only at hSw); go_simp; try with_reducible rfl)
            try simp only [Act.put, List.setIfInBounds_toArray, List.set_cons_zero, List.set_cons_succ]
            refine wpAnyH_take (i := 1) (oi := ⟨some 86, _, _, _, _, _⟩) (v := ?_) rfl (by kernel_rfl) (by kernel_rfl) (by kernel_rfl) (fun _ _ _ h => h) (Or.inl ⟨by rfl, ?_⟩) (by assumption) ?_
            rotate_left
            · (intro w hSw; (try dsimp only at hSw); go_simp; try with_reducible rfl)
            try simp only [Act.put, List.setIfInBounds_toArray, List.set_cons_zero, List.set_cons_succ]
            refine wpAnyH_take (i := 2) (oi := ⟨some 87, _, _, _, _, _⟩) (v := ?_) rfl (by kernel_rfl) (by kernel_rfl) (by kernel_rfl) (fun _ _ _ h => h) (Or.inl ⟨by rfl, ?_⟩) (by assumption) ?_
            rotate_left
            · (intro w hSw; (try dsimp only at hSw); go_simp; try with_reducible rfl)
            try simp only [Act.put, List.setIfInBounds_toArray, List.set_cons_zero, List.set_cons_succ]
            refine wpAnyH_take (i := 3) (oi := ⟨some 88, _, _, _, _, _⟩) (v := ?_) rfl (by kernel_rfl) (by kernel_rfl) (by kernel_rfl) (fun _ _ _ h => h) (Or.inl ⟨by rfl, ?_⟩) (by assumption) ?_
            rotate_left
            · (intro w hSw; (try dsimp only at hSw); go_simp; try with_reducible rfl)
            try simp only [Act.put, List.setIfInBounds_toArray, List.set_cons_zero, List.set_cons_succ]
            refine wpAnyH_take (i := 4) (oi := ⟨some 89, _, _, _, _, _⟩) (v := ?_) rfl (by kernel_rfl) (by kernel_rfl) (by kernel_rfl) (fun _ _ _ h => h) (Or.inl ⟨by rfl, ?_⟩) (by assumption) ?_
            rotate_left
            · (intro w hSw; (try dsimp only at hSw); go_simp; try with_reducible rfl)
            try simp only [Act.put, List.setIfInBounds_toArray, List.set_cons_zero, List.set_cons_succ]
            refine wpAnyH_take (i := 5) (oi := ⟨some 90, _, _, _, _, _⟩) (v := ?_) rfl (by kernel_rfl) (by kernel_rfl) (by kernel_rfl) (fun _ _ _ h => h) (Or.inl ⟨by rfl, ?_⟩) (by assumption) ?_
            rotate_left
            · (intro w hSw; (try dsimp only at hSw); go_simp; try with_reducible rfl)
            try simp only [Act.put, List.setIfInBounds_toArray, List.set_cons_zero, List.set_cons_succ]
            refine wpAnyH_take (i := 6) (oi := ⟨some 91, _, _, _, _, _⟩) (v := ?_) rfl (by kernel_rfl) (by kernel_rfl) (by kernel_rfl) (fun _ _ _ h => h) (Or.inl ⟨by rfl, ?_⟩) (by assumption) ?_
            rotate_left
            · (intro w hSw; (try dsimp only at hSw); go_simp; try with_reducible rfl)
            try simp only [Act.put, List.setIfInBounds_toArray, List.set_cons_zero, List.set_cons_succ]
            refine wpAnyH_take (i := 7) (oi := ⟨some 92, _, _, _, _, _⟩) (v := ?_) rfl (by kernel_rfl) (by kernel_rfl) (by kernel_rfl) (fun _ _ _ h => h) (Or.inl ⟨by rfl, ?_⟩) (by assumption) ?_
            rotate_left
            · (intro w hSw; (try dsimp only at hSw); go_simp; try with_reducible rfl)
            try simp only [Act.put, List.setIfInBounds_toArray, List.set_cons_zero, List.set_cons_succ]
            refine wpAnyH_take (i := 8) (oi := ⟨some 93, _, _, _, _, _⟩) (v := ?_) rfl (by kernel_rfl) (by kernel_rfl) (by kernel_rfl) (fun _ _ _ h => h) (Or.inl ⟨by rfl, ?_⟩) (by assumption) ?_
            rotate_left
            · (intro w hSw; (try dsimp only at hSw); go_simp; try with_reducible rfl)
            try simp only [Act.put, List.setIfInBounds_toArray, List.set_cons_zero, List.set_cons_succ]
            refine wpAnyH_take (i := 9) (oi := ⟨some 94, _, _, _, _, _⟩) (v := ?_) rfl (by kernel_rfl) (by kernel_rfl) (by kernel_rfl) (fun _ _ _ h => h) (Or.inl ⟨by rfl, ?_⟩) (by assumption) ?_
            rotate_left
            · (intro w hSw; (try dsimp only at hSw); go_simp; try with_reducible rfl)
            try simp only [Act.put, List.setIfInBounds_toArray, List.set_cons_zero, List.set_cons_succ]
            refine wpAnyH_take (i := 10) (oi := ⟨some 95, _, _, _, _, _⟩) (v := ?_) rfl (by kernel_rfl) (by kernel_rfl) (by kernel_rfl) (fun _ _ _ h => h) (Or.inl ⟨by rfl, ?_⟩) (by assumption) ?_
            rotate_left
            · (intro w hSw; (try dsimp only at hSw); go_simp; try with_reducible rfl)
            try simp only [Act.put, List.setIfInBounds_toArray, List.set_cons_zero, List.set_cons_succ]
            refine wpAnyH_take (i := 11) (oi := ⟨some 96, _, _, _, _, _⟩) (v := ?_) rfl (by kernel_rfl) (by kernel_rfl) (by kernel_rfl) (fun _ _ _ h => h) (Or.inl ⟨by rfl, ?_⟩) (by assumption) ?_
            rotate_left
            · (intro w hSw; (try dsimp only at hSw); go_simp; try with_reducible rfl)
            try simp only [Act.put, List.setIfInBounds_toArray, List.set_cons_zero, List.set_cons_succ]
            refine wpAnyH_take (i := 12) (oi := ⟨some 97, _, _, _, _, _⟩) (v := ?_) rfl (by kernel_rfl) (by kernel_rfl) (by kernel_rfl) (fun _ _ _ h => h) (Or.inl ⟨by rfl, ?_⟩) (by assumption) ?_
            rotate_left
            · (intro w hSw; (try dsimp only at hSw); go_simp; try with_reducible rfl)
            try simp only [Act.put, List.setIfInBounds_toArray, List.set_cons_zero, List.set_cons_succ]
            refine wpAnyH_take (i := 13) (oi := ⟨some 98, _, _, _, _, _⟩) (v := ?_) rfl (by kernel_rfl) (by kernel_rfl) (by kernel_rfl) (fun _ _ _ h => h) (Or.inl ⟨by rfl, ?_⟩) (by assumption) ?_
            rotate_left
            · (intro w hSw; (try dsimp only at hSw); go_simp; try with_reducible rfl)
            try simp only [Act.put, List.setIfInBounds_toArray, List.set_cons_zero, List.set_cons_succ]
            refine wpAnyH_take (i := 14) (oi := ⟨some 99, _, _, _, _, _⟩) (v := ?_) rfl (by kernel_rfl) (by kernel_rfl) (by kernel_rfl) (fun _ _ _ h => h) (Or.inl ⟨by rfl, ?_⟩) (by assumption) ?_
            rotate_left
            · (intro w hSw; (try dsimp only at hSw); go_simp; try with_reducible rfl)
            try simp only [Act.put, List.setIfInBounds_toArray, List.set_cons_zero, List.set_cons_succ]
            refine wpAnyH_take (i := 15) (oi := ⟨some 100, _, _, _, _, _⟩) (v := ?_) rfl (by kernel_rfl) (by kernel_rfl) (by kernel_rfl) (fun _ _ _ h => h) (Or.inl ⟨by rfl, ?_⟩) (by assumption) ?_
            rotate_left
            · (intro w hSw; (try dsimp only at hSw); go_simp; try with_reducible rfl)
            try simp only [Act.put, List.setIfInBounds_toArray, List.set_cons_zero, List.set_cons_succ]
            refine wpAnyH_take (i := 16) (oi := ⟨some 101, _, _, _, _, _⟩) (v := ?_) rfl (by kernel_rfl) (by kernel_rfl) (by kernel_rfl) (fun _ _ _ h => h) (Or.inl ⟨by rfl, ?_⟩) (by assumption) ?_
            rotate_left
            · (intro w hSw; (try dsimp only at hSw); go_simp; try with_reducible rfl)
            try simp only [Act.put, List.setIfInBounds_toArray, List.set_cons_zero, List.set_cons_succ]
            refine wpAnyH_done (by kernel_rfl) ?_ _
            clear h7 h8 hvv hgv hvb
            have xd := (show Ext w11 w11.drew from (Ext.refl _).drew)
            generalize w11.drew = wd at *
            obtain ⟨c0, c1, c2⟩ := box3 HBv.out (show Ext w11 wd from (by (repeat (first | assumption | exact Ext.refl _ | apply Ext.drew | apply Ext.drewN | apply Ext.alloc | refine Ext.trans ?_ (by assumption))); first | done | fail))
            go_wp2_with (first | ((with_reducible refine at_load_to 103 4 ?_); refine wpList_load_row rfl 25 _ rfl w.heap.size rfl 25 _ (0, 0) _ (HBv.out.ext (show Ext w11 wd from (by (repeat (first | assumption | exact Ext.refl _ | apply Ext.drew | apply Ext.drewN | apply Ext.alloc | refine Ext.trans ?_ (by assumption))); first | done | fail))).h Tryz.underlying25 rfl szS ?_) | fail)
            refine (public6_any).mono ?_
            rintro e w12 ⟨rfl, x⟩
            have x12 := Ext.trans (show Ext wd _ from (by (repeat (first | assumption | exact Ext.refl _ | apply Ext.drew | apply Ext.drewN | apply Ext.alloc | refine Ext.trans ?_ (by assumption))); first | done | fail)) x
            clear x
            obtain ⟨c0, c1, c2⟩ := box3 HBv.out (show Ext w11 w12 from (by (repeat (first | assumption | exact Ext.refl _ | apply Ext.drew | apply Ext.drewN | apply Ext.alloc | refine Ext.trans ?_ (by assumption))); first | done | fail))
            go_wp2_with fail
            refine (Hide_ok (QN.out.ext (by (repeat (first | assumption | exact Ext.refl _ | apply Ext.drew | apply Ext.drewN | apply Ext.alloc | refine Ext.trans ?_ (by assumption))); first | done | fail)) (QE.out.ext (by (repeat (first | assumption | exact Ext.refl _ | apply Ext.drew | apply Ext.drewN | apply Ext.alloc | refine Ext.trans ?_ (by assumption))); first | done | fail)) (QT.out.ext (by (repeat (first | assumption | exact Ext.refl _ | apply Ext.drew | apply Ext.drewN | apply Ext.alloc | refine Ext.trans ?_ (by assumption))); first | done | fail)) (QF.out.ext (by (repeat (first | assumption | exact Ext.refl _ | apply Ext.drew | apply Ext.drewN | apply Ext.alloc | refine Ext.trans ?_ (by assumption))); first | done | fail)) (by omega) (by omega) HP.out.1 (by rw [HS.out]; exact H1.out) (by rw [HS.out]; exact H2.out) H3.out H4.out).mono ?_
            rintro e w13 ⟨A5, c5, rfl, s5, _, x⟩
            have x13 := Ext.trans (show Ext w12 _ from (by (repeat (first | assumption | exact Ext.refl _ | apply Ext.drew | apply Ext.drewN | apply Ext.alloc | refine Ext.trans ?_ (by assumption))); first | done | fail)) x
            clear x
            rw [HS.out] at s5 ⊢
            have S5 := Kp.mk s5
            clear s5
            obtain ⟨c0, c1, c2⟩ := box3 HBv.out (show Ext w11 w13 from (by (repeat (first | assumption | exact Ext.refl _ | apply Ext.drew | apply Ext.drewN | apply Ext.alloc | refine Ext.trans ?_ (by assumption))); first | done | fail))
            go_wp2_with fail
            refine (refSize_any (QN.out.ext (by (repeat (first | assumption | exact Ext.refl _ | apply Ext.drew | apply Ext.drewN | apply Ext.alloc | refine Ext.trans ?_ (by assumption))); first | done | fail)) bN.out (by decide)).mono ?_
            rintro e w14 ⟨rfl, x⟩
            have x14 := Ext.trans (show Ext w13 _ from (by (repeat (first | assumption | exact Ext.refl _ | apply Ext.drew | apply Ext.drewN | apply Ext.alloc | refine Ext.trans ?_ (by assumption))); first | done | fail)) x
            clear x
            rw [HS.out]
            obtain ⟨c0, c1, c2⟩ := box3 HBv.out (show Ext w11 w14 from (by (repeat (first | assumption | exact Ext.refl _ | apply Ext.drew | apply Ext.drewN | apply Ext.alloc | refine Ext.trans ?_ (by assumption))); first | done | fail))
            go_wp2_with fail
            refine (Hid_ok (QT.out.ext (by (repeat (first | assumption | exact Ext.refl _ | apply Ext.drew | apply Ext.drewN | apply Ext.alloc | refine Ext.trans ?_ (by assumption))); first | done | fail)) (QF.out.ext (by (repeat (first | assumption | exact Ext.refl _ | apply Ext.drew | apply Ext.drewN | apply Ext.alloc | refine Ext.trans ?_ (by assumption))); first | done | fail)) (by omega) H1.out H2.out H3.out).mono ?_
            rintro e w15 ⟨A4, c4, rfl, s4, x⟩
            have x15 := Ext.trans (show Ext w14 _ from (by (repeat (first | assumption | exact Ext.refl _ | apply Ext.drew | apply Ext.drewN | apply Ext.alloc | refine Ext.trans ?_ (by assumption))); first | done | fail)) x
            clear x
            have S4 := Kp.mk s4
            clear s4
            obtain ⟨c0, c1, c2⟩ := box3 HBv.out (show Ext w11 w15 from (by (repeat (first | assumption | exact Ext.refl _ | apply Ext.drew | apply Ext.drewN | apply Ext.alloc | refine Ext.trans ?_ (by assumption))); first | done | fail))
            go_wp2_with fail
            refine (Power_some (S5.out.ext (by (repeat (first | assumption | exact Ext.refl _ | apply Ext.drew | apply Ext.drewN | apply Ext.alloc | refine Ext.trans ?_ (by assumption))); first | done | fail)) (QD.out.ext (by (repeat (first | assumption | exact Ext.refl _ | apply Ext.drew | apply Ext.drewN | apply Ext.alloc | refine Ext.trans ?_ (by assumption))); first | done | fail)) (QN.out.ext (by (repeat (first | assumption | exact Ext.refl _ | apply Ext.drew | apply Ext.drewN | apply Ext.alloc | refine Ext.trans ?_ (by assumption))); first | done | fail)) bD.out (by decide) HP.out.1.2.1 HP.out.1.n0 H5.out).mono ?_
            rintro e w16 ⟨A3, c3_, rfl, s3, x⟩
            have x16 := Ext.trans (show Ext w15 _ from (by (repeat (first | assumption | exact Ext.refl _ | apply Ext.drew | apply Ext.drewN | apply Ext.alloc | refine Ext.trans ?_ (by assumption))); first | done | fail)) x
            clear x
            rw [HS.out] at s3 ⊢
            have S3 := Kp.mk s3
            clear s3
            obtain ⟨c0, c1, c2⟩ := box3 HBv.out (show Ext w11 w16 from (by (repeat (first | assumption | exact Ext.refl _ | apply Ext.drew | apply Ext.drewN | apply Ext.alloc | refine Ext.trans ?_ (by assumption))); first | done | fail))
            go_wp2_with (first | ((with_reducible refine at_load_to 132 4 ?_); refine wpList_load_row rfl 25 _ rfl w.heap.size rfl 25 _ (0, 0) _ (HBv.out.ext (show Ext w11 w16 from (by (repeat (first | assumption | exact Ext.refl _ | apply Ext.drew | apply Ext.drewN | apply Ext.alloc | refine Ext.trans ?_ (by assumption))); first | done | fail))).h Tryz.underlying25 rfl szS ?_) | fail)
            refine (Show_ok (QN.out.ext (by (repeat (first | assumption | exact Ext.refl _ | apply Ext.drew | apply Ext.drewN | apply Ext.alloc | refine Ext.trans ?_ (by assumption))); first | done | fail)) (QE.out.ext (by (repeat (first | assumption | exact Ext.refl _ | apply Ext.drew | apply Ext.drewN | apply Ext.alloc | refine Ext.trans ?_ (by assumption))); first | done | fail)) (QD.out.ext (by (repeat (first | assumption | exact Ext.refl _ | apply Ext.drew | apply Ext.drewN | apply Ext.alloc | refine Ext.trans ?_ (by assumption))); first | done | fail)) (S5.out.ext (by (repeat (first | assumption | exact Ext.refl _ | apply Ext.drew | apply Ext.drewN | apply Ext.alloc | refine Ext.trans ?_ (by assumption))); first | done | fail)) HP.out H5.out (shown_hd lf lt H3.out (by have := HF.out.len; have := H1.out; have := H2.out; omega))).mono ?_
            rintro e w17 ⟨A2, n2, c2_, rfl, _, s2, x⟩
            have x17 := Ext.trans (show Ext w16 _ from (by (repeat (first | assumption | exact Ext.refl _ | apply Ext.drew | apply Ext.drewN | apply Ext.alloc | refine Ext.trans ?_ (by assumption))); first | done | fail)) x
            clear x
            have S2 := Kp.mk s2
            clear s2
            have k3 := (S3.out.ext (show Ext _ w17 from (by (repeat (first | assumption | exact Ext.refl _ | apply Ext.drew | apply Ext.drewN | apply Ext.alloc | refine Ext.trans ?_ (by assumption))); first | done | fail))).str (Ext.refl _)
            have k4 := (S4.out.ext (show Ext _ w17 from (by (repeat (first | assumption | exact Ext.refl _ | apply Ext.drew | apply Ext.drewN | apply Ext.alloc | refine Ext.trans ?_ (by assumption))); first | done | fail))).str (Ext.refl _)
            have kt := (QT.out.ext (show Ext _ w17 from (by (repeat (first | assumption | exact Ext.refl _ | apply Ext.drew | apply Ext.drewN | apply Ext.alloc | refine Ext.trans ?_ (by assumption))); first | done | fail))).str (Ext.refl _)
            have k2 := (S2.out.ext (show Ext _ w17 from (by (repeat (first | assumption | exact Ext.refl _ | apply Ext.drew | apply Ext.drewN | apply Ext.alloc | refine Ext.trans ?_ (by assumption))); first | done | fail))).str (Ext.refl _)
            have HXX := Kp.mk (show Ext w11 w17 from (by (repeat (first | assumption | exact Ext.refl _ | apply Ext.drew | apply Ext.drewN | apply Ext.alloc | refine Ext.trans ?_ (by assumption))); first | done | fail))
            clear xd x12 x13 x14 x15 x16 x17
            go_wp2_with fail
            go_ret
            exact ⟨by first | rfl | simp, (HX.out.trans HXX.out).b⟩
          · cases ht6 : shownL c3 with
            | some t6 =>
              have HP := Kp.mk hp
              have HR := Kp.mk hr
              have HR2 := Kp.mk hr2
              have HV := Kp.mk hv
              have HVB := Kp.mk hvb
              have HS := Kp.mk hN1
              have hlo := hp.1.1
              have hhi := hp.1.2.1
              rw [hN1] at hlo hhi
              have H1 := Kp.mk hge
              have H2 := Kp.mk hy2
              have H3 := Kp.mk hz
              have H4 := Kp.mk hc
              have H5 := Kp.mk hc3
              have HNE := Kp.mk hne
              have hq1 : ((strOf c3).toList == (strOf (hdL lf lt)).toList) = false := by rw [str_beq]; exact beq_eq_false_iff_ne.2 hne
              have HQ1 := Kp.mk hq1
              have HT6 := Kp.mk ht6
              clear hp hr hr2 hv hvb hN1 hge hy2 hz hc hc3 g5 hbad hne hq1 ht6 hlen
              go_enter Tryz.func5, Tryz.ntmps5
              go_wp2_with fail
              refine (HU.out _).mono ?_
              rintro e w1 ⟨rfl, x⟩
              have x1 := x
              clear x
              obtain ⟨c0, c1, c2⟩ := box3 HB.out (show Ext (w.alloc (.cells #[.slice AN nN cN, .slice AE nE cE, .slice AD nD cD] 25)) w1 from (by (repeat (first | assumption | exact Ext.refl _ | apply Ext.drew | apply Ext.drewN | apply Ext.alloc | refine Ext.trans ?_ (by assumption))); first | done | fail))
              go_wp2_with (first | ((with_reducible refine at_load_to 27 4 ?_); refine wpList_load_row rfl 25 _ rfl w.heap.size rfl 25 _ (0, 0) _ (HB.out.ext (show Ext (w.alloc (.cells #[.slice AN nN cN, .slice AE nE cE, .slice AD nD cD] 25)) w1 from (by (repeat (first | assumption | exact Ext.refl _ | apply Ext.drew | apply Ext.drewN | apply Ext.alloc | refine Ext.trans ?_ (by assumption))); first | done | fail))).h Tryz.underlying25 rfl szS ?_) | fail)
              refine (light6_any true ⟨fun _ => HL.out, fun _ => rfl⟩).mono ?_
              rintro e w2 ⟨rfl, x⟩
              have x2 := Ext.trans (show Ext w1 _ from (by (repeat (first | assumption | exact Ext.refl _ | apply Ext.drew | apply Ext.drewN | apply Ext.alloc | refine Ext.trans ?_ (by assumption))); first | done | fail)) x
              clear x
              obtain ⟨c0, c1, c2⟩ := box3 HB.out (show Ext (w.alloc (.cells #[.slice AN nN cN, .slice AE nE cE, .slice AD nD cD] 25)) w2 from (by (repeat (first | assumption | exact Ext.refl _ | apply Ext.drew | apply Ext.drewN | apply Ext.alloc | refine Ext.trans ?_ (by assumption))); first | done | fail))
              go_wp2_with fail
              refine (cut6_any (HBo.out.ext (show Ext w w2 from (by (repeat (first | assumption | exact Ext.refl _ | apply Ext.drew | apply Ext.drewN | apply Ext.alloc | refine Ext.trans ?_ (by assumption))); first | done | fail))) 300 rfl).mono ?_
              rintro e w3 ⟨rfl, _, hw⟩
              subst hw
              generalize min nb_ 300 = nq at *
              obtain ⟨c0, c1, c2⟩ := box3 HB.out (show Ext (w.alloc (.cells #[.slice AN nN cN, .slice AE nE cE, .slice AD nD cD] 25)) w3 from (by (repeat (first | assumption | exact Ext.refl _ | apply Ext.drew | apply Ext.drewN | apply Ext.alloc | refine Ext.trans ?_ (by assumption))); first | done | fail))
              go_wp2_with (first | ((with_reducible refine at_load_to 51 4 ?_); refine wpList_load_row rfl 25 _ rfl w.heap.size rfl 25 _ (0, 0) _ (HB.out.ext (show Ext (w.alloc (.cells #[.slice AN nN cN, .slice AE nE cE, .slice AD nD cD] 25)) w3 from (by (repeat (first | assumption | exact Ext.refl _ | apply Ext.drew | apply Ext.drewN | apply Ext.alloc | refine Ext.trans ?_ (by assumption))); first | done | fail))).h Tryz.underlying25 rfl szS ?_) | fail)
              refine (Sign_ok (NN.out.ext (by (repeat (first | assumption | exact Ext.refl _ | apply Ext.drew | apply Ext.drewN | apply Ext.alloc | refine Ext.trans ?_ (by assumption))); first | done | fail)) (NE.out.ext (by (repeat (first | assumption | exact Ext.refl _ | apply Ext.drew | apply Ext.drewN | apply Ext.alloc | refine Ext.trans ?_ (by assumption))); first | done | fail)) (ND.out.ext (by (repeat (first | assumption | exact Ext.refl _ | apply Ext.drew | apply Ext.drewN | apply Ext.alloc | refine Ext.trans ?_ (by assumption))); first | done | fail)) (HBb.out.ext (by (repeat (first | assumption | exact Ext.refl _ | apply Ext.drew | apply Ext.drewN | apply Ext.alloc | refine Ext.trans ?_ (by assumption))); first | done | fail)) (HW.out.ext (by (repeat (first | assumption | exact Ext.refl _ | apply Ext.drew | apply Ext.drewN | apply Ext.alloc | refine Ext.trans ?_ (by assumption))); first | done | fail)) (by omega) HP.out HR.out).mono ?_
              rintro e w4 ⟨A9, c9, rfl, s9, _, x⟩
              have x4 := Ext.trans (show Ext w3 _ from (by (repeat (first | assumption | exact Ext.refl _ | apply Ext.drew | apply Ext.drewN | apply Ext.alloc | refine Ext.trans ?_ (by assumption))); first | done | fail)) x
              clear x
              rw [HS.out] at s9 ⊢
              have S9 := Kp.mk s9
              clear s9
              obtain ⟨c0, c1, c2⟩ := box3 HB.out (show Ext (w.alloc (.cells #[.slice AN nN cN, .slice AE nE cE, .slice AD nD cD] 25)) w4 from (by (repeat (first | assumption | exact Ext.refl _ | apply Ext.drew | apply Ext.drewN | apply Ext.alloc | refine Ext.trans ?_ (by assumption))); first | done | fail))
              go_wp2_with fail
              refine (refSize_any (NN.out.ext (by (repeat (first | assumption | exact Ext.refl _ | apply Ext.drew | apply Ext.drewN | apply Ext.alloc | refine Ext.trans ?_ (by assumption))); first | done | fail)) bN.out (by decide)).mono ?_
              rintro e w5 ⟨rfl, x⟩
              have x5 := Ext.trans (show Ext w4 _ from (by (repeat (first | assumption | exact Ext.refl _ | apply Ext.drew | apply Ext.drewN | apply Ext.alloc | refine Ext.trans ?_ (by assumption))); first | done | fail)) x
              clear x
              rw [HS.out]
              obtain ⟨c0, c1, c2⟩ := box3 HB.out (show Ext (w.alloc (.cells #[.slice AN nN cN, .slice AE nE cE, .slice AD nD cD] 25)) w5 from (by (repeat (first | assumption | exact Ext.refl _ | apply Ext.drew | apply Ext.drewN | apply Ext.alloc | refine Ext.trans ?_ (by assumption))); first | done | fail))
              go_wp2_with fail
              refine (Laid_any (HBb.out.ext (by (repeat (first | assumption | exact Ext.refl _ | apply Ext.drew | apply Ext.drewN | apply Ext.alloc | refine Ext.trans ?_ (by assumption))); first | done | fail)) (by omega) hlo hhi).mono ?_
              rintro e w6 ⟨A8, c8, rfl, s8, _, x⟩
              have x6 := Ext.trans (show Ext w5 _ from (by (repeat (first | assumption | exact Ext.refl _ | apply Ext.drew | apply Ext.drewN | apply Ext.alloc | refine Ext.trans ?_ (by assumption))); first | done | fail)) x
              clear x
              have S8 := Kp.mk s8
              clear s8
              obtain ⟨c0, c1, c2⟩ := box3 HB.out (show Ext (w.alloc (.cells #[.slice AN nN cN, .slice AE nE cE, .slice AD nD cD] 25)) w6 from (by (repeat (first | assumption | exact Ext.refl _ | apply Ext.drew | apply Ext.drewN | apply Ext.alloc | refine Ext.trans ?_ (by assumption))); first | done | fail))
              go_wp2_with fail
              refine (Power_some (S9.out.ext (by (repeat (first | assumption | exact Ext.refl _ | apply Ext.drew | apply Ext.drewN | apply Ext.alloc | refine Ext.trans ?_ (by assumption))); first | done | fail)) (NE.out.ext (by (repeat (first | assumption | exact Ext.refl _ | apply Ext.drew | apply Ext.drewN | apply Ext.alloc | refine Ext.trans ?_ (by assumption))); first | done | fail)) (NN.out.ext (by (repeat (first | assumption | exact Ext.refl _ | apply Ext.drew | apply Ext.drewN | apply Ext.alloc | refine Ext.trans ?_ (by assumption))); first | done | fail)) bE.out (by decide) HP.out.1.2.1 HP.out.1.n0 HR2.out).mono ?_
              rintro e w7 ⟨A7, c7, rfl, s7, x⟩
              have x7 := Ext.trans (show Ext w6 _ from (by (repeat (first | assumption | exact Ext.refl _ | apply Ext.drew | apply Ext.drewN | apply Ext.alloc | refine Ext.trans ?_ (by assumption))); first | done | fail)) x
              clear x
              rw [HS.out] at s7 ⊢
              have S7 := Kp.mk s7
              clear s7
              obtain ⟨c0, c1, c2⟩ := box3 HB.out (show Ext (w.alloc (.cells #[.slice AN nN cN, .slice AE nE cE, .slice AD nD cD] 25)) w7 from (by (repeat (first | assumption | exact Ext.refl _ | apply Ext.drew | apply Ext.drewN | apply Ext.alloc | refine Ext.trans ?_ (by assumption))); first | done | fail))
              go_wp2_with (first | ((with_reducible refine at_load_to 73 4 ?_); refine wpList_load_row rfl 25 _ rfl w.heap.size rfl 25 _ (0, 0) _ (HB.out.ext (show Ext (w.alloc (.cells #[.slice AN nN cN, .slice AE nE cE, .slice AD nD cD] 25)) w7 from (by (repeat (first | assumption | exact Ext.refl _ | apply Ext.drew | apply Ext.drewN | apply Ext.alloc | refine Ext.trans ?_ (by assumption))); first | done | fail))).h Tryz.underlying25 rfl szS ?_) | fail)
              refine (public6_any).mono ?_
              rintro e w8 ⟨rfl, x⟩
              have x8 := Ext.trans (show Ext w7 _ from (by (repeat (first | assumption | exact Ext.refl _ | apply Ext.drew | apply Ext.drewN | apply Ext.alloc | refine Ext.trans ?_ (by assumption))); first | done | fail)) x
              clear x
              obtain ⟨c0, c1, c2⟩ := box3 HB.out (show Ext (w.alloc (.cells #[.slice AN nN cN, .slice AE nE cE, .slice AD nD cD] 25)) w8 from (by (repeat (first | assumption | exact Ext.refl _ | apply Ext.drew | apply Ext.drewN | apply Ext.alloc | refine Ext.trans ?_ (by assumption))); first | done | fail))
              go_wp2_with fail
              refine (Verify_all (NN.out.ext (by (repeat (first | assumption | exact Ext.refl _ | apply Ext.drew | apply Ext.drewN | apply Ext.alloc | refine Ext.trans ?_ (by assumption))); first | done | fail)) (NE.out.ext (by (repeat (first | assumption | exact Ext.refl _ | apply Ext.drew | apply Ext.drewN | apply Ext.alloc | refine Ext.trans ?_ (by assumption))); first | done | fail)) (HBb.out.ext (by (repeat (first | assumption | exact Ext.refl _ | apply Ext.drew | apply Ext.drewN | apply Ext.alloc | refine Ext.trans ?_ (by assumption))); first | done | fail)) (S9.out.ext (by (repeat (first | assumption | exact Ext.refl _ | apply Ext.drew | apply Ext.drewN | apply Ext.alloc | refine Ext.trans ?_ (by assumption))); first | done | fail)) (by omega) HP.out.1 (HW.out.ext (by (repeat (first | assumption | exact Ext.refl _ | apply Ext.drew | apply Ext.drewN | apply Ext.alloc | refine Ext.trans ?_ (by assumption))); first | done | fail))).mono ?_
              rintro e w9 ⟨rfl, x⟩
              have x9 := Ext.trans (show Ext w8 _ from (by (repeat (first | assumption | exact Ext.refl _ | apply Ext.drew | apply Ext.drewN | apply Ext.alloc | refine Ext.trans ?_ (by assumption))); first | done | fail)) x
              clear x
              generalize hEv : verE r lq vE vN = Ev at HV ⊢
              clear hEv
              obtain ⟨c0, c1, c2⟩ := box3 HB.out (show Ext (w.alloc (.cells #[.slice AN nN cN, .slice AE nE cE, .slice AD nD cD] 25)) w9 from (by (repeat (first | assumption | exact Ext.refl _ | apply Ext.drew | apply Ext.drewN | apply Ext.alloc | refine Ext.trans ?_ (by assumption))); first | done | fail))
              go_wp2_with (first | ((with_reducible refine at_load_to 78 4 ?_); refine wpList_load_row rfl 25 _ rfl w.heap.size rfl 25 _ (0, 0) _ (HB.out.ext (show Ext (w.alloc (.cells #[.slice AN nN cN, .slice AE nE cE, .slice AD nD cD] 25)) w9 from (by (repeat (first | assumption | exact Ext.refl _ | apply Ext.drew | apply Ext.drewN | apply Ext.alloc | refine Ext.trans ?_ (by assumption))); first | done | fail))).h Tryz.underlying25 rfl szS ?_) | fail)
              refine (public6_any).mono ?_
              rintro e w10 ⟨rfl, x⟩
              have x10 := Ext.trans (show Ext w9 _ from (by (repeat (first | assumption | exact Ext.refl _ | apply Ext.drew | apply Ext.drewN | apply Ext.alloc | refine Ext.trans ?_ (by assumption))); first | done | fail)) x
              clear x
              have hO := Own.new w10 w10.heap.size 1 [0] rfl (Nat.le_refl _) (by decide)
              have hxO : Ext w10 (w10.alloc (.cells (bv [0]) 5)) := (by (repeat (first | assumption | exact Ext.refl _ | apply Ext.drew | apply Ext.drewN | apply Ext.alloc | refine Ext.trans ?_ (by assumption))); first | done | fail)
              have s9b := (S9.out.ext (show Ext _ w10 from (by (repeat (first | assumption | exact Ext.refl _ | apply Ext.drew | apply Ext.drewN | apply Ext.alloc | refine Ext.trans ?_ (by assumption))); first | done | fail))).ext hxO
              go_wp2_with (first | (at_builtin; refine wpList_append_bs rfl (.tmp 81) (.tmp 82) rfl w10.heap.size _ 1 [0] rfl hO A9 N c9 r rfl s9b (by omega) (1 + N) rfl _ rfl w10 hxO (Nat.le_refl _) hxO.size ?_; intro A6 c6 wp ho6 xp _) | fail)
              have S6 := Kp.mk ho6.bs
              clear ho6 hO s9b hxO
              refine (Verify_wrong (NN.out.ext (by (repeat (first | assumption | exact Ext.refl _ | apply Ext.drew | apply Ext.drewN | apply Ext.alloc | refine Ext.trans ?_ (by assumption))); first | done | fail)) (NE.out.ext (by (repeat (first | assumption | exact Ext.refl _ | apply Ext.drew | apply Ext.drewN | apply Ext.alloc | refine Ext.trans ?_ (by assumption))); first | done | fail)) (HBb.out.ext (by (repeat (first | assumption | exact Ext.refl _ | apply Ext.drew | apply Ext.drewN | apply Ext.alloc | refine Ext.trans ?_ (by assumption))); first | done | fail)) S6.out (by omega) HP.out.1 (rs_len (by have := rs_out HR.out; rw [HS.out] at this; simp [this, HS.out]))).mono ?_
              rintro e w11 ⟨rfl, x⟩
              have x11 := Ext.trans (show Ext wp _ from (by (repeat (first | assumption | exact Ext.refl _ | apply Ext.drew | apply Ext.drewN | apply Ext.alloc | refine Ext.trans ?_ (by assumption))); first | done | fail)) x
              clear x
              have QN := Kp.mk (NN.out.ext (show Ext _ w11 from (by (repeat (first | assumption | exact Ext.refl _ | apply Ext.drew | apply Ext.drewN | apply Ext.alloc | refine Ext.trans ?_ (by assumption))); first | done | fail)))
              have QE := Kp.mk (NE.out.ext (show Ext _ w11 from (by (repeat (first | assumption | exact Ext.refl _ | apply Ext.drew | apply Ext.drewN | apply Ext.alloc | refine Ext.trans ?_ (by assumption))); first | done | fail)))
              have QD := Kp.mk (ND.out.ext (show Ext _ w11 from (by (repeat (first | assumption | exact Ext.refl _ | apply Ext.drew | apply Ext.drewN | apply Ext.alloc | refine Ext.trans ?_ (by assumption))); first | done | fail)))
              have Q9 := Kp.mk (S9.out.ext (show Ext _ w11 from (by (repeat (first | assumption | exact Ext.refl _ | apply Ext.drew | apply Ext.drewN | apply Ext.alloc | refine Ext.trans ?_ (by assumption))); first | done | fail)))
              have QT := Kp.mk (HT.out.ext (show Ext _ w11 from (by (repeat (first | assumption | exact Ext.refl _ | apply Ext.drew | apply Ext.drewN | apply Ext.alloc | refine Ext.trans ?_ (by assumption))); first | done | fail)))
              have QF := Kp.mk (HF.out.ext (show Ext _ w11 from (by (repeat (first | assumption | exact Ext.refl _ | apply Ext.drew | apply Ext.drewN | apply Ext.alloc | refine Ext.trans ?_ (by assumption))); first | done | fail)))
              have HBv := Kp.mk (HB.out.ext (show Ext (w.alloc (.cells #[.slice AN nN cN, .slice AE nE cE, .slice AD nD cD] 25)) w11 from (by (repeat (first | assumption | exact Ext.refl _ | apply Ext.drew | apply Ext.drewN | apply Ext.alloc | refine Ext.trans ?_ (by assumption))); first | done | fail)))
              have h7 := fun (w' : World) (hx : Ext w11 w') => (S7.out.ext (show Ext _ w11 from (by (repeat (first | assumption | exact Ext.refl _ | apply Ext.drew | apply Ext.drewN | apply Ext.alloc | refine Ext.trans ?_ (by assumption))); first | done | fail))).str hx
              have h8 := fun (w' : World) (hx : Ext w11 w') => (S8.out.ext (show Ext _ w11 from (by (repeat (first | assumption | exact Ext.refl _ | apply Ext.drew | apply Ext.drewN | apply Ext.alloc | refine Ext.trans ?_ (by assumption))); first | done | fail))).str hx
              obtain ⟨hvv, hgv⟩ := HV.out
              have hvb := HVB.out
              have HX := Kp.mk (show Ext w w11 from (by (repeat (first | assumption | exact Ext.refl _ | apply Ext.drew | apply Ext.drewN | apply Ext.alloc | refine Ext.trans ?_ (by assumption))); first | done | fail))
              clear x1 x2 x4 x5 x6 x7 x8 x9 x10 xp x11
              clear c0 c1 c2
              go_wp2_with fail
              refine wp_region_held_drew (S := fun w' => Ext w11 w') (by kernel_rfl) (Ext.refl w11).drew (fun hHeld => ?_)
              refine wpAnyH_take (i := 0) (oi := ⟨some 85, _, _, _, _, _⟩) (v := ?_) rfl (by kernel_rfl) (by kernel_rfl) (by kernel_rfl) (fun _ _ _ h => h) (Or.inl ⟨by rfl, ?_⟩) (by assumption) ?_
              rotate_left
              · (intro w hSw; (try dsimp only at hSw); go_simp; try with_reducible rfl)
              try simp only [Act.put, List.setIfInBounds_toArray, List.set_cons_zero, List.set_cons_succ]
              refine wpAnyH_take (i := 1) (oi := ⟨some 86, _, _, _, _, _⟩) (v := ?_) rfl (by kernel_rfl) (by kernel_rfl) (by kernel_rfl) (fun _ _ _ h => h) (Or.inl ⟨by rfl, ?_⟩) (by assumption) ?_
              rotate_left
              · (intro w hSw; (try dsimp only at hSw); go_simp; try with_reducible rfl)
              try simp only [Act.put, List.setIfInBounds_toArray, List.set_cons_zero, List.set_cons_succ]
              refine wpAnyH_take (i := 2) (oi := ⟨some 87, _, _, _, _, _⟩) (v := ?_) rfl (by kernel_rfl) (by kernel_rfl) (by kernel_rfl) (fun _ _ _ h => h) (Or.inl ⟨by rfl, ?_⟩) (by assumption) ?_
              rotate_left
              · (intro w hSw; (try dsimp only at hSw); go_simp; try with_reducible rfl)
              try simp only [Act.put, List.setIfInBounds_toArray, List.set_cons_zero, List.set_cons_succ]
              refine wpAnyH_take (i := 3) (oi := ⟨some 88, _, _, _, _, _⟩) (v := ?_) rfl (by kernel_rfl) (by kernel_rfl) (by kernel_rfl) (fun _ _ _ h => h) (Or.inl ⟨by rfl, ?_⟩) (by assumption) ?_
              rotate_left
              · (intro w hSw; (try dsimp only at hSw); go_simp; try with_reducible rfl)
              try simp only [Act.put, List.setIfInBounds_toArray, List.set_cons_zero, List.set_cons_succ]
              refine wpAnyH_take (i := 4) (oi := ⟨some 89, _, _, _, _, _⟩) (v := ?_) rfl (by kernel_rfl) (by kernel_rfl) (by kernel_rfl) (fun _ _ _ h => h) (Or.inl ⟨by rfl, ?_⟩) (by assumption) ?_
              rotate_left
              · (intro w hSw; (try dsimp only at hSw); go_simp; try with_reducible rfl)
              try simp only [Act.put, List.setIfInBounds_toArray, List.set_cons_zero, List.set_cons_succ]
              refine wpAnyH_take (i := 5) (oi := ⟨some 90, _, _, _, _, _⟩) (v := ?_) rfl (by kernel_rfl) (by kernel_rfl) (by kernel_rfl) (fun _ _ _ h => h) (Or.inl ⟨by rfl, ?_⟩) (by assumption) ?_
              rotate_left
              · (intro w hSw; (try dsimp only at hSw); go_simp; try with_reducible rfl)
              try simp only [Act.put, List.setIfInBounds_toArray, List.set_cons_zero, List.set_cons_succ]
              refine wpAnyH_take (i := 6) (oi := ⟨some 91, _, _, _, _, _⟩) (v := ?_) rfl (by kernel_rfl) (by kernel_rfl) (by kernel_rfl) (fun _ _ _ h => h) (Or.inl ⟨by rfl, ?_⟩) (by assumption) ?_
              rotate_left
              · (intro w hSw; (try dsimp only at hSw); go_simp; try with_reducible rfl)
              try simp only [Act.put, List.setIfInBounds_toArray, List.set_cons_zero, List.set_cons_succ]
              refine wpAnyH_take (i := 7) (oi := ⟨some 92, _, _, _, _, _⟩) (v := ?_) rfl (by kernel_rfl) (by kernel_rfl) (by kernel_rfl) (fun _ _ _ h => h) (Or.inl ⟨by rfl, ?_⟩) (by assumption) ?_
              rotate_left
              · (intro w hSw; (try dsimp only at hSw); go_simp; try with_reducible rfl)
              try simp only [Act.put, List.setIfInBounds_toArray, List.set_cons_zero, List.set_cons_succ]
              refine wpAnyH_take (i := 8) (oi := ⟨some 93, _, _, _, _, _⟩) (v := ?_) rfl (by kernel_rfl) (by kernel_rfl) (by kernel_rfl) (fun _ _ _ h => h) (Or.inl ⟨by rfl, ?_⟩) (by assumption) ?_
              rotate_left
              · (intro w hSw; (try dsimp only at hSw); go_simp; try with_reducible rfl)
              try simp only [Act.put, List.setIfInBounds_toArray, List.set_cons_zero, List.set_cons_succ]
              refine wpAnyH_take (i := 9) (oi := ⟨some 94, _, _, _, _, _⟩) (v := ?_) rfl (by kernel_rfl) (by kernel_rfl) (by kernel_rfl) (fun _ _ _ h => h) (Or.inl ⟨by rfl, ?_⟩) (by assumption) ?_
              rotate_left
              · (intro w hSw; (try dsimp only at hSw); go_simp; try with_reducible rfl)
              try simp only [Act.put, List.setIfInBounds_toArray, List.set_cons_zero, List.set_cons_succ]
              refine wpAnyH_take (i := 10) (oi := ⟨some 95, _, _, _, _, _⟩) (v := ?_) rfl (by kernel_rfl) (by kernel_rfl) (by kernel_rfl) (fun _ _ _ h => h) (Or.inl ⟨by rfl, ?_⟩) (by assumption) ?_
              rotate_left
              · (intro w hSw; (try dsimp only at hSw); go_simp; try with_reducible rfl)
              try simp only [Act.put, List.setIfInBounds_toArray, List.set_cons_zero, List.set_cons_succ]
              refine wpAnyH_take (i := 11) (oi := ⟨some 96, _, _, _, _, _⟩) (v := ?_) rfl (by kernel_rfl) (by kernel_rfl) (by kernel_rfl) (fun _ _ _ h => h) (Or.inl ⟨by rfl, ?_⟩) (by assumption) ?_
              rotate_left
              · (intro w hSw; (try dsimp only at hSw); go_simp; try with_reducible rfl)
              try simp only [Act.put, List.setIfInBounds_toArray, List.set_cons_zero, List.set_cons_succ]
              refine wpAnyH_take (i := 12) (oi := ⟨some 97, _, _, _, _, _⟩) (v := ?_) rfl (by kernel_rfl) (by kernel_rfl) (by kernel_rfl) (fun _ _ _ h => h) (Or.inl ⟨by rfl, ?_⟩) (by assumption) ?_
              rotate_left
              · (intro w hSw; (try dsimp only at hSw); go_simp; try with_reducible rfl)
              try simp only [Act.put, List.setIfInBounds_toArray, List.set_cons_zero, List.set_cons_succ]
              refine wpAnyH_take (i := 13) (oi := ⟨some 98, _, _, _, _, _⟩) (v := ?_) rfl (by kernel_rfl) (by kernel_rfl) (by kernel_rfl) (fun _ _ _ h => h) (Or.inl ⟨by rfl, ?_⟩) (by assumption) ?_
              rotate_left
              · (intro w hSw; (try dsimp only at hSw); go_simp; try with_reducible rfl)
              try simp only [Act.put, List.setIfInBounds_toArray, List.set_cons_zero, List.set_cons_succ]
              refine wpAnyH_take (i := 14) (oi := ⟨some 99, _, _, _, _, _⟩) (v := ?_) rfl (by kernel_rfl) (by kernel_rfl) (by kernel_rfl) (fun _ _ _ h => h) (Or.inl ⟨by rfl, ?_⟩) (by assumption) ?_
              rotate_left
              · (intro w hSw; (try dsimp only at hSw); go_simp; try with_reducible rfl)
              try simp only [Act.put, List.setIfInBounds_toArray, List.set_cons_zero, List.set_cons_succ]
              refine wpAnyH_take (i := 15) (oi := ⟨some 100, _, _, _, _, _⟩) (v := ?_) rfl (by kernel_rfl) (by kernel_rfl) (by kernel_rfl) (fun _ _ _ h => h) (Or.inl ⟨by rfl, ?_⟩) (by assumption) ?_
              rotate_left
              · (intro w hSw; (try dsimp only at hSw); go_simp; try with_reducible rfl)
              try simp only [Act.put, List.setIfInBounds_toArray, List.set_cons_zero, List.set_cons_succ]
              refine wpAnyH_take (i := 16) (oi := ⟨some 101, _, _, _, _, _⟩) (v := ?_) rfl (by kernel_rfl) (by kernel_rfl) (by kernel_rfl) (fun _ _ _ h => h) (Or.inl ⟨by rfl, ?_⟩) (by assumption) ?_
              rotate_left
              · (intro w hSw; (try dsimp only at hSw); go_simp; try with_reducible rfl)
              try simp only [Act.put, List.setIfInBounds_toArray, List.set_cons_zero, List.set_cons_succ]
              refine wpAnyH_done (by kernel_rfl) ?_ _
              clear h7 h8 hvv hgv hvb
              have xd := (show Ext w11 w11.drew from (Ext.refl _).drew)
              generalize w11.drew = wd at *
              obtain ⟨c0, c1, c2⟩ := box3 HBv.out (show Ext w11 wd from (by (repeat (first | assumption | exact Ext.refl _ | apply Ext.drew | apply Ext.drewN | apply Ext.alloc | refine Ext.trans ?_ (by assumption))); first | done | fail))
              go_wp2_with (first | ((with_reducible refine at_load_to 103 4 ?_); refine wpList_load_row rfl 25 _ rfl w.heap.size rfl 25 _ (0, 0) _ (HBv.out.ext (show Ext w11 wd from (by (repeat (first | assumption | exact Ext.refl _ | apply Ext.drew | apply Ext.drewN | apply Ext.alloc | refine Ext.trans ?_ (by assumption))); first | done | fail))).h Tryz.underlying25 rfl szS ?_) | fail)
              refine (public6_any).mono ?_
              rintro e w12 ⟨rfl, x⟩
              have x12 := Ext.trans (show Ext wd _ from (by (repeat (first | assumption | exact Ext.refl _ | apply Ext.drew | apply Ext.drewN | apply Ext.alloc | refine Ext.trans ?_ (by assumption))); first | done | fail)) x
              clear x
              obtain ⟨c0, c1, c2⟩ := box3 HBv.out (show Ext w11 w12 from (by (repeat (first | assumption | exact Ext.refl _ | apply Ext.drew | apply Ext.drewN | apply Ext.alloc | refine Ext.trans ?_ (by assumption))); first | done | fail))
              go_wp2_with fail
              refine (Hide_ok (QN.out.ext (by (repeat (first | assumption | exact Ext.refl _ | apply Ext.drew | apply Ext.drewN | apply Ext.alloc | refine Ext.trans ?_ (by assumption))); first | done | fail)) (QE.out.ext (by (repeat (first | assumption | exact Ext.refl _ | apply Ext.drew | apply Ext.drewN | apply Ext.alloc | refine Ext.trans ?_ (by assumption))); first | done | fail)) (QT.out.ext (by (repeat (first | assumption | exact Ext.refl _ | apply Ext.drew | apply Ext.drewN | apply Ext.alloc | refine Ext.trans ?_ (by assumption))); first | done | fail)) (QF.out.ext (by (repeat (first | assumption | exact Ext.refl _ | apply Ext.drew | apply Ext.drewN | apply Ext.alloc | refine Ext.trans ?_ (by assumption))); first | done | fail)) (by omega) (by omega) HP.out.1 (by rw [HS.out]; exact H1.out) (by rw [HS.out]; exact H2.out) H3.out H4.out).mono ?_
              rintro e w13 ⟨A5, c5, rfl, s5, _, x⟩
              have x13 := Ext.trans (show Ext w12 _ from (by (repeat (first | assumption | exact Ext.refl _ | apply Ext.drew | apply Ext.drewN | apply Ext.alloc | refine Ext.trans ?_ (by assumption))); first | done | fail)) x
              clear x
              rw [HS.out] at s5 ⊢
              have S5 := Kp.mk s5
              clear s5
              obtain ⟨c0, c1, c2⟩ := box3 HBv.out (show Ext w11 w13 from (by (repeat (first | assumption | exact Ext.refl _ | apply Ext.drew | apply Ext.drewN | apply Ext.alloc | refine Ext.trans ?_ (by assumption))); first | done | fail))
              go_wp2_with fail
              refine (refSize_any (QN.out.ext (by (repeat (first | assumption | exact Ext.refl _ | apply Ext.drew | apply Ext.drewN | apply Ext.alloc | refine Ext.trans ?_ (by assumption))); first | done | fail)) bN.out (by decide)).mono ?_
              rintro e w14 ⟨rfl, x⟩
              have x14 := Ext.trans (show Ext w13 _ from (by (repeat (first | assumption | exact Ext.refl _ | apply Ext.drew | apply Ext.drewN | apply Ext.alloc | refine Ext.trans ?_ (by assumption))); first | done | fail)) x
              clear x
              rw [HS.out]
              obtain ⟨c0, c1, c2⟩ := box3 HBv.out (show Ext w11 w14 from (by (repeat (first | assumption | exact Ext.refl _ | apply Ext.drew | apply Ext.drewN | apply Ext.alloc | refine Ext.trans ?_ (by assumption))); first | done | fail))
              go_wp2_with fail
              refine (Hid_ok (QT.out.ext (by (repeat (first | assumption | exact Ext.refl _ | apply Ext.drew | apply Ext.drewN | apply Ext.alloc | refine Ext.trans ?_ (by assumption))); first | done | fail)) (QF.out.ext (by (repeat (first | assumption | exact Ext.refl _ | apply Ext.drew | apply Ext.drewN | apply Ext.alloc | refine Ext.trans ?_ (by assumption))); first | done | fail)) (by omega) H1.out H2.out H3.out).mono ?_
              rintro e w15 ⟨A4, c4, rfl, s4, x⟩
              have x15 := Ext.trans (show Ext w14 _ from (by (repeat (first | assumption | exact Ext.refl _ | apply Ext.drew | apply Ext.drewN | apply Ext.alloc | refine Ext.trans ?_ (by assumption))); first | done | fail)) x
              clear x
              have S4 := Kp.mk s4
              clear s4
              obtain ⟨c0, c1, c2⟩ := box3 HBv.out (show Ext w11 w15 from (by (repeat (first | assumption | exact Ext.refl _ | apply Ext.drew | apply Ext.drewN | apply Ext.alloc | refine Ext.trans ?_ (by assumption))); first | done | fail))
              go_wp2_with fail
              refine (Power_some (S5.out.ext (by (repeat (first | assumption | exact Ext.refl _ | apply Ext.drew | apply Ext.drewN | apply Ext.alloc | refine Ext.trans ?_ (by assumption))); first | done | fail)) (QD.out.ext (by (repeat (first | assumption | exact Ext.refl _ | apply Ext.drew | apply Ext.drewN | apply Ext.alloc | refine Ext.trans ?_ (by assumption))); first | done | fail)) (QN.out.ext (by (repeat (first | assumption | exact Ext.refl _ | apply Ext.drew | apply Ext.drewN | apply Ext.alloc | refine Ext.trans ?_ (by assumption))); first | done | fail)) bD.out (by decide) HP.out.1.2.1 HP.out.1.n0 H5.out).mono ?_
              rintro e w16 ⟨A3, c3_, rfl, s3, x⟩
              have x16 := Ext.trans (show Ext w15 _ from (by (repeat (first | assumption | exact Ext.refl _ | apply Ext.drew | apply Ext.drewN | apply Ext.alloc | refine Ext.trans ?_ (by assumption))); first | done | fail)) x
              clear x
              rw [HS.out] at s3 ⊢
              have S3 := Kp.mk s3
              clear s3
              obtain ⟨c0, c1, c2⟩ := box3 HBv.out (show Ext w11 w16 from (by (repeat (first | assumption | exact Ext.refl _ | apply Ext.drew | apply Ext.drewN | apply Ext.alloc | refine Ext.trans ?_ (by assumption))); first | done | fail))
              go_wp2_with (first | ((with_reducible refine at_load_to 132 4 ?_); refine wpList_load_row rfl 25 _ rfl w.heap.size rfl 25 _ (0, 0) _ (HBv.out.ext (show Ext w11 w16 from (by (repeat (first | assumption | exact Ext.refl _ | apply Ext.drew | apply Ext.drewN | apply Ext.alloc | refine Ext.trans ?_ (by assumption))); first | done | fail))).h Tryz.underlying25 rfl szS ?_) | fail)
              refine (Show_ok (QN.out.ext (by (repeat (first | assumption | exact Ext.refl _ | apply Ext.drew | apply Ext.drewN | apply Ext.alloc | refine Ext.trans ?_ (by assumption))); first | done | fail)) (QE.out.ext (by (repeat (first | assumption | exact Ext.refl _ | apply Ext.drew | apply Ext.drewN | apply Ext.alloc | refine Ext.trans ?_ (by assumption))); first | done | fail)) (QD.out.ext (by (repeat (first | assumption | exact Ext.refl _ | apply Ext.drew | apply Ext.drewN | apply Ext.alloc | refine Ext.trans ?_ (by assumption))); first | done | fail)) (S5.out.ext (by (repeat (first | assumption | exact Ext.refl _ | apply Ext.drew | apply Ext.drewN | apply Ext.alloc | refine Ext.trans ?_ (by assumption))); first | done | fail)) HP.out H5.out HT6.out).mono ?_
              rintro e w17 ⟨A2, n2, c2_, rfl, _, s2, x⟩
              have x17 := Ext.trans (show Ext w16 _ from (by (repeat (first | assumption | exact Ext.refl _ | apply Ext.drew | apply Ext.drewN | apply Ext.alloc | refine Ext.trans ?_ (by assumption))); first | done | fail)) x
              clear x
              have S2 := Kp.mk s2
              clear s2
              have k3 := (S3.out.ext (show Ext _ w17 from (by (repeat (first | assumption | exact Ext.refl _ | apply Ext.drew | apply Ext.drewN | apply Ext.alloc | refine Ext.trans ?_ (by assumption))); first | done | fail))).str (Ext.refl _)
              have k4 := (S4.out.ext (show Ext _ w17 from (by (repeat (first | assumption | exact Ext.refl _ | apply Ext.drew | apply Ext.drewN | apply Ext.alloc | refine Ext.trans ?_ (by assumption))); first | done | fail))).str (Ext.refl _)
              have kt := (QT.out.ext (show Ext _ w17 from (by (repeat (first | assumption | exact Ext.refl _ | apply Ext.drew | apply Ext.drewN | apply Ext.alloc | refine Ext.trans ?_ (by assumption))); first | done | fail))).str (Ext.refl _)
              have k2 := (S2.out.ext (show Ext _ w17 from (by (repeat (first | assumption | exact Ext.refl _ | apply Ext.drew | apply Ext.drewN | apply Ext.alloc | refine Ext.trans ?_ (by assumption))); first | done | fail))).str (Ext.refl _)
              have hq1 := HQ1.out
              have hq2 : ((strOf c3).toList != (strOf (hdL lf lt)).toList) = true := by unfold bne; rw [hq1]; rfl
              have HXX := Kp.mk (show Ext w11 w17 from (by (repeat (first | assumption | exact Ext.refl _ | apply Ext.drew | apply Ext.drewN | apply Ext.alloc | refine Ext.trans ?_ (by assumption))); first | done | fail))
              clear xd x12 x13 x14 x15 x16 x17
              go_wp2_with fail
              go_ret
              exact ⟨by first | rfl | simp, (HX.out.trans HXX.out).b⟩
            | none =>
              have HP := Kp.mk hp
              have HR := Kp.mk hr
              have HR2 := Kp.mk hr2
              have HV := Kp.mk hv
              have HVB := Kp.mk hvb
              have HS := Kp.mk hN1
              have hlo := hp.1.1
              have hhi := hp.1.2.1
              rw [hN1] at hlo hhi
              have H1 := Kp.mk hge
              have H2 := Kp.mk hy2
              have H3 := Kp.mk hz
              have H4 := Kp.mk hc
              have H5 := Kp.mk hc3
              have HNE := Kp.mk hne
              have hq1 : ((strOf c3).toList == (strOf (hdL lf lt)).toList) = false := by rw [str_beq]; exact beq_eq_false_iff_ne.2 hne
              have HQ1 := Kp.mk hq1
              have HT6 := Kp.mk ht6
              clear hp hr hr2 hv hvb hN1 hge hy2 hz hc hc3 g5 hbad hne hq1 ht6 hlen
              go_enter Tryz.func5, Tryz.ntmps5
              go_wp2_with fail
              refine (HU.out _).mono ?_
              rintro e w1 ⟨rfl, x⟩
              have x1 := x
              clear x
              obtain ⟨c0, c1, c2⟩ := box3 HB.out (show Ext (w.alloc (.cells #[.slice AN nN cN, .slice AE nE cE, .slice AD nD cD] 25)) w1 from (by (repeat (first | assumption | exact Ext.refl _ | apply Ext.drew | apply Ext.drewN | apply Ext.alloc | refine Ext.trans ?_ (by assumption))); first | done | fail))
              go_wp2_with (first | ((with_reducible refine at_load_to 27 4 ?_); refine wpList_load_row rfl 25 _ rfl w.heap.size rfl 25 _ (0, 0) _ (HB.out.ext (show Ext (w.alloc (.cells #[.slice AN nN cN, .slice AE nE cE, .slice AD nD cD] 25)) w1 from (by (repeat (first | assumption | exact Ext.refl _ | apply Ext.drew | apply Ext.drewN | apply Ext.alloc | refine Ext.trans ?_ (by assumption))); first | done | fail))).h Tryz.underlying25 rfl szS ?_) | fail)
              refine (light6_any true ⟨fun _ => HL.out, fun _ => rfl⟩).mono ?_
              rintro e w2 ⟨rfl, x⟩
              have x2 := Ext.trans (show Ext w1 _ from (by (repeat (first | assumption | exact Ext.refl _ | apply Ext.drew | apply Ext.drewN | apply Ext.alloc | refine Ext.trans ?_ (by assumption))); first | done | fail)) x
              clear x
              obtain ⟨c0, c1, c2⟩ := box3 HB.out (show Ext (w.alloc (.cells #[.slice AN nN cN, .slice AE nE cE, .slice AD nD cD] 25)) w2 from (by (repeat (first | assumption | exact Ext.refl _ | apply Ext.drew | apply Ext.drewN | apply Ext.alloc | refine Ext.trans ?_ (by assumption))); first | done | fail))
              go_wp2_with fail
              refine (cut6_any (HBo.out.ext (show Ext w w2 from (by (repeat (first | assumption | exact Ext.refl _ | apply Ext.drew | apply Ext.drewN | apply Ext.alloc | refine Ext.trans ?_ (by assumption))); first | done | fail))) 300 rfl).mono ?_
              rintro e w3 ⟨rfl, _, hw⟩
              subst hw
              generalize min nb_ 300 = nq at *
              obtain ⟨c0, c1, c2⟩ := box3 HB.out (show Ext (w.alloc (.cells #[.slice AN nN cN, .slice AE nE cE, .slice AD nD cD] 25)) w3 from (by (repeat (first | assumption | exact Ext.refl _ | apply Ext.drew | apply Ext.drewN | apply Ext.alloc | refine Ext.trans ?_ (by assumption))); first | done | fail))
              go_wp2_with (first | ((with_reducible refine at_load_to 51 4 ?_); refine wpList_load_row rfl 25 _ rfl w.heap.size rfl 25 _ (0, 0) _ (HB.out.ext (show Ext (w.alloc (.cells #[.slice AN nN cN, .slice AE nE cE, .slice AD nD cD] 25)) w3 from (by (repeat (first | assumption | exact Ext.refl _ | apply Ext.drew | apply Ext.drewN | apply Ext.alloc | refine Ext.trans ?_ (by assumption))); first | done | fail))).h Tryz.underlying25 rfl szS ?_) | fail)
              refine (Sign_ok (NN.out.ext (by (repeat (first | assumption | exact Ext.refl _ | apply Ext.drew | apply Ext.drewN | apply Ext.alloc | refine Ext.trans ?_ (by assumption))); first | done | fail)) (NE.out.ext (by (repeat (first | assumption | exact Ext.refl _ | apply Ext.drew | apply Ext.drewN | apply Ext.alloc | refine Ext.trans ?_ (by assumption))); first | done | fail)) (ND.out.ext (by (repeat (first | assumption | exact Ext.refl _ | apply Ext.drew | apply Ext.drewN | apply Ext.alloc | refine Ext.trans ?_ (by assumption))); first | done | fail)) (HBb.out.ext (by (repeat (first | assumption | exact Ext.refl _ | apply Ext.drew | apply Ext.drewN | apply Ext.alloc | refine Ext.trans ?_ (by assumption))); first | done | fail)) (HW.out.ext (by (repeat (first | assumption | exact Ext.refl _ | apply Ext.drew | apply Ext.drewN | apply Ext.alloc | refine Ext.trans ?_ (by assumption))); first | done | fail)) (by omega) HP.out HR.out).mono ?_
              rintro e w4 ⟨A9, c9, rfl, s9, _, x⟩
              have x4 := Ext.trans (show Ext w3 _ from (by (repeat (first | assumption | exact Ext.refl _ | apply Ext.drew | apply Ext.drewN | apply Ext.alloc | refine Ext.trans ?_ (by assumption))); first | done | fail)) x
              clear x
              rw [HS.out] at s9 ⊢
              have S9 := Kp.mk s9
              clear s9
              obtain ⟨c0, c1, c2⟩ := box3 HB.out (show Ext (w.alloc (.cells #[.slice AN nN cN, .slice AE nE cE, .slice AD nD cD] 25)) w4 from (by (repeat (first | assumption | exact Ext.refl _ | apply Ext.drew | apply Ext.drewN | apply Ext.alloc | refine Ext.trans ?_ (by assumption))); first | done | fail))
              go_wp2_with fail
              refine (refSize_any (NN.out.ext (by (repeat (first | assumption | exact Ext.refl _ | apply Ext.drew | apply Ext.drewN | apply Ext.alloc | refine Ext.trans ?_ (by assumption))); first | done | fail)) bN.out (by decide)).mono ?_
              rintro e w5 ⟨rfl, x⟩
              have x5 := Ext.trans (show Ext w4 _ from (by (repeat (first | assumption | exact Ext.refl _ | apply Ext.drew | apply Ext.drewN | apply Ext.alloc | refine Ext.trans ?_ (by assumption))); first | done | fail)) x
              clear x
              rw [HS.out]
              obtain ⟨c0, c1, c2⟩ := box3 HB.out (show Ext (w.alloc (.cells #[.slice AN nN cN, .slice AE nE cE, .slice AD nD cD] 25)) w5 from (by (repeat (first | assumption | exact Ext.refl _ | apply Ext.drew | apply Ext.drewN | apply Ext.alloc | refine Ext.trans ?_ (by assumption))); first | done | fail))
              go_wp2_with fail
              refine (Laid_any (HBb.out.ext (by (repeat (first | assumption | exact Ext.refl _ | apply Ext.drew | apply Ext.drewN | apply Ext.alloc | refine Ext.trans ?_ (by assumption))); first | done | fail)) (by omega) hlo hhi).mono ?_
              rintro e w6 ⟨A8, c8, rfl, s8, _, x⟩
              have x6 := Ext.trans (show Ext w5 _ from (by (repeat (first | assumption | exact Ext.refl _ | apply Ext.drew | apply Ext.drewN | apply Ext.alloc | refine Ext.trans ?_ (by assumption))); first | done | fail)) x
              clear x
              have S8 := Kp.mk s8
              clear s8
              obtain ⟨c0, c1, c2⟩ := box3 HB.out (show Ext (w.alloc (.cells #[.slice AN nN cN, .slice AE nE cE, .slice AD nD cD] 25)) w6 from (by (repeat (first | assumption | exact Ext.refl _ | apply Ext.drew | apply Ext.drewN | apply Ext.alloc | refine Ext.trans ?_ (by assumption))); first | done | fail))
              go_wp2_with fail
              refine (Power_some (S9.out.ext (by (repeat (first | assumption | exact Ext.refl _ | apply Ext.drew | apply Ext.drewN | apply Ext.alloc | refine Ext.trans ?_ (by assumption))); first | done | fail)) (NE.out.ext (by (repeat (first | assumption | exact Ext.refl _ | apply Ext.drew | apply Ext.drewN | apply Ext.alloc | refine Ext.trans ?_ (by assumption))); first | done | fail)) (NN.out.ext (by (repeat (first | assumption | exact Ext.refl _ | apply Ext.drew | apply Ext.drewN | apply Ext.alloc | refine Ext.trans ?_ (by assumption))); first | done | fail)) bE.out (by decide) HP.out.1.2.1 HP.out.1.n0 HR2.out).mono ?_
              rintro e w7 ⟨A7, c7, rfl, s7, x⟩
              have x7 := Ext.trans (show Ext w6 _ from (by (repeat (first | assumption | exact Ext.refl _ | apply Ext.drew | apply Ext.drewN | apply Ext.alloc | refine Ext.trans ?_ (by assumption))); first | done | fail)) x
              clear x
              rw [HS.out] at s7 ⊢
              have S7 := Kp.mk s7
              clear s7
              obtain ⟨c0, c1, c2⟩ := box3 HB.out (show Ext (w.alloc (.cells #[.slice AN nN cN, .slice AE nE cE, .slice AD nD cD] 25)) w7 from (by (repeat (first | assumption | exact Ext.refl _ | apply Ext.drew | apply Ext.drewN | apply Ext.alloc | refine Ext.trans ?_ (by assumption))); first | done | fail))
              go_wp2_with (first | ((with_reducible refine at_load_to 73 4 ?_); refine wpList_load_row rfl 25 _ rfl w.heap.size rfl 25 _ (0, 0) _ (HB.out.ext (show Ext (w.alloc (.cells #[.slice AN nN cN, .slice AE nE cE, .slice AD nD cD] 25)) w7 from (by (repeat (first | assumption | exact Ext.refl _ | apply Ext.drew | apply Ext.drewN | apply Ext.alloc | refine Ext.trans ?_ (by assumption))); first | done | fail))).h Tryz.underlying25 rfl szS ?_) | fail)
              refine (public6_any).mono ?_
              rintro e w8 ⟨rfl, x⟩
              have x8 := Ext.trans (show Ext w7 _ from (by (repeat (first | assumption | exact Ext.refl _ | apply Ext.drew | apply Ext.drewN | apply Ext.alloc | refine Ext.trans ?_ (by assumption))); first | done | fail)) x
              clear x
              obtain ⟨c0, c1, c2⟩ := box3 HB.out (show Ext (w.alloc (.cells #[.slice AN nN cN, .slice AE nE cE, .slice AD nD cD] 25)) w8 from (by (repeat (first | assumption | exact Ext.refl _ | apply Ext.drew | apply Ext.drewN | apply Ext.alloc | refine Ext.trans ?_ (by assumption))); first | done | fail))
              go_wp2_with fail
              refine (Verify_all (NN.out.ext (by (repeat (first | assumption | exact Ext.refl _ | apply Ext.drew | apply Ext.drewN | apply Ext.alloc | refine Ext.trans ?_ (by assumption))); first | done | fail)) (NE.out.ext (by (repeat (first | assumption | exact Ext.refl _ | apply Ext.drew | apply Ext.drewN | apply Ext.alloc | refine Ext.trans ?_ (by assumption))); first | done | fail)) (HBb.out.ext (by (repeat (first | assumption | exact Ext.refl _ | apply Ext.drew | apply Ext.drewN | apply Ext.alloc | refine Ext.trans ?_ (by assumption))); first | done | fail)) (S9.out.ext (by (repeat (first | assumption | exact Ext.refl _ | apply Ext.drew | apply Ext.drewN | apply Ext.alloc | refine Ext.trans ?_ (by assumption))); first | done | fail)) (by omega) HP.out.1 (HW.out.ext (by (repeat (first | assumption | exact Ext.refl _ | apply Ext.drew | apply Ext.drewN | apply Ext.alloc | refine Ext.trans ?_ (by assumption))); first | done | fail))).mono ?_
              rintro e w9 ⟨rfl, x⟩
              have x9 := Ext.trans (show Ext w8 _ from (by (repeat (first | assumption | exact Ext.refl _ | apply Ext.drew | apply Ext.drewN | apply Ext.alloc | refine Ext.trans ?_ (by assumption))); first | done | fail)) x
              clear x
              generalize hEv : verE r lq vE vN = Ev at HV ⊢
              clear hEv
              obtain ⟨c0, c1, c2⟩ := box3 HB.out (show Ext (w.alloc (.cells #[.slice AN nN cN, .slice AE nE cE, .slice AD nD cD] 25)) w9 from (by (repeat (first | assumption | exact Ext.refl _ | apply Ext.drew | apply Ext.drewN | apply Ext.alloc | refine Ext.trans ?_ (by assumption))); first | done | fail))
              go_wp2_with (first | ((with_reducible refine at_load_to 78 4 ?_); refine wpList_load_row rfl 25 _ rfl w.heap.size rfl 25 _ (0, 0) _ (HB.out.ext (show Ext (w.alloc (.cells #[.slice AN nN cN, .slice AE nE cE, .slice AD nD cD] 25)) w9 from (by (repeat (first | assumption | exact Ext.refl _ | apply Ext.drew | apply Ext.drewN | apply Ext.alloc | refine Ext.trans ?_ (by assumption))); first | done | fail))).h Tryz.underlying25 rfl szS ?_) | fail)
              refine (public6_any).mono ?_
              rintro e w10 ⟨rfl, x⟩
              have x10 := Ext.trans (show Ext w9 _ from (by (repeat (first | assumption | exact Ext.refl _ | apply Ext.drew | apply Ext.drewN | apply Ext.alloc | refine Ext.trans ?_ (by assumption))); first | done | fail)) x
              clear x
              have hO := Own.new w10 w10.heap.size 1 [0] rfl (Nat.le_refl _) (by decide)
              have hxO : Ext w10 (w10.alloc (.cells (bv [0]) 5)) := (by (repeat (first | assumption | exact Ext.refl _ | apply Ext.drew | apply Ext.drewN | apply Ext.alloc | refine Ext.trans ?_ (by assumption))); first | done | fail)
              have s9b := (S9.out.ext (show Ext _ w10 from (by (repeat (first | assumption | exact Ext.refl _ | apply Ext.drew | apply Ext.drewN | apply Ext.alloc | refine Ext.trans ?_ (by assumption))); first | done | fail))).ext hxO
              go_wp2_with (first | (at_builtin; refine wpList_append_bs rfl (.tmp 81) (.tmp 82) rfl w10.heap.size _ 1 [0] rfl hO A9 N c9 r rfl s9b (by omega) (1 + N) rfl _ rfl w10 hxO (Nat.le_refl _) hxO.size ?_; intro A6 c6 wp ho6 xp _) | fail)
              have S6 := Kp.mk ho6.bs
              clear ho6 hO s9b hxO
              refine (Verify_wrong (NN.out.ext (by (repeat (first | assumption | exact Ext.refl _ | apply Ext.drew | apply Ext.drewN | apply Ext.alloc | refine Ext.trans ?_ (by assumption))); first | done | fail)) (NE.out.ext (by (repeat (first | assumption | exact Ext.refl _ | apply Ext.drew | apply Ext.drewN | apply Ext.alloc | refine Ext.trans ?_ (by assumption))); first | done | fail)) (HBb.out.ext (by (repeat (first | assumption | exact Ext.refl _ | apply Ext.drew | apply Ext.drewN | apply Ext.alloc | refine Ext.trans ?_ (by assumption))); first | done | fail)) S6.out (by omega) HP.out.1 (rs_len (by have := rs_out HR.out; rw [HS.out] at this; simp [this, HS.out]))).mono ?_
              rintro e w11 ⟨rfl, x⟩
              have x11 := Ext.trans (show Ext wp _ from (by (repeat (first | assumption | exact Ext.refl _ | apply Ext.drew | apply Ext.drewN | apply Ext.alloc | refine Ext.trans ?_ (by assumption))); first | done | fail)) x
              clear x
              have QN := Kp.mk (NN.out.ext (show Ext _ w11 from (by (repeat (first | assumption | exact Ext.refl _ | apply Ext.drew | apply Ext.drewN | apply Ext.alloc | refine Ext.trans ?_ (by assumption))); first | done | fail)))
              have QE := Kp.mk (NE.out.ext (show Ext _ w11 from (by (repeat (first | assumption | exact Ext.refl _ | apply Ext.drew | apply Ext.drewN | apply Ext.alloc | refine Ext.trans ?_ (by assumption))); first | done | fail)))
              have QD := Kp.mk (ND.out.ext (show Ext _ w11 from (by (repeat (first | assumption | exact Ext.refl _ | apply Ext.drew | apply Ext.drewN | apply Ext.alloc | refine Ext.trans ?_ (by assumption))); first | done | fail)))
              have Q9 := Kp.mk (S9.out.ext (show Ext _ w11 from (by (repeat (first | assumption | exact Ext.refl _ | apply Ext.drew | apply Ext.drewN | apply Ext.alloc | refine Ext.trans ?_ (by assumption))); first | done | fail)))
              have QT := Kp.mk (HT.out.ext (show Ext _ w11 from (by (repeat (first | assumption | exact Ext.refl _ | apply Ext.drew | apply Ext.drewN | apply Ext.alloc | refine Ext.trans ?_ (by assumption))); first | done | fail)))
              have QF := Kp.mk (HF.out.ext (show Ext _ w11 from (by (repeat (first | assumption | exact Ext.refl _ | apply Ext.drew | apply Ext.drewN | apply Ext.alloc | refine Ext.trans ?_ (by assumption))); first | done | fail)))
              have HBv := Kp.mk (HB.out.ext (show Ext (w.alloc (.cells #[.slice AN nN cN, .slice AE nE cE, .slice AD nD cD] 25)) w11 from (by (repeat (first | assumption | exact Ext.refl _ | apply Ext.drew | apply Ext.drewN | apply Ext.alloc | refine Ext.trans ?_ (by assumption))); first | done | fail)))
              have h7 := fun (w' : World) (hx : Ext w11 w') => (S7.out.ext (show Ext _ w11 from (by (repeat (first | assumption | exact Ext.refl _ | apply Ext.drew | apply Ext.drewN | apply Ext.alloc | refine Ext.trans ?_ (by assumption))); first | done | fail))).str hx
              have h8 := fun (w' : World) (hx : Ext w11 w') => (S8.out.ext (show Ext _ w11 from (by (repeat (first | assumption | exact Ext.refl _ | apply Ext.drew | apply Ext.drewN | apply Ext.alloc | refine Ext.trans ?_ (by assumption))); first | done | fail))).str hx
              obtain ⟨hvv, hgv⟩ := HV.out
              have hvb := HVB.out
              have HX := Kp.mk (show Ext w w11 from (by (repeat (first | assumption | exact Ext.refl _ | apply Ext.drew | apply Ext.drewN | apply Ext.alloc | refine Ext.trans ?_ (by assumption))); first | done | fail))
              clear x1 x2 x4 x5 x6 x7 x8 x9 x10 xp x11
              clear c0 c1 c2
              go_wp2_with fail
              refine wp_region_held_drew (S := fun w' => Ext w11 w') (by kernel_rfl) (Ext.refl w11).drew (fun hHeld => ?_)
              refine wpAnyH_take (i := 0) (oi := ⟨some 85, _, _, _, _, _⟩) (v := ?_) rfl (by kernel_rfl) (by kernel_rfl) (by kernel_rfl) (fun _ _ _ h => h) (Or.inl ⟨by rfl, ?_⟩) (by assumption) ?_
              rotate_left
              · (intro w hSw; (try dsimp only at hSw); go_simp; try with_reducible rfl)
              try simp only [Act.put, List.setIfInBounds_toArray, List.set_cons_zero, List.set_cons_succ]
              refine wpAnyH_take (i := 1) (oi := ⟨some 86, _, _, _, _, _⟩) (v := ?_) rfl (by kernel_rfl) (by kernel_rfl) (by kernel_rfl) (fun _ _ _ h => h) (Or.inl ⟨by rfl, ?_⟩) (by assumption) ?_
              rotate_left
              · (intro w hSw; (try dsimp only at hSw); go_simp; try with_reducible rfl)
              try simp only [Act.put, List.setIfInBounds_toArray, List.set_cons_zero, List.set_cons_succ]
              refine wpAnyH_take (i := 2) (oi := ⟨some 87, _, _, _, _, _⟩) (v := ?_) rfl (by kernel_rfl) (by kernel_rfl) (by kernel_rfl) (fun _ _ _ h => h) (Or.inl ⟨by rfl, ?_⟩) (by assumption) ?_
              rotate_left
              · (intro w hSw; (try dsimp only at hSw); go_simp; try with_reducible rfl)
              try simp only [Act.put, List.setIfInBounds_toArray, List.set_cons_zero, List.set_cons_succ]
              refine wpAnyH_take (i := 3) (oi := ⟨some 88, _, _, _, _, _⟩) (v := ?_) rfl (by kernel_rfl) (by kernel_rfl) (by kernel_rfl) (fun _ _ _ h => h) (Or.inl ⟨by rfl, ?_⟩) (by assumption) ?_
              rotate_left
              · (intro w hSw; (try dsimp only at hSw); go_simp; try with_reducible rfl)
              try simp only [Act.put, List.setIfInBounds_toArray, List.set_cons_zero, List.set_cons_succ]
              refine wpAnyH_take (i := 4) (oi := ⟨some 89, _, _, _, _, _⟩) (v := ?_) rfl (by kernel_rfl) (by kernel_rfl) (by kernel_rfl) (fun _ _ _ h => h) (Or.inl ⟨by rfl, ?_⟩) (by assumption) ?_
              rotate_left
              · (intro w hSw; (try dsimp only at hSw); go_simp; try with_reducible rfl)
              try simp only [Act.put, List.setIfInBounds_toArray, List.set_cons_zero, List.set_cons_succ]
              refine wpAnyH_take (i := 5) (oi := ⟨some 90, _, _, _, _, _⟩) (v := ?_) rfl (by kernel_rfl) (by kernel_rfl) (by kernel_rfl) (fun _ _ _ h => h) (Or.inl ⟨by rfl, ?_⟩) (by assumption) ?_
              rotate_left
              · (intro w hSw; (try dsimp only at hSw); go_simp; try with_reducible rfl)
              try simp only [Act.put, List.setIfInBounds_toArray, List.set_cons_zero, List.set_cons_succ]
              refine wpAnyH_take (i := 6) (oi := ⟨some 91, _, _, _, _, _⟩) (v := ?_) rfl (by kernel_rfl) (by kernel_rfl) (by kernel_rfl) (fun _ _ _ h => h) (Or.inl ⟨by rfl, ?_⟩) (by assumption) ?_
              rotate_left
              · (intro w hSw; (try dsimp only at hSw); go_simp; try with_reducible rfl)
              try simp only [Act.put, List.setIfInBounds_toArray, List.set_cons_zero, List.set_cons_succ]
              refine wpAnyH_take (i := 7) (oi := ⟨some 92, _, _, _, _, _⟩) (v := ?_) rfl (by kernel_rfl) (by kernel_rfl) (by kernel_rfl) (fun _ _ _ h => h) (Or.inl ⟨by rfl, ?_⟩) (by assumption) ?_
              rotate_left
              · (intro w hSw; (try dsimp only at hSw); go_simp; try with_reducible rfl)
              try simp only [Act.put, List.setIfInBounds_toArray, List.set_cons_zero, List.set_cons_succ]
              refine wpAnyH_take (i := 8) (oi := ⟨some 93, _, _, _, _, _⟩) (v := ?_) rfl (by kernel_rfl) (by kernel_rfl) (by kernel_rfl) (fun _ _ _ h => h) (Or.inl ⟨by rfl, ?_⟩) (by assumption) ?_
              rotate_left
              · (intro w hSw; (try dsimp only at hSw); go_simp; try with_reducible rfl)
              try simp only [Act.put, List.setIfInBounds_toArray, List.set_cons_zero, List.set_cons_succ]
              refine wpAnyH_take (i := 9) (oi := ⟨some 94, _, _, _, _, _⟩) (v := ?_) rfl (by kernel_rfl) (by kernel_rfl) (by kernel_rfl) (fun _ _ _ h => h) (Or.inl ⟨by rfl, ?_⟩) (by assumption) ?_
              rotate_left
              · (intro w hSw; (try dsimp only at hSw); go_simp; try with_reducible rfl)
              try simp only [Act.put, List.setIfInBounds_toArray, List.set_cons_zero, List.set_cons_succ]
              refine wpAnyH_take (i := 10) (oi := ⟨some 95, _, _, _, _, _⟩) (v := ?_) rfl (by kernel_rfl) (by kernel_rfl) (by kernel_rfl) (fun _ _ _ h => h) (Or.inl ⟨by rfl, ?_⟩) (by assumption) ?_
              rotate_left
              · (intro w hSw; (try dsimp only at hSw); go_simp; try with_reducible rfl)
              try simp only [Act.put, List.setIfInBounds_toArray, List.set_cons_zero, List.set_cons_succ]
              refine wpAnyH_take (i := 11) (oi := ⟨some 96, _, _, _, _, _⟩) (v := ?_) rfl (by kernel_rfl) (by kernel_rfl) (by kernel_rfl) (fun _ _ _ h => h) (Or.inl ⟨by rfl, ?_⟩) (by assumption) ?_
              rotate_left
              · (intro w hSw; (try dsimp only at hSw); go_simp; try with_reducible rfl)
              try simp only [Act.put, List.setIfInBounds_toArray, List.set_cons_zero, List.set_cons_succ]
              refine wpAnyH_take (i := 12) (oi := ⟨some 97, _, _, _, _, _⟩) (v := ?_) rfl (by kernel_rfl) (by kernel_rfl) (by kernel_rfl) (fun _ _ _ h => h) (Or.inl ⟨by rfl, ?_⟩) (by assumption) ?_
              rotate_left
              · (intro w hSw; (try dsimp only at hSw); go_simp; try with_reducible rfl)
              try simp only [Act.put, List.setIfInBounds_toArray, List.set_cons_zero, List.set_cons_succ]
              refine wpAnyH_take (i := 13) (oi := ⟨some 98, _, _, _, _, _⟩) (v := ?_) rfl (by kernel_rfl) (by kernel_rfl) (by kernel_rfl) (fun _ _ _ h => h) (Or.inl ⟨by rfl, ?_⟩) (by assumption) ?_
              rotate_left
              · (intro w hSw; (try dsimp only at hSw); go_simp; try with_reducible rfl)
              try simp only [Act.put, List.setIfInBounds_toArray, List.set_cons_zero, List.set_cons_succ]
              refine wpAnyH_take (i := 14) (oi := ⟨some 99, _, _, _, _, _⟩) (v := ?_) rfl (by kernel_rfl) (by kernel_rfl) (by kernel_rfl) (fun _ _ _ h => h) (Or.inl ⟨by rfl, ?_⟩) (by assumption) ?_
              rotate_left
              · (intro w hSw; (try dsimp only at hSw); go_simp; try with_reducible rfl)
              try simp only [Act.put, List.setIfInBounds_toArray, List.set_cons_zero, List.set_cons_succ]
              refine wpAnyH_take (i := 15) (oi := ⟨some 100, _, _, _, _, _⟩) (v := ?_) rfl (by kernel_rfl) (by kernel_rfl) (by kernel_rfl) (fun _ _ _ h => h) (Or.inl ⟨by rfl, ?_⟩) (by assumption) ?_
              rotate_left
              · (intro w hSw; (try dsimp only at hSw); go_simp; try with_reducible rfl)
              try simp only [Act.put, List.setIfInBounds_toArray, List.set_cons_zero, List.set_cons_succ]
              refine wpAnyH_take (i := 16) (oi := ⟨some 101, _, _, _, _, _⟩) (v := ?_) rfl (by kernel_rfl) (by kernel_rfl) (by kernel_rfl) (fun _ _ _ h => h) (Or.inl ⟨by rfl, ?_⟩) (by assumption) ?_
              rotate_left
              · (intro w hSw; (try dsimp only at hSw); go_simp; try with_reducible rfl)
              try simp only [Act.put, List.setIfInBounds_toArray, List.set_cons_zero, List.set_cons_succ]
              refine wpAnyH_done (by kernel_rfl) ?_ _
              clear h7 h8 hvv hgv hvb
              have xd := (show Ext w11 w11.drew from (Ext.refl _).drew)
              generalize w11.drew = wd at *
              obtain ⟨c0, c1, c2⟩ := box3 HBv.out (show Ext w11 wd from (by (repeat (first | assumption | exact Ext.refl _ | apply Ext.drew | apply Ext.drewN | apply Ext.alloc | refine Ext.trans ?_ (by assumption))); first | done | fail))
              go_wp2_with (first | ((with_reducible refine at_load_to 103 4 ?_); refine wpList_load_row rfl 25 _ rfl w.heap.size rfl 25 _ (0, 0) _ (HBv.out.ext (show Ext w11 wd from (by (repeat (first | assumption | exact Ext.refl _ | apply Ext.drew | apply Ext.drewN | apply Ext.alloc | refine Ext.trans ?_ (by assumption))); first | done | fail))).h Tryz.underlying25 rfl szS ?_) | fail)
              refine (public6_any).mono ?_
              rintro e w12 ⟨rfl, x⟩
              have x12 := Ext.trans (show Ext wd _ from (by (repeat (first | assumption | exact Ext.refl _ | apply Ext.drew | apply Ext.drewN | apply Ext.alloc | refine Ext.trans ?_ (by assumption))); first | done | fail)) x
              clear x
              obtain ⟨c0, c1, c2⟩ := box3 HBv.out (show Ext w11 w12 from (by (repeat (first | assumption | exact Ext.refl _ | apply Ext.drew | apply Ext.drewN | apply Ext.alloc | refine Ext.trans ?_ (by assumption))); first | done | fail))
              go_wp2_with fail
              refine (Hide_ok (QN.out.ext (by (repeat (first | assumption | exact Ext.refl _ | apply Ext.drew | apply Ext.drewN | apply Ext.alloc | refine Ext.trans ?_ (by assumption))); first | done | fail)) (QE.out.ext (by (repeat (first | assumption | exact Ext.refl _ | apply Ext.drew | apply Ext.drewN | apply Ext.alloc | refine Ext.trans ?_ (by assumption))); first | done | fail)) (QT.out.ext (by (repeat (first | assumption | exact Ext.refl _ | apply Ext.drew | apply Ext.drewN | apply Ext.alloc | refine Ext.trans ?_ (by assumption))); first | done | fail)) (QF.out.ext (by (repeat (first | assumption | exact Ext.refl _ | apply Ext.drew | apply Ext.drewN | apply Ext.alloc | refine Ext.trans ?_ (by assumption))); first | done | fail)) (by omega) (by omega) HP.out.1 (by rw [HS.out]; exact H1.out) (by rw [HS.out]; exact H2.out) H3.out H4.out).mono ?_
              rintro e w13 ⟨A5, c5, rfl, s5, _, x⟩
              have x13 := Ext.trans (show Ext w12 _ from (by (repeat (first | assumption | exact Ext.refl _ | apply Ext.drew | apply Ext.drewN | apply Ext.alloc | refine Ext.trans ?_ (by assumption))); first | done | fail)) x
              clear x
              rw [HS.out] at s5 ⊢
              have S5 := Kp.mk s5
              clear s5
              obtain ⟨c0, c1, c2⟩ := box3 HBv.out (show Ext w11 w13 from (by (repeat (first | assumption | exact Ext.refl _ | apply Ext.drew | apply Ext.drewN | apply Ext.alloc | refine Ext.trans ?_ (by assumption))); first | done | fail))
              go_wp2_with fail
              refine (refSize_any (QN.out.ext (by (repeat (first | assumption | exact Ext.refl _ | apply Ext.drew | apply Ext.drewN | apply Ext.alloc | refine Ext.trans ?_ (by assumption))); first | done | fail)) bN.out (by decide)).mono ?_
              rintro e w14 ⟨rfl, x⟩
              have x14 := Ext.trans (show Ext w13 _ from (by (repeat (first | assumption | exact Ext.refl _ | apply Ext.drew | apply Ext.drewN | apply Ext.alloc | refine Ext.trans ?_ (by assumption))); first | done | fail)) x
              clear x
              rw [HS.out]
              obtain ⟨c0, c1, c2⟩ := box3 HBv.out (show Ext w11 w14 from (by (repeat (first | assumption | exact Ext.refl _ | apply Ext.drew | apply Ext.drewN | apply Ext.alloc | refine Ext.trans ?_ (by assumption))); first | done | fail))
              go_wp2_with fail
              refine (Hid_ok (QT.out.ext (by (repeat (first | assumption | exact Ext.refl _ | apply Ext.drew | apply Ext.drewN | apply Ext.alloc | refine Ext.trans ?_ (by assumption))); first | done | fail)) (QF.out.ext (by (repeat (first | assumption | exact Ext.refl _ | apply Ext.drew | apply Ext.drewN | apply Ext.alloc | refine Ext.trans ?_ (by assumption))); first | done | fail)) (by omega) H1.out H2.out H3.out).mono ?_
              rintro e w15 ⟨A4, c4, rfl, s4, x⟩
              have x15 := Ext.trans (show Ext w14 _ from (by (repeat (first | assumption | exact Ext.refl _ | apply Ext.drew | apply Ext.drewN | apply Ext.alloc | refine Ext.trans ?_ (by assumption))); first | done | fail)) x
              clear x
              have S4 := Kp.mk s4
              clear s4
              obtain ⟨c0, c1, c2⟩ := box3 HBv.out (show Ext w11 w15 from (by (repeat (first | assumption | exact Ext.refl _ | apply Ext.drew | apply Ext.drewN | apply Ext.alloc | refine Ext.trans ?_ (by assumption))); first | done | fail))
              go_wp2_with fail
              refine (Power_some (S5.out.ext (by (repeat (first | assumption | exact Ext.refl _ | apply Ext.drew | apply Ext.drewN | apply Ext.alloc | refine Ext.trans ?_ (by assumption))); first | done | fail)) (QD.out.ext (by (repeat (first | assumption | exact Ext.refl _ | apply Ext.drew | apply Ext.drewN | apply Ext.alloc | refine Ext.trans ?_ (by assumption))); first | done | fail)) (QN.out.ext (by (repeat (first | assumption | exact Ext.refl _ | apply Ext.drew | apply Ext.drewN | apply Ext.alloc | refine Ext.trans ?_ (by assumption))); first | done | fail)) bD.out (by decide) HP.out.1.2.1 HP.out.1.n0 H5.out).mono ?_
              rintro e w16 ⟨A3, c3_, rfl, s3, x⟩
              have x16 := Ext.trans (show Ext w15 _ from (by (repeat (first | assumption | exact Ext.refl _ | apply Ext.drew | apply Ext.drewN | apply Ext.alloc | refine Ext.trans ?_ (by assumption))); first | done | fail)) x
              clear x
              rw [HS.out] at s3 ⊢
              have S3 := Kp.mk s3
              clear s3
              obtain ⟨c0, c1, c2⟩ := box3 HBv.out (show Ext w11 w16 from (by (repeat (first | assumption | exact Ext.refl _ | apply Ext.drew | apply Ext.drewN | apply Ext.alloc | refine Ext.trans ?_ (by assumption))); first | done | fail))
              go_wp2_with (first | ((with_reducible refine at_load_to 132 4 ?_); refine wpList_load_row rfl 25 _ rfl w.heap.size rfl 25 _ (0, 0) _ (HBv.out.ext (show Ext w11 w16 from (by (repeat (first | assumption | exact Ext.refl _ | apply Ext.drew | apply Ext.drewN | apply Ext.alloc | refine Ext.trans ?_ (by assumption))); first | done | fail))).h Tryz.underlying25 rfl szS ?_) | fail)
              refine (Show_pad (QN.out.ext (by (repeat (first | assumption | exact Ext.refl _ | apply Ext.drew | apply Ext.drewN | apply Ext.alloc | refine Ext.trans ?_ (by assumption))); first | done | fail)) (QE.out.ext (by (repeat (first | assumption | exact Ext.refl _ | apply Ext.drew | apply Ext.drewN | apply Ext.alloc | refine Ext.trans ?_ (by assumption))); first | done | fail)) (QD.out.ext (by (repeat (first | assumption | exact Ext.refl _ | apply Ext.drew | apply Ext.drewN | apply Ext.alloc | refine Ext.trans ?_ (by assumption))); first | done | fail)) (S5.out.ext (by (repeat (first | assumption | exact Ext.refl _ | apply Ext.drew | apply Ext.drewN | apply Ext.alloc | refine Ext.trans ?_ (by assumption))); first | done | fail)) HP.out H5.out HT6.out).mono ?_
              rintro e w17 ⟨rfl, x⟩
              have x17 := Ext.trans (show Ext w16 _ from (by (repeat (first | assumption | exact Ext.refl _ | apply Ext.drew | apply Ext.drewN | apply Ext.alloc | refine Ext.trans ?_ (by assumption))); first | done | fail)) x
              clear x
              have k3 := (S3.out.ext (show Ext _ w17 from (by (repeat (first | assumption | exact Ext.refl _ | apply Ext.drew | apply Ext.drewN | apply Ext.alloc | refine Ext.trans ?_ (by assumption))); first | done | fail))).str (Ext.refl _)
              have k4 := (S4.out.ext (show Ext _ w17 from (by (repeat (first | assumption | exact Ext.refl _ | apply Ext.drew | apply Ext.drewN | apply Ext.alloc | refine Ext.trans ?_ (by assumption))); first | done | fail))).str (Ext.refl _)
              have kt := (QT.out.ext (show Ext _ w17 from (by (repeat (first | assumption | exact Ext.refl _ | apply Ext.drew | apply Ext.drewN | apply Ext.alloc | refine Ext.trans ?_ (by assumption))); first | done | fail))).str (Ext.refl _)
              have hq1 := HQ1.out
              have hq2 : ((strOf c3).toList != (strOf (hdL lf lt)).toList) = true := by unfold bne; rw [hq1]; rfl
              have HXX := Kp.mk (show Ext w11 w17 from (by (repeat (first | assumption | exact Ext.refl _ | apply Ext.drew | apply Ext.drewN | apply Ext.alloc | refine Ext.trans ?_ (by assumption))); first | done | fail))
              clear xd x12 x13 x14 x15 x16 x17
              go_wp2_with fail
              go_ret
              exact ⟨by first | rfl | simp, (HX.out.trans HXX.out).b⟩
end Go.Proofs.YticggkllfojgkaaGreatDoor
