/-
  The walk of the law RsaHides.
-/
import Derived.Test.YticggkllfojgkaaDoorM20
import Derived.Test.YticggkllfojgkaaDoorM21
namespace Go.Proofs.YticggkllfojgkaaDoor
open Go Go.RowKit
set_option maxRecDepth 4000

set_option maxHeartbeats 8000000 in
set_option maxRecDepth 100000 in
theorem RsaHides_any {w : World} {AN AE At Af : Option Addr} {nN nE nt nf cN cE ct cf : Nat} {lN lE : List Nat} {lt lf : List (BitVec 8)} (hN : Nk w AN nN cN lN) (hE : Nk w AE nE cE lE) (ht : Bs w At nt ct lt) (hf : Bs w Af nf cf lf) :
    Calls Tryd.prog 3 #[.agg #[.slice AN nN cN, .slice AE nE cE], .slice At nt ct, .slice Af nf cf] w fun e w' => e = .returned (.bool true) ∧ Below w.heap.size w w' := by
  have HU := Kp.mk (fun u => up6_any u)
  have HB := Kp.mk (Blk.new w 25 #[.slice AN nN cN, .slice AE nE cE])
  have hways : ¬ (nN ≤ 70 ∧ nE ≤ 70 ∧ 0 ≤ 70) ∨ ((nN ≤ 70 ∧ nE ≤ 70 ∧ 0 ≤ 70) ∧ 2 < nE) ∨ ((nN ≤ 70 ∧ nE ≤ 70 ∧ 0 ≤ 70) ∧ ¬ 2 < nE ∧ 300 < nt) ∨ ((nN ≤ 70 ∧ nE ≤ 70 ∧ 0 ≤ 70) ∧ ¬ 2 < nE ∧ ¬ 300 < nt ∧ 300 < nf) ∨ ((nN ≤ 70 ∧ nE ≤ 70 ∧ 0 ≤ 70) ∧ ¬ 2 < nE ∧ ¬ 300 < nt ∧ ¬ 300 < nf) := by omega
  rcases hways with hl | ⟨hl, h1⟩ | ⟨hl, h1, h2⟩ | ⟨hl, h1, h2, h3⟩ | ⟨hl, h1, h2, h3⟩
  · have HL := Kp.mk hl
    clear hl hN hE ht hf 
    go_enter Tryd.func3, Tryd.ntmps3
    go_wp2_with fail
    refine (HU.out _).mono ?_
    rintro e w1 ⟨rfl, x⟩
    have x1 := x
    clear x
    obtain ⟨c0, c1⟩ := box2 HB.out (show Ext (w.alloc (.cells #[.slice AN nN cN, .slice AE nE cE] 25)) w1 from (by (repeat (first | assumption | exact Ext.refl _ | apply Ext.drew | apply Ext.drewN | apply Ext.alloc | refine Ext.trans ?_ (by assumption))); first | done | fail))
    go_wp2_with fail
    refine (light6_any (D := none) (k := 0) (f := 0) false ⟨(fun h => nomatch h), fun h => absurd h HL.out⟩).mono ?_
    rintro e w2 ⟨rfl, x⟩
    have x2 := Ext.trans (show Ext w1 _ from (by (repeat (first | assumption | exact Ext.refl _ | apply Ext.drew | apply Ext.drewN | apply Ext.alloc | refine Ext.trans ?_ (by assumption))); first | done | fail)) x
    clear x
    obtain ⟨c0, c1⟩ := box2 HB.out (show Ext (w.alloc (.cells #[.slice AN nN cN, .slice AE nE cE] 25)) w2 from (by (repeat (first | assumption | exact Ext.refl _ | apply Ext.drew | apply Ext.drewN | apply Ext.alloc | refine Ext.trans ?_ (by assumption))); first | done | fail))
    have HX := Kp.mk (show Ext w w2 from (by (repeat (first | assumption | exact Ext.refl _ | apply Ext.drew | apply Ext.drewN | apply Ext.alloc | refine Ext.trans ?_ (by assumption))); first | done | fail))
    clear x1 x2
    go_wp2_with fail
    go_ret
    exact ⟨rfl, HX.out.b⟩
  · have HL := Kp.mk hl
    have g0 : (2 : Int) < (nE : Int) := by omega
    have g0' : 2 < nE := by omega
    clear hl hN hE ht hf h1
    go_enter Tryd.func3, Tryd.ntmps3
    go_wp2_with fail
    refine (HU.out _).mono ?_
    rintro e w1 ⟨rfl, x⟩
    have x1 := x
    clear x
    obtain ⟨c0, c1⟩ := box2 HB.out (show Ext (w.alloc (.cells #[.slice AN nN cN, .slice AE nE cE] 25)) w1 from (by (repeat (first | assumption | exact Ext.refl _ | apply Ext.drew | apply Ext.drewN | apply Ext.alloc | refine Ext.trans ?_ (by assumption))); first | done | fail))
    go_wp2_with fail
    refine (light6_any (D := none) (k := 0) (f := 0) true ⟨fun _ => HL.out, fun _ => rfl⟩).mono ?_
    rintro e w2 ⟨rfl, x⟩
    have x2 := Ext.trans (show Ext w1 _ from (by (repeat (first | assumption | exact Ext.refl _ | apply Ext.drew | apply Ext.drewN | apply Ext.alloc | refine Ext.trans ?_ (by assumption))); first | done | fail)) x
    clear x
    obtain ⟨c0, c1⟩ := box2 HB.out (show Ext (w.alloc (.cells #[.slice AN nN cN, .slice AE nE cE] 25)) w2 from (by (repeat (first | assumption | exact Ext.refl _ | apply Ext.drew | apply Ext.drewN | apply Ext.alloc | refine Ext.trans ?_ (by assumption))); first | done | fail))
    have HX := Kp.mk (show Ext w w2 from (by (repeat (first | assumption | exact Ext.refl _ | apply Ext.drew | apply Ext.drewN | apply Ext.alloc | refine Ext.trans ?_ (by assumption))); first | done | fail))
    clear x1 x2
    go_wp2_with fail
    go_ret
    exact ⟨rfl, HX.out.b⟩
  · have HL := Kp.mk hl
    have g0 : decide ((2 : Int) < (nE : Int)) = false := decide_eq_false (by omega)
    have g0' : decide (2 < nE) = false := decide_eq_false (by omega)
    have g1 : (300 : Int) < (nt : Int) := by omega
    have g1' : 300 < nt := by omega
    clear hl hN hE ht hf h1 h2
    go_enter Tryd.func3, Tryd.ntmps3
    go_wp2_with fail
    refine (HU.out _).mono ?_
    rintro e w1 ⟨rfl, x⟩
    have x1 := x
    clear x
    obtain ⟨c0, c1⟩ := box2 HB.out (show Ext (w.alloc (.cells #[.slice AN nN cN, .slice AE nE cE] 25)) w1 from (by (repeat (first | assumption | exact Ext.refl _ | apply Ext.drew | apply Ext.drewN | apply Ext.alloc | refine Ext.trans ?_ (by assumption))); first | done | fail))
    go_wp2_with fail
    refine (light6_any (D := none) (k := 0) (f := 0) true ⟨fun _ => HL.out, fun _ => rfl⟩).mono ?_
    rintro e w2 ⟨rfl, x⟩
    have x2 := Ext.trans (show Ext w1 _ from (by (repeat (first | assumption | exact Ext.refl _ | apply Ext.drew | apply Ext.drewN | apply Ext.alloc | refine Ext.trans ?_ (by assumption))); first | done | fail)) x
    clear x
    obtain ⟨c0, c1⟩ := box2 HB.out (show Ext (w.alloc (.cells #[.slice AN nN cN, .slice AE nE cE] 25)) w2 from (by (repeat (first | assumption | exact Ext.refl _ | apply Ext.drew | apply Ext.drewN | apply Ext.alloc | refine Ext.trans ?_ (by assumption))); first | done | fail))
    have HX := Kp.mk (show Ext w w2 from (by (repeat (first | assumption | exact Ext.refl _ | apply Ext.drew | apply Ext.drewN | apply Ext.alloc | refine Ext.trans ?_ (by assumption))); first | done | fail))
    clear x1 x2
    go_wp2_with fail
    go_ret
    exact ⟨rfl, HX.out.b⟩
  · have HL := Kp.mk hl
    have g0 : decide ((2 : Int) < (nE : Int)) = false := decide_eq_false (by omega)
    have g0' : decide (2 < nE) = false := decide_eq_false (by omega)
    have g1 : decide ((300 : Int) < (nt : Int)) = false := decide_eq_false (by omega)
    have g1' : decide (300 < nt) = false := decide_eq_false (by omega)
    have g2 : (300 : Int) < (nf : Int) := by omega
    have g2' : 300 < nf := by omega
    clear hl hN hE ht hf h1 h2 h3
    go_enter Tryd.func3, Tryd.ntmps3
    go_wp2_with fail
    refine (HU.out _).mono ?_
    rintro e w1 ⟨rfl, x⟩
    have x1 := x
    clear x
    obtain ⟨c0, c1⟩ := box2 HB.out (show Ext (w.alloc (.cells #[.slice AN nN cN, .slice AE nE cE] 25)) w1 from (by (repeat (first | assumption | exact Ext.refl _ | apply Ext.drew | apply Ext.drewN | apply Ext.alloc | refine Ext.trans ?_ (by assumption))); first | done | fail))
    go_wp2_with fail
    refine (light6_any (D := none) (k := 0) (f := 0) true ⟨fun _ => HL.out, fun _ => rfl⟩).mono ?_
    rintro e w2 ⟨rfl, x⟩
    have x2 := Ext.trans (show Ext w1 _ from (by (repeat (first | assumption | exact Ext.refl _ | apply Ext.drew | apply Ext.drewN | apply Ext.alloc | refine Ext.trans ?_ (by assumption))); first | done | fail)) x
    clear x
    obtain ⟨c0, c1⟩ := box2 HB.out (show Ext (w.alloc (.cells #[.slice AN nN cN, .slice AE nE cE] 25)) w2 from (by (repeat (first | assumption | exact Ext.refl _ | apply Ext.drew | apply Ext.drewN | apply Ext.alloc | refine Ext.trans ?_ (by assumption))); first | done | fail))
    have HX := Kp.mk (show Ext w w2 from (by (repeat (first | assumption | exact Ext.refl _ | apply Ext.drew | apply Ext.drewN | apply Ext.alloc | refine Ext.trans ?_ (by assumption))); first | done | fail))
    clear x1 x2
    go_wp2_with fail
    go_ret
    exact ⟨rfl, HX.out.b⟩
  · have HL := Kp.mk hl
    have g0 : decide ((2 : Int) < (nE : Int)) = false := decide_eq_false (by omega)
    have g0' : decide (2 < nE) = false := decide_eq_false (by omega)
    have g1 : decide ((300 : Int) < (nt : Int)) = false := decide_eq_false (by omega)
    have g1' : decide (300 < nt) = false := decide_eq_false (by omega)
    have g2 : decide ((300 : Int) < (nf : Int)) = false := decide_eq_false (by omega)
    have g2' : decide (300 < nf) = false := decide_eq_false (by omega)
    have NN := Kp.mk (Nv.small hN.r hN.d (by omega))
    have bN := Kp.mk (Nat.lt_of_lt_of_le (vl_len hN.r hN.d) (Nat.pow_le_pow_right (n := BB) (by decide) (show nN ≤ 70 by omega)))
    obtain ⟨vN, hvN⟩ : ∃ v, vl BB lN = v := ⟨_, rfl⟩
    rw [hvN] at NN bN
    clear hN hvN
    have NE := Kp.mk (Nv.small hE.r hE.d (by omega))
    have bE := Kp.mk (Nat.lt_of_lt_of_le (vl_len hE.r hE.d) (Nat.pow_le_pow_right (n := BB) (by decide) (show nE ≤ 70 by omega)))
    obtain ⟨vE, hvE⟩ : ∃ v, vl BB lE = v := ⟨_, rfl⟩
    rw [hvE] at NE bE
    clear hE hvE
    have HT := Kp.mk ht
    have HF := Kp.mk hf
    have hlen := hf.len
    have ht3 : nt ≤ 300 := by omega
    have hf3 : nf ≤ 300 := by omega
    have e1 := code_eq 1 1
    have e4 := code_eq 4 4
    clear hl h1 h2 h3 ht hf
    obtain ⟨N, hN⟩ : ∃ N, nb vN = N := ⟨_, rfl⟩
    have HS := Kp.mk hN
    by_cases hp : PubOk vN vE
    rotate_left
    · have HP := Kp.mk hp
      clear hp hN hlen
      go_enter Tryd.func3, Tryd.ntmps3
      go_wp2_with fail
      refine (HU.out _).mono ?_
      rintro e w1 ⟨rfl, x⟩
      have x1 := x
      clear x
      obtain ⟨c0, c1⟩ := box2 HB.out (show Ext (w.alloc (.cells #[.slice AN nN cN, .slice AE nE cE] 25)) w1 from (by (repeat (first | assumption | exact Ext.refl _ | apply Ext.drew | apply Ext.drewN | apply Ext.alloc | refine Ext.trans ?_ (by assumption))); first | done | fail))
      go_wp2_with fail
      refine (light6_any (D := none) (k := 0) (f := 0) true ⟨fun _ => HL.out, fun _ => rfl⟩).mono ?_
      rintro e w2 ⟨rfl, x⟩
      have x2 := Ext.trans (show Ext w1 _ from (by (repeat (first | assumption | exact Ext.refl _ | apply Ext.drew | apply Ext.drewN | apply Ext.alloc | refine Ext.trans ?_ (by assumption))); first | done | fail)) x
      clear x
      obtain ⟨c0, c1⟩ := box2 HB.out (show Ext (w.alloc (.cells #[.slice AN nN cN, .slice AE nE cE] 25)) w2 from (by (repeat (first | assumption | exact Ext.refl _ | apply Ext.drew | apply Ext.drewN | apply Ext.alloc | refine Ext.trans ?_ (by assumption))); first | done | fail))
      go_wp2_with (first | ((with_reducible refine at_load_to 43 3 ?_); refine wpList_load_row rfl 25 _ rfl w.heap.size rfl 25 _ (0, 0) _ (HB.out.ext (show Ext (w.alloc (.cells #[.slice AN nN cN, .slice AE nE cE] 25)) w2 from (by (repeat (first | assumption | exact Ext.refl _ | apply Ext.drew | apply Ext.drewN | apply Ext.alloc | refine Ext.trans ?_ (by assumption))); first | done | fail))).h Tryd.underlying25 rfl szP2 ?_) | fail)
      refine (Hide_arg (NN.out.ext (by (repeat (first | assumption | exact Ext.refl _ | apply Ext.drew | apply Ext.drewN | apply Ext.alloc | refine Ext.trans ?_ (by assumption))); first | done | fail)) (NE.out.ext (by (repeat (first | assumption | exact Ext.refl _ | apply Ext.drew | apply Ext.drewN | apply Ext.alloc | refine Ext.trans ?_ (by assumption))); first | done | fail)) (HT.out.ext (by (repeat (first | assumption | exact Ext.refl _ | apply Ext.drew | apply Ext.drewN | apply Ext.alloc | refine Ext.trans ?_ (by assumption))); first | done | fail)) (HF.out.ext (by (repeat (first | assumption | exact Ext.refl _ | apply Ext.drew | apply Ext.drewN | apply Ext.alloc | refine Ext.trans ?_ (by assumption))); first | done | fail)) (by omega) (by omega) HP.out).mono ?_
      rintro e w3 ⟨rfl, x⟩
      have x3 := Ext.trans (show Ext w2 _ from (by (repeat (first | assumption | exact Ext.refl _ | apply Ext.drew | apply Ext.drewN | apply Ext.alloc | refine Ext.trans ?_ (by assumption))); first | done | fail)) x
      clear x
      obtain ⟨c0, c1⟩ := box2 HB.out (show Ext (w.alloc (.cells #[.slice AN nN cN, .slice AE nE cE] 25)) w3 from (by (repeat (first | assumption | exact Ext.refl _ | apply Ext.drew | apply Ext.drewN | apply Ext.alloc | refine Ext.trans ?_ (by assumption))); first | done | fail))
      go_wp2_with (first | ((with_reducible refine at_load_to 49 3 ?_); refine wpList_load_row rfl 25 _ rfl w.heap.size rfl 25 _ (0, 0) _ (HB.out.ext (show Ext (w.alloc (.cells #[.slice AN nN cN, .slice AE nE cE] 25)) w3 from (by (repeat (first | assumption | exact Ext.refl _ | apply Ext.drew | apply Ext.drewN | apply Ext.alloc | refine Ext.trans ?_ (by assumption))); first | done | fail))).h Tryd.underlying25 rfl szP2 ?_) | fail)
      refine (refPublic_any (NN.out.ext (by (repeat (first | assumption | exact Ext.refl _ | apply Ext.drew | apply Ext.drewN | apply Ext.alloc | refine Ext.trans ?_ (by assumption))); first | done | fail)) (NE.out.ext (by (repeat (first | assumption | exact Ext.refl _ | apply Ext.drew | apply Ext.drewN | apply Ext.alloc | refine Ext.trans ?_ (by assumption))); first | done | fail)) bN.out bE.out (by decide) (by decide) false (by simp [HP.out])).mono ?_
      rintro e w4 ⟨rfl, x⟩
      have x4 := Ext.trans (show Ext w3 _ from (by (repeat (first | assumption | exact Ext.refl _ | apply Ext.drew | apply Ext.drewN | apply Ext.alloc | refine Ext.trans ?_ (by assumption))); first | done | fail)) x
      clear x
      obtain ⟨c0, c1⟩ := box2 HB.out (show Ext (w.alloc (.cells #[.slice AN nN cN, .slice AE nE cE] 25)) w4 from (by (repeat (first | assumption | exact Ext.refl _ | apply Ext.drew | apply Ext.drewN | apply Ext.alloc | refine Ext.trans ?_ (by assumption))); first | done | fail))
      have HX := Kp.mk (show Ext w w4 from (by (repeat (first | assumption | exact Ext.refl _ | apply Ext.drew | apply Ext.drewN | apply Ext.alloc | refine Ext.trans ?_ (by assumption))); first | done | fail))
      clear x1 x2 x3 x4
      go_wp2_with fail
      go_ret
      exact ⟨rfl, HX.out.b⟩
    · by_cases g5 : N < nt + 11
      · have HP := Kp.mk hp
        have H1 := Kp.mk g5
        clear hp hN hlen g5
        go_enter Tryd.func3, Tryd.ntmps3
        go_wp2_with fail
        refine (HU.out _).mono ?_
        rintro e w1 ⟨rfl, x⟩
        have x1 := x
        clear x
        obtain ⟨c0, c1⟩ := box2 HB.out (show Ext (w.alloc (.cells #[.slice AN nN cN, .slice AE nE cE] 25)) w1 from (by (repeat (first | assumption | exact Ext.refl _ | apply Ext.drew | apply Ext.drewN | apply Ext.alloc | refine Ext.trans ?_ (by assumption))); first | done | fail))
        go_wp2_with fail
        refine (light6_any (D := none) (k := 0) (f := 0) true ⟨fun _ => HL.out, fun _ => rfl⟩).mono ?_
        rintro e w2 ⟨rfl, x⟩
        have x2 := Ext.trans (show Ext w1 _ from (by (repeat (first | assumption | exact Ext.refl _ | apply Ext.drew | apply Ext.drewN | apply Ext.alloc | refine Ext.trans ?_ (by assumption))); first | done | fail)) x
        clear x
        obtain ⟨c0, c1⟩ := box2 HB.out (show Ext (w.alloc (.cells #[.slice AN nN cN, .slice AE nE cE] 25)) w2 from (by (repeat (first | assumption | exact Ext.refl _ | apply Ext.drew | apply Ext.drewN | apply Ext.alloc | refine Ext.trans ?_ (by assumption))); first | done | fail))
        go_wp2_with (first | ((with_reducible refine at_load_to 43 3 ?_); refine wpList_load_row rfl 25 _ rfl w.heap.size rfl 25 _ (0, 0) _ (HB.out.ext (show Ext (w.alloc (.cells #[.slice AN nN cN, .slice AE nE cE] 25)) w2 from (by (repeat (first | assumption | exact Ext.refl _ | apply Ext.drew | apply Ext.drewN | apply Ext.alloc | refine Ext.trans ?_ (by assumption))); first | done | fail))).h Tryd.underlying25 rfl szP2 ?_) | fail)
        refine (Hide_long (NN.out.ext (by (repeat (first | assumption | exact Ext.refl _ | apply Ext.drew | apply Ext.drewN | apply Ext.alloc | refine Ext.trans ?_ (by assumption))); first | done | fail)) (NE.out.ext (by (repeat (first | assumption | exact Ext.refl _ | apply Ext.drew | apply Ext.drewN | apply Ext.alloc | refine Ext.trans ?_ (by assumption))); first | done | fail)) (HT.out.ext (by (repeat (first | assumption | exact Ext.refl _ | apply Ext.drew | apply Ext.drewN | apply Ext.alloc | refine Ext.trans ?_ (by assumption))); first | done | fail)) (HF.out.ext (by (repeat (first | assumption | exact Ext.refl _ | apply Ext.drew | apply Ext.drewN | apply Ext.alloc | refine Ext.trans ?_ (by assumption))); first | done | fail)) (by omega) (by omega) HP.out (by rw [HS.out]; exact H1.out)).mono ?_
        rintro e w3 ⟨rfl, x⟩
        have x3 := Ext.trans (show Ext w2 _ from (by (repeat (first | assumption | exact Ext.refl _ | apply Ext.drew | apply Ext.drewN | apply Ext.alloc | refine Ext.trans ?_ (by assumption))); first | done | fail)) x
        clear x
        obtain ⟨c0, c1⟩ := box2 HB.out (show Ext (w.alloc (.cells #[.slice AN nN cN, .slice AE nE cE] 25)) w3 from (by (repeat (first | assumption | exact Ext.refl _ | apply Ext.drew | apply Ext.drewN | apply Ext.alloc | refine Ext.trans ?_ (by assumption))); first | done | fail))
        go_wp2_with (first | ((with_reducible refine at_load_to 49 3 ?_); refine wpList_load_row rfl 25 _ rfl w.heap.size rfl 25 _ (0, 0) _ (HB.out.ext (show Ext (w.alloc (.cells #[.slice AN nN cN, .slice AE nE cE] 25)) w3 from (by (repeat (first | assumption | exact Ext.refl _ | apply Ext.drew | apply Ext.drewN | apply Ext.alloc | refine Ext.trans ?_ (by assumption))); first | done | fail))).h Tryd.underlying25 rfl szP2 ?_) | fail)
        refine (refPublic_any (NN.out.ext (by (repeat (first | assumption | exact Ext.refl _ | apply Ext.drew | apply Ext.drewN | apply Ext.alloc | refine Ext.trans ?_ (by assumption))); first | done | fail)) (NE.out.ext (by (repeat (first | assumption | exact Ext.refl _ | apply Ext.drew | apply Ext.drewN | apply Ext.alloc | refine Ext.trans ?_ (by assumption))); first | done | fail)) bN.out bE.out (by decide) (by decide) true (by simp [HP.out])).mono ?_
        rintro e w4 ⟨rfl, x⟩
        have x4 := Ext.trans (show Ext w3 _ from (by (repeat (first | assumption | exact Ext.refl _ | apply Ext.drew | apply Ext.drewN | apply Ext.alloc | refine Ext.trans ?_ (by assumption))); first | done | fail)) x
        clear x
        obtain ⟨c0, c1⟩ := box2 HB.out (show Ext (w.alloc (.cells #[.slice AN nN cN, .slice AE nE cE] 25)) w4 from (by (repeat (first | assumption | exact Ext.refl _ | apply Ext.drew | apply Ext.drewN | apply Ext.alloc | refine Ext.trans ?_ (by assumption))); first | done | fail))
        go_wp2_with fail
        refine (refSize_any (NN.out.ext (by (repeat (first | assumption | exact Ext.refl _ | apply Ext.drew | apply Ext.drewN | apply Ext.alloc | refine Ext.trans ?_ (by assumption))); first | done | fail)) bN.out (by decide)).mono ?_
        rintro e w5 ⟨rfl, x⟩
        have x5 := Ext.trans (show Ext w4 _ from (by (repeat (first | assumption | exact Ext.refl _ | apply Ext.drew | apply Ext.drewN | apply Ext.alloc | refine Ext.trans ?_ (by assumption))); first | done | fail)) x
        clear x
        rw [HS.out]
        obtain ⟨c0, c1⟩ := box2 HB.out (show Ext (w.alloc (.cells #[.slice AN nN cN, .slice AE nE cE] 25)) w5 from (by (repeat (first | assumption | exact Ext.refl _ | apply Ext.drew | apply Ext.drewN | apply Ext.alloc | refine Ext.trans ?_ (by assumption))); first | done | fail))
        go_wp2_with fail
        refine (Hid_long (HT.out.ext (by (repeat (first | assumption | exact Ext.refl _ | apply Ext.drew | apply Ext.drewN | apply Ext.alloc | refine Ext.trans ?_ (by assumption))); first | done | fail)) (by have := HP.out.2.1; rw [HS.out] at this; omega) H1.out (by have := HP.out.1; rw [HS.out] at this; omega) (by omega)).mono ?_
        rintro e w6 ⟨rfl, x⟩
        have x6 := Ext.trans (show Ext w5 _ from (by (repeat (first | assumption | exact Ext.refl _ | apply Ext.drew | apply Ext.drewN | apply Ext.alloc | refine Ext.trans ?_ (by assumption))); first | done | fail)) x
        clear x
        have HX := Kp.mk (show Ext w w6 from (by (repeat (first | assumption | exact Ext.refl _ | apply Ext.drew | apply Ext.drewN | apply Ext.alloc | refine Ext.trans ?_ (by assumption))); first | done | fail))
        clear x1 x2 x3 x4 x5 x6
        go_wp2_with fail
        go_ret
        exact ⟨rfl, HX.out.b⟩
      · by_cases hbad : nf ≠ N - 3 - nt ∨ fz lf < lf.length
        · have HP := Kp.mk hp
          have H1 := Kp.mk (Nat.le_of_not_lt g5)
          have H2 := Kp.mk hbad
          clear hp hN hlen g5 hbad
          go_enter Tryd.func3, Tryd.ntmps3
          go_wp2_with fail
          refine (HU.out _).mono ?_
          rintro e w1 ⟨rfl, x⟩
          have x1 := x
          clear x
          obtain ⟨c0, c1⟩ := box2 HB.out (show Ext (w.alloc (.cells #[.slice AN nN cN, .slice AE nE cE] 25)) w1 from (by (repeat (first | assumption | exact Ext.refl _ | apply Ext.drew | apply Ext.drewN | apply Ext.alloc | refine Ext.trans ?_ (by assumption))); first | done | fail))
          go_wp2_with fail
          refine (light6_any (D := none) (k := 0) (f := 0) true ⟨fun _ => HL.out, fun _ => rfl⟩).mono ?_
          rintro e w2 ⟨rfl, x⟩
          have x2 := Ext.trans (show Ext w1 _ from (by (repeat (first | assumption | exact Ext.refl _ | apply Ext.drew | apply Ext.drewN | apply Ext.alloc | refine Ext.trans ?_ (by assumption))); first | done | fail)) x
          clear x
          obtain ⟨c0, c1⟩ := box2 HB.out (show Ext (w.alloc (.cells #[.slice AN nN cN, .slice AE nE cE] 25)) w2 from (by (repeat (first | assumption | exact Ext.refl _ | apply Ext.drew | apply Ext.drewN | apply Ext.alloc | refine Ext.trans ?_ (by assumption))); first | done | fail))
          go_wp2_with (first | ((with_reducible refine at_load_to 43 3 ?_); refine wpList_load_row rfl 25 _ rfl w.heap.size rfl 25 _ (0, 0) _ (HB.out.ext (show Ext (w.alloc (.cells #[.slice AN nN cN, .slice AE nE cE] 25)) w2 from (by (repeat (first | assumption | exact Ext.refl _ | apply Ext.drew | apply Ext.drewN | apply Ext.alloc | refine Ext.trans ?_ (by assumption))); first | done | fail))).h Tryd.underlying25 rfl szP2 ?_) | fail)
          refine (Hide_fill (NN.out.ext (by (repeat (first | assumption | exact Ext.refl _ | apply Ext.drew | apply Ext.drewN | apply Ext.alloc | refine Ext.trans ?_ (by assumption))); first | done | fail)) (NE.out.ext (by (repeat (first | assumption | exact Ext.refl _ | apply Ext.drew | apply Ext.drewN | apply Ext.alloc | refine Ext.trans ?_ (by assumption))); first | done | fail)) (HT.out.ext (by (repeat (first | assumption | exact Ext.refl _ | apply Ext.drew | apply Ext.drewN | apply Ext.alloc | refine Ext.trans ?_ (by assumption))); first | done | fail)) (HF.out.ext (by (repeat (first | assumption | exact Ext.refl _ | apply Ext.drew | apply Ext.drewN | apply Ext.alloc | refine Ext.trans ?_ (by assumption))); first | done | fail)) (by omega) (by omega) HP.out (by rw [HS.out]; exact H1.out) (by rw [HS.out]; exact H2.out)).mono ?_
          rintro e w3 ⟨rfl, x⟩
          have x3 := Ext.trans (show Ext w2 _ from (by (repeat (first | assumption | exact Ext.refl _ | apply Ext.drew | apply Ext.drewN | apply Ext.alloc | refine Ext.trans ?_ (by assumption))); first | done | fail)) x
          clear x
          obtain ⟨c0, c1⟩ := box2 HB.out (show Ext (w.alloc (.cells #[.slice AN nN cN, .slice AE nE cE] 25)) w3 from (by (repeat (first | assumption | exact Ext.refl _ | apply Ext.drew | apply Ext.drewN | apply Ext.alloc | refine Ext.trans ?_ (by assumption))); first | done | fail))
          go_wp2_with (first | ((with_reducible refine at_load_to 49 3 ?_); refine wpList_load_row rfl 25 _ rfl w.heap.size rfl 25 _ (0, 0) _ (HB.out.ext (show Ext (w.alloc (.cells #[.slice AN nN cN, .slice AE nE cE] 25)) w3 from (by (repeat (first | assumption | exact Ext.refl _ | apply Ext.drew | apply Ext.drewN | apply Ext.alloc | refine Ext.trans ?_ (by assumption))); first | done | fail))).h Tryd.underlying25 rfl szP2 ?_) | fail)
          refine (refPublic_any (NN.out.ext (by (repeat (first | assumption | exact Ext.refl _ | apply Ext.drew | apply Ext.drewN | apply Ext.alloc | refine Ext.trans ?_ (by assumption))); first | done | fail)) (NE.out.ext (by (repeat (first | assumption | exact Ext.refl _ | apply Ext.drew | apply Ext.drewN | apply Ext.alloc | refine Ext.trans ?_ (by assumption))); first | done | fail)) bN.out bE.out (by decide) (by decide) true (by simp [HP.out])).mono ?_
          rintro e w4 ⟨rfl, x⟩
          have x4 := Ext.trans (show Ext w3 _ from (by (repeat (first | assumption | exact Ext.refl _ | apply Ext.drew | apply Ext.drewN | apply Ext.alloc | refine Ext.trans ?_ (by assumption))); first | done | fail)) x
          clear x
          obtain ⟨c0, c1⟩ := box2 HB.out (show Ext (w.alloc (.cells #[.slice AN nN cN, .slice AE nE cE] 25)) w4 from (by (repeat (first | assumption | exact Ext.refl _ | apply Ext.drew | apply Ext.drewN | apply Ext.alloc | refine Ext.trans ?_ (by assumption))); first | done | fail))
          go_wp2_with fail
          refine (refSize_any (NN.out.ext (by (repeat (first | assumption | exact Ext.refl _ | apply Ext.drew | apply Ext.drewN | apply Ext.alloc | refine Ext.trans ?_ (by assumption))); first | done | fail)) bN.out (by decide)).mono ?_
          rintro e w5 ⟨rfl, x⟩
          have x5 := Ext.trans (show Ext w4 _ from (by (repeat (first | assumption | exact Ext.refl _ | apply Ext.drew | apply Ext.drewN | apply Ext.alloc | refine Ext.trans ?_ (by assumption))); first | done | fail)) x
          clear x
          rw [HS.out]
          obtain ⟨c0, c1⟩ := box2 HB.out (show Ext (w.alloc (.cells #[.slice AN nN cN, .slice AE nE cE] 25)) w5 from (by (repeat (first | assumption | exact Ext.refl _ | apply Ext.drew | apply Ext.drewN | apply Ext.alloc | refine Ext.trans ?_ (by assumption))); first | done | fail))
          go_wp2_with fail
          refine (Hid_bad (HT.out.ext (by (repeat (first | assumption | exact Ext.refl _ | apply Ext.drew | apply Ext.drewN | apply Ext.alloc | refine Ext.trans ?_ (by assumption))); first | done | fail)) (HF.out.ext (by (repeat (first | assumption | exact Ext.refl _ | apply Ext.drew | apply Ext.drewN | apply Ext.alloc | refine Ext.trans ?_ (by assumption))); first | done | fail)) (by have := HP.out.2.1; rw [HS.out] at this; omega) H1.out (by omega) H2.out).mono ?_
          rintro e w6 ⟨rfl, x⟩
          have x6 := Ext.trans (show Ext w5 _ from (by (repeat (first | assumption | exact Ext.refl _ | apply Ext.drew | apply Ext.drewN | apply Ext.alloc | refine Ext.trans ?_ (by assumption))); first | done | fail)) x
          clear x
          have HX := Kp.mk (show Ext w w6 from (by (repeat (first | assumption | exact Ext.refl _ | apply Ext.drew | apply Ext.drewN | apply Ext.alloc | refine Ext.trans ?_ (by assumption))); first | done | fail))
          clear x1 x2 x3 x4 x5 x6
          go_wp2_with fail
          go_ret
          exact ⟨rfl, HX.out.b⟩
        · have HP := Kp.mk hp
          have hge := Nat.le_of_not_lt g5
          have hy2 : nf = N - 3 - nt := by
            rcases Nat.lt_trichotomy nf (N - 3 - nt) with h | h | h
            · exact absurd (.inl (by omega)) hbad
            · exact h
            · exact absurd (.inl (by omega)) hbad
          have hz : fz lf = lf.length := by
            have h1 := fz_le lf
            rcases Nat.lt_or_ge (fz lf) lf.length with h | h
            · exact absurd (.inr h) hbad
            · omega
          obtain ⟨r, hr⟩ := rs_laid (l := hdL lf lt) (vn := vN) vE (by rw [hdL_len, hlen, HT.out.len, hN]; omega) (hdL_head _ _)
          have H1 := Kp.mk hge
          have H2 := Kp.mk hy2
          have H3 := Kp.mk hz
          have H4 := Kp.mk hr
          clear hp hN hlen g5 hbad hge hy2 hz hr
          go_enter Tryd.func3, Tryd.ntmps3
          go_wp2_with fail
          refine (HU.out _).mono ?_
          rintro e w1 ⟨rfl, x⟩
          have x1 := x
          clear x
          obtain ⟨c0, c1⟩ := box2 HB.out (show Ext (w.alloc (.cells #[.slice AN nN cN, .slice AE nE cE] 25)) w1 from (by (repeat (first | assumption | exact Ext.refl _ | apply Ext.drew | apply Ext.drewN | apply Ext.alloc | refine Ext.trans ?_ (by assumption))); first | done | fail))
          go_wp2_with fail
          refine (light6_any (D := none) (k := 0) (f := 0) true ⟨fun _ => HL.out, fun _ => rfl⟩).mono ?_
          rintro e w2 ⟨rfl, x⟩
          have x2 := Ext.trans (show Ext w1 _ from (by (repeat (first | assumption | exact Ext.refl _ | apply Ext.drew | apply Ext.drewN | apply Ext.alloc | refine Ext.trans ?_ (by assumption))); first | done | fail)) x
          clear x
          obtain ⟨c0, c1⟩ := box2 HB.out (show Ext (w.alloc (.cells #[.slice AN nN cN, .slice AE nE cE] 25)) w2 from (by (repeat (first | assumption | exact Ext.refl _ | apply Ext.drew | apply Ext.drewN | apply Ext.alloc | refine Ext.trans ?_ (by assumption))); first | done | fail))
          go_wp2_with (first | ((with_reducible refine at_load_to 43 3 ?_); refine wpList_load_row rfl 25 _ rfl w.heap.size rfl 25 _ (0, 0) _ (HB.out.ext (show Ext (w.alloc (.cells #[.slice AN nN cN, .slice AE nE cE] 25)) w2 from (by (repeat (first | assumption | exact Ext.refl _ | apply Ext.drew | apply Ext.drewN | apply Ext.alloc | refine Ext.trans ?_ (by assumption))); first | done | fail))).h Tryd.underlying25 rfl szP2 ?_) | fail)
          refine (Hide_ok (NN.out.ext (by (repeat (first | assumption | exact Ext.refl _ | apply Ext.drew | apply Ext.drewN | apply Ext.alloc | refine Ext.trans ?_ (by assumption))); first | done | fail)) (NE.out.ext (by (repeat (first | assumption | exact Ext.refl _ | apply Ext.drew | apply Ext.drewN | apply Ext.alloc | refine Ext.trans ?_ (by assumption))); first | done | fail)) (HT.out.ext (by (repeat (first | assumption | exact Ext.refl _ | apply Ext.drew | apply Ext.drewN | apply Ext.alloc | refine Ext.trans ?_ (by assumption))); first | done | fail)) (HF.out.ext (by (repeat (first | assumption | exact Ext.refl _ | apply Ext.drew | apply Ext.drewN | apply Ext.alloc | refine Ext.trans ?_ (by assumption))); first | done | fail)) (by omega) (by omega) HP.out (by rw [HS.out]; exact H1.out) (by rw [HS.out]; exact H2.out) H3.out H4.out).mono ?_
          rintro e w3 ⟨A9, c9, rfl, s9, _, x⟩
          have x3 := Ext.trans (show Ext w2 _ from (by (repeat (first | assumption | exact Ext.refl _ | apply Ext.drew | apply Ext.drewN | apply Ext.alloc | refine Ext.trans ?_ (by assumption))); first | done | fail)) x
          clear x
          rw [HS.out] at s9
          have S9 := Kp.mk s9
          clear s9
          rw [HS.out]
          obtain ⟨c0, c1⟩ := box2 HB.out (show Ext (w.alloc (.cells #[.slice AN nN cN, .slice AE nE cE] 25)) w3 from (by (repeat (first | assumption | exact Ext.refl _ | apply Ext.drew | apply Ext.drewN | apply Ext.alloc | refine Ext.trans ?_ (by assumption))); first | done | fail))
          go_wp2_with (first | ((with_reducible refine at_load_to 49 3 ?_); refine wpList_load_row rfl 25 _ rfl w.heap.size rfl 25 _ (0, 0) _ (HB.out.ext (show Ext (w.alloc (.cells #[.slice AN nN cN, .slice AE nE cE] 25)) w3 from (by (repeat (first | assumption | exact Ext.refl _ | apply Ext.drew | apply Ext.drewN | apply Ext.alloc | refine Ext.trans ?_ (by assumption))); first | done | fail))).h Tryd.underlying25 rfl szP2 ?_) | fail)
          refine (refPublic_any (NN.out.ext (by (repeat (first | assumption | exact Ext.refl _ | apply Ext.drew | apply Ext.drewN | apply Ext.alloc | refine Ext.trans ?_ (by assumption))); first | done | fail)) (NE.out.ext (by (repeat (first | assumption | exact Ext.refl _ | apply Ext.drew | apply Ext.drewN | apply Ext.alloc | refine Ext.trans ?_ (by assumption))); first | done | fail)) bN.out bE.out (by decide) (by decide) true (by simp [HP.out])).mono ?_
          rintro e w4 ⟨rfl, x⟩
          have x4 := Ext.trans (show Ext w3 _ from (by (repeat (first | assumption | exact Ext.refl _ | apply Ext.drew | apply Ext.drewN | apply Ext.alloc | refine Ext.trans ?_ (by assumption))); first | done | fail)) x
          clear x
          obtain ⟨c0, c1⟩ := box2 HB.out (show Ext (w.alloc (.cells #[.slice AN nN cN, .slice AE nE cE] 25)) w4 from (by (repeat (first | assumption | exact Ext.refl _ | apply Ext.drew | apply Ext.drewN | apply Ext.alloc | refine Ext.trans ?_ (by assumption))); first | done | fail))
          go_wp2_with fail
          refine (refSize_any (NN.out.ext (by (repeat (first | assumption | exact Ext.refl _ | apply Ext.drew | apply Ext.drewN | apply Ext.alloc | refine Ext.trans ?_ (by assumption))); first | done | fail)) bN.out (by decide)).mono ?_
          rintro e w5 ⟨rfl, x⟩
          have x5 := Ext.trans (show Ext w4 _ from (by (repeat (first | assumption | exact Ext.refl _ | apply Ext.drew | apply Ext.drewN | apply Ext.alloc | refine Ext.trans ?_ (by assumption))); first | done | fail)) x
          clear x
          rw [HS.out]
          obtain ⟨c0, c1⟩ := box2 HB.out (show Ext (w.alloc (.cells #[.slice AN nN cN, .slice AE nE cE] 25)) w5 from (by (repeat (first | assumption | exact Ext.refl _ | apply Ext.drew | apply Ext.drewN | apply Ext.alloc | refine Ext.trans ?_ (by assumption))); first | done | fail))
          go_wp2_with fail
          refine (Hid_ok (HT.out.ext (by (repeat (first | assumption | exact Ext.refl _ | apply Ext.drew | apply Ext.drewN | apply Ext.alloc | refine Ext.trans ?_ (by assumption))); first | done | fail)) (HF.out.ext (by (repeat (first | assumption | exact Ext.refl _ | apply Ext.drew | apply Ext.drewN | apply Ext.alloc | refine Ext.trans ?_ (by assumption))); first | done | fail)) (by have := HP.out.2.1; rw [HS.out] at this; omega) H1.out H2.out H3.out).mono ?_
          rintro e w6 ⟨A8, c8, rfl, s8, x⟩
          have x6 := Ext.trans (show Ext w5 _ from (by (repeat (first | assumption | exact Ext.refl _ | apply Ext.drew | apply Ext.drewN | apply Ext.alloc | refine Ext.trans ?_ (by assumption))); first | done | fail)) x
          clear x
          have S8 := Kp.mk s8
          clear s8
          obtain ⟨c0, c1⟩ := box2 HB.out (show Ext (w.alloc (.cells #[.slice AN nN cN, .slice AE nE cE] 25)) w6 from (by (repeat (first | assumption | exact Ext.refl _ | apply Ext.drew | apply Ext.drewN | apply Ext.alloc | refine Ext.trans ?_ (by assumption))); first | done | fail))
          go_wp2_with fail
          refine (Power_some (S8.out.ext (by (repeat (first | assumption | exact Ext.refl _ | apply Ext.drew | apply Ext.drewN | apply Ext.alloc | refine Ext.trans ?_ (by assumption))); first | done | fail)) (NE.out.ext (by (repeat (first | assumption | exact Ext.refl _ | apply Ext.drew | apply Ext.drewN | apply Ext.alloc | refine Ext.trans ?_ (by assumption))); first | done | fail)) (NN.out.ext (by (repeat (first | assumption | exact Ext.refl _ | apply Ext.drew | apply Ext.drewN | apply Ext.alloc | refine Ext.trans ?_ (by assumption))); first | done | fail)) bE.out (by decide) HP.out.2.1 HP.out.n0 H4.out).mono ?_
          rintro e w7 ⟨A7, c7, rfl, s7, x⟩
          have x7 := Ext.trans (show Ext w6 _ from (by (repeat (first | assumption | exact Ext.refl _ | apply Ext.drew | apply Ext.drewN | apply Ext.alloc | refine Ext.trans ?_ (by assumption))); first | done | fail)) x
          clear x
          rw [HS.out] at s7 ⊢
          have k7 := s7.str (Ext.refl _)
          have k9 := (S9.out.ext (show Ext _ w7 from (by (repeat (first | assumption | exact Ext.refl _ | apply Ext.drew | apply Ext.drewN | apply Ext.alloc | refine Ext.trans ?_ (by assumption))); first | done | fail))).str (Ext.refl _)
          clear s7
          have HX := Kp.mk (show Ext w w7 from (by (repeat (first | assumption | exact Ext.refl _ | apply Ext.drew | apply Ext.drewN | apply Ext.alloc | refine Ext.trans ?_ (by assumption))); first | done | fail))
          clear x1 x2 x3 x4 x5 x6 x7
          go_wp2_with fail
          go_ret
          exact ⟨by first | rfl | simp, HX.out.b⟩
end Go.Proofs.YticggkllfojgkaaDoor
