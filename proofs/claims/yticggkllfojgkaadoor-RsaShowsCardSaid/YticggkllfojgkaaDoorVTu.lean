/-
  The walk of the law RsaShows.
-/
import Derived.Test.YticggkllfojgkaaDoorM20
import Derived.Test.YticggkllfojgkaaDoorM21
import Derived.Test.YticggkllfojgkaaDoorVTs
namespace Go.Proofs.YticggkllfojgkaaDoor
open Go Go.RowKit
set_option maxRecDepth 4000

set_option maxHeartbeats 8000000 in
set_option maxRecDepth 100000 in
theorem RsaShows_any {w : World} {AN AE AD Ac : Option Addr} {nN nE nD nc cN cE cD cc : Nat} {lN lE lD : List Nat} {lc : List (BitVec 8)} (hN : Nk w AN nN cN lN) (hE : Nk w AE nE cE lE) (hD : Nk w AD nD cD lD) (hc : Bs w Ac nc cc lc) :
    Calls Tryd.prog 4 #[.agg #[.slice AN nN cN, .slice AE nE cE, .slice AD nD cD], .slice Ac nc cc] w fun e w' => e = .returned (.bool true) ∧ Below w.heap.size w w' := by
  have HU := Kp.mk (fun u => up6_any u)
  have HB := Kp.mk (Blk.new w 30 #[.slice AN nN cN, .slice AE nE cE, .slice AD nD cD])
  have hways : ¬ (nN ≤ 70 ∧ nE ≤ 70 ∧ nD ≤ 70) ∨ ((nN ≤ 70 ∧ nE ≤ 70 ∧ nD ≤ 70) ∧ 300 < nc) ∨ ((nN ≤ 70 ∧ nE ≤ 70 ∧ nD ≤ 70) ∧ ¬ 300 < nc) := by omega
  rcases hways with hl | ⟨hl, h1⟩ | ⟨hl, h1⟩
  · have HL := Kp.mk hl
    clear hl hN hE hD hc
    go_enter Tryd.func4, Tryd.ntmps4
    go_wp2_with fail
    refine (HU.out _).mono ?_
    rintro e w1 ⟨rfl, x⟩
    have x1 := x
    clear x
    obtain ⟨c0, c1, c2⟩ := box3 HB.out (show Ext (w.alloc (.cells #[.slice AN nN cN, .slice AE nE cE, .slice AD nD cD] 30)) w1 from (by (repeat (first | assumption | exact Ext.refl _ | apply Ext.drew | apply Ext.drewN | apply Ext.alloc | refine Ext.trans ?_ (by assumption))); first | done | fail))
    go_wp2_with (first | ((with_reducible refine at_load_to 15 2 ?_); refine wpList_load_row rfl 30 _ rfl w.heap.size rfl 30 _ (0, 0) _ (HB.out.ext (show Ext (w.alloc (.cells #[.slice AN nN cN, .slice AE nE cE, .slice AD nD cD] 30)) w1 from (by (repeat (first | assumption | exact Ext.refl _ | apply Ext.drew | apply Ext.drewN | apply Ext.alloc | refine Ext.trans ?_ (by assumption))); first | done | fail))).h Tryd.underlying30 rfl szS ?_) | fail)
    refine (light6_any false ⟨(fun h => nomatch h), fun h => absurd h HL.out⟩).mono ?_
    rintro e w2 ⟨rfl, x⟩
    have x2 := Ext.trans (show Ext w1 _ from (by (repeat (first | assumption | exact Ext.refl _ | apply Ext.drew | apply Ext.drewN | apply Ext.alloc | refine Ext.trans ?_ (by assumption))); first | done | fail)) x
    clear x
    obtain ⟨c0, c1, c2⟩ := box3 HB.out (show Ext (w.alloc (.cells #[.slice AN nN cN, .slice AE nE cE, .slice AD nD cD] 30)) w2 from (by (repeat (first | assumption | exact Ext.refl _ | apply Ext.drew | apply Ext.drewN | apply Ext.alloc | refine Ext.trans ?_ (by assumption))); first | done | fail))
    have HX := Kp.mk (show Ext w w2 from (by (repeat (first | assumption | exact Ext.refl _ | apply Ext.drew | apply Ext.drewN | apply Ext.alloc | refine Ext.trans ?_ (by assumption))); first | done | fail))
    clear x1 x2
    go_wp2_with fail
    go_ret
    exact ⟨rfl, HX.out.b⟩
  · have HL := Kp.mk hl
    have g0 : (300 : Int) < (nc : Int) := by omega
    have g0' : 300 < nc := by omega
    clear hl hN hE hD hc h1
    go_enter Tryd.func4, Tryd.ntmps4
    go_wp2_with fail
    refine (HU.out _).mono ?_
    rintro e w1 ⟨rfl, x⟩
    have x1 := x
    clear x
    obtain ⟨c0, c1, c2⟩ := box3 HB.out (show Ext (w.alloc (.cells #[.slice AN nN cN, .slice AE nE cE, .slice AD nD cD] 30)) w1 from (by (repeat (first | assumption | exact Ext.refl _ | apply Ext.drew | apply Ext.drewN | apply Ext.alloc | refine Ext.trans ?_ (by assumption))); first | done | fail))
    go_wp2_with (first | ((with_reducible refine at_load_to 15 2 ?_); refine wpList_load_row rfl 30 _ rfl w.heap.size rfl 30 _ (0, 0) _ (HB.out.ext (show Ext (w.alloc (.cells #[.slice AN nN cN, .slice AE nE cE, .slice AD nD cD] 30)) w1 from (by (repeat (first | assumption | exact Ext.refl _ | apply Ext.drew | apply Ext.drewN | apply Ext.alloc | refine Ext.trans ?_ (by assumption))); first | done | fail))).h Tryd.underlying30 rfl szS ?_) | fail)
    refine (light6_any true ⟨fun _ => HL.out, fun _ => rfl⟩).mono ?_
    rintro e w2 ⟨rfl, x⟩
    have x2 := Ext.trans (show Ext w1 _ from (by (repeat (first | assumption | exact Ext.refl _ | apply Ext.drew | apply Ext.drewN | apply Ext.alloc | refine Ext.trans ?_ (by assumption))); first | done | fail)) x
    clear x
    obtain ⟨c0, c1, c2⟩ := box3 HB.out (show Ext (w.alloc (.cells #[.slice AN nN cN, .slice AE nE cE, .slice AD nD cD] 30)) w2 from (by (repeat (first | assumption | exact Ext.refl _ | apply Ext.drew | apply Ext.drewN | apply Ext.alloc | refine Ext.trans ?_ (by assumption))); first | done | fail))
    have HX := Kp.mk (show Ext w w2 from (by (repeat (first | assumption | exact Ext.refl _ | apply Ext.drew | apply Ext.drewN | apply Ext.alloc | refine Ext.trans ?_ (by assumption))); first | done | fail))
    clear x1 x2
    go_wp2_with fail
    go_ret
    exact ⟨rfl, HX.out.b⟩
  · have HL := Kp.mk hl
    have g0 : decide ((300 : Int) < (nc : Int)) = false := decide_eq_false (by omega)
    have g0' : decide (300 < nc) = false := decide_eq_false (by omega)
    have NN := Kp.mk (Nv.small hN.r hN.d (by omega))
    have bN := Kp.mk (Nat.lt_of_lt_of_le (vl_len hN.r hN.d) (Nat.pow_le_pow_right (n := BB) (by decide) (show nN ≤ 70 by omega)))
    obtain ⟨vN, hvN⟩ : ∃ v, vl BB lN = v := ⟨_, rfl⟩
    rw [hvN] at NN bN
    clear hN hvN
    have NE := Kp.mk (Nv.small hE.r hE.d (by omega))
    have bE := Kp.mk (Nat.lt_of_lt_of_le (vl_len hE.r hE.d) (Nat.pow_le_pow_right (n := BB) (by decide) (show nE ≤ 70 by omega)))
    obtain ⟨vE, hvE⟩ : ∃ v, vl BB lE = v := ⟨_, rfl⟩
    rw [hvE] at NE bE
    clear hE hvE
    have ND := Kp.mk (Nv.small hD.r hD.d (by omega))
    have bD := Kp.mk (Nat.lt_of_lt_of_le (vl_len hD.r hD.d) (Nat.pow_le_pow_right (n := BB) (by decide) (show nD ≤ 70 by omega)))
    obtain ⟨vD, hvD⟩ : ∃ v, vl BB lD = v := ⟨_, rfl⟩
    rw [hvD] at ND bD
    clear hD hvD
    have HC := Kp.mk hc
    have hc3 : nc ≤ 300 := by omega
    have e1 := code_eq 1 1
    have e7 := code_eq 7 7
    clear hl h1 hc
    by_cases hp : SecOk vN vE vD
    rotate_left
    · have HP := Kp.mk hp
      clear hp
      go_enter Tryd.func4, Tryd.ntmps4
      go_wp2_with fail
      refine (HU.out _).mono ?_
      rintro e w1 ⟨rfl, x⟩
      have x1 := x
      clear x
      obtain ⟨c0, c1, c2⟩ := box3 HB.out (show Ext (w.alloc (.cells #[.slice AN nN cN, .slice AE nE cE, .slice AD nD cD] 30)) w1 from (by (repeat (first | assumption | exact Ext.refl _ | apply Ext.drew | apply Ext.drewN | apply Ext.alloc | refine Ext.trans ?_ (by assumption))); first | done | fail))
      go_wp2_with (first | ((with_reducible refine at_load_to 15 2 ?_); refine wpList_load_row rfl 30 _ rfl w.heap.size rfl 30 _ (0, 0) _ (HB.out.ext (show Ext (w.alloc (.cells #[.slice AN nN cN, .slice AE nE cE, .slice AD nD cD] 30)) w1 from (by (repeat (first | assumption | exact Ext.refl _ | apply Ext.drew | apply Ext.drewN | apply Ext.alloc | refine Ext.trans ?_ (by assumption))); first | done | fail))).h Tryd.underlying30 rfl szS ?_) | fail)
      refine (light6_any true ⟨fun _ => HL.out, fun _ => rfl⟩).mono ?_
      rintro e w2 ⟨rfl, x⟩
      have x2 := Ext.trans (show Ext w1 _ from (by (repeat (first | assumption | exact Ext.refl _ | apply Ext.drew | apply Ext.drewN | apply Ext.alloc | refine Ext.trans ?_ (by assumption))); first | done | fail)) x
      clear x
      obtain ⟨c0, c1, c2⟩ := box3 HB.out (show Ext (w.alloc (.cells #[.slice AN nN cN, .slice AE nE cE, .slice AD nD cD] 30)) w2 from (by (repeat (first | assumption | exact Ext.refl _ | apply Ext.drew | apply Ext.drewN | apply Ext.alloc | refine Ext.trans ?_ (by assumption))); first | done | fail))
      go_wp2_with (first | ((with_reducible refine at_load_to 26 2 ?_); refine wpList_load_row rfl 30 _ rfl w.heap.size rfl 30 _ (0, 0) _ (HB.out.ext (show Ext (w.alloc (.cells #[.slice AN nN cN, .slice AE nE cE, .slice AD nD cD] 30)) w2 from (by (repeat (first | assumption | exact Ext.refl _ | apply Ext.drew | apply Ext.drewN | apply Ext.alloc | refine Ext.trans ?_ (by assumption))); first | done | fail))).h Tryd.underlying30 rfl szS ?_) | fail)
      refine (Show_arg (NN.out.ext (by (repeat (first | assumption | exact Ext.refl _ | apply Ext.drew | apply Ext.drewN | apply Ext.alloc | refine Ext.trans ?_ (by assumption))); first | done | fail)) (NE.out.ext (by (repeat (first | assumption | exact Ext.refl _ | apply Ext.drew | apply Ext.drewN | apply Ext.alloc | refine Ext.trans ?_ (by assumption))); first | done | fail)) (ND.out.ext (by (repeat (first | assumption | exact Ext.refl _ | apply Ext.drew | apply Ext.drewN | apply Ext.alloc | refine Ext.trans ?_ (by assumption))); first | done | fail)) HP.out).mono ?_
      rintro e w3 ⟨rfl, x⟩
      have x3 := Ext.trans (show Ext w2 _ from (by (repeat (first | assumption | exact Ext.refl _ | apply Ext.drew | apply Ext.drewN | apply Ext.alloc | refine Ext.trans ?_ (by assumption))); first | done | fail)) x
      clear x
      obtain ⟨c0, c1, c2⟩ := box3 HB.out (show Ext (w.alloc (.cells #[.slice AN nN cN, .slice AE nE cE, .slice AD nD cD] 30)) w3 from (by (repeat (first | assumption | exact Ext.refl _ | apply Ext.drew | apply Ext.drewN | apply Ext.alloc | refine Ext.trans ?_ (by assumption))); first | done | fail))
      go_wp2_with (first | ((with_reducible refine at_load_to 31 2 ?_); refine wpList_load_row rfl 30 _ rfl w.heap.size rfl 30 _ (0, 0) _ (HB.out.ext (show Ext (w.alloc (.cells #[.slice AN nN cN, .slice AE nE cE, .slice AD nD cD] 30)) w3 from (by (repeat (first | assumption | exact Ext.refl _ | apply Ext.drew | apply Ext.drewN | apply Ext.alloc | refine Ext.trans ?_ (by assumption))); first | done | fail))).h Tryd.underlying30 rfl szS ?_) | fail)
      refine (refSecret_any (NN.out.ext (by (repeat (first | assumption | exact Ext.refl _ | apply Ext.drew | apply Ext.drewN | apply Ext.alloc | refine Ext.trans ?_ (by assumption))); first | done | fail)) (NE.out.ext (by (repeat (first | assumption | exact Ext.refl _ | apply Ext.drew | apply Ext.drewN | apply Ext.alloc | refine Ext.trans ?_ (by assumption))); first | done | fail)) (ND.out.ext (by (repeat (first | assumption | exact Ext.refl _ | apply Ext.drew | apply Ext.drewN | apply Ext.alloc | refine Ext.trans ?_ (by assumption))); first | done | fail)) bN.out bE.out bD.out (by decide) (by decide) (by decide) false (by simp [HP.out])).mono ?_
      rintro e w4 ⟨rfl, x⟩
      have x4 := Ext.trans (show Ext w3 _ from (by (repeat (first | assumption | exact Ext.refl _ | apply Ext.drew | apply Ext.drewN | apply Ext.alloc | refine Ext.trans ?_ (by assumption))); first | done | fail)) x
      clear x
      obtain ⟨c0, c1, c2⟩ := box3 HB.out (show Ext (w.alloc (.cells #[.slice AN nN cN, .slice AE nE cE, .slice AD nD cD] 30)) w4 from (by (repeat (first | assumption | exact Ext.refl _ | apply Ext.drew | apply Ext.drewN | apply Ext.alloc | refine Ext.trans ?_ (by assumption))); first | done | fail))
      have HX := Kp.mk (show Ext w w4 from (by (repeat (first | assumption | exact Ext.refl _ | apply Ext.drew | apply Ext.drewN | apply Ext.alloc | refine Ext.trans ?_ (by assumption))); first | done | fail))
      clear x1 x2 x3 x4
      go_wp2_with fail
      go_ret
      exact ⟨rfl, HX.out.b⟩
    · cases hr : rs lc vD vN with
      | none =>
        have HP := Kp.mk hp
        have HR := Kp.mk hr
        clear hp hr
        go_enter Tryd.func4, Tryd.ntmps4
        go_wp2_with fail
        refine (HU.out _).mono ?_
        rintro e w1 ⟨rfl, x⟩
        have x1 := x
        clear x
        obtain ⟨c0, c1, c2⟩ := box3 HB.out (show Ext (w.alloc (.cells #[.slice AN nN cN, .slice AE nE cE, .slice AD nD cD] 30)) w1 from (by (repeat (first | assumption | exact Ext.refl _ | apply Ext.drew | apply Ext.drewN | apply Ext.alloc | refine Ext.trans ?_ (by assumption))); first | done | fail))
        go_wp2_with (first | ((with_reducible refine at_load_to 15 2 ?_); refine wpList_load_row rfl 30 _ rfl w.heap.size rfl 30 _ (0, 0) _ (HB.out.ext (show Ext (w.alloc (.cells #[.slice AN nN cN, .slice AE nE cE, .slice AD nD cD] 30)) w1 from (by (repeat (first | assumption | exact Ext.refl _ | apply Ext.drew | apply Ext.drewN | apply Ext.alloc | refine Ext.trans ?_ (by assumption))); first | done | fail))).h Tryd.underlying30 rfl szS ?_) | fail)
        refine (light6_any true ⟨fun _ => HL.out, fun _ => rfl⟩).mono ?_
        rintro e w2 ⟨rfl, x⟩
        have x2 := Ext.trans (show Ext w1 _ from (by (repeat (first | assumption | exact Ext.refl _ | apply Ext.drew | apply Ext.drewN | apply Ext.alloc | refine Ext.trans ?_ (by assumption))); first | done | fail)) x
        clear x
        obtain ⟨c0, c1, c2⟩ := box3 HB.out (show Ext (w.alloc (.cells #[.slice AN nN cN, .slice AE nE cE, .slice AD nD cD] 30)) w2 from (by (repeat (first | assumption | exact Ext.refl _ | apply Ext.drew | apply Ext.drewN | apply Ext.alloc | refine Ext.trans ?_ (by assumption))); first | done | fail))
        go_wp2_with (first | ((with_reducible refine at_load_to 26 2 ?_); refine wpList_load_row rfl 30 _ rfl w.heap.size rfl 30 _ (0, 0) _ (HB.out.ext (show Ext (w.alloc (.cells #[.slice AN nN cN, .slice AE nE cE, .slice AD nD cD] 30)) w2 from (by (repeat (first | assumption | exact Ext.refl _ | apply Ext.drew | apply Ext.drewN | apply Ext.alloc | refine Ext.trans ?_ (by assumption))); first | done | fail))).h Tryd.underlying30 rfl szS ?_) | fail)
        refine (Show_wrong (NN.out.ext (by (repeat (first | assumption | exact Ext.refl _ | apply Ext.drew | apply Ext.drewN | apply Ext.alloc | refine Ext.trans ?_ (by assumption))); first | done | fail)) (NE.out.ext (by (repeat (first | assumption | exact Ext.refl _ | apply Ext.drew | apply Ext.drewN | apply Ext.alloc | refine Ext.trans ?_ (by assumption))); first | done | fail)) (ND.out.ext (by (repeat (first | assumption | exact Ext.refl _ | apply Ext.drew | apply Ext.drewN | apply Ext.alloc | refine Ext.trans ?_ (by assumption))); first | done | fail)) (HC.out.ext (by (repeat (first | assumption | exact Ext.refl _ | apply Ext.drew | apply Ext.drewN | apply Ext.alloc | refine Ext.trans ?_ (by assumption))); first | done | fail)) HP.out HR.out).mono ?_
        rintro e w3 ⟨rfl, x⟩
        have x3 := Ext.trans (show Ext w2 _ from (by (repeat (first | assumption | exact Ext.refl _ | apply Ext.drew | apply Ext.drewN | apply Ext.alloc | refine Ext.trans ?_ (by assumption))); first | done | fail)) x
        clear x
        obtain ⟨c0, c1, c2⟩ := box3 HB.out (show Ext (w.alloc (.cells #[.slice AN nN cN, .slice AE nE cE, .slice AD nD cD] 30)) w3 from (by (repeat (first | assumption | exact Ext.refl _ | apply Ext.drew | apply Ext.drewN | apply Ext.alloc | refine Ext.trans ?_ (by assumption))); first | done | fail))
        go_wp2_with (first | ((with_reducible refine at_load_to 31 2 ?_); refine wpList_load_row rfl 30 _ rfl w.heap.size rfl 30 _ (0, 0) _ (HB.out.ext (show Ext (w.alloc (.cells #[.slice AN nN cN, .slice AE nE cE, .slice AD nD cD] 30)) w3 from (by (repeat (first | assumption | exact Ext.refl _ | apply Ext.drew | apply Ext.drewN | apply Ext.alloc | refine Ext.trans ?_ (by assumption))); first | done | fail))).h Tryd.underlying30 rfl szS ?_) | fail)
        refine (refSecret_any (NN.out.ext (by (repeat (first | assumption | exact Ext.refl _ | apply Ext.drew | apply Ext.drewN | apply Ext.alloc | refine Ext.trans ?_ (by assumption))); first | done | fail)) (NE.out.ext (by (repeat (first | assumption | exact Ext.refl _ | apply Ext.drew | apply Ext.drewN | apply Ext.alloc | refine Ext.trans ?_ (by assumption))); first | done | fail)) (ND.out.ext (by (repeat (first | assumption | exact Ext.refl _ | apply Ext.drew | apply Ext.drewN | apply Ext.alloc | refine Ext.trans ?_ (by assumption))); first | done | fail)) bN.out bE.out bD.out (by decide) (by decide) (by decide) true (by simp [HP.out])).mono ?_
        rintro e w4 ⟨rfl, x⟩
        have x4 := Ext.trans (show Ext w3 _ from (by (repeat (first | assumption | exact Ext.refl _ | apply Ext.drew | apply Ext.drewN | apply Ext.alloc | refine Ext.trans ?_ (by assumption))); first | done | fail)) x
        clear x
        obtain ⟨c0, c1, c2⟩ := box3 HB.out (show Ext (w.alloc (.cells #[.slice AN nN cN, .slice AE nE cE, .slice AD nD cD] 30)) w4 from (by (repeat (first | assumption | exact Ext.refl _ | apply Ext.drew | apply Ext.drewN | apply Ext.alloc | refine Ext.trans ?_ (by assumption))); first | done | fail))
        go_wp2_with fail
        refine (Power_none (B := AD) (m := nD) (d := cD) (HC.out.ext (by (repeat (first | assumption | exact Ext.refl _ | apply Ext.drew | apply Ext.drewN | apply Ext.alloc | refine Ext.trans ?_ (by assumption))); first | done | fail)) (NN.out.ext (by (repeat (first | assumption | exact Ext.refl _ | apply Ext.drew | apply Ext.drewN | apply Ext.alloc | refine Ext.trans ?_ (by assumption))); first | done | fail)) (by omega) HP.out.1.2.1 HR.out).mono ?_
        rintro e w5 ⟨rfl, x⟩
        have x5 := Ext.trans (show Ext w4 _ from (by (repeat (first | assumption | exact Ext.refl _ | apply Ext.drew | apply Ext.drewN | apply Ext.alloc | refine Ext.trans ?_ (by assumption))); first | done | fail)) x
        clear x
        obtain ⟨c0, c1, c2⟩ := box3 HB.out (show Ext (w.alloc (.cells #[.slice AN nN cN, .slice AE nE cE, .slice AD nD cD] 30)) w5 from (by (repeat (first | assumption | exact Ext.refl _ | apply Ext.drew | apply Ext.drewN | apply Ext.alloc | refine Ext.trans ?_ (by assumption))); first | done | fail))
        go_wp2_with fail
        refine (refShown_any (Bs.nil w5) (by omega)).mono ?_
        rintro e w6 ⟨A8, n8, c8, t8, b8, rfl, _, _, x, h8⟩
        have x6 := Ext.trans (show Ext w5 _ from (by (repeat (first | assumption | exact Ext.refl _ | apply Ext.drew | apply Ext.drewN | apply Ext.alloc | refine Ext.trans ?_ (by assumption))); first | done | fail)) x
        clear x
        obtain rfl : b8 = false := by rcases h8 with ⟨h, _⟩ | ⟨_, h⟩; exact h; exact absurd h (by simp [shownL, fz])
        clear h8
        have HX := Kp.mk (show Ext w w6 from (by (repeat (first | assumption | exact Ext.refl _ | apply Ext.drew | apply Ext.drewN | apply Ext.alloc | refine Ext.trans ?_ (by assumption))); first | done | fail))
        clear x1 x2 x3 x4 x5 x6
        go_wp2_with fail
        go_ret
        exact ⟨rfl, HX.out.b⟩
      | some r =>
        cases ht : shownL r with
        | none =>
          have HP := Kp.mk hp
          have HR := Kp.mk hr
          have HT := Kp.mk ht
          clear hp hr ht
          go_enter Tryd.func4, Tryd.ntmps4
          go_wp2_with fail
          refine (HU.out _).mono ?_
          rintro e w1 ⟨rfl, x⟩
          have x1 := x
          clear x
          obtain ⟨c0, c1, c2⟩ := box3 HB.out (show Ext (w.alloc (.cells #[.slice AN nN cN, .slice AE nE cE, .slice AD nD cD] 30)) w1 from (by (repeat (first | assumption | exact Ext.refl _ | apply Ext.drew | apply Ext.drewN | apply Ext.alloc | refine Ext.trans ?_ (by assumption))); first | done | fail))
          go_wp2_with (first | ((with_reducible refine at_load_to 15 2 ?_); refine wpList_load_row rfl 30 _ rfl w.heap.size rfl 30 _ (0, 0) _ (HB.out.ext (show Ext (w.alloc (.cells #[.slice AN nN cN, .slice AE nE cE, .slice AD nD cD] 30)) w1 from (by (repeat (first | assumption | exact Ext.refl _ | apply Ext.drew | apply Ext.drewN | apply Ext.alloc | refine Ext.trans ?_ (by assumption))); first | done | fail))).h Tryd.underlying30 rfl szS ?_) | fail)
          refine (light6_any true ⟨fun _ => HL.out, fun _ => rfl⟩).mono ?_
          rintro e w2 ⟨rfl, x⟩
          have x2 := Ext.trans (show Ext w1 _ from (by (repeat (first | assumption | exact Ext.refl _ | apply Ext.drew | apply Ext.drewN | apply Ext.alloc | refine Ext.trans ?_ (by assumption))); first | done | fail)) x
          clear x
          obtain ⟨c0, c1, c2⟩ := box3 HB.out (show Ext (w.alloc (.cells #[.slice AN nN cN, .slice AE nE cE, .slice AD nD cD] 30)) w2 from (by (repeat (first | assumption | exact Ext.refl _ | apply Ext.drew | apply Ext.drewN | apply Ext.alloc | refine Ext.trans ?_ (by assumption))); first | done | fail))
          go_wp2_with (first | ((with_reducible refine at_load_to 26 2 ?_); refine wpList_load_row rfl 30 _ rfl w.heap.size rfl 30 _ (0, 0) _ (HB.out.ext (show Ext (w.alloc (.cells #[.slice AN nN cN, .slice AE nE cE, .slice AD nD cD] 30)) w2 from (by (repeat (first | assumption | exact Ext.refl _ | apply Ext.drew | apply Ext.drewN | apply Ext.alloc | refine Ext.trans ?_ (by assumption))); first | done | fail))).h Tryd.underlying30 rfl szS ?_) | fail)
          refine (Show_pad (NN.out.ext (by (repeat (first | assumption | exact Ext.refl _ | apply Ext.drew | apply Ext.drewN | apply Ext.alloc | refine Ext.trans ?_ (by assumption))); first | done | fail)) (NE.out.ext (by (repeat (first | assumption | exact Ext.refl _ | apply Ext.drew | apply Ext.drewN | apply Ext.alloc | refine Ext.trans ?_ (by assumption))); first | done | fail)) (ND.out.ext (by (repeat (first | assumption | exact Ext.refl _ | apply Ext.drew | apply Ext.drewN | apply Ext.alloc | refine Ext.trans ?_ (by assumption))); first | done | fail)) (HC.out.ext (by (repeat (first | assumption | exact Ext.refl _ | apply Ext.drew | apply Ext.drewN | apply Ext.alloc | refine Ext.trans ?_ (by assumption))); first | done | fail)) HP.out HR.out HT.out).mono ?_
          rintro e w3 ⟨rfl, x⟩
          have x3 := Ext.trans (show Ext w2 _ from (by (repeat (first | assumption | exact Ext.refl _ | apply Ext.drew | apply Ext.drewN | apply Ext.alloc | refine Ext.trans ?_ (by assumption))); first | done | fail)) x
          clear x
          obtain ⟨c0, c1, c2⟩ := box3 HB.out (show Ext (w.alloc (.cells #[.slice AN nN cN, .slice AE nE cE, .slice AD nD cD] 30)) w3 from (by (repeat (first | assumption | exact Ext.refl _ | apply Ext.drew | apply Ext.drewN | apply Ext.alloc | refine Ext.trans ?_ (by assumption))); first | done | fail))
          go_wp2_with (first | ((with_reducible refine at_load_to 31 2 ?_); refine wpList_load_row rfl 30 _ rfl w.heap.size rfl 30 _ (0, 0) _ (HB.out.ext (show Ext (w.alloc (.cells #[.slice AN nN cN, .slice AE nE cE, .slice AD nD cD] 30)) w3 from (by (repeat (first | assumption | exact Ext.refl _ | apply Ext.drew | apply Ext.drewN | apply Ext.alloc | refine Ext.trans ?_ (by assumption))); first | done | fail))).h Tryd.underlying30 rfl szS ?_) | fail)
          refine (refSecret_any (NN.out.ext (by (repeat (first | assumption | exact Ext.refl _ | apply Ext.drew | apply Ext.drewN | apply Ext.alloc | refine Ext.trans ?_ (by assumption))); first | done | fail)) (NE.out.ext (by (repeat (first | assumption | exact Ext.refl _ | apply Ext.drew | apply Ext.drewN | apply Ext.alloc | refine Ext.trans ?_ (by assumption))); first | done | fail)) (ND.out.ext (by (repeat (first | assumption | exact Ext.refl _ | apply Ext.drew | apply Ext.drewN | apply Ext.alloc | refine Ext.trans ?_ (by assumption))); first | done | fail)) bN.out bE.out bD.out (by decide) (by decide) (by decide) true (by simp [HP.out])).mono ?_
          rintro e w4 ⟨rfl, x⟩
          have x4 := Ext.trans (show Ext w3 _ from (by (repeat (first | assumption | exact Ext.refl _ | apply Ext.drew | apply Ext.drewN | apply Ext.alloc | refine Ext.trans ?_ (by assumption))); first | done | fail)) x
          clear x
          obtain ⟨c0, c1, c2⟩ := box3 HB.out (show Ext (w.alloc (.cells #[.slice AN nN cN, .slice AE nE cE, .slice AD nD cD] 30)) w4 from (by (repeat (first | assumption | exact Ext.refl _ | apply Ext.drew | apply Ext.drewN | apply Ext.alloc | refine Ext.trans ?_ (by assumption))); first | done | fail))
          go_wp2_with fail
          refine (Power_some (HC.out.ext (by (repeat (first | assumption | exact Ext.refl _ | apply Ext.drew | apply Ext.drewN | apply Ext.alloc | refine Ext.trans ?_ (by assumption))); first | done | fail)) (ND.out.ext (by (repeat (first | assumption | exact Ext.refl _ | apply Ext.drew | apply Ext.drewN | apply Ext.alloc | refine Ext.trans ?_ (by assumption))); first | done | fail)) (NN.out.ext (by (repeat (first | assumption | exact Ext.refl _ | apply Ext.drew | apply Ext.drewN | apply Ext.alloc | refine Ext.trans ?_ (by assumption))); first | done | fail)) bD.out (by decide) HP.out.1.2.1 HP.out.1.n0 HR.out).mono ?_
          rintro e w5 ⟨A7, c7, rfl, s7, x⟩
          have x5 := Ext.trans (show Ext w4 _ from (by (repeat (first | assumption | exact Ext.refl _ | apply Ext.drew | apply Ext.drewN | apply Ext.alloc | refine Ext.trans ?_ (by assumption))); first | done | fail)) x
          clear x
          have hN7 : nb vN ≤ 400 := by have := HP.out.1.2.1; omega
          have S7 := Kp.mk s7
          clear s7
          generalize nb vN = N at S7 hN7 ⊢
          obtain ⟨c0, c1, c2⟩ := box3 HB.out (show Ext (w.alloc (.cells #[.slice AN nN cN, .slice AE nE cE, .slice AD nD cD] 30)) w5 from (by (repeat (first | assumption | exact Ext.refl _ | apply Ext.drew | apply Ext.drewN | apply Ext.alloc | refine Ext.trans ?_ (by assumption))); first | done | fail))
          go_wp2_with fail
          refine (refShown_any (S7.out.ext (by (repeat (first | assumption | exact Ext.refl _ | apply Ext.drew | apply Ext.drewN | apply Ext.alloc | refine Ext.trans ?_ (by assumption))); first | done | fail)) hN7).mono ?_
          rintro e w6 ⟨A8, n8, c8, t8, b8, rfl, _, s8, x, h8⟩
          have x6 := Ext.trans (show Ext w5 _ from (by (repeat (first | assumption | exact Ext.refl _ | apply Ext.drew | apply Ext.drewN | apply Ext.alloc | refine Ext.trans ?_ (by assumption))); first | done | fail)) x
          clear x
          obtain rfl : b8 = false := by rcases h8 with ⟨h, _⟩ | ⟨_, h⟩; exact h; exact absurd (h.symm.trans HT.out) (by simp)
          clear h8 s8
          have HX := Kp.mk (show Ext w w6 from (by (repeat (first | assumption | exact Ext.refl _ | apply Ext.drew | apply Ext.drewN | apply Ext.alloc | refine Ext.trans ?_ (by assumption))); first | done | fail))
          clear x1 x2 x3 x4 x5 x6
          go_wp2_with fail
          go_ret
          exact ⟨rfl, HX.out.b⟩
        | some t =>
          have HP := Kp.mk hp
          have HR := Kp.mk hr
          have HT := Kp.mk ht
          clear hp hr ht
          go_enter Tryd.func4, Tryd.ntmps4
          go_wp2_with fail
          refine (HU.out _).mono ?_
          rintro e w1 ⟨rfl, x⟩
          have x1 := x
          clear x
          obtain ⟨c0, c1, c2⟩ := box3 HB.out (show Ext (w.alloc (.cells #[.slice AN nN cN, .slice AE nE cE, .slice AD nD cD] 30)) w1 from (by (repeat (first | assumption | exact Ext.refl _ | apply Ext.drew | apply Ext.drewN | apply Ext.alloc | refine Ext.trans ?_ (by assumption))); first | done | fail))
          go_wp2_with (first | ((with_reducible refine at_load_to 15 2 ?_); refine wpList_load_row rfl 30 _ rfl w.heap.size rfl 30 _ (0, 0) _ (HB.out.ext (show Ext (w.alloc (.cells #[.slice AN nN cN, .slice AE nE cE, .slice AD nD cD] 30)) w1 from (by (repeat (first | assumption | exact Ext.refl _ | apply Ext.drew | apply Ext.drewN | apply Ext.alloc | refine Ext.trans ?_ (by assumption))); first | done | fail))).h Tryd.underlying30 rfl szS ?_) | fail)
          refine (light6_any true ⟨fun _ => HL.out, fun _ => rfl⟩).mono ?_
          rintro e w2 ⟨rfl, x⟩
          have x2 := Ext.trans (show Ext w1 _ from (by (repeat (first | assumption | exact Ext.refl _ | apply Ext.drew | apply Ext.drewN | apply Ext.alloc | refine Ext.trans ?_ (by assumption))); first | done | fail)) x
          clear x
          obtain ⟨c0, c1, c2⟩ := box3 HB.out (show Ext (w.alloc (.cells #[.slice AN nN cN, .slice AE nE cE, .slice AD nD cD] 30)) w2 from (by (repeat (first | assumption | exact Ext.refl _ | apply Ext.drew | apply Ext.drewN | apply Ext.alloc | refine Ext.trans ?_ (by assumption))); first | done | fail))
          go_wp2_with (first | ((with_reducible refine at_load_to 26 2 ?_); refine wpList_load_row rfl 30 _ rfl w.heap.size rfl 30 _ (0, 0) _ (HB.out.ext (show Ext (w.alloc (.cells #[.slice AN nN cN, .slice AE nE cE, .slice AD nD cD] 30)) w2 from (by (repeat (first | assumption | exact Ext.refl _ | apply Ext.drew | apply Ext.drewN | apply Ext.alloc | refine Ext.trans ?_ (by assumption))); first | done | fail))).h Tryd.underlying30 rfl szS ?_) | fail)
          refine (Show_ok (NN.out.ext (by (repeat (first | assumption | exact Ext.refl _ | apply Ext.drew | apply Ext.drewN | apply Ext.alloc | refine Ext.trans ?_ (by assumption))); first | done | fail)) (NE.out.ext (by (repeat (first | assumption | exact Ext.refl _ | apply Ext.drew | apply Ext.drewN | apply Ext.alloc | refine Ext.trans ?_ (by assumption))); first | done | fail)) (ND.out.ext (by (repeat (first | assumption | exact Ext.refl _ | apply Ext.drew | apply Ext.drewN | apply Ext.alloc | refine Ext.trans ?_ (by assumption))); first | done | fail)) (HC.out.ext (by (repeat (first | assumption | exact Ext.refl _ | apply Ext.drew | apply Ext.drewN | apply Ext.alloc | refine Ext.trans ?_ (by assumption))); first | done | fail)) HP.out HR.out HT.out).mono ?_
          rintro e w3 ⟨A9, n9, c9, rfl, _, s9, x⟩
          have x3 := Ext.trans (show Ext w2 _ from (by (repeat (first | assumption | exact Ext.refl _ | apply Ext.drew | apply Ext.drewN | apply Ext.alloc | refine Ext.trans ?_ (by assumption))); first | done | fail)) x
          clear x
          have S9 := Kp.mk s9
          clear s9
          obtain ⟨c0, c1, c2⟩ := box3 HB.out (show Ext (w.alloc (.cells #[.slice AN nN cN, .slice AE nE cE, .slice AD nD cD] 30)) w3 from (by (repeat (first | assumption | exact Ext.refl _ | apply Ext.drew | apply Ext.drewN | apply Ext.alloc | refine Ext.trans ?_ (by assumption))); first | done | fail))
          go_wp2_with (first | ((with_reducible refine at_load_to 31 2 ?_); refine wpList_load_row rfl 30 _ rfl w.heap.size rfl 30 _ (0, 0) _ (HB.out.ext (show Ext (w.alloc (.cells #[.slice AN nN cN, .slice AE nE cE, .slice AD nD cD] 30)) w3 from (by (repeat (first | assumption | exact Ext.refl _ | apply Ext.drew | apply Ext.drewN | apply Ext.alloc | refine Ext.trans ?_ (by assumption))); first | done | fail))).h Tryd.underlying30 rfl szS ?_) | fail)
          refine (refSecret_any (NN.out.ext (by (repeat (first | assumption | exact Ext.refl _ | apply Ext.drew | apply Ext.drewN | apply Ext.alloc | refine Ext.trans ?_ (by assumption))); first | done | fail)) (NE.out.ext (by (repeat (first | assumption | exact Ext.refl _ | apply Ext.drew | apply Ext.drewN | apply Ext.alloc | refine Ext.trans ?_ (by assumption))); first | done | fail)) (ND.out.ext (by (repeat (first | assumption | exact Ext.refl _ | apply Ext.drew | apply Ext.drewN | apply Ext.alloc | refine Ext.trans ?_ (by assumption))); first | done | fail)) bN.out bE.out bD.out (by decide) (by decide) (by decide) true (by simp [HP.out])).mono ?_
          rintro e w4 ⟨rfl, x⟩
          have x4 := Ext.trans (show Ext w3 _ from (by (repeat (first | assumption | exact Ext.refl _ | apply Ext.drew | apply Ext.drewN | apply Ext.alloc | refine Ext.trans ?_ (by assumption))); first | done | fail)) x
          clear x
          obtain ⟨c0, c1, c2⟩ := box3 HB.out (show Ext (w.alloc (.cells #[.slice AN nN cN, .slice AE nE cE, .slice AD nD cD] 30)) w4 from (by (repeat (first | assumption | exact Ext.refl _ | apply Ext.drew | apply Ext.drewN | apply Ext.alloc | refine Ext.trans ?_ (by assumption))); first | done | fail))
          go_wp2_with fail
          refine (Power_some (HC.out.ext (by (repeat (first | assumption | exact Ext.refl _ | apply Ext.drew | apply Ext.drewN | apply Ext.alloc | refine Ext.trans ?_ (by assumption))); first | done | fail)) (ND.out.ext (by (repeat (first | assumption | exact Ext.refl _ | apply Ext.drew | apply Ext.drewN | apply Ext.alloc | refine Ext.trans ?_ (by assumption))); first | done | fail)) (NN.out.ext (by (repeat (first | assumption | exact Ext.refl _ | apply Ext.drew | apply Ext.drewN | apply Ext.alloc | refine Ext.trans ?_ (by assumption))); first | done | fail)) bD.out (by decide) HP.out.1.2.1 HP.out.1.n0 HR.out).mono ?_
          rintro e w5 ⟨A7, c7, rfl, s7, x⟩
          have x5 := Ext.trans (show Ext w4 _ from (by (repeat (first | assumption | exact Ext.refl _ | apply Ext.drew | apply Ext.drewN | apply Ext.alloc | refine Ext.trans ?_ (by assumption))); first | done | fail)) x
          clear x
          have hN7 : nb vN ≤ 400 := by have := HP.out.1.2.1; omega
          have S7 := Kp.mk s7
          clear s7
          generalize nb vN = N at S7 hN7 ⊢
          obtain ⟨c0, c1, c2⟩ := box3 HB.out (show Ext (w.alloc (.cells #[.slice AN nN cN, .slice AE nE cE, .slice AD nD cD] 30)) w5 from (by (repeat (first | assumption | exact Ext.refl _ | apply Ext.drew | apply Ext.drewN | apply Ext.alloc | refine Ext.trans ?_ (by assumption))); first | done | fail))
          go_wp2_with fail
          refine (refShown_any (S7.out.ext (by (repeat (first | assumption | exact Ext.refl _ | apply Ext.drew | apply Ext.drewN | apply Ext.alloc | refine Ext.trans ?_ (by assumption))); first | done | fail)) hN7).mono ?_
          rintro e w6 ⟨A8, n8, c8, t8, b8, rfl, _, s8, x, h8⟩
          have x6 := Ext.trans (show Ext w5 _ from (by (repeat (first | assumption | exact Ext.refl _ | apply Ext.drew | apply Ext.drewN | apply Ext.alloc | refine Ext.trans ?_ (by assumption))); first | done | fail)) x
          clear x
          obtain ⟨rfl, rfl⟩ : b8 = true ∧ t8 = t := by rcases h8 with ⟨_, h⟩ | ⟨h1, h⟩; exact absurd (h.symm.trans HT.out) (by simp); exact ⟨h1, Option.some.inj (h.symm.trans HT.out)⟩
          have k8 := s8.str (Ext.refl _)
          have k9 := (S9.out.ext (show Ext _ w6 from (by (repeat (first | assumption | exact Ext.refl _ | apply Ext.drew | apply Ext.drewN | apply Ext.alloc | refine Ext.trans ?_ (by assumption))); first | done | fail))).str (Ext.refl _)
          clear s8 h8
          have HX := Kp.mk (show Ext w w6 from (by (repeat (first | assumption | exact Ext.refl _ | apply Ext.drew | apply Ext.drewN | apply Ext.alloc | refine Ext.trans ?_ (by assumption))); first | done | fail))
          clear x1 x2 x3 x4 x5 x6
          go_wp2_with fail
          go_ret
          exact ⟨by first | rfl | simp, HX.out.b⟩
end Go.Proofs.YticggkllfojgkaaDoor
