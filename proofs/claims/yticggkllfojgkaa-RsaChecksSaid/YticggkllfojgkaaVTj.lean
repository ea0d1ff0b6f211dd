/-
  The walk of the law RsaChecks.
-/
import Derived.Test.YticggkllfojgkaaM15
namespace Go.Proofs.Yticggkllfojgkaa
open Go Go.RowKit
set_option maxRecDepth 4000

set_option maxHeartbeats 8000000 in
set_option maxRecDepth 100000 in
theorem RsaChecks_any {w : World} {AN AE AD : Option Addr} {nN nE nD cN cE cD : Nat} {lN lE lD : List Nat} (hN : Nk w AN nN cN lN) (hE : Nk w AE nE cE lE) (hD : Nk w AD nD cD lD) :
    Calls Try.prog 3 #[.agg #[.slice AN nN cN, .slice AE nE cE, .slice AD nD cD]] w fun e w' => e = .returned (.bool true) ∧ Below w.heap.size w w' := by
  have HU := Kp.mk (fun u => up6_any u)
  have HB := Kp.mk (Blk.new w 25 #[.slice AN nN cN, .slice AE nE cE, .slice AD nD cD])
  rcases Decidable.em (nN ≤ 70 ∧ nE ≤ 70 ∧ nD ≤ 70) with hl | hl
  · have HL := Kp.mk hl
    have NN := Kp.mk (Nv.small hN.r hN.d (by omega))
    have bN := Kp.mk (Nat.lt_of_lt_of_le (vl_len hN.r hN.d) (Nat.pow_le_pow_right (n := BB) (by decide) (show nN ≤ 70 by omega)))
    obtain ⟨vN, hvN⟩ : ∃ v, vl BB lN = v := ⟨_, rfl⟩
    rw [hvN] at NN bN
    clear hN hvN
    have NE := Kp.mk (Nv.small hE.r hE.d (by omega))
    have bE := Kp.mk (Nat.lt_of_lt_of_le (vl_len hE.r hE.d) (Nat.pow_le_pow_right (n := BB) (by decide) (show nE ≤ 70 by omega)))
    obtain ⟨vE, hvE⟩ : ∃ v, vl BB lE = v := ⟨_, rfl⟩
    rw [hvE] at NE bE
    clear hE hvE
    have ee := code_eq 1 1
    clear hl hD
    by_cases hp : PubOk vN vE
    · have HP := Kp.mk hp
      clear hp
      go_enter Try.func3, Try.ntmps3
      go_wp2_with fail
      refine (HU.out _).mono ?_
      rintro e w1 ⟨rfl, x⟩
      have x1 := x
      clear x
      go_wp2_with (first | ((with_reducible refine at_load_to 8 1 ?_); refine wpList_load_row rfl 25 _ rfl w.heap.size rfl 25 _ (0, 0) _ (HB.out.ext (show Ext (w.alloc (.cells #[.slice AN nN cN, .slice AE nE cE, .slice AD nD cD] 25)) w1 from (by (repeat (first | assumption | exact Ext.refl _ | apply Ext.drew | apply Ext.drewN | apply Ext.alloc | refine Ext.trans ?_ (by assumption))); first | done | fail))).h Try.underlying25 rfl szS ?_) | fail)
      refine (light6_any true ⟨fun _ => HL.out, fun _ => rfl⟩).mono ?_
      rintro e w2 ⟨rfl, x⟩
      have x2 := Ext.trans (show Ext w1 _ from (by (repeat (first | assumption | exact Ext.refl _ | apply Ext.drew | apply Ext.drewN | apply Ext.alloc | refine Ext.trans ?_ (by assumption))); first | done | fail)) x
      clear x
      go_wp2_with (first | ((with_reducible refine at_load_to 13 1 ?_); refine wpList_load_row rfl 25 _ rfl w.heap.size rfl 25 _ (0, 0) _ (HB.out.ext (show Ext (w.alloc (.cells #[.slice AN nN cN, .slice AE nE cE, .slice AD nD cD] 25)) w2 from (by (repeat (first | assumption | exact Ext.refl _ | apply Ext.drew | apply Ext.drewN | apply Ext.alloc | refine Ext.trans ?_ (by assumption))); first | done | fail))).h Try.underlying25 rfl szS ?_) | fail)
      refine (public6_any).mono ?_
      rintro e w3 ⟨rfl, x⟩
      have x3 := Ext.trans (show Ext w2 _ from (by (repeat (first | assumption | exact Ext.refl _ | apply Ext.drew | apply Ext.drewN | apply Ext.alloc | refine Ext.trans ?_ (by assumption))); first | done | fail)) x
      clear x
      go_wp2_with fail
      refine (Check_ok (NN.out.ext (by (repeat (first | assumption | exact Ext.refl _ | apply Ext.drew | apply Ext.drewN | apply Ext.alloc | refine Ext.trans ?_ (by assumption))); first | done | fail)) (NE.out.ext (by (repeat (first | assumption | exact Ext.refl _ | apply Ext.drew | apply Ext.drewN | apply Ext.alloc | refine Ext.trans ?_ (by assumption))); first | done | fail)) HP.out).mono ?_
      rintro e w4 ⟨rfl, x⟩
      have x4 := Ext.trans (show Ext w3 _ from (by (repeat (first | assumption | exact Ext.refl _ | apply Ext.drew | apply Ext.drewN | apply Ext.alloc | refine Ext.trans ?_ (by assumption))); first | done | fail)) x
      clear x
      go_wp2_with (first | ((with_reducible refine at_load_to 16 1 ?_); refine wpList_load_row rfl 25 _ rfl w.heap.size rfl 25 _ (0, 0) _ (HB.out.ext (show Ext (w.alloc (.cells #[.slice AN nN cN, .slice AE nE cE, .slice AD nD cD] 25)) w4 from (by (repeat (first | assumption | exact Ext.refl _ | apply Ext.drew | apply Ext.drewN | apply Ext.alloc | refine Ext.trans ?_ (by assumption))); first | done | fail))).h Try.underlying25 rfl szS ?_) | fail)
      refine (public6_any).mono ?_
      rintro e w5 ⟨rfl, x⟩
      have x5 := Ext.trans (show Ext w4 _ from (by (repeat (first | assumption | exact Ext.refl _ | apply Ext.drew | apply Ext.drewN | apply Ext.alloc | refine Ext.trans ?_ (by assumption))); first | done | fail)) x
      clear x
      go_wp2_with fail
      refine (refPublic_any (NN.out.ext (by (repeat (first | assumption | exact Ext.refl _ | apply Ext.drew | apply Ext.drewN | apply Ext.alloc | refine Ext.trans ?_ (by assumption))); first | done | fail)) (NE.out.ext (by (repeat (first | assumption | exact Ext.refl _ | apply Ext.drew | apply Ext.drewN | apply Ext.alloc | refine Ext.trans ?_ (by assumption))); first | done | fail)) bN.out bE.out (by decide) (by decide) true (by simp [HP.out])).mono ?_
      rintro e w6 ⟨rfl, x⟩
      have x6 := Ext.trans (show Ext w5 _ from (by (repeat (first | assumption | exact Ext.refl _ | apply Ext.drew | apply Ext.drewN | apply Ext.alloc | refine Ext.trans ?_ (by assumption))); first | done | fail)) x
      clear x
      have HX := Kp.mk (show Ext w w6 from (by (repeat (first | assumption | exact Ext.refl _ | apply Ext.drew | apply Ext.drewN | apply Ext.alloc | refine Ext.trans ?_ (by assumption))); first | done | fail))
      clear x1 x2 x3 x4 x5 x6
      go_wp2_with fail
      go_ret
      exact ⟨rfl, HX.out.b⟩
    · have HP := Kp.mk hp
      clear hp
      go_enter Try.func3, Try.ntmps3
      go_wp2_with fail
      refine (HU.out _).mono ?_
      rintro e w1 ⟨rfl, x⟩
      have x1 := x
      clear x
      go_wp2_with (first | ((with_reducible refine at_load_to 8 1 ?_); refine wpList_load_row rfl 25 _ rfl w.heap.size rfl 25 _ (0, 0) _ (HB.out.ext (show Ext (w.alloc (.cells #[.slice AN nN cN, .slice AE nE cE, .slice AD nD cD] 25)) w1 from (by (repeat (first | assumption | exact Ext.refl _ | apply Ext.drew | apply Ext.drewN | apply Ext.alloc | refine Ext.trans ?_ (by assumption))); first | done | fail))).h Try.underlying25 rfl szS ?_) | fail)
      refine (light6_any true ⟨fun _ => HL.out, fun _ => rfl⟩).mono ?_
      rintro e w2 ⟨rfl, x⟩
      have x2 := Ext.trans (show Ext w1 _ from (by (repeat (first | assumption | exact Ext.refl _ | apply Ext.drew | apply Ext.drewN | apply Ext.alloc | refine Ext.trans ?_ (by assumption))); first | done | fail)) x
      clear x
      go_wp2_with (first | ((with_reducible refine at_load_to 13 1 ?_); refine wpList_load_row rfl 25 _ rfl w.heap.size rfl 25 _ (0, 0) _ (HB.out.ext (show Ext (w.alloc (.cells #[.slice AN nN cN, .slice AE nE cE, .slice AD nD cD] 25)) w2 from (by (repeat (first | assumption | exact Ext.refl _ | apply Ext.drew | apply Ext.drewN | apply Ext.alloc | refine Ext.trans ?_ (by assumption))); first | done | fail))).h Try.underlying25 rfl szS ?_) | fail)
      refine (public6_any).mono ?_
      rintro e w3 ⟨rfl, x⟩
      have x3 := Ext.trans (show Ext w2 _ from (by (repeat (first | assumption | exact Ext.refl _ | apply Ext.drew | apply Ext.drewN | apply Ext.alloc | refine Ext.trans ?_ (by assumption))); first | done | fail)) x
      clear x
      go_wp2_with fail
      refine (Check_bad (NN.out.ext (by (repeat (first | assumption | exact Ext.refl _ | apply Ext.drew | apply Ext.drewN | apply Ext.alloc | refine Ext.trans ?_ (by assumption))); first | done | fail)) (NE.out.ext (by (repeat (first | assumption | exact Ext.refl _ | apply Ext.drew | apply Ext.drewN | apply Ext.alloc | refine Ext.trans ?_ (by assumption))); first | done | fail)) HP.out).mono ?_
      rintro e w4 ⟨rfl, x⟩
      have x4 := Ext.trans (show Ext w3 _ from (by (repeat (first | assumption | exact Ext.refl _ | apply Ext.drew | apply Ext.drewN | apply Ext.alloc | refine Ext.trans ?_ (by assumption))); first | done | fail)) x
      clear x
      go_wp2_with (first | ((with_reducible refine at_load_to 16 1 ?_); refine wpList_load_row rfl 25 _ rfl w.heap.size rfl 25 _ (0, 0) _ (HB.out.ext (show Ext (w.alloc (.cells #[.slice AN nN cN, .slice AE nE cE, .slice AD nD cD] 25)) w4 from (by (repeat (first | assumption | exact Ext.refl _ | apply Ext.drew | apply Ext.drewN | apply Ext.alloc | refine Ext.trans ?_ (by assumption))); first | done | fail))).h Try.underlying25 rfl szS ?_) | fail)
      refine (public6_any).mono ?_
      rintro e w5 ⟨rfl, x⟩
      have x5 := Ext.trans (show Ext w4 _ from (by (repeat (first | assumption | exact Ext.refl _ | apply Ext.drew | apply Ext.drewN | apply Ext.alloc | refine Ext.trans ?_ (by assumption))); first | done | fail)) x
      clear x
      go_wp2_with fail
      refine (refPublic_any (NN.out.ext (by (repeat (first | assumption | exact Ext.refl _ | apply Ext.drew | apply Ext.drewN | apply Ext.alloc | refine Ext.trans ?_ (by assumption))); first | done | fail)) (NE.out.ext (by (repeat (first | assumption | exact Ext.refl _ | apply Ext.drew | apply Ext.drewN | apply Ext.alloc | refine Ext.trans ?_ (by assumption))); first | done | fail)) bN.out bE.out (by decide) (by decide) false (by simp [HP.out])).mono ?_
      rintro e w6 ⟨rfl, x⟩
      have x6 := Ext.trans (show Ext w5 _ from (by (repeat (first | assumption | exact Ext.refl _ | apply Ext.drew | apply Ext.drewN | apply Ext.alloc | refine Ext.trans ?_ (by assumption))); first | done | fail)) x
      clear x
      have HX := Kp.mk (show Ext w w6 from (by (repeat (first | assumption | exact Ext.refl _ | apply Ext.drew | apply Ext.drewN | apply Ext.alloc | refine Ext.trans ?_ (by assumption))); first | done | fail))
      clear x1 x2 x3 x4 x5 x6
      go_wp2_with fail
      go_ret
      exact ⟨rfl, HX.out.b⟩
  · have HL := Kp.mk hl
    clear hl hN hE hD
    go_enter Try.func3, Try.ntmps3
    go_wp2_with fail
    refine (HU.out _).mono ?_
    rintro e w1 ⟨rfl, x⟩
    have x1 := x
    clear x
    go_wp2_with (first | ((with_reducible refine at_load_to 8 1 ?_); refine wpList_load_row rfl 25 _ rfl w.heap.size rfl 25 _ (0, 0) _ (HB.out.ext (show Ext (w.alloc (.cells #[.slice AN nN cN, .slice AE nE cE, .slice AD nD cD] 25)) w1 from (by (repeat (first | assumption | exact Ext.refl _ | apply Ext.drew | apply Ext.drewN | apply Ext.alloc | refine Ext.trans ?_ (by assumption))); first | done | fail))).h Try.underlying25 rfl szS ?_) | fail)
    refine (light6_any false ⟨(fun h => nomatch h), fun h => absurd h HL.out⟩).mono ?_
    rintro e w2 ⟨rfl, x⟩
    have x2 := Ext.trans (show Ext w1 _ from (by (repeat (first | assumption | exact Ext.refl _ | apply Ext.drew | apply Ext.drewN | apply Ext.alloc | refine Ext.trans ?_ (by assumption))); first | done | fail)) x
    clear x
    have HX := Kp.mk (show Ext w w2 from (by (repeat (first | assumption | exact Ext.refl _ | apply Ext.drew | apply Ext.drewN | apply Ext.alloc | refine Ext.trans ?_ (by assumption))); first | done | fail))
    clear x1 x2
    go_wp2_with fail
    go_ret
    exact ⟨rfl, HX.out.b⟩
end Go.Proofs.Yticggkllfojgkaa
