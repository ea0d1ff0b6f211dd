/-
  The walk of the law ShaBack.
-/
import Derived.Test.YtkjfhgbpiogigaaDoorWg
import Derived.Test.YtkjfhgbpiogigaaDoorEq
namespace Go.Proofs.YtkjfhgbpiogigaaDoor
open Go Go.RowKit

theorem add_inj_right {x y c : BitVec 32} (h : x + c = y + c) : x = y := by
  have := congrArg (fun z => z - c) h
  simpa using this
theorem round_inj (v w : List (BitVec 32)) (n : BitVec 32) (hv : v.length = 8) (hw : w.length = 8) (h : round v n = round w n) : v = w := by
  match v, w, hv, hw with
  | [a, b, c, d, e, f, g, i], [a', b', c', d', e', f', g', i'], _, _ =>
    simp only [round, gw, rA, rT, t1, List.getD_cons_zero, List.getD_cons_succ, List.cons.injEq, and_true] at h
    obtain ⟨h0, rfl, rfl, rfl, h4, rfl, rfl, rfl⟩ := h
    have ht := add_inj_right (add_inj_right h0)
    have hi := add_inj_right (add_inj_right (add_inj_right ht))
    subst hi
    have hd := add_inj_right h4
    subst hd
    rfl
theorem back_eq (v w : List (BitVec 32)) (n : BitVec 32) (hv : v.length = 8) (hw : w.length = 8) : ((round v n == round w n) == (v == w)) = true := by
  by_cases h : v = w
  · subst h; simp
  · have h1 : ¬ round v n = round w n := fun e => h (round_inj v w n hv hw e)
    rw [beq_eq_false_iff_ne.2 h, beq_eq_false_iff_ne.2 h1]
    rfl
theorem eq8 (x y : List (BitVec 32)) (hx : x.length = 8) (hy : y.length = 8) (w : World) :
    (Op.equalIn 10000 28 (.agg (wv x)) (.agg (wv y))).run Tryd.prog w = .ok (x == y) w :=
  run_equalIn_words w 9998 28 24 8 Tryd.underlying28 Tryd.underlying24 (by kernel_rfl) x y hx hy

theorem load8 {w : World} (g : Nat) (x : List (BitVec 32)) (h : Has w g 28 (wv x)) (hx : x.length = 8) :
    (Instr.loadAt 28 (.pointer (some ⟨g, 0, none⟩))).run Tryd.prog w = .ok (.agg (wv x)) w :=
  run_load_arr w 28 24 8 g (wv x) Tryd.underlying28 (szW8 _ hx) (fun j _ hv => (h.cell j).trans hv)

set_option maxHeartbeats 2000000 in
theorem ShaBack_any (v u : List (BitVec 32)) (n : BitVec 32) (w : World) (hv : v.length = 8) (hu : u.length = 8) (hw : Laid w) :
    Calls Tryd.prog 8 #[.agg (wv v), .agg (wv u), .int .u32 (un n)] w fun e w' => e = .returned (.bool true) ∧ Below w.heap.size w w' := by
  have HV := Lib.hid hv
  have HU := Lib.hid hu
  have HW := Lib.hid hw
  clear hv hu hw
  go_enter Tryd.func8, Tryd.ntmps8
  go_wp2_with fail
  have hb0 : Below w.heap.size w ((w.alloc (.cells (wv v) 28)).alloc (.cells (wv u) 28)) := ((Below.refl _ _).alloc (Nat.le_refl _) _).alloc (by simp) _
  have h1 : Has ((w.alloc (.cells (wv v) 28)).alloc (.cells (wv u) 28)) w.heap.size 28 (wv v) := (Has.new _ _ _ _ rfl).alloc _
  have h2 : Has ((w.alloc (.cells (wv v) 28)).alloc (.cells (wv u) 28)) (w.heap.size + 1) 28 (wv u) := Has.new _ _ _ _ (by simp)
  refine (up_any _ (HW.out.below hb0 (Nat.le_refl _))).mono ?_
  rintro e w1 ⟨rfl, hb1⟩
  have h11 := h1.below hb1 h1.lt
  have h21 := h2.below hb1 h2.lt
  have hb01 := hb0.trans (hb1.mono hb0.size)
  clear h1 h2 hb0 hb1
  go_wp2_with (first | (refine wpList_load_row rfl 28 _ rfl w.heap.size rfl 28 _ (0, 0) _ h11 Tryd.underlying28 rfl (szW8 _ HV.out) ?_) | fail)
  refine (round_any v n _ HV.out).mono ?_
  rintro e w2 ⟨rfl, hb2⟩
  have h12 := h11.below hb2 h11.lt
  have h22 := h21.below hb2 h21.lt
  have hb02 := hb01.trans (hb2.mono hb01.size)
  clear h11 h21 hb01 hb2
  go_wp2_with (first | (refine wpList_store_row rfl 28 _ _ rfl w2.heap.size (wv (round v n)) rfl rfl 28 zero8 (Has.new _ _ _ _ rfl) (szW8 _ (round_len _ _)) rfl (wv_one _) ?_) | (refine wpList_load_row rfl 28 _ rfl (w.heap.size + 1) rfl 28 (wv u) (0, 0) _ ((h22.alloc _).rowfar (by have := h22.lt; omega) _) Tryd.underlying28 rfl (szW8 _ HU.out) ?_) | fail)
  have hx3 : Has ((w2.alloc (.cells zero8 28)).setRow w2.heap.size (wv (round v n))) w2.heap.size 28 (wv (round v n)) := (Has.new _ _ _ _ rfl).row _
  have h13 : Has ((w2.alloc (.cells zero8 28)).setRow w2.heap.size (wv (round v n))) w.heap.size 28 (wv v) := (h12.alloc _).rowfar (by have := h12.lt; omega) _
  have h23 : Has ((w2.alloc (.cells zero8 28)).setRow w2.heap.size (wv (round v n))) (w.heap.size + 1) 28 (wv u) := (h22.alloc _).rowfar (by have := h22.lt; omega) _
  have hb03 : Below w.heap.size w ((w2.alloc (.cells zero8 28)).setRow w2.heap.size (wv (round v n))) := below_row (hb02.alloc hb02.size _) hb02.size _
  have hg2 : w.heap.size + 1 < w2.heap.size := h22.lt
  generalize ((w2.alloc (.cells zero8 28)).setRow w2.heap.size (wv (round v n))) = w3 at *
  clear h12 h22 hb02
  refine (round_any u n _ HU.out).mono ?_
  rintro e w4 ⟨rfl, hb4⟩
  have hx4 := hx3.below hb4 hx3.lt
  have h14 := h13.below hb4 h13.lt
  have h24 := h23.below hb4 h23.lt
  have hb04 := hb03.trans (hb4.mono hb03.size)
  have hg4 : w2.heap.size < w4.heap.size := hx4.lt
  clear hx3 h13 h23 hb03 hb4
  go_wp2_with (first | (refine wpList_store_row rfl 28 _ _ rfl w4.heap.size (wv (round u n)) rfl rfl 28 zero8 (Has.new _ _ _ _ rfl) (szW8 _ (round_len _ _)) rfl (wv_one _) ?_) | fail)
  have hy5 : Has ((w4.alloc (.cells zero8 28)).setRow w4.heap.size (wv (round u n))) w4.heap.size 28 (wv (round u n)) := (Has.new _ _ _ _ rfl).row _
  have hx5 : Has ((w4.alloc (.cells zero8 28)).setRow w4.heap.size (wv (round u n))) w2.heap.size 28 (wv (round v n)) := (hx4.alloc _).rowfar (by omega) _
  have h15 : Has ((w4.alloc (.cells zero8 28)).setRow w4.heap.size (wv (round u n))) w.heap.size 28 (wv v) := (h14.alloc _).rowfar (by omega) _
  have h25 : Has ((w4.alloc (.cells zero8 28)).setRow w4.heap.size (wv (round u n))) (w.heap.size + 1) 28 (wv u) := (h24.alloc _).rowfar (by omega) _
  have hb05 : Below w.heap.size w ((w4.alloc (.cells zero8 28)).setRow w4.heap.size (wv (round u n))) := below_row (hb04.alloc hb04.size _) hb04.size _
  generalize ((w4.alloc (.cells zero8 28)).setRow w4.heap.size (wv (round u n))) = w5 at *
  clear hx4 h14 h24 hb04
  refine wp_region_still_lit (by kernel_rfl) (by kernel_rfl) ?_
  have hb06 : Below w.heap.size w w5.drew := hb05.drew
  have hx6 : Has w5.drew w2.heap.size 28 (wv (round v n)) := hx5
  have hy6 : Has w5.drew w4.heap.size 28 (wv (round u n)) := hy5
  have h16 : Has w5.drew w.heap.size 28 (wv v) := h15
  have h26 : Has w5.drew (w.heap.size + 1) 28 (wv u) := h25
  change wpStill _ _ w5.drew (fun a' => Exit.then _ _ .normal a' w5.drew) _ _
  clear hb05 hx5 hy5 h15 h25
  generalize w5.drew = w6 at *
  have lx := Lib.hid (load8 w2.heap.size _ hx6 (round_len _ _))
  have ly := Lib.hid (load8 w4.heap.size _ hy6 (round_len _ _))
  have l1 := Lib.hid (load8 w.heap.size _ h16 HV.out)
  have l2 := Lib.hid (load8 (w.heap.size + 1) _ h26 HU.out)
  have hb := Lib.hid hb06
  clear hb06 hx6 hy6 h16 h26
  have e1 := eq8 (round v n) (round u n) (round_len _ _) (round_len _ _)
  have e2 := eq8 v u HV.out HU.out
  have e3 := back_eq v u n HV.out HU.out
  iterate 2 still_step
  refine wpStill_load_if rfl 28 _ rfl ⟨w2.heap.size, 0, none⟩ rfl _ lx.out ?_
  refine wpStill_load_if rfl 28 _ rfl ⟨w4.heap.size, 0, none⟩ rfl _ ly.out ?_
  still_step
  refine wpStill_load_if rfl 28 _ rfl ⟨w.heap.size, 0, none⟩ rfl _ l1.out ?_
  refine wpStill_load_if rfl 28 _ rfl ⟨w.heap.size + 1, 0, none⟩ rfl _ l2.out ?_
  repeat still_step
  refine wpStill_nil ?_
  go_wp2
  go_ret
  exact ⟨rfl, hb.out⟩
end Go.Proofs.YtkjfhgbpiogigaaDoor
