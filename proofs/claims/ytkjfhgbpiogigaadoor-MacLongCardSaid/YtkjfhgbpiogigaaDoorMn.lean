/-
  The walk of the law MacLong.
-/
import Derived.Test.YtkjfhgbpiogigaaDoorMl
import Derived.Test.YtkjfhgbpiogigaaDoorEr
namespace Go.Proofs.YtkjfhgbpiogigaaDoor
open Go Go.RowKit

set_option maxRecDepth 100000 in
set_option maxHeartbeats 8000000 in
theorem MacLong_any {k0 b0 : List (BitVec 8)} {A B : Option Addr} {n0 c m0 d : Nat} {w : World} (r f z : Int) (hk0 : Bs w A n0 c k0) (hb0 : Bs w B m0 d b0) (hw : Lay w) :
    Calls Tryd.prog 15 #[.slice A n0 c, .slice B m0 d, .int .i64 r, .int .i64 f, .int .i64 z] w fun e w' => e = .returned (.bool true) ∧ Below w.heap.size w w' := by
  go_enter Tryd.func15, Tryd.ntmps15
  go_wp2_with fail
  refine (up2_any _ hw).mono ?_
  rintro e w1 ⟨rfl, hx1⟩
  go_wp2_with fail
  refine (cut2_any (k := 500) 500 (hk0.ext hx1) rfl).mono ?_
  rintro e w1' ⟨n, k, rfl, hn, _, hk, rfl⟩
  go_wp2_with fail
  refine (cut2_any (k := 500) 500 (hb0.ext hx1) rfl).mono ?_
  rintro e w1' ⟨m, b, rfl, hm, _, hb, rfl⟩
  have hw1 := hw.ext hx1
  have HX1 := Kp.mk hx1
  clear hk0 hb0 hw hx1
  go_wp2_with fail
  refine (Mark_any hk hb hw1 (by omega) (by omega)).mono ?_
  rintro e w2 ⟨A2, c2, rfl, hs2, _, hx2⟩
  have hk2 := hk.ext hx2
  have hb2 := hb.ext hx2
  have hw2 := hw1.ext hx2
  have HX2 := Kp.mk (HX1.out.trans hx2)
  clear hk hb hw1 hx2 HX1
  have hkn : k.length = n := hk2.len
  have HKN := Kp.mk hkn
  clear hkn
  have hc2 := fun (w' : World) (hx : Ext w2 w') => hs2.str hx
  go_wp2_with fail
  go_cut [41] (fun t w' => t = .bool false ∧ Ext w2 w')
  case first =>
    by_cases h1 : 64 < n
    · have hml := mkL_long k b (by rw [HKN.out]; exact h1)
      have HML := Kp.mk hml
      have hd1 : decide (64 < (n : Int)) = true := by simp; omega
      clear hml
      go_region_held3 (fun w' => Ext w2 w') (exact (by (repeat (first | assumption | exact Ext.refl _ | apply Ext.drew | apply Ext.drewN | apply Ext.alloc | refine Ext.trans ?_ (by assumption))); first | done | fail)) (first | (go_at_call 28; refine (sum_fr _ _ _ _ _ (hk2.ext (by (repeat (first | assumption | exact Ext.refl _ | apply Ext.drew | apply Ext.drewN | apply Ext.alloc | refine Ext.trans ?_ (by assumption))); first | done | fail)) (hw2.ext (by (repeat (first | assumption | exact Ext.refl _ | apply Ext.drew | apply Ext.drewN | apply Ext.alloc | refine Ext.trans ?_ (by assumption))); first | done | fail)) (by omega)).mono ?_; rintro e w3 ⟨A3, c3, rfl, hs3, _, hx3⟩) | (go_at_call 33; refine (Mark_any (hs3.ext (by (repeat (first | assumption | exact Ext.refl _ | apply Ext.drew | apply Ext.drewN | apply Ext.alloc | refine Ext.trans ?_ (by assumption))); first | done | fail)) (hb2.ext (by (repeat (first | assumption | exact Ext.refl _ | apply Ext.drew | apply Ext.drewN | apply Ext.alloc | refine Ext.trans ?_ (by assumption))); first | done | fail)) (hw2.ext (by (repeat (first | assumption | exact Ext.refl _ | apply Ext.drew | apply Ext.drewN | apply Ext.alloc | refine Ext.trans ?_ (by assumption))); first | done | fail)) (by omega) (by omega)).mono ?_; rintro e w4 ⟨A4, c4, rfl, hs4, _, hx4⟩; rw [HML.out] at hs4; have hc4 := fun (w' : World) (hx : Ext w4 w') => hs4.str hx))
      all_goals
        go_wp2
        go_meet
        exact ⟨rfl, (by (repeat (first | assumption | exact Ext.refl _ | apply Ext.drew | apply Ext.drewN | apply Ext.alloc | refine Ext.trans ?_ (by assumption))); first | done | fail)⟩
    · have hd1 : decide (64 < (n : Int)) = false := by simp; omega
      go_quiet (fail)
      all_goals
        go_wp2
        go_meet
        exact ⟨rfl, (by (repeat (first | assumption | exact Ext.refl _ | apply Ext.drew | apply Ext.drewN | apply Ext.alloc | refine Ext.trans ?_ (by assumption))); first | done | fail)⟩
  case rest =>
    obtain ⟨rfl, hxc⟩ := hcut
    obtain ⟨wa, rfl⟩ : ∃ x, x = wc := ⟨_, rfl⟩
    have hk3 := hk2.ext hxc
    have hb3 := hb2.ext hxc
    have hw3 := hw2.ext hxc
    have hs3 := hs2.ext hxc
    have HX3 := Kp.mk (HX2.out.trans hxc)
    clear hk2 hb2 hw2 hs2 HX2 hxc hc2
    have hc2 := fun (w' : World) (hx : Ext wa w') => hs3.str hx
    go_wp2_with fail
    go_cut [57] (fun t w' => t = .bool false ∧ Ext wa w')
    case first =>
      by_cases h1 : n < 64
      · have hml := mkL_zero k b (by rw [HKN.out]; exact h1)
        have HML := Kp.mk hml
        have hd1 : decide ((n : Int) < 64) = true := by simp; omega
        clear hml
        go_region_held3 (fun w' => Ext wa w') (exact (by (repeat (first | assumption | exact Ext.refl _ | apply Ext.drew | apply Ext.drewN | apply Ext.alloc | refine Ext.trans ?_ (by assumption))); first | done | fail)) (first | (rw [if_pos (by rfl)]; refine wp_append_bs2 (.tmp 48) (.tmp 49) rfl wa.heap.size (.slice (some ⟨wa.heap.size, 0, none⟩) 0 0) 0 [] rfl (Own.has (g := wa.heap.size) (l := []) (by (repeat (first | (with_reducible apply Has.drew) | exact Has.new _ _ _ _ (by first | (simp; done) | fail) | (with_reducible apply Has.alloc))); first | done | fail) rfl (by simp) (by decide)) _ n c k rfl (hk3.ext (by (repeat (first | assumption | exact Ext.refl _ | apply Ext.drew | apply Ext.drewN | apply Ext.alloc | refine Ext.trans ?_ (by assumption))); first | done | fail)) (by omega) n (by omega) k rfl wa (by (repeat (first | assumption | exact Ext.refl _ | apply Ext.drew | apply Ext.drewN | apply Ext.alloc | refine Ext.trans ?_ (by assumption))); first | done | fail) (Nat.le_refl _) (Ext.size (by (repeat (first | assumption | exact Ext.refl _ | apply Ext.drew | apply Ext.drewN | apply Ext.alloc | refine Ext.trans ?_ (by assumption))); first | done | fail)) (.slice (some ⟨wa.heap.size + 1, 0, none⟩) 1 1) 1 [0] (Own.has (g := wa.heap.size + 1) (l := [0]) (by (repeat (first | (with_reducible apply Has.drew) | exact Has.new _ _ _ _ (by first | (simp; done) | fail) | (with_reducible apply Has.alloc))); first | done | fail) rfl (by simp) (by decide)) (.inr (by simp [Value.ownBlock])) ?_; intro A5 c5 w5 ho5 hx5 hap5 hz5) | (rw [if_pos (by rfl)]; refine wp_append_bs2 (.tmp 48) (.tmp 49) rfl wa.heap.size (.slice (some ⟨wa.heap.size + 1, 0, none⟩) 0 0) 0 [] rfl (Own.has (g := wa.heap.size + 1) (l := []) (by (repeat (first | (with_reducible apply Has.drew) | exact Has.new _ _ _ _ (by first | (simp; done) | fail) | (with_reducible apply Has.alloc))); first | done | fail) rfl (by simp) (by decide)) _ n c k rfl (hk3.ext (by (repeat (first | assumption | exact Ext.refl _ | apply Ext.drew | apply Ext.drewN | apply Ext.alloc | refine Ext.trans ?_ (by assumption))); first | done | fail)) (by omega) n (by omega) k rfl wa (by (repeat (first | assumption | exact Ext.refl _ | apply Ext.drew | apply Ext.drewN | apply Ext.alloc | refine Ext.trans ?_ (by assumption))); first | done | fail) (Nat.le_refl _) (Ext.size (by (repeat (first | assumption | exact Ext.refl _ | apply Ext.drew | apply Ext.drewN | apply Ext.alloc | refine Ext.trans ?_ (by assumption))); first | done | fail)) (.slice (some ⟨wa.heap.size, 0, none⟩) 1 1) 1 [0] (Own.has (g := wa.heap.size) (l := [0]) (by (repeat (first | (with_reducible apply Has.drew) | exact Has.new _ _ _ _ (by first | (simp; done) | fail) | (with_reducible apply Has.alloc))); first | done | fail) rfl (by simp) (by decide)) (.inr (by simp [Value.ownBlock])) ?_; intro A5 c5 w5 ho5 hx5 hap5 hz5) | (rw [if_pos (by rfl)]; refine wp_append_bs (.tmp 48) (.tmp 49) rfl wa.heap.size (.slice (some ⟨wa.heap.size, 0, none⟩) 0 0) 0 [] rfl (Own.has (g := wa.heap.size) (l := []) (by (repeat (first | (with_reducible apply Has.drew) | exact Has.new _ _ _ _ (by first | (simp; done) | fail) | (with_reducible apply Has.alloc))); first | done | fail) rfl (by simp) (by decide)) _ n c k rfl (hk3.ext (by (repeat (first | assumption | exact Ext.refl _ | apply Ext.drew | apply Ext.drewN | apply Ext.alloc | refine Ext.trans ?_ (by assumption))); first | done | fail)) (by omega) n (by omega) k rfl wa (by (repeat (first | assumption | exact Ext.refl _ | apply Ext.drew | apply Ext.drewN | apply Ext.alloc | refine Ext.trans ?_ (by assumption))); first | done | fail) (Nat.le_refl _) (Ext.size (by (repeat (first | assumption | exact Ext.refl _ | apply Ext.drew | apply Ext.drewN | apply Ext.alloc | refine Ext.trans ?_ (by assumption))); first | done | fail)) ?_; intro A5 c5 w5 ho5 hx5 hap5) | (rw [if_pos (by rfl)]; refine wp_append_bs (.tmp 50) (.tmp 51) rfl wa.heap.size (.slice A5 n c5) n _ rfl (ho5.ext (by (repeat (first | assumption | exact Ext.refl _ | apply Ext.drew | apply Ext.drewN | apply Ext.alloc | refine Ext.trans ?_ (by assumption))); first | done | fail)) _ 1 1 [0] rfl (hz5.bs.ext (by (repeat (first | assumption | exact Ext.refl _ | apply Ext.drew | apply Ext.drewN | apply Ext.alloc | refine Ext.trans ?_ (by assumption))); first | done | fail)) (by omega) (n + 1) rfl _ rfl wa (by (repeat (first | assumption | exact Ext.refl _ | apply Ext.drew | apply Ext.drewN | apply Ext.alloc | refine Ext.trans ?_ (by assumption))); first | done | fail) (Nat.le_refl _) (Ext.size (by (repeat (first | assumption | exact Ext.refl _ | apply Ext.drew | apply Ext.drewN | apply Ext.alloc | refine Ext.trans ?_ (by assumption))); first | done | fail)) ?_; intro A7 c7 w7 ho7 hx7 hap7; have hs5 := ho7.bs) | (rw [if_pos (by rfl)]; refine wp_append_bs (.tmp 50) (.tmp 51) rfl wa.heap.size (.slice A5 n c5) n _ rfl (ho5.ext (by (repeat (first | assumption | exact Ext.refl _ | apply Ext.drew | apply Ext.drewN | apply Ext.alloc | refine Ext.trans ?_ (by assumption))); first | done | fail)) _ 1 1 [0] rfl (Bs.ext (byte_bs w5 0) (by (repeat (first | assumption | exact Ext.refl _ | apply Ext.drew | apply Ext.drewN | apply Ext.alloc | refine Ext.trans ?_ (by assumption))); first | done | fail)) (by omega) (n + 1) rfl _ rfl wa (by (repeat (first | assumption | exact Ext.refl _ | apply Ext.drew | apply Ext.drewN | apply Ext.alloc | refine Ext.trans ?_ (by assumption))); first | done | fail) (Nat.le_refl _) (Ext.size (by (repeat (first | assumption | exact Ext.refl _ | apply Ext.drew | apply Ext.drewN | apply Ext.alloc | refine Ext.trans ?_ (by assumption))); first | done | fail)) ?_; intro A7 c7 w7 ho7 hx7 hap7; have hs5 := ho7.bs) | (go_at_call 33; refine (Mark_any (hs5.ext (by (repeat (first | assumption | exact Ext.refl _ | apply Ext.drew | apply Ext.drewN | apply Ext.alloc | refine Ext.trans ?_ (by assumption))); first | done | fail)) (hb3.ext (by (repeat (first | assumption | exact Ext.refl _ | apply Ext.drew | apply Ext.drewN | apply Ext.alloc | refine Ext.trans ?_ (by assumption))); first | done | fail)) (hw3.ext (by (repeat (first | assumption | exact Ext.refl _ | apply Ext.drew | apply Ext.drewN | apply Ext.alloc | refine Ext.trans ?_ (by assumption))); first | done | fail)) (by omega) (by omega)).mono ?_; rintro e w6 ⟨A6, c6, rfl, hs6, _, hx6⟩; rw [HML.out] at hs6; have hc6 := fun (w' : World) (hx : Ext w6 w') => hs6.str hx))
        all_goals
          go_wp2
          go_meet
          exact ⟨rfl, (by (repeat (first | assumption | exact Ext.refl _ | apply Ext.drew | apply Ext.drewN | apply Ext.alloc | refine Ext.trans ?_ (by assumption))); first | done | fail)⟩
      · have hd1 : decide ((n : Int) < 64) = false := by simp; omega
        go_quiet (fail)
        all_goals
          go_wp2
          go_meet
          exact ⟨rfl, (by (repeat (first | assumption | exact Ext.refl _ | apply Ext.drew | apply Ext.drewN | apply Ext.alloc | refine Ext.trans ?_ (by assumption))); first | done | fail)⟩
    case rest =>
      obtain ⟨rfl, hxc⟩ := hcut
      obtain ⟨wb, rfl⟩ : ∃ x, x = wc := ⟨_, rfl⟩
      have hk4 := hk3.ext hxc
      have hb4 := hb3.ext hxc
      have hw4 := hw3.ext hxc
      have HX4 := Kp.mk (HX3.out.trans hxc)
      clear hk3 hb3 hw3 hs3 HX3 hxc hc2
      by_cases g1 : r < 1
      · go_wp2
        go_ret
        exact ⟨rfl, HX4.out.b⟩
      by_cases g2 : 6 < r
      · go_wp2
        go_ret
        exact ⟨rfl, HX4.out.b⟩
      by_cases g3 : f < 0
      · go_wp2
        go_ret
        exact ⟨rfl, HX4.out.b⟩
      by_cases g4 : z < f
      · go_wp2
        go_ret
        exact ⟨rfl, HX4.out.b⟩
      by_cases g5 : 256 < z
      · go_wp2
        go_ret
        exact ⟨rfl, HX4.out.b⟩
      obtain ⟨r', rfl⟩ := Int.eq_ofNat_of_zero_le (show 0 ≤ r by omega)
      obtain ⟨f', rfl⟩ := Int.eq_ofNat_of_zero_le (show 0 ≤ f by omega)
      obtain ⟨z', rfl⟩ := Int.eq_ofNat_of_zero_le (show 0 ≤ z by omega)
      have q1 : 1 ≤ r' := by omega
      have q2 : r' ≤ 10000 := by omega
      have q3 : f' ≤ 256 := by omega
      have q4 : z' ≤ 256 := by omega
      have q5 : f' ≤ z' := by omega
      go_wp2_with fail
      refine (Derive_any r' f' hk4 hb4 hw4 (by omega) (by omega) q1 q2 q3).mono ?_
      rintro e w5 ⟨A5, c5, rfl, hs5, _, hx5⟩
      go_wp2_with fail
      refine (Derive_any r' z' (hk4.ext hx5) (hb4.ext hx5) (hw4.ext hx5) (by omega) (by omega) q1 q2 q4).mono ?_
      rintro e w6 ⟨A6, c6, rfl, hs6, ho6, hx6⟩
      have hx06 := hx5.trans hx6
      go_wp2_with fail
      refine (Based_any r' (hk4.ext hx06) (hb4.ext hx06) (hw4.ext hx06) (by omega) (by omega) q1 q2).mono ?_
      rintro e w7 ⟨A7, c7, rfl, hs7, _, hx7⟩
      have hx07 := hx06.trans hx7
      go_wp2_with fail
      have e1 : (r' : Int) + 1 = ((r' + 1 : Nat) : Int) := by omega
      rw [e1]
      refine (Based_any (r' + 1) (hk4.ext hx07) (hb4.ext hx07) (hw4.ext hx07) (by omega) (by omega) (by omega) (by omega)).mono ?_
      rintro e w8 ⟨A8, c8, rfl, hs8, _, hx8⟩
      have hx08 := hx07.trans hx8
      have hbk : dg (bk k b (r' - 1)) = bk k b (r' + 1 - 1) := by
        obtain ⟨t, rfl⟩ : ∃ t, r' = t + 1 := ⟨r' - 1, by omega⟩
        rfl
      have hdt := dkL_take k b r' f' z' q5
      have hup := run_uptoB ho6 f' q5
      have hd5 := (hs5.ext hx6).ext (hx7.trans hx8)
      have hd6 := (hs6.ext (hx7.trans hx8)).take f' q5
      rw [hdt] at hd6
      have hs78 := hs7.ext hx8
      have hw8 := hw4.ext hx08
      have HBK := Kp.mk hbk
      have HX8 := Kp.mk (HX4.out.trans hx08)
      have hcv5 := fun (w' : World) (hx : Ext w8 w') => hd5.str hx
      have hcv6 := fun (w' : World) (hx : Ext w8 w') => hd6.str hx
      have hcv8 := fun (w' : World) (hx : Ext w8 w') => hs8.str hx
      clear hdt hbk hx5 hx6 hx06 hx7 hx07 hx8 hx08 hd5 hd6 hs5 hs6 ho6 hs7 hs8 hk4 hb4 hw4 HX4 e1 g1 g2 g3 g4 g5
      go_wp2_with fail
      go_region_held3 (fun w' => Ext w8 w') (exact (by (repeat (first | assumption | exact Ext.refl _ | apply Ext.drew | apply Ext.drewN | apply Ext.alloc | refine Ext.trans ?_ (by assumption))); first | done | fail)) ((go_at_call 28; refine (sum_fr _ _ _ _ _ (hs78.ext (by (repeat (first | assumption | exact Ext.refl _ | apply Ext.drew | apply Ext.drewN | apply Ext.alloc | refine Ext.trans ?_ (by assumption))); first | done | fail)) (hw8.ext (by (repeat (first | assumption | exact Ext.refl _ | apply Ext.drew | apply Ext.drewN | apply Ext.alloc | refine Ext.trans ?_ (by assumption))); first | done | fail)) (by omega)).mono ?_; rintro e w9 ⟨A9, c9, rfl, hs9, _, hx9⟩; rw [HBK.out] at hs9; have hc9 := fun (w' : World) (hx : Ext w9 w') => hs9.str hx))
      all_goals
        go_wp2
        go_ret
        exact ⟨rfl, (HX8.out.trans (by (repeat (first | assumption | exact Ext.refl _ | apply Ext.drew | apply Ext.drewN | apply Ext.alloc | refine Ext.trans ?_ (by assumption))); first | done | fail)).b⟩
end Go.Proofs.YtkjfhgbpiogigaaDoor
