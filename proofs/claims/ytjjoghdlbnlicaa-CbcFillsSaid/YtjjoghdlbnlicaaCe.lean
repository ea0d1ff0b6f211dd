/-
  The laws' head of layer 4; the law CbcFills.
-/
import Derived.Test.YtjjoghdlbnlicaaCd
namespace Go.Proofs.Ytjjoghdlbnlicaa
open Go Go.RowKit

set_option maxHeartbeats 2000000 in
theorem up4_any (w : World) : Calls Try.prog 4 #[] w fun e w' => e = .returned (.bool true) ∧ Ext w w' := by
  have hf : Calls Try.prog 8 #[.slice none 0 0] w (Fresh w 16 (fillL [])) := Fill_any (Bs.nil w) (by omega)
  have hE : ∀ A c w, Bs w A 15 c (List.replicate 15 2#8) → Calls Try.prog 6 #[.slice A 15 c] w fun e w' => e = .returned (.tuple #[.slice none 0 0, err 7]) ∧ Ext w w' := fun A c w h => (Empty_any h (by omega)).mono fun e w' he => by
    rcases he with ⟨t, h1, _⟩ | ⟨_, h2, h3⟩
    · rw [empty_whole _ (by simp)] at h1; cases h1
    · exact ⟨h2, h3⟩
  have hee := code_eq 7 7
  have HE := Kp.mk hE
  clear hE
  go_enter Try.func4, Try.ntmps4
  go_wp2_with (first | (go_at_call 8; refine Calls.mono hf ?_; rintro e w1 ⟨A1, c1, rfl, hs1, ho1, hx1⟩) | fail)
  obtain ⟨g, o, rfl, hc⟩ := hs1.s.2.2.2 (by decide)
  have k0 : w1.cell? ⟨g, o + 0, none⟩ = some (.int .u8 16) := hc 0 (by decide)
  have k15 : w1.cell? ⟨g, o + 15, none⟩ = some (.int .u8 16) := hc 15 (by decide)
  have K0 := Kp.mk k0
  have K15 := Kp.mk k15
  clear hs1 ho1 hc k0 k15 hf
  go_loopw [2, 3] (fun bw iv wr => ∃ j : Nat, j ≤ 15 ∧ iv = .int .i64 j ∧ (∃ A c, bw = .slice A j c) ∧ Own wr w1.heap.size bw j (List.replicate j 2#8) ∧ Ext w1 wr) (fun _ i _ => 15 - (intOf i).toNat)
  case atStart => exact ⟨0, by omega, rfl, ⟨_, _, rfl⟩, Own.nil _ _, Ext.refl _⟩
  case round =>
    obtain ⟨j, hj, rfl, ⟨A4, c4, rfl⟩, ho, hx⟩ := hrel
    by_cases hlt : j < 15
    · have b1 : (j : Int) < 15 := by omega
      have HR := Kp.mk (List.replicate_succ' (n := j) (a := 2#8))
      have hub : ub 2#8 = 2 := rfl
      go_wp2_with (first | (at_builtin; refine wpList_append_bs rfl (.tmp 11) (.tmp 12) rfl w1.heap.size _ j _ rfl (ho.ext (by (repeat (first | assumption | exact Ext.refl _ | apply Ext.drew | apply Ext.drewN | apply Ext.alloc | refine Ext.trans ?_ (by assumption))); first | done | fail)) _ 1 1 [2#8] rfl (num_bs wr _ _ hub) (by omega) (j + 1) rfl _ rfl w1 (hx.trans (by (repeat (first | assumption | exact Ext.refl _ | apply Ext.drew | apply Ext.drewN | apply Ext.alloc | refine Ext.trans ?_ (by assumption))); first | done | fail)) (Nat.le_refl _) (hx.trans (by (repeat (first | assumption | exact Ext.refl _ | apply Ext.drew | apply Ext.drewN | apply Ext.alloc | refine Ext.trans ?_ (by assumption))); first | done | fail)).size ?_; intro A5 c5 w5 ho5 hx5 _) | fail)
      go_roundw
      case rel => exact ⟨j + 1, by omega, by go_num, ⟨_, _, rfl⟩, by rw [HR.out]; exact ho5, hx5⟩
      case measure => simp [intOf]; omega
    · obtain rfl : j = 15 := by omega
      have hb := HE.out A4 c4 wr ho.bs
      clear ho
      go_wp2_with fail
      refine hb.mono ?_
      rintro e w2 ⟨rfl, hx2⟩
      have k0 := (hx2.b.cell (block_lt_of_cell ((hx.b.cell (block_lt_of_cell K0.out)).trans K0.out))).trans ((hx.b.cell (block_lt_of_cell K0.out)).trans K0.out)
      have k15 := (hx2.b.cell (block_lt_of_cell ((hx.b.cell (block_lt_of_cell K15.out)).trans K15.out))).trans ((hx.b.cell (block_lt_of_cell K15.out)).trans K15.out)
      have HX := Kp.mk (hx1.trans (hx.trans hx2))
      rw [Nat.add_zero] at k0
      clear hb HE K0 K15
      go_wp2_with fail
      go_ret
      exact ⟨rfl, HX.out⟩
theorem emp_str {x y : List (BitVec 8)} (h : x = y) : ((strOf x).toList == (strOf y).toList) = true := by rw [h]; exact beq_self_eq_true _
set_option maxHeartbeats 4000000 in
theorem CbcFills_any {b : List (BitVec 8)} {A : Option Addr} {n c : Nat} {w : World} (h : Bs w A n c b) :
    Calls Try.prog 3 #[.slice A n c] w fun e w' => e = .returned (.bool true) ∧ Below w.heap.size w w' := by
  go_enter Try.func3, Try.ntmps3
  go_wp2_with fail
  refine (up4_any w).mono ?_
  rintro e w1 ⟨rfl, hx1⟩
  go_wp2_with fail
  refine (cut4_any A n c 1000 1000 rfl h.cap w1).mono ?_
  rintro e w2 ⟨rfl, rfl⟩
  have hb0 := (h.ext hx1).take (min n 1000) (Nat.min_le_left _ _)
  have hm : min n 1000 ≤ 1000 := Nat.min_le_right _ _
  generalize min n 1000 = m at *
  generalize b.take m = t at *
  have HX := Kp.mk hx1
  clear h hx1
  go_wp2_with fail
  cases he : emptyL t with
  | some x =>
    refine (Empty_some hb0 (by omega) he).mono ?_
    rintro e w2 ⟨A2, c2, rfl, hs2, _, hx2⟩
    go_wp2_with fail
    refine (refEmpty_some (hb0.ext hx2) (by omega) he).mono ?_
    rintro e w3 ⟨A3, c3, rfl, hs3, hx3⟩
    have hb3 := hb0.ext (hx2.trans hx3)
    have hs2' := hs2.ext hx3
    have HX3 := Kp.mk (HX.out.trans (hx2.trans hx3))
    clear hb0 hs2 hx2 hx3 HX he
    go_wp2_with fail
    refine wp_region_held_drew (S := fun w' => Ext w3 w') (by kernel_rfl) (Ext.refl w3).drew (fun hHeld => ?_)
    refine wpAnyH_take (i := 0) (oi := ⟨some 21, _, _, _, _, _⟩) (v := ?_) rfl (by kernel_rfl) (by kernel_rfl) (by kernel_rfl) (fun _ _ _ h => h) (Or.inl ⟨by rfl, ?_⟩) (by assumption) ?_
    rotate_left
    · (intro w hSw; (try dsimp only at hSw); go_simp; try with_reducible rfl)
    try simp only [Act.put, List.setIfInBounds_toArray, List.set_cons_zero, List.set_cons_succ]
    refine wpAnyH_take (i := 3) (oi := ⟨some 24, _, _, _, _, _⟩) (v := ?_) rfl (by kernel_rfl) (by kernel_rfl) (by kernel_rfl) (fun _ _ _ h => h) (Or.inl ⟨by rfl, ?_⟩) (by assumption) ?_
    rotate_left
    · (intro w hSw; (try dsimp only at hSw); go_simp; try with_reducible rfl)
    try simp only [Act.put, List.setIfInBounds_toArray, List.set_cons_zero, List.set_cons_succ]
    refine next_one 1 (by kernel_rfl) rfl (by rfl) fun K' HK' => ?_
    go_simp
    refine (Fill_any (hb3.ext (by (repeat (first | assumption | exact Ext.refl _ | apply Ext.drew | apply Ext.drewN | apply Ext.alloc | refine Ext.trans ?_ (by assumption))); first | done | fail)) (by omega)).mono ?_
    rintro e w4 ⟨A4, c4, rfl, hs4, _, hx4⟩
    have hx34 : Ext w3 w4 := (by (repeat (first | assumption | exact Ext.refl _ | apply Ext.drew | apply Ext.drewN | apply Ext.alloc | refine Ext.trans ?_ (by assumption))); first | done | fail)
    have hS2 := Ext.trans hHeld hx4
    refine held_go HK' hS2 (fun _ => ?_)
    clear HK'
    refine held_more (S' := fun w' => Ext w4 w') (fun _ h => Ext.trans hS2 h) _ _ _ _ ?_
    clear hHeld hS2
    have hHeld : Ext w4 w4 := Ext.refl _
    try simp only [Act.put, List.setIfInBounds_toArray, List.set_cons_zero, List.set_cons_succ]
    have hc4 := fun (w' : World) (hx : Ext w4 w') => hs4.str hx
    refine wpAnyH_take (i := 2) (oi := ⟨some 23, _, _, _, _, _⟩) (v := ?_) rfl (by kernel_rfl) (by kernel_rfl) (by kernel_rfl) (fun _ _ _ h => h) (Or.inl ⟨by rfl, ?_⟩) (by assumption) ?_
    rotate_left
    · (intro w hSw; (try dsimp only at hSw); go_simp; try with_reducible rfl)
    try simp only [Act.put, List.setIfInBounds_toArray, List.set_cons_zero, List.set_cons_succ]
    refine next_one 4 (by kernel_rfl) rfl (by rfl) fun K' HK' => ?_
    go_simp
    refine (refFill_any (hb3.ext (hx34.trans (by (repeat (first | assumption | exact Ext.refl _ | apply Ext.drew | apply Ext.drewN | apply Ext.alloc | refine Ext.trans ?_ (by assumption))); first | done | fail))) (by omega)).mono ?_
    rintro e w5 ⟨A5, c5, rfl, hs5, _, hx5⟩
    have hx45 : Ext w4 w5 := (by (repeat (first | assumption | exact Ext.refl _ | apply Ext.drew | apply Ext.drewN | apply Ext.alloc | refine Ext.trans ?_ (by assumption))); first | done | fail)
    have hS2 := Ext.trans hHeld hx5
    refine held_go HK' hS2 (fun _ => ?_)
    clear HK'
    refine held_more (S' := fun w' => Ext w5 w') (fun _ h => Ext.trans hS2 h) _ _ _ _ ?_
    clear hHeld hS2
    have hHeld : Ext w5 w5 := Ext.refl _
    try simp only [Act.put, List.setIfInBounds_toArray, List.set_cons_zero, List.set_cons_succ]
    have hc5 := fun (w' : World) (hx : Ext w5 w') => hs5.str hx
    refine wpAnyH_take (i := 5) (oi := ⟨some 26, _, _, _, _, _⟩) (v := ?_) rfl (by kernel_rfl) (by kernel_rfl) (by kernel_rfl) (fun _ _ _ h => h) (Or.inl ⟨by rfl, ?_⟩) (by assumption) ?_
    rotate_left
    · (intro w hSw; (try dsimp only at hSw); go_simp; try with_reducible rfl)
    try simp only [Act.put, List.setIfInBounds_toArray, List.set_cons_zero, List.set_cons_succ]
    refine wpAnyH_take (i := 6) (oi := ⟨some 27, _, _, _, _, _⟩) (v := ?_) rfl (by kernel_rfl) (by kernel_rfl) (by kernel_rfl) (fun _ _ _ h => h) (Or.inl ⟨by rfl, ?_⟩) (by assumption) ?_
    rotate_left
    · (intro w hSw; (try dsimp only at hSw); go_simp; try with_reducible rfl)
    try simp only [Act.put, List.setIfInBounds_toArray, List.set_cons_zero, List.set_cons_succ]
    refine wpAnyH_done (by kernel_rfl) ?_ _
    have k2 := (hs2'.ext (hx34.trans hx45)).str (Ext.refl _)
    have k3 := (hs3.ext (hx34.trans hx45)).str (Ext.refl _)
    have HX5 := Kp.mk (HX3.out.trans (hx34.trans hx45))
    clear hx34 hx45 hs2' hs3 hs4 hs5 hb3 hx4 hx5 hc4 hc5
    go_wp2_with fail
    go_ret
    exact ⟨rfl, HX5.out.b⟩
  | none =>
    have hee := code_eq 7 7
    refine (Empty_none hb0 (by omega) he).mono ?_
    rintro e w2 ⟨rfl, hx2⟩
    go_wp2_with fail
    refine (refEmpty_none (hb0.ext hx2) (by omega) he).mono ?_
    rintro e w3 ⟨rfl, hx3⟩
    have hb3 := hb0.ext (hx2.trans hx3)
    have HX3 := Kp.mk (HX.out.trans (hx2.trans hx3))
    clear hb0 hx2 hx3 HX he
    go_wp2_with fail
    refine wp_region_held_drew (S := fun w' => Ext w3 w') (by kernel_rfl) (Ext.refl w3).drew (fun hHeld => ?_)
    refine wpAnyH_take (i := 0) (oi := ⟨some 21, _, _, _, _, _⟩) (v := ?_) rfl (by kernel_rfl) (by kernel_rfl) (by kernel_rfl) (fun _ _ _ h => h) (Or.inl ⟨by rfl, ?_⟩) (by assumption) ?_
    rotate_left
    · (intro w hSw; (try dsimp only at hSw); go_simp; try with_reducible rfl)
    try simp only [Act.put, List.setIfInBounds_toArray, List.set_cons_zero, List.set_cons_succ]
    refine wpAnyH_take (i := 3) (oi := ⟨some 24, _, _, _, _, _⟩) (v := ?_) rfl (by kernel_rfl) (by kernel_rfl) (by kernel_rfl) (fun _ _ _ h => h) (Or.inl ⟨by rfl, ?_⟩) (by assumption) ?_
    rotate_left
    · (intro w hSw; (try dsimp only at hSw); go_simp; try with_reducible rfl)
    try simp only [Act.put, List.setIfInBounds_toArray, List.set_cons_zero, List.set_cons_succ]
    refine next_one 1 (by kernel_rfl) rfl (by rfl) fun K' HK' => ?_
    go_simp
    refine (Fill_any (hb3.ext (by (repeat (first | assumption | exact Ext.refl _ | apply Ext.drew | apply Ext.drewN | apply Ext.alloc | refine Ext.trans ?_ (by assumption))); first | done | fail)) (by omega)).mono ?_
    rintro e w4 ⟨A4, c4, rfl, hs4, _, hx4⟩
    have hx34 : Ext w3 w4 := (by (repeat (first | assumption | exact Ext.refl _ | apply Ext.drew | apply Ext.drewN | apply Ext.alloc | refine Ext.trans ?_ (by assumption))); first | done | fail)
    have hS2 := Ext.trans hHeld hx4
    refine held_go HK' hS2 (fun _ => ?_)
    clear HK'
    refine held_more (S' := fun w' => Ext w4 w') (fun _ h => Ext.trans hS2 h) _ _ _ _ ?_
    clear hHeld hS2
    have hHeld : Ext w4 w4 := Ext.refl _
    try simp only [Act.put, List.setIfInBounds_toArray, List.set_cons_zero, List.set_cons_succ]
    have hc4 := fun (w' : World) (hx : Ext w4 w') => hs4.str hx
    refine wpAnyH_take (i := 2) (oi := ⟨some 23, _, _, _, _, _⟩) (v := ?_) rfl (by kernel_rfl) (by kernel_rfl) (by kernel_rfl) (fun _ _ _ h => h) (Or.inl ⟨by rfl, ?_⟩) (by assumption) ?_
    rotate_left
    · (intro w hSw; (try dsimp only at hSw); go_simp; try with_reducible rfl)
    try simp only [Act.put, List.setIfInBounds_toArray, List.set_cons_zero, List.set_cons_succ]
    refine next_one 4 (by kernel_rfl) rfl (by rfl) fun K' HK' => ?_
    go_simp
    refine (refFill_any (hb3.ext (hx34.trans (by (repeat (first | assumption | exact Ext.refl _ | apply Ext.drew | apply Ext.drewN | apply Ext.alloc | refine Ext.trans ?_ (by assumption))); first | done | fail))) (by omega)).mono ?_
    rintro e w5 ⟨A5, c5, rfl, hs5, _, hx5⟩
    have hx45 : Ext w4 w5 := (by (repeat (first | assumption | exact Ext.refl _ | apply Ext.drew | apply Ext.drewN | apply Ext.alloc | refine Ext.trans ?_ (by assumption))); first | done | fail)
    have hS2 := Ext.trans hHeld hx5
    refine held_go HK' hS2 (fun _ => ?_)
    clear HK'
    refine held_more (S' := fun w' => Ext w5 w') (fun _ h => Ext.trans hS2 h) _ _ _ _ ?_
    clear hHeld hS2
    have hHeld : Ext w5 w5 := Ext.refl _
    try simp only [Act.put, List.setIfInBounds_toArray, List.set_cons_zero, List.set_cons_succ]
    have hc5 := fun (w' : World) (hx : Ext w5 w') => hs5.str hx
    refine wpAnyH_take (i := 5) (oi := ⟨some 26, _, _, _, _, _⟩) (v := ?_) rfl (by kernel_rfl) (by kernel_rfl) (by kernel_rfl) (fun _ _ _ h => h) (Or.inl ⟨by rfl, ?_⟩) (by assumption) ?_
    rotate_left
    · (intro w hSw; (try dsimp only at hSw); go_simp; try with_reducible rfl)
    try simp only [Act.put, List.setIfInBounds_toArray, List.set_cons_zero, List.set_cons_succ]
    refine wpAnyH_take (i := 6) (oi := ⟨some 27, _, _, _, _, _⟩) (v := ?_) rfl (by kernel_rfl) (by kernel_rfl) (by kernel_rfl) (fun _ _ _ h => h) (Or.inl ⟨by rfl, ?_⟩) (by assumption) ?_
    rotate_left
    · (intro w hSw; (try dsimp only at hSw); go_simp; try with_reducible rfl)
    try simp only [Act.put, List.setIfInBounds_toArray, List.set_cons_zero, List.set_cons_succ]
    refine wpAnyH_done (by kernel_rfl) ?_ _
    have HX5 := Kp.mk (HX3.out.trans (hx34.trans hx45))
    clear hx34 hx45 hs4 hs5 hb3 hx4 hx5 hc4 hc5
    go_wp2_with fail
    go_ret
    exact ⟨rfl, HX5.out.b⟩
end Go.Proofs.Ytjjoghdlbnlicaa
