/-
  The reference's Plain.
-/
import Derived.Test.YthookcnkmlmgcaaVIk
import Derived.Test.YthookcnkmlmgcaaVBl
namespace Go.Proofs.Ythookcnkmlmgcaa
open Go Go.RowKit
set_option maxRecDepth 4000

theorem gN_step (s : List (BitVec 8) × Bool) (x : BitVec 8) : gN s x = if x = 32 then (s.1, true) else ((if s.1 ≠ [] ∧ s.2 = true then s.1 ++ [32] else s.1) ++ [lowB x], false) := rfl
set_option maxHeartbeats 4000000 in
theorem refPlain_any {t : List (BitVec 8)} {A : Option Addr} {n c : Nat} {w : World} (h : Bs w A n c t) (hn : n ≤ 1000000) :
    Calls Try.prog 8 #[.slice A n c] w (Fresh w (plainL t).length (plainL t)) := by
  have hl := h.len
  obtain ⟨f, hf⟩ : ∃ f : Nat → List (BitVec 8) × Bool, f = fun j => (t.take j).foldl gN ([], false) := ⟨_, rfl⟩
  have f0 : f 0 = ([], false) := by rw [hf]; rfl
  have fs : ∀ j, j < n → f (j + 1) = gN (f j) (gb t j) := fun j hj => by rw [hf]; exact fold_more gN ([], false) t j (by omega)
  have fp : ∀ j, j < n → (f (j + 1)).2 = decide (gb t j = 32) := fun j hj => by rw [hf]; exact gN_snd t j (by omega)
  have fn : (f n).1 = plainL t := by rw [hf]; show ((t.take n).foldl gN ([], false)).1 = _; rw [List.take_of_length_le (by omega), gN_all]
  have fl : ∀ j, (f j).1.length ≤ 2 * j := fun j => by
    rw [hf]
    have := gN_fold_len (t.take j) ([], false)
    simp at this ⊢
    omega
  clear hf
  rw [← fn]
  have F0 := Kp.mk f0
  have FS := Kp.mk fs
  have FL := Kp.mk fl
  have FP := Kp.mk fp
  have HB := Kp.mk h
  clear f0 fs fn fl fp h hl
  go_enter Try.func8, Try.ntmps8
  go_wp2_with fail
  go_loopw [3, 4] (fun v iv wr => ∃ (j P : Nat) (A' : Option Addr) (c' : Nat) (o : List (BitVec 8)), j ≤ n ∧ o = (f j).1 ∧ v = .slice A' P c' ∧ iv = .int .i64 (j : Int) ∧ Own wr w.heap.size (.slice A' P c') P o ∧ Ext w wr) (fun _ iv _ => n - (intOf iv).toNat)
  case atStart => exact ⟨0, 0, none, 0, [], Nat.zero_le _, by rw [F0.out], rfl, rfl, Own.nil _ _, Ext.refl _⟩
  case round =>
    obtain ⟨j, P, A', c', o, hj, hof, rfl, rfl, ho, hx⟩ := hrel
    have hP := ho.len
    have hPj : P ≤ 2 * j := by have := FL.out j; rw [← hof] at this; omega
    have HO := Kp.mk ho
    have HX := Kp.mk hx
    by_cases hlt : j < n
    · obtain ⟨g, q, rfl, hc⟩ := HB.out.s.2.2.2 (by omega)
      have CW := Kp.mk (hc j hlt)
      have c1 := cell_up CW.out hx
      have hstep := FS.out j hlt
      rw [gN_step, ← hof] at hstep
      have b1 : (j : Int) < (n : Int) := by omega
      by_cases hx32 : gb t j = 32
      · have HN := Kp.mk (show o = (f (j + 1)).1 by rw [hstep, if_pos hx32])
        have e1 : (ub (gb t j) == 32) = true := by rw [beq_iff_eq]; exact (eq32 _).1 hx32
        have e2 : (ub (gb t j) != 32) = false := by rw [bne, e1]; rfl
        clear hstep hof ho hx hc hx32
        generalize ub (gb t j) = zx at *
        go_wp2_with fail
        go_roundw
        case rel => exact ⟨j + 1, P, _, c', o, by omega, HN.out, by first | rfl | trivial, by go_num, HO.out, HX.out⟩
        case measure => simp [intOf]; omega
      · rw [if_neg hx32] at hstep
        have e1 : (ub (gb t j) == 32) = false := beq_eq_false_iff_ne.2 fun h => hx32 ((eq32 _).2 h)
        have e2 : (ub (gb t j) != 32) = true := by rw [bne, e1]; rfl
        have lo := ub_lo (gb t j)
        have hi := ub_hi (gb t j)
        have hS : (65 ≤ ub (gb t j) ∧ ub (gb t j) ≤ 90 ∧ IntKind.u8.wrap (ub (gb t j) + 32) = ub (gb t j) + 32 ∧ ub (lowB (gb t j)) = ub (gb t j) + 32) ∨ (¬ (65 ≤ ub (gb t j)) ∧ ub (lowB (gb t j)) = ub (gb t j)) ∨ (65 ≤ ub (gb t j) ∧ ¬ (ub (gb t j) ≤ 90) ∧ ub (lowB (gb t j)) = ub (gb t j)) := by
          by_cases h1 : 65 ≤ (gb t j).toNat
          · by_cases h2 : (gb t j).toNat ≤ 90
            · exact .inl ⟨by unfold ub; omega, by unfold ub; omega, by rw [IntKind.wrap_u8]; unfold ub; omega, low_up _ h1 h2⟩
            · exact .inr (.inr ⟨by unfold ub; omega, by unfold ub; omega, by rw [low_same _ fun h => h2 h.2]⟩)
          · exact .inr (.inl ⟨by unfold ub; omega, by rw [low_same _ fun h => h1 h.1]⟩)
        by_cases hp : 0 < P
        · have hj0 : 0 < j := by omega
          obtain ⟨k, hk⟩ : ∃ k, k = j - 1 := ⟨_, rfl⟩
          have hsnd := FP.out k (by omega)
          rw [show k + 1 = j by omega] at hsnd
          have c2 := cell_up (hc k (by omega)) hx
          have hone : o ≠ [] := fun e => by rw [e] at hP; simp at hP; omega
          have e5 : (j : Int) - 1 = (k : Int) := by omega
          have e6 : IntKind.i64.wrap (k : Int) = (k : Int) := by rw [IntKind.wrap_i64]; omega
          have e7 : k < n := by omega
          have e8 : (k : Int) < (n : Int) := by omega
          have e9 : (0 : Int) < (P : Int) := by omega
          rw [hsnd] at hstep
          by_cases hb : gb t k = 32
          · rw [if_pos ⟨hone, decide_eq_true hb⟩] at hstep
            rw [hb] at c2
            have c3 : wr.cell? ⟨g, q + k, none⟩ = some (.int .u8 32) := c2
            have HN := Kp.mk (show (o ++ [32]) ++ [lowB (gb t j)] = (f (j + 1)).1 by rw [hstep])
            clear hstep hof ho hx hc hx32 hsnd hb hk hone c2
            rcases hS with hS | hS | hS
            · obtain ⟨d1, d2, d3, d4⟩ := hS
              have HS := Kp.mk d4
              clear d4 lo hi
              generalize lowB (gb t j) = y at *
              generalize ub (gb t j) = zx at *
              go_wp2_with (first | (at_builtin; refine wpList_append_bs rfl (.tmp 28) (.tmp 29) rfl w.heap.size _ P o rfl (HO.out.ext (by (repeat (first | assumption | exact Ext.refl _ | apply Ext.drew | apply Ext.drewN | apply Ext.alloc | refine Ext.trans ?_ (by assumption))); first | done | fail)) _ 1 1 [32] rfl (const_bs wr _ [32] 1 1 (0, 0) rfl rfl (by decide)) (by omega) (P + 1) rfl (o ++ [32]) rfl w (HX.out.trans (by (repeat (first | assumption | exact Ext.refl _ | apply Ext.drew | apply Ext.drewN | apply Ext.alloc | refine Ext.trans ?_ (by assumption))); first | done | fail)) (Nat.le_refl _) (HX.out.trans (by (repeat (first | assumption | exact Ext.refl _ | apply Ext.drew | apply Ext.drewN | apply Ext.alloc | refine Ext.trans ?_ (by assumption))); first | done | fail)).size ?_; intro A4 c4 w4 ho4 hx4 hap4; have HO4 := Kp.mk ho4; have HX4 := Kp.mk hx4; have c4' := cell_up CW.out hx4; clear ho4 hx4 hap4) | (at_builtin; refine wpList_append_bs rfl (.tmp 43) (.tmp 45) rfl w.heap.size _ (P + 1) (o ++ [32]) rfl (HO4.out.ext (by (repeat (first | assumption | exact Ext.refl _ | apply Ext.drew | apply Ext.drewN | apply Ext.alloc | refine Ext.trans ?_ (by assumption))); first | done | fail)) _ 1 1 [y] rfl (num_bs w4 _ _ HS.out) (by omega) (P + 1 + 1) rfl (o ++ [32] ++ [y]) rfl w (HX4.out.trans (by (repeat (first | assumption | exact Ext.refl _ | apply Ext.drew | apply Ext.drewN | apply Ext.alloc | refine Ext.trans ?_ (by assumption))); first | done | fail)) (Nat.le_refl _) (HX4.out.trans (by (repeat (first | assumption | exact Ext.refl _ | apply Ext.drew | apply Ext.drewN | apply Ext.alloc | refine Ext.trans ?_ (by assumption))); first | done | fail)).size ?_; intro A5 c5 w5 ho5 hx5 hap5) | fail)
              go_roundw
              case rel => exact ⟨j + 1, P + 1 + 1, A5, c5, _, by omega, HN.out, by first | rfl | trivial, by go_num, ho5, hx5⟩
              case measure => simp [intOf]; omega
            · obtain ⟨d1, d4⟩ := hS
              have HS := Kp.mk d4
              clear d4 lo hi
              generalize lowB (gb t j) = y at *
              generalize ub (gb t j) = zx at *
              go_wp2_with (first | (at_builtin; refine wpList_append_bs rfl (.tmp 28) (.tmp 29) rfl w.heap.size _ P o rfl (HO.out.ext (by (repeat (first | assumption | exact Ext.refl _ | apply Ext.drew | apply Ext.drewN | apply Ext.alloc | refine Ext.trans ?_ (by assumption))); first | done | fail)) _ 1 1 [32] rfl (const_bs wr _ [32] 1 1 (0, 0) rfl rfl (by decide)) (by omega) (P + 1) rfl (o ++ [32]) rfl w (HX.out.trans (by (repeat (first | assumption | exact Ext.refl _ | apply Ext.drew | apply Ext.drewN | apply Ext.alloc | refine Ext.trans ?_ (by assumption))); first | done | fail)) (Nat.le_refl _) (HX.out.trans (by (repeat (first | assumption | exact Ext.refl _ | apply Ext.drew | apply Ext.drewN | apply Ext.alloc | refine Ext.trans ?_ (by assumption))); first | done | fail)).size ?_; intro A4 c4 w4 ho4 hx4 hap4; have HO4 := Kp.mk ho4; have HX4 := Kp.mk hx4; have c4' := cell_up CW.out hx4; clear ho4 hx4 hap4) | (at_builtin; refine wpList_append_bs rfl (.tmp 43) (.tmp 45) rfl w.heap.size _ (P + 1) (o ++ [32]) rfl (HO4.out.ext (by (repeat (first | assumption | exact Ext.refl _ | apply Ext.drew | apply Ext.drewN | apply Ext.alloc | refine Ext.trans ?_ (by assumption))); first | done | fail)) _ 1 1 [y] rfl (num_bs w4 _ _ HS.out) (by omega) (P + 1 + 1) rfl (o ++ [32] ++ [y]) rfl w (HX4.out.trans (by (repeat (first | assumption | exact Ext.refl _ | apply Ext.drew | apply Ext.drewN | apply Ext.alloc | refine Ext.trans ?_ (by assumption))); first | done | fail)) (Nat.le_refl _) (HX4.out.trans (by (repeat (first | assumption | exact Ext.refl _ | apply Ext.drew | apply Ext.drewN | apply Ext.alloc | refine Ext.trans ?_ (by assumption))); first | done | fail)).size ?_; intro A5 c5 w5 ho5 hx5 hap5) | fail)
              go_roundw
              case rel => exact ⟨j + 1, P + 1 + 1, A5, c5, _, by omega, HN.out, by first | rfl | trivial, by go_num, ho5, hx5⟩
              case measure => simp [intOf]; omega
            · obtain ⟨d1, d2, d4⟩ := hS
              have HS := Kp.mk d4
              clear d4 lo hi
              generalize lowB (gb t j) = y at *
              generalize ub (gb t j) = zx at *
              go_wp2_with (first | (at_builtin; refine wpList_append_bs rfl (.tmp 28) (.tmp 29) rfl w.heap.size _ P o rfl (HO.out.ext (by (repeat (first | assumption | exact Ext.refl _ | apply Ext.drew | apply Ext.drewN | apply Ext.alloc | refine Ext.trans ?_ (by assumption))); first | done | fail)) _ 1 1 [32] rfl (const_bs wr _ [32] 1 1 (0, 0) rfl rfl (by decide)) (by omega) (P + 1) rfl (o ++ [32]) rfl w (HX.out.trans (by (repeat (first | assumption | exact Ext.refl _ | apply Ext.drew | apply Ext.drewN | apply Ext.alloc | refine Ext.trans ?_ (by assumption))); first | done | fail)) (Nat.le_refl _) (HX.out.trans (by (repeat (first | assumption | exact Ext.refl _ | apply Ext.drew | apply Ext.drewN | apply Ext.alloc | refine Ext.trans ?_ (by assumption))); first | done | fail)).size ?_; intro A4 c4 w4 ho4 hx4 hap4; have HO4 := Kp.mk ho4; have HX4 := Kp.mk hx4; have c4' := cell_up CW.out hx4; clear ho4 hx4 hap4) | (at_builtin; refine wpList_append_bs rfl (.tmp 43) (.tmp 45) rfl w.heap.size _ (P + 1) (o ++ [32]) rfl (HO4.out.ext (by (repeat (first | assumption | exact Ext.refl _ | apply Ext.drew | apply Ext.drewN | apply Ext.alloc | refine Ext.trans ?_ (by assumption))); first | done | fail)) _ 1 1 [y] rfl (num_bs w4 _ _ HS.out) (by omega) (P + 1 + 1) rfl (o ++ [32] ++ [y]) rfl w (HX4.out.trans (by (repeat (first | assumption | exact Ext.refl _ | apply Ext.drew | apply Ext.drewN | apply Ext.alloc | refine Ext.trans ?_ (by assumption))); first | done | fail)) (Nat.le_refl _) (HX4.out.trans (by (repeat (first | assumption | exact Ext.refl _ | apply Ext.drew | apply Ext.drewN | apply Ext.alloc | refine Ext.trans ?_ (by assumption))); first | done | fail)).size ?_; intro A5 c5 w5 ho5 hx5 hap5) | fail)
              go_roundw
              case rel => exact ⟨j + 1, P + 1 + 1, A5, c5, _, by omega, HN.out, by first | rfl | trivial, by go_num, ho5, hx5⟩
              case measure => simp [intOf]; omega
          · rw [if_neg (fun h => hb (of_decide_eq_true h.2))] at hstep
            have f1 : (ub (gb t k) == 32) = false := beq_eq_false_iff_ne.2 fun h => hb ((eq32 _).2 h)
            have f2 : (ub (gb t k) != 32) = true := by rw [bne, f1]; rfl
            have HN := Kp.mk (show o ++ [lowB (gb t j)] = (f (j + 1)).1 by rw [hstep])
            clear hstep hof ho hx hc hx32 hsnd hb hk hone
            generalize ub (gb t k) = zk at *
            rcases hS with hS | hS | hS
            · obtain ⟨d1, d2, d3, d4⟩ := hS
              have HS := Kp.mk d4
              clear d4 lo hi
              generalize lowB (gb t j) = y at *
              generalize ub (gb t j) = zx at *
              go_wp2_with (first | (at_builtin; refine wpList_append_bs rfl (.tmp 43) (.tmp 45) rfl w.heap.size _ P o rfl (HO.out.ext (by (repeat (first | assumption | exact Ext.refl _ | apply Ext.drew | apply Ext.drewN | apply Ext.alloc | refine Ext.trans ?_ (by assumption))); first | done | fail)) _ 1 1 [y] rfl (num_bs wr _ _ HS.out) (by omega) (P + 1) rfl (o ++ [y]) rfl w (HX.out.trans (by (repeat (first | assumption | exact Ext.refl _ | apply Ext.drew | apply Ext.drewN | apply Ext.alloc | refine Ext.trans ?_ (by assumption))); first | done | fail)) (Nat.le_refl _) (HX.out.trans (by (repeat (first | assumption | exact Ext.refl _ | apply Ext.drew | apply Ext.drewN | apply Ext.alloc | refine Ext.trans ?_ (by assumption))); first | done | fail)).size ?_; intro A5 c5 w5 ho5 hx5 hap5) | fail)
              go_roundw
              case rel => exact ⟨j + 1, P + 1, A5, c5, _, by omega, HN.out, by first | rfl | trivial, by go_num, ho5, hx5⟩
              case measure => simp [intOf]; omega
            · obtain ⟨d1, d4⟩ := hS
              have HS := Kp.mk d4
              clear d4 lo hi
              generalize lowB (gb t j) = y at *
              generalize ub (gb t j) = zx at *
              go_wp2_with (first | (at_builtin; refine wpList_append_bs rfl (.tmp 43) (.tmp 45) rfl w.heap.size _ P o rfl (HO.out.ext (by (repeat (first | assumption | exact Ext.refl _ | apply Ext.drew | apply Ext.drewN | apply Ext.alloc | refine Ext.trans ?_ (by assumption))); first | done | fail)) _ 1 1 [y] rfl (num_bs wr _ _ HS.out) (by omega) (P + 1) rfl (o ++ [y]) rfl w (HX.out.trans (by (repeat (first | assumption | exact Ext.refl _ | apply Ext.drew | apply Ext.drewN | apply Ext.alloc | refine Ext.trans ?_ (by assumption))); first | done | fail)) (Nat.le_refl _) (HX.out.trans (by (repeat (first | assumption | exact Ext.refl _ | apply Ext.drew | apply Ext.drewN | apply Ext.alloc | refine Ext.trans ?_ (by assumption))); first | done | fail)).size ?_; intro A5 c5 w5 ho5 hx5 hap5) | fail)
              go_roundw
              case rel => exact ⟨j + 1, P + 1, A5, c5, _, by omega, HN.out, by first | rfl | trivial, by go_num, ho5, hx5⟩
              case measure => simp [intOf]; omega
            · obtain ⟨d1, d2, d4⟩ := hS
              have HS := Kp.mk d4
              clear d4 lo hi
              generalize lowB (gb t j) = y at *
              generalize ub (gb t j) = zx at *
              go_wp2_with (first | (at_builtin; refine wpList_append_bs rfl (.tmp 43) (.tmp 45) rfl w.heap.size _ P o rfl (HO.out.ext (by (repeat (first | assumption | exact Ext.refl _ | apply Ext.drew | apply Ext.drewN | apply Ext.alloc | refine Ext.trans ?_ (by assumption))); first | done | fail)) _ 1 1 [y] rfl (num_bs wr _ _ HS.out) (by omega) (P + 1) rfl (o ++ [y]) rfl w (HX.out.trans (by (repeat (first | assumption | exact Ext.refl _ | apply Ext.drew | apply Ext.drewN | apply Ext.alloc | refine Ext.trans ?_ (by assumption))); first | done | fail)) (Nat.le_refl _) (HX.out.trans (by (repeat (first | assumption | exact Ext.refl _ | apply Ext.drew | apply Ext.drewN | apply Ext.alloc | refine Ext.trans ?_ (by assumption))); first | done | fail)).size ?_; intro A5 c5 w5 ho5 hx5 hap5) | fail)
              go_roundw
              case rel => exact ⟨j + 1, P + 1, A5, c5, _, by omega, HN.out, by first | rfl | trivial, by go_num, ho5, hx5⟩
              case measure => simp [intOf]; omega
        · obtain rfl : P = 0 := by omega
          have ho0 : o = [] := List.eq_nil_of_length_eq_zero hP
          rw [if_neg (fun h => h.1 ho0)] at hstep
          have HN := Kp.mk (show o ++ [lowB (gb t j)] = (f (j + 1)).1 by rw [hstep])
          clear hstep hof ho hx hc hx32 hp ho0 hP
          rcases hS with hS | hS | hS
          · obtain ⟨d1, d2, d3, d4⟩ := hS
            have HS := Kp.mk d4
            clear d4 lo hi
            generalize lowB (gb t j) = y at *
            generalize ub (gb t j) = zx at *
            go_wp2_with (first | (at_builtin; refine wpList_append_bs rfl (.tmp 43) (.tmp 45) rfl w.heap.size _ 0 o rfl (HO.out.ext (by (repeat (first | assumption | exact Ext.refl _ | apply Ext.drew | apply Ext.drewN | apply Ext.alloc | refine Ext.trans ?_ (by assumption))); first | done | fail)) _ 1 1 [y] rfl (num_bs wr _ _ HS.out) (by omega) (0 + 1) rfl (o ++ [y]) rfl w (HX.out.trans (by (repeat (first | assumption | exact Ext.refl _ | apply Ext.drew | apply Ext.drewN | apply Ext.alloc | refine Ext.trans ?_ (by assumption))); first | done | fail)) (Nat.le_refl _) (HX.out.trans (by (repeat (first | assumption | exact Ext.refl _ | apply Ext.drew | apply Ext.drewN | apply Ext.alloc | refine Ext.trans ?_ (by assumption))); first | done | fail)).size ?_; intro A5 c5 w5 ho5 hx5 hap5) | fail)
            go_roundw
            case rel => exact ⟨j + 1, 0 + 1, A5, c5, _, by omega, HN.out, by first | rfl | trivial, by go_num, ho5, hx5⟩
            case measure => simp [intOf]; omega
          · obtain ⟨d1, d4⟩ := hS
            have HS := Kp.mk d4
            clear d4 lo hi
            generalize lowB (gb t j) = y at *
            generalize ub (gb t j) = zx at *
            go_wp2_with (first | (at_builtin; refine wpList_append_bs rfl (.tmp 43) (.tmp 45) rfl w.heap.size _ 0 o rfl (HO.out.ext (by (repeat (first | assumption | exact Ext.refl _ | apply Ext.drew | apply Ext.drewN | apply Ext.alloc | refine Ext.trans ?_ (by assumption))); first | done | fail)) _ 1 1 [y] rfl (num_bs wr _ _ HS.out) (by omega) (0 + 1) rfl (o ++ [y]) rfl w (HX.out.trans (by (repeat (first | assumption | exact Ext.refl _ | apply Ext.drew | apply Ext.drewN | apply Ext.alloc | refine Ext.trans ?_ (by assumption))); first | done | fail)) (Nat.le_refl _) (HX.out.trans (by (repeat (first | assumption | exact Ext.refl _ | apply Ext.drew | apply Ext.drewN | apply Ext.alloc | refine Ext.trans ?_ (by assumption))); first | done | fail)).size ?_; intro A5 c5 w5 ho5 hx5 hap5) | fail)
            go_roundw
            case rel => exact ⟨j + 1, 0 + 1, A5, c5, _, by omega, HN.out, by first | rfl | trivial, by go_num, ho5, hx5⟩
            case measure => simp [intOf]; omega
          · obtain ⟨d1, d2, d4⟩ := hS
            have HS := Kp.mk d4
            clear d4 lo hi
            generalize lowB (gb t j) = y at *
            generalize ub (gb t j) = zx at *
            go_wp2_with (first | (at_builtin; refine wpList_append_bs rfl (.tmp 43) (.tmp 45) rfl w.heap.size _ 0 o rfl (HO.out.ext (by (repeat (first | assumption | exact Ext.refl _ | apply Ext.drew | apply Ext.drewN | apply Ext.alloc | refine Ext.trans ?_ (by assumption))); first | done | fail)) _ 1 1 [y] rfl (num_bs wr _ _ HS.out) (by omega) (0 + 1) rfl (o ++ [y]) rfl w (HX.out.trans (by (repeat (first | assumption | exact Ext.refl _ | apply Ext.drew | apply Ext.drewN | apply Ext.alloc | refine Ext.trans ?_ (by assumption))); first | done | fail)) (Nat.le_refl _) (HX.out.trans (by (repeat (first | assumption | exact Ext.refl _ | apply Ext.drew | apply Ext.drewN | apply Ext.alloc | refine Ext.trans ?_ (by assumption))); first | done | fail)).size ?_; intro A5 c5 w5 ho5 hx5 hap5) | fail)
            go_roundw
            case rel => exact ⟨j + 1, 0 + 1, A5, c5, _, by omega, HN.out, by first | rfl | trivial, by go_num, ho5, hx5⟩
            case measure => simp [intOf]; omega
    · obtain rfl : j = n := by omega
      have b1 : ¬ (j : Int) < (j : Int) := by omega
      have HE := Kp.mk hof.symm
      have HL2 := Kp.mk hP
      clear hof ho hx hP
      go_wp2_with fail
      go_ret
      rw [HE.out, HL2.out]
      exact ⟨_, _, rfl, HO.out.bs, HO.out, HX.out⟩
end Go.Proofs.Ythookcnkmlmgcaa
