/-
  The laws' head of layer 4.
-/
import Derived.Test.YtjjoghdlbnlicaaDoorCd
namespace Go.Proofs.YtjjoghdlbnlicaaDoor
open Go Go.RowKit

set_option maxHeartbeats 2000000 in
theorem up4_any (w : World) : Calls Tryd.prog 8 #[] w fun e w' => e = .returned (.bool true) ∧ Ext w w' := by
  have hf : Calls Tryd.prog 16 #[.slice none 0 0] w (Fresh w 16 (fillL [])) := Fill_any (Bs.nil w) (by omega)
  have hE : ∀ A c w, Bs w A 15 c (List.replicate 15 2#8) → Calls Tryd.prog 17 #[.slice A 15 c] w fun e w' => e = .returned (.tuple #[.slice none 0 0, err 7]) ∧ Ext w w' := fun A c w h => (Empty_any h (by omega)).mono fun e w' he => by
    rcases he with ⟨t, h1, _⟩ | ⟨_, h2, h3⟩
    · rw [empty_whole _ (by simp)] at h1; cases h1
    · exact ⟨h2, h3⟩
  have hee := code_eq 7 7
  have HE := Kp.mk hE
  clear hE
  go_enter Tryd.func8, Tryd.ntmps8
  go_wp2_with (first | (go_at_call 16; refine Calls.mono hf ?_; rintro e w1 ⟨A1, c1, rfl, hs1, ho1, hx1⟩) | fail)
  obtain ⟨g, o, rfl, hc⟩ := hs1.s.2.2.2 (by decide)
  have k0 : w1.cell? ⟨g, o + 0, none⟩ = some (.int .u8 16) := hc 0 (by decide)
  have k15 : w1.cell? ⟨g, o + 15, none⟩ = some (.int .u8 16) := hc 15 (by decide)
  have K0 := Kp.mk k0
  have K15 := Kp.mk k15
  clear hs1 ho1 hc k0 k15 hf
  go_loopw [2, 3] (fun bw iv wr => ∃ j : Nat, j ≤ 15 ∧ iv = .int .i64 j ∧ (∃ A c, bw = .slice A j c) ∧ Own wr w1.heap.size bw j (List.replicate j 2#8) ∧ Ext w1 wr) (fun _ i _ => 15 - (intOf i).toNat)
  case atStart => exact ⟨0, by omega, rfl, ⟨_, _, rfl⟩, Own.nil _ _, Ext.refl _⟩
  case round =>
    obtain ⟨j, hj, rfl, ⟨A4, c4, rfl⟩, ho, hx⟩ := hrel
    by_cases hlt : j < 15
    · have b1 : (j : Int) < 15 := by omega
      have HR := Kp.mk (List.replicate_succ' (n := j) (a := 2#8))
      have hub : ub 2#8 = 2 := rfl
      go_wp2_with (first | (at_builtin; refine wpList_append_bs rfl (.tmp 11) (.tmp 12) rfl w1.heap.size _ j _ rfl (ho.ext (by (repeat (first | assumption | exact Ext.refl _ | apply Ext.drew | apply Ext.drewN | apply Ext.alloc | refine Ext.trans ?_ (by assumption))); first | done | fail)) _ 1 1 [2#8] rfl (num_bs wr _ _ hub) (by omega) (j + 1) rfl _ rfl w1 (hx.trans (by (repeat (first | assumption | exact Ext.refl _ | apply Ext.drew | apply Ext.drewN | apply Ext.alloc | refine Ext.trans ?_ (by assumption))); first | done | fail)) (Nat.le_refl _) (hx.trans (by (repeat (first | assumption | exact Ext.refl _ | apply Ext.drew | apply Ext.drewN | apply Ext.alloc | refine Ext.trans ?_ (by assumption))); first | done | fail)).size ?_; intro A5 c5 w5 ho5 hx5 _) | fail)
      go_roundw
      case rel => exact ⟨j + 1, by omega, by go_num, ⟨_, _, rfl⟩, by rw [HR.out]; exact ho5, hx5⟩
      case measure => simp [intOf]; omega
    · obtain rfl : j = 15 := by omega
      have hb := HE.out A4 c4 wr ho.bs
      clear ho
      go_wp2_with fail
      refine hb.mono ?_
      rintro e w2 ⟨rfl, hx2⟩
      have k0 := (hx2.b.cell (block_lt_of_cell ((hx.b.cell (block_lt_of_cell K0.out)).trans K0.out))).trans ((hx.b.cell (block_lt_of_cell K0.out)).trans K0.out)
      have k15 := (hx2.b.cell (block_lt_of_cell ((hx.b.cell (block_lt_of_cell K15.out)).trans K15.out))).trans ((hx.b.cell (block_lt_of_cell K15.out)).trans K15.out)
      have HX := Kp.mk (hx1.trans (hx.trans hx2))
      rw [Nat.add_zero] at k0
      clear hb HE K0 K15
      go_wp2_with fail
      go_ret
      exact ⟨rfl, HX.out⟩
end Go.Proofs.YtjjoghdlbnlicaaDoor
