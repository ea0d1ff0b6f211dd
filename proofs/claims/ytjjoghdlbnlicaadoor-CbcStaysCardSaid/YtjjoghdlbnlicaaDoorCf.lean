/-
  The walks of xor, blocks, and what it goes through.
-/
import Derived.Test.YtjjoghdlbnlicaaDoorRf
import Derived.Test.YtjjoghdlbnlicaaDoorCc
import Derived.Test.YtjjoghdlbnlicaaDoorBc
namespace Go.Proofs.YtjjoghdlbnlicaaDoor
open Go Go.RowKit

abbrev cb : TypeId := 42
theorem szC (l : List (BitVec 8)) (h : l.length = 16) : (Tryd.prog.info? 42).map (·.size) = some (bv l).size := by rw [bv_size, h]; kernel_rfl
set_option maxHeartbeats 1000000 in
theorem bxor_any (a b : List (BitVec 8)) (w : World) (ha : a.length = 16) (hb : b.length = 16) :
    Calls Tryd.prog 19 #[.agg (bv a), .agg (bv b)] w fun e w' => e = .returned (.agg (bv (xorL a b))) ∧ Ext w w' := by
  go_enter Tryd.func19, Tryd.ntmps19
  have hx : Ext w (((w.alloc (.cells (bv a) cb)).alloc (.cells (bv b) cb)).alloc (.cells (bv (zb 16)) cb)) := (by (repeat (first | assumption | exact Ext.refl _ | apply Ext.drew | apply Ext.drewN | apply Ext.alloc | refine Ext.trans ?_ (by assumption))); first | done | fail)
  have hA : Blk (((w.alloc (.cells (bv a) cb)).alloc (.cells (bv b) cb)).alloc (.cells (bv (zb 16)) cb)) w.heap.size cb (bv a) := ⟨(by (repeat (first | (with_reducible apply Has.drew) | exact Has.new _ _ _ _ (by first | (simp; done) | fail) | (with_reducible apply Has.alloc))); first | done | fail)⟩
  have hB : Blk (((w.alloc (.cells (bv a) cb)).alloc (.cells (bv b) cb)).alloc (.cells (bv (zb 16)) cb)) (w.heap.size + 1) cb (bv b) := ⟨(by (repeat (first | (with_reducible apply Has.drew) | exact Has.new _ _ _ _ (by first | (simp; done) | fail) | (with_reducible apply Has.alloc))); first | done | fail)⟩
  have hR : Blk (((w.alloc (.cells (bv a) cb)).alloc (.cells (bv b) cb)).alloc (.cells (bv (zb 16)) cb)) (w.heap.size + 2) cb (bv (zb 16)) := ⟨(by (repeat (first | (with_reducible apply Has.drew) | exact Has.new _ _ _ _ (by first | (simp; done) | fail) | (with_reducible apply Has.alloc))); first | done | fail)⟩
  go_wp2_with fail
  change Code.wp _ _ _ _ (((w.alloc (.cells (bv a) cb)).alloc (.cells (bv b) cb)).alloc (.cells (bv (zb 16)) cb))
  generalize ((w.alloc (.cells (bv a) cb)).alloc (.cells (bv b) cb)).alloc (.cells (bv (zb 16)) cb) = w0 at *
  obtain ⟨g, hg⟩ : ∃ g, g = w.heap.size := ⟨_, rfl⟩
  rw [← hg] at hA hB hR ⊢
  rw [← fl_zero 16 (fun i => gb a i ^^^ gb b i) a ha] at hA
  have HG := Kp.mk hg
  have HB := Kp.mk hb
  clear hg hb ha
  go_loopw [6] (fun i wr => ∃ j : Nat, j ≤ 16 ∧ i = .int .i64 j ∧ Blk wr g cb (bv (fl 16 (fun i => gb a i ^^^ gb b i) a j)) ∧ Blk wr (g + 1) cb (bv b) ∧ Blk wr (g + 2) cb (bv (zb 16)) ∧ Ext w wr) (fun i _ => 16 - (intOf i).toNat)
  case atStart => exact ⟨0, by omega, rfl, hA, hB, hR, hx⟩
  case round =>
    clear hA hB hR hx
    obtain ⟨j, hj, rfl, hA, hB, hR, hx⟩ := hrel
    by_cases hlt : j < 16
    · have c1 : wr.cell? ⟨g, j, none⟩ = some (.int .u8 (ub (gb a j))) := (hA.h.cell j).trans ((bv_at _ j (by rw [fl_len]; exact hlt)).trans (by rw [fl_gb _ _ _ _ _ hlt, if_neg (by omega)]))
      have c2 : wr.cell? ⟨g + 1, j, none⟩ = some (.int .u8 (ub (gb b j))) := (hB.h.cell j).trans (bv_at _ j (by rw [HB.out]; exact hlt))
      have f1 := hA.h.frozen j
      have b1 : (j : Int) < 16 := by omega
      have HA := Kp.mk hA
      have HB' := Kp.mk hB
      have HR := Kp.mk hR
      have HX := Kp.mk hx
      clear hA hB hR hx
      go_wp2_with fail
      go_region
      go_wp2_with fail
      go_roundw
      case rel =>
        refine ⟨j + 1, by omega, by go_num, ?_, (HB'.out.far (p := ⟨g, j, none⟩) (show g + 1 ≠ g by omega) _).ext (Ext.refl _).drew, (HR.out.far (p := ⟨g, j, none⟩) (show g + 2 ≠ g by omega) _).ext (Ext.refl _).drew, (HX.out.setCell (p := ⟨g, j, none⟩) (show w.heap.size ≤ g by have := HG.out; omega) _).drew⟩
        rw [← fl_succ _ _ _ _ hlt]
        exact (HA.out.setB j _).ext (Ext.refl _).drew
      case measure => simp [intOf]; omega
    · obtain rfl : j = 16 := by omega
      rw [fl_end] at hA
      go_wp2_with (first | (refine wpList_load_row rfl cb _ rfl g rfl cb _ (0, 0) _ hA.h Tryd.underlying42 rfl (szC _ (li_len _ _)) ?_) | (refine wpList_store_row rfl cb _ _ rfl (g + 2) (bv (xorL a b)) rfl rfl cb _ hR.h (szC _ (li_len _ _)) (by rw [bv_size, bv_size, xorL_len]; rfl) (bv_one _) ?_) | fail)
      refine bodyPost_ret (v := .agg (bv (xorL a b))) ?_ rfl ⟨rfl, hx.setRow (show w.heap.size ≤ g + 2 by have := HG.out; omega) _⟩
      exact results_cell_row rfl _ _ (g + 2) cb _ (0, 0) _ rfl (hR.row _).h Tryd.underlying42 rfl (szC _ (li_len _ _))
set_option maxHeartbeats 1000000 in
theorem blocks_any (A : Option Addr) (n c : Nat) (w : World) : Calls Tryd.prog 18 #[.slice A n c] w fun e w' =>
    e = .returned (.func (.func 31) #[] #[.pointer (some ⟨w.heap.size, 0, none⟩)]) ∧ w' = w.alloc (.cells #[.slice A n c] 22) := by
  go_enter Tryd.func18, Tryd.ntmps18
  go_wp2
  go_ret
  exact ⟨rfl, rfl⟩
end Go.Proofs.YtjjoghdlbnlicaaDoor
