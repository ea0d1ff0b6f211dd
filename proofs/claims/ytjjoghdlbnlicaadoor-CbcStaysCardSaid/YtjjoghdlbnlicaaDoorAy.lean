/-
  The walks of originals, nextKey, keysOf, bytes.
-/
import Derived.Test.YtjjoghdlbnlicaaDoorAx
import Derived.Test.YtjjoghdlbnlicaaDoorBl
import Derived.Laws.Tables
namespace Go.Proofs.YtjjoghdlbnlicaaDoor
open Go Go.RowKit

theorem szT (l : List (BitVec 8)) (h : l.length = 256) : (Tryd.prog.info? 60).map (·.size) = some (bv l).size := by rw [bv_size, h]; kernel_rfl
theorem idxT (j : Nat) (hj : j < 256) (w : World) :
    (Instr.index 60 (.agg (SB.map vb).toArray) (.int .i64 (j : Int))).run Tryd.prog w = .ok (.int .u8 ((gb SB j).toNat : Int)) w :=
  run_index_arr w 60 5 256 _ j _ Tryd.underlying60 (by kernel_rfl) (by kernel_rfl) hj (bv_at SB j (by rw [SB_len]; exact hj))
theorem Lay3.range {w : World} (h : Lay3 w) : w.rangeAt 0 0 (SB.map vb) := fun j v hv => by
  have hj : j < 256 := by have := (List.getElem?_eq_some_iff.1 hv).1; rwa [List.length_map, SB_len] at this
  rw [Nat.zero_add, h.l j hj, ← hv]
  have hj2 : j < SB.length := by rw [SB_len]; exact hj
  simp [gb, hj2]
abbrev tb : TypeId := 60
theorem zeroT (w : World) : (zeroValue 60).run Tryd.prog w = .ok (.agg (bv (zb 256))) w := by kernel_rfl
theorem zeroK (w : World) : (zeroValue 52).run Tryd.prog w = .ok (.agg (bv (zb 176))) w := by kernel_rfl

set_option maxHeartbeats 1000000 in
theorem originals_any (w : World) (hw : Lay3 w) :
    Calls Tryd.prog 35 #[] w fun e w' => e = .returned (.agg (bv IB)) ∧ Ext w w' := by
  go_enter Tryd.func35, Tryd.ntmps35
  have hx : Ext w ((w.alloc (.cells (bv (zb 256)) tb)).alloc (.cells (bv (zb 256)) tb)) := (by (repeat (first | assumption | exact Ext.refl _ | apply Ext.drew | apply Ext.drewN | apply Ext.alloc | refine Ext.trans ?_ (by assumption))); first | done | fail)
  have hR : Blk ((w.alloc (.cells (bv (zb 256)) tb)).alloc (.cells (bv (zb 256)) tb)) w.heap.size tb (bv (zb 256)) := ⟨(by (repeat (first | (with_reducible apply Has.drew) | exact Has.new _ _ _ _ (by first | (simp; done) | fail) | (with_reducible apply Has.alloc))); first | done | fail)⟩
  have hB : Blk ((w.alloc (.cells (bv (zb 256)) tb)).alloc (.cells (bv (zb 256)) tb)) (w.heap.size + 1) tb (bv (orig 0)) := ⟨(by (repeat (first | (with_reducible apply Has.drew) | exact Has.new _ _ _ _ (by first | (simp; done) | fail) | (with_reducible apply Has.alloc))); first | done | fail)⟩
  have hr := (hw.ext hx).range
  have hz := zeroT
  go_wp2_with (first | (refine wpList_load_mid rfl tb _ rfl 0 0 rfl (SB.map vb) _ hr Tryd.underlying60 rfl (by rw [List.length_map, SB_len]; kernel_rfl) ?_) | fail)
  change Code.wp _ _ _ _ ((w.alloc (.cells (bv (zb 256)) tb)).alloc (.cells (bv (zb 256)) tb))
  generalize (w.alloc (.cells (bv (zb 256)) tb)).alloc (.cells (bv (zb 256)) tb) = w0 at *
  obtain ⟨g, hg⟩ : ∃ g, g = w.heap.size := ⟨_, rfl⟩
  rw [← hg] at hB hR ⊢
  have HG := Kp.mk hg
  clear hg hr hw hz
  go_loopw [5] (fun i wr => ∃ j : Nat, j ≤ 256 ∧ i = .int .i64 j ∧ Blk wr (g + 1) tb (bv (orig j)) ∧ Blk wr g tb (bv (zb 256)) ∧ Ext w wr) (fun i _ => 256 - (intOf i).toNat)
  case atStart => exact ⟨0, by omega, rfl, hB, hR, hx⟩
  case round =>
    clear hB hR hx
    obtain ⟨j, hj, rfl, hB, hR, hx⟩ := hrel
    by_cases hlt : j < 256
    · have hidx := idxT j hlt
      have l2 := (gb SB j).isLt
      have c1 := (hB.h.cell (gb SB j).toNat).trans (bv_at _ _ (by rw [orig_len]; exact l2))
      have f1 := hB.h.frozen (gb SB j).toNat
      have b1 : (j : Int) < 256 := by omega
      have hor : (orig j).set (gb SB j).toNat (BitVec.ofNat 8 j) = orig (j + 1) := rfl
      have HOR := Kp.mk hor
      have HB := Kp.mk hB
      have HR := Kp.mk hR
      have HX := Kp.mk hx
      clear hB hR hx hor
      generalize gb SB j = x at *
      go_wp2_with fail
      go_roundw
      case rel =>
        refine ⟨j + 1, by omega, by go_num, ?_, HR.out.far (p := ⟨g + 1, x.toNat, none⟩) (show g ≠ g + 1 by omega) _, HX.out.setCell (p := ⟨g + 1, x.toNat, none⟩) (show w.heap.size ≤ g + 1 by have := HG.out; omega) _⟩
        rw [← HOR.out]
        have h5 := HB.out.setB x.toNat (BitVec.ofNat 8 j)
        rw [ub_ofNat] at h5
        first | exact h5 | (rw [Int.emod_eq_of_lt (by omega) (by omega)] at h5; exact h5)
      case measure => simp [intOf]; omega
    · obtain rfl : j = 256 := by omega
      rw [orig_end] at hB
      go_wp2_with (first | (refine wpList_load_row rfl tb _ rfl (g + 1) rfl tb _ (0, 0) _ hB.h Tryd.underlying60 rfl (szT _ IB_len) ?_) | (refine wpList_store_row rfl tb _ _ rfl g (bv IB) rfl rfl tb _ hR.h (szT _ IB_len) (by rw [bv_size, bv_size, IB_len, zb_len]) (bv_one _) ?_) | fail)
      refine bodyPost_ret (v := .agg (bv IB)) ?_ rfl ⟨rfl, hx.setRow (show w.heap.size ≤ g by have := HG.out; omega) _⟩
      exact results_cell_row rfl _ _ g tb _ (0, 0) _ rfl (hR.row _).h Tryd.underlying60 rfl (szT _ IB_len)

/-- the first word of a round's key, ahead of the round's number -/
def nf (l : List (BitVec 8)) (i : Nat) : BitVec 8 := gb l i ^^^ sb (gb l (12 + (i + 1) % 4))
theorem nf_head (l : List (BitVec 8)) (r : BitVec 8) : (fl 16 (nf l) l 4).set 0 (nf l 0 ^^^ r) = fl 16 (nkF l r) l 4 := by
  apply ext_gb
  · rw [List.length_set, fl_len, fl_len]
  · intro i hi
    rw [List.length_set, fl_len] at hi
    rw [gb_set _ _ _ _ (by rw [fl_len]; decide), fl_gb _ _ _ _ _ hi, fl_gb _ _ _ _ _ hi]
    match i with
    | 0 => exact BitVec.xor_assoc _ _ _
    | 1 => rfl
    | 2 => rfl
    | 3 => rfl
    | i + 4 => rw [if_neg (by omega), if_neg (by omega), if_neg (by omega)]
set_option maxHeartbeats 2000000 in
theorem nextKey_any (l : List (BitVec 8)) (r : BitVec 8) (w : World) (hl : l.length = 16) (hw : Lay3 w) :
    Calls Tryd.prog 39 #[.agg (bv l), .int .u8 (ub r)] w fun e w' => e = .returned (.agg (bv (nk l r))) ∧ Ext w w' := by
  go_enter Tryd.func39, Tryd.ntmps39
  have h0 : Blk ((w.alloc (.cells (bv l) sq)).alloc (.cells (bv (zb 16)) sq)) w.heap.size sq (bv l) := ⟨(by (repeat (first | (with_reducible apply Has.drew) | exact Has.new _ _ _ _ (by first | (simp; done) | fail) | (with_reducible apply Has.alloc))); first | done | fail)⟩
  have hz : Blk (((w.alloc (.cells (bv l) sq)).alloc (.cells (bv (zb 16)) sq)).alloc (.cells (bv (zb 16)) sq)) (w.heap.size + 1 + 1) sq (bv (zb 16)) := ⟨(by (repeat (first | (with_reducible apply Has.drew) | exact Has.new _ _ _ _ (by first | (simp; done) | fail) | (with_reducible apply Has.alloc))); first | done | fail)⟩
  have h0' := h0.ext (w' := ((w.alloc (.cells (bv l) sq)).alloc (.cells (bv (zb 16)) sq)).alloc (.cells (bv (zb 16)) sq)) (by (repeat (first | assumption | exact Ext.refl _ | apply Ext.drew | apply Ext.drewN | apply Ext.alloc | refine Ext.trans ?_ (by assumption))); first | done | fail)
  have hR' : Blk (((w.alloc (.cells (bv l) sq)).alloc (.cells (bv (zb 16)) sq)).alloc (.cells (bv (zb 16)) sq)) (w.heap.size + 1) sq (bv (zb 16)) := ⟨(by (repeat (first | (with_reducible apply Has.drew) | exact Has.new _ _ _ _ (by first | (simp; done) | fail) | (with_reducible apply Has.alloc))); first | done | fail)⟩
  have hx' : Ext w (((w.alloc (.cells (bv l) sq)).alloc (.cells (bv (zb 16)) sq)).alloc (.cells (bv (zb 16)) sq)) := (by (repeat (first | assumption | exact Ext.refl _ | apply Ext.drew | apply Ext.drewN | apply Ext.alloc | refine Ext.trans ?_ (by assumption))); first | done | fail)
  go_wp2_with (first | (refine wpList_load_row rfl sq _ rfl w.heap.size rfl sq _ (0, 0) _ h0.h Tryd.underlying50 rfl (szQ _ hl) ?_) | (refine wpList_store_row rfl sq _ _ rfl (w.heap.size + 1 + 1) (bv l) rfl rfl sq _ hz.h (szQ _ hl) (by rw [bv_size, bv_size, hl]; rfl) (bv_one _) ?_) | fail)
  have hx := hx'.setRow (show w.heap.size ≤ w.heap.size + 1 + 1 by omega) (bv l)
  have hA := h0'.rowfar (show w.heap.size ≠ w.heap.size + 1 + 1 by omega) (bv l)
  have hR := hR'.rowfar (show w.heap.size + 1 ≠ w.heap.size + 1 + 1 by omega) (bv l)
  have hB := hz.row (bv l)
  change Code.wp _ _ _ _ (World.setRow (((w.alloc (.cells (bv l) sq)).alloc (.cells (bv (zb 16)) sq)).alloc (.cells (bv (zb 16)) sq)) (w.heap.size + 1 + 1) (bv l))
  clear h0 hz h0' hR' hx'
  generalize World.setRow (((w.alloc (.cells (bv l) sq)).alloc (.cells (bv (zb 16)) sq)).alloc (.cells (bv (zb 16)) sq)) (w.heap.size + 1 + 1) (bv l) = w0 at *
  obtain ⟨g, hg⟩ : ∃ g, g = w.heap.size := ⟨_, rfl⟩
  rw [← hg] at hA hB hR ⊢
  rw [← fl_zero 16 (nf l) l hl] at hB
  have HG := Kp.mk hg
  have HL := Kp.mk hl
  have HW := Kp.mk hw
  clear hg hl hw
  go_loopw [10] (fun i wr => ∃ j : Nat, j ≤ 4 ∧ i = .int .i64 j ∧ Blk wr g sq (bv l) ∧ Blk wr (g + 1) sq (bv (zb 16)) ∧ Blk wr (g + 1 + 1) sq (bv (fl 16 (nf l) l j)) ∧ Ext w wr) (fun i _ => 4 - (intOf i).toNat)
  case atStart => exact ⟨0, by omega, rfl, hA, hR, hB, hx⟩
  case round =>
    clear hA hB hR hx
    obtain ⟨j, hj, rfl, hA, hR, hB, hx⟩ := hrel
    by_cases hlt : j < 4
    · have c1 : wr.cell? ⟨g + 1 + 1, j, none⟩ = some (.int .u8 (ub (gb l j))) := (hB.h.cell j).trans ((bv_at _ j (by rw [fl_len]; omega)).trans (by rw [fl_gb _ _ _ _ _ (by omega), if_neg (by omega)]))
      have c2 : wr.cell? ⟨g, 12 + (j + 1) % 4, none⟩ = some (.int .u8 ((gb l (12 + (j + 1) % 4)).toNat : Int)) := (hA.h.cell _).trans (bv_at _ _ (by rw [HL.out]; omega))
      have c3 := (HW.out.ext hx).at (gb l (12 + (j + 1) % 4))
      have l2 := (gb l (12 + (j + 1) % 4)).isLt
      have f1 := hB.h.frozen j
      have b1 : (j : Int) < 4 := by omega
      have HFL : Kp ((fl 16 (nf l) l j).set j (gb l j ^^^ sb (gb l (12 + (j + 1) % 4))) = fl 16 (nf l) l (j + 1)) := ⟨fl_succ 16 (nf l) l j (by omega)⟩
      have HA := Kp.mk hA
      have HB := Kp.mk hB
      have HR := Kp.mk hR
      have HX := Kp.mk hx
      clear hA hB hR hx
      generalize gb l (12 + (j + 1) % 4) = x at *
      go_wp2_with fail
      go_region
      go_wp2_with fail
      go_roundw
      case rel =>
        refine ⟨j + 1, by omega, by go_num, (HA.out.far (p := ⟨g + 1 + 1, j, none⟩) (show g ≠ g + 1 + 1 by omega) _).ext (Ext.refl _).drew, (HR.out.far (p := ⟨g + 1 + 1, j, none⟩) (show g + 1 ≠ g + 1 + 1 by omega) _).ext (Ext.refl _).drew, ?_, (HX.out.setCell (p := ⟨g + 1 + 1, j, none⟩) (show w.heap.size ≤ g + 1 + 1 by have := HG.out; omega) _).drew⟩
        rw [← HFL.out]
        exact (HB.out.setB j _).ext (Ext.refl _).drew
      case measure => simp [intOf]; omega
    · obtain rfl : j = 4 := by omega
      have c1 : wr.cell? ⟨g + 1 + 1, 0, none⟩ = some (.int .u8 (ub (nf l 0))) := (hB.h.cell 0).trans ((bv_at _ 0 (by rw [fl_len]; decide)).trans (by rw [fl_gb _ _ _ _ _ (by decide)]; rfl))
      have f1 := hB.h.frozen 0
      have HA := Kp.mk hA
      have HB := Kp.mk hB
      have HR := Kp.mk hR
      have HX := Kp.mk hx
      clear hA hB hR hx
      go_wp2_with fail
      have hB : Blk (wr.setCell ⟨g + 1 + 1, 0, none⟩ (.int .u8 (ub (nf l 0 ^^^ r)))) (g + 1 + 1) sq (bv (fl 16 (nkF l r) l 4)) := by
        rw [← nf_head]
        exact HB.out.setB 0 _
      have hR := HR.out.far (p := ⟨g + 1 + 1, 0, none⟩) (show g + 1 ≠ g + 1 + 1 by omega) (.int .u8 (ub (nf l 0 ^^^ r)))
      have hx := HX.out.setCell (p := ⟨g + 1 + 1, 0, none⟩) (show w.heap.size ≤ g + 1 + 1 by have := HG.out; omega) (.int .u8 (ub (nf l 0 ^^^ r)))
      clear HA HB HR HX c1 f1
      generalize wr.setCell ⟨g + 1 + 1, 0, none⟩ (.int .u8 (ub (nf l 0 ^^^ r))) = w3 at *
      go_loopw [8] (fun i wr => ∃ j : Nat, 4 ≤ j ∧ j ≤ 16 ∧ i = .int .i64 j ∧ Blk wr (g + 1) sq (bv (zb 16)) ∧ Blk wr (g + 1 + 1) sq (bv (fl 16 (nkF l r) l j)) ∧ Ext w wr) (fun i _ => 16 - (intOf i).toNat)
      case atStart => exact ⟨4, by omega, by omega, rfl, hR, hB, hx⟩
      case round =>
        clear hB hR hx
        obtain ⟨j, hj4, hj, rfl, hR, hB, hx⟩ := hrel
        by_cases hlt : j < 16
        · have c1 : wr.cell? ⟨g + 1 + 1, j, none⟩ = some (.int .u8 (ub (gb l j))) := (hB.h.cell j).trans ((bv_at _ j (by rw [fl_len]; exact hlt)).trans (by rw [fl_gb _ _ _ _ _ hlt, if_neg (by omega)]))
          have c2 : wr.cell? ⟨g + 1 + 1, j - 4, none⟩ = some (.int .u8 (ub (nkF l r (j - 4)))) := (hB.h.cell _).trans ((bv_at _ _ (by rw [fl_len]; omega)).trans (by rw [fl_gb _ _ _ _ _ (by omega), if_pos (by omega)]))
          have f1 := hB.h.frozen j
          have b1 : (j : Int) < 16 := by omega
          have HFL : Kp ((fl 16 (nkF l r) l j).set j (gb l j ^^^ nkF l r (j - 4)) = fl 16 (nkF l r) l (j + 1)) := ⟨by rw [← nkF_step l r j hj4]; exact fl_succ 16 (nkF l r) l j hlt⟩
          have HB := Kp.mk hB
          have HR := Kp.mk hR
          have HX := Kp.mk hx
          clear hB hR hx
          go_wp2_with fail
          go_region
          go_wp2_with fail
          go_roundw
          case rel =>
            refine ⟨j + 1, by omega, by omega, by go_num, (HR.out.far (p := ⟨g + 1 + 1, j, none⟩) (show g + 1 ≠ g + 1 + 1 by omega) _).ext (Ext.refl _).drew, ?_, (HX.out.setCell (p := ⟨g + 1 + 1, j, none⟩) (show w.heap.size ≤ g + 1 + 1 by have := HG.out; omega) _).drew⟩
            rw [← HFL.out]
            exact (HB.out.setB j _).ext (Ext.refl _).drew
          case measure => simp [intOf]; omega
        · obtain rfl : j = 16 := by omega
          rw [fl_end] at hB
          go_wp2_with (first | (refine wpList_load_row rfl sq _ rfl (g + 1 + 1) rfl sq _ (0, 0) _ hB.h Tryd.underlying50 rfl (szQ _ (li_len _ _)) ?_) | (refine wpList_store_row rfl sq _ _ rfl (g + 1) (bv (nk l r)) rfl rfl sq _ hR.h (szQ _ (li_len _ _)) (by rw [bv_size, bv_size, nk_len]; rfl) (bv_one _) ?_) | fail)
          refine bodyPost_ret (v := .agg (bv (nk l r))) ?_ rfl ⟨rfl, hx.setRow (show w.heap.size ≤ g + 1 by have := HG.out; omega) _⟩
          exact results_cell_row rfl _ _ (g + 1) sq _ (0, 0) _ rfl (hR.row _).h Tryd.underlying50 rfl (szQ _ (li_len _ _))
set_option maxHeartbeats 400000 in
theorem bytes_any (l : List (BitVec 8)) (w : World) (hl : l.length = 16) :
    Calls Tryd.prog 27 #[.agg (bv l)] w (Fresh w 16 l) := by
  go_enter Tryd.func27, Tryd.ntmps27
  have hx : Ext w (w.alloc (.cells (bv l) sq)) := (by (repeat (first | assumption | exact Ext.refl _ | apply Ext.drew | apply Ext.drewN | apply Ext.alloc | refine Ext.trans ?_ (by assumption))); first | done | fail)
  have hB : Blk (w.alloc (.cells (bv l) sq)) w.heap.size sq (bv l) := ⟨(by (repeat (first | (with_reducible apply Has.drew) | exact Has.new _ _ _ _ (by first | (simp; done) | fail) | (with_reducible apply Has.alloc))); first | done | fail)⟩
  have hs := hB.bs 0 16 16 (by omega) (Nat.le_refl _)
  rw [List.drop_zero, List.take_of_length_le (by omega)] at hs
  go_wp2_with (first | (at_builtin; refine wpList_append_bs rfl (.const (.slice none 0 0)) (.tmp 3) rfl (w.heap.size + 1) _ 0 [] rfl (Own.nil _ _) _ 16 16 l rfl hs (by omega) 16 rfl l rfl w hx (by omega) (by simp) ?_; intro A2 c2 w2 ho2 hx2 _) | fail)
  go_ret
  exact ⟨A2, c2, rfl, ho2.bs, ho2.lower (by omega), hx2⟩
end Go.Proofs.YtjjoghdlbnlicaaDoor
