/-
  The walks of shifted, substituted, multiplied, originals.
-/
import Derived.Test.YtjjoghdlbnlicaaDoorAw
namespace Go.Proofs.YtjjoghdlbnlicaaDoor
open Go Go.RowKit

set_option maxHeartbeats 1000000 in
theorem shifted_at (b : List (BitVec 8)) (t : Nat) (ti : Int) (w : World) (hb : b.length = 16) (ht : ti = 1 ∧ t = 1 ∨ ti = 3 ∧ t = 3) :
    Calls Tryd.prog 38 #[.agg (bv b), .int .i64 ti] w fun e w' => e = .returned (.agg (bv (shL t b))) ∧ Ext w w' := by
  rcases ht with ⟨rfl, ht⟩ | ⟨rfl, ht⟩
  all_goals
    go_enter Tryd.func38, Tryd.ntmps38
    have hx : Ext w (((w.alloc (.cells (bv b) sq)).alloc (.cells (bv (zb 16)) sq)).alloc (.cells (bv (zb 16)) sq)) := (by (repeat (first | assumption | exact Ext.refl _ | apply Ext.drew | apply Ext.drewN | apply Ext.alloc | refine Ext.trans ?_ (by assumption))); first | done | fail)
    have hB : Blk (((w.alloc (.cells (bv b) sq)).alloc (.cells (bv (zb 16)) sq)).alloc (.cells (bv (zb 16)) sq)) w.heap.size sq (bv b) := ⟨(by (repeat (first | (with_reducible apply Has.drew) | exact Has.new _ _ _ _ (by first | (simp; done) | fail) | (with_reducible apply Has.alloc))); first | done | fail)⟩
    have hR : Blk (((w.alloc (.cells (bv b) sq)).alloc (.cells (bv (zb 16)) sq)).alloc (.cells (bv (zb 16)) sq)) (w.heap.size + 1) sq (bv (zb 16)) := ⟨(by (repeat (first | (with_reducible apply Has.drew) | exact Has.new _ _ _ _ (by first | (simp; done) | fail) | (with_reducible apply Has.alloc))); first | done | fail)⟩
    have hS : Blk (((w.alloc (.cells (bv b) sq)).alloc (.cells (bv (zb 16)) sq)).alloc (.cells (bv (zb 16)) sq)) (w.heap.size + 1 + 1) sq (bv (zb 16)) := ⟨(by (repeat (first | (with_reducible apply Has.drew) | exact Has.new _ _ _ _ (by first | (simp; done) | fail) | (with_reducible apply Has.alloc))); first | done | fail)⟩
    go_wp2_with fail
    change Code.wp _ _ _ _ (((w.alloc (.cells (bv b) sq)).alloc (.cells (bv (zb 16)) sq)).alloc (.cells (bv (zb 16)) sq))
    generalize ((w.alloc (.cells (bv b) sq)).alloc (.cells (bv (zb 16)) sq)).alloc (.cells (bv (zb 16)) sq) = w0 at *
    obtain ⟨g, hg⟩ : ∃ g, g = w.heap.size := ⟨_, rfl⟩
    obtain ⟨f, hf⟩ : ∃ f : Nat → BitVec 8, f = fun i => gb b ((i + 4 * (t * (i % 4))) % 16) := ⟨_, rfl⟩
    have hres : li 16 f = shL t b := by rw [hf]; rfl
    rw [← hg] at hB hR hS ⊢
    rw [← fl_zero 16 f (zb 16) (zb_len 16)] at hS
    have hf' : ∀ j, f j = gb b ((j + 4 * (t * (j % 4))) % 16) := fun j => by rw [hf]
    have HG := Kp.mk hg
    have HB := Kp.mk hb
    have HF := Kp.mk hf'
    have HRES := Kp.mk hres
    clear hg hb hf hf' hres
    go_loopw [8] (fun i wr => ∃ j : Nat, j ≤ 16 ∧ i = .int .i64 j ∧ Blk wr g sq (bv b) ∧ Blk wr (g + 1) sq (bv (zb 16)) ∧ Blk wr (g + 1 + 1) sq (bv (fl 16 f (zb 16) j)) ∧ Ext w wr) (fun i _ => 16 - (intOf i).toNat)
    case atStart => exact ⟨0, by omega, rfl, hB, hR, hS, hx⟩
    case round =>
      clear hB hR hS hx
      obtain ⟨j, hj, rfl, hB, hR, hS, hx⟩ := hrel
      by_cases hlt : j < 16
      · have c1 : wr.cell? ⟨g, (j + 4 * (t * (j % 4))) % 16, none⟩ = some (.int .u8 (ub (f j))) := (hB.h.cell _).trans ((bv_at _ _ (by rw [HB.out]; exact Nat.mod_lt _ (by decide))).trans (by rw [HF.out]))
        have c2 := (hS.h.cell j).trans (bv_at _ j (by rw [fl_len]; exact hlt))
        have f1 := hS.h.frozen j
        have b1 : (j : Int) < 16 := by omega
        have HB' := Kp.mk hB
        have HS := Kp.mk hS
        have HR := Kp.mk hR
        have HX := Kp.mk hx
        clear hB hR hx hS
        have hlt' : j < 16 := hlt
        subst ht
        try rw [Nat.one_mul] at c1
        go_wp2_with fail
        go_roundw
        case rel =>
          refine ⟨j + 1, by omega, by go_num, HB'.out.far (p := ⟨g + 1 + 1, j, none⟩) (show g ≠ g + 1 + 1 by omega) _, HR.out.far (p := ⟨g + 1 + 1, j, none⟩) (show g + 1 ≠ g + 1 + 1 by omega) _, ?_, HX.out.setCell (p := ⟨g + 1 + 1, j, none⟩) (show w.heap.size ≤ g + 1 + 1 by have := HG.out; omega) _⟩
          rw [← fl_succ _ _ _ _ hlt']
          exact HS.out.setB j _
        case measure => simp [intOf]; omega
      · obtain rfl : j = 16 := by omega
        rw [fl_end] at hS
        go_wp2_with (first | (refine wpList_load_row rfl sq _ rfl (g + 1 + 1) rfl sq _ (0, 0) _ hS.h Tryd.underlying50 rfl (szQ _ (li_len _ _)) ?_) | (refine wpList_store_row rfl sq _ _ rfl (g + 1) (bv (li 16 f)) rfl rfl sq _ hR.h (szQ _ (li_len _ _)) (by rw [bv_size, bv_size, li_len]; rfl) (bv_one _) ?_) | fail)
        refine bodyPost_ret (v := .agg (bv (li 16 f))) ?_ rfl ⟨by rw [HRES.out], hx.setRow (show w.heap.size ≤ g + 1 by have := HG.out; omega) _⟩
        exact results_cell_row rfl _ _ (g + 1) sq _ (0, 0) _ rfl (hR.row _).h Tryd.underlying50 rfl (szQ _ (li_len _ _))

theorem shifted_any (b : List (BitVec 8)) (w : World) (hb : b.length = 16) :
    Calls Tryd.prog 38 #[.agg (bv b), .int .i64 1] w fun e w' => e = .returned (.agg (bv (shL 1 b))) ∧ Ext w w' := shifted_at b 1 1 w hb (.inl ⟨rfl, rfl⟩)
set_option maxHeartbeats 1000000 in
theorem substituted_any (b : List (BitVec 8)) (w : World) (hb : b.length = 16) (hw : Lay3 w) :
    Calls Tryd.prog 44 #[.agg (bv b)] w fun e w' => e = .returned (.agg (bv (subL b))) ∧ Ext w w' := by
  go_enter Tryd.func44, Tryd.ntmps44
  have hx : Ext w ((w.alloc (.cells (bv b) sq)).alloc (.cells (bv (zb 16)) sq)) := (by (repeat (first | assumption | exact Ext.refl _ | apply Ext.drew | apply Ext.drewN | apply Ext.alloc | refine Ext.trans ?_ (by assumption))); first | done | fail)
  have hB : Blk ((w.alloc (.cells (bv b) sq)).alloc (.cells (bv (zb 16)) sq)) w.heap.size sq (bv b) := ⟨(by (repeat (first | (with_reducible apply Has.drew) | exact Has.new _ _ _ _ (by first | (simp; done) | fail) | (with_reducible apply Has.alloc))); first | done | fail)⟩
  have hR : Blk ((w.alloc (.cells (bv b) sq)).alloc (.cells (bv (zb 16)) sq)) (w.heap.size + 1) sq (bv (zb 16)) := ⟨(by (repeat (first | (with_reducible apply Has.drew) | exact Has.new _ _ _ _ (by first | (simp; done) | fail) | (with_reducible apply Has.alloc))); first | done | fail)⟩
  go_wp2_with fail
  change Code.wp _ _ _ _ ((w.alloc (.cells (bv b) sq)).alloc (.cells (bv (zb 16)) sq))
  generalize (w.alloc (.cells (bv b) sq)).alloc (.cells (bv (zb 16)) sq) = w0 at *
  obtain ⟨g, hg⟩ : ∃ g, g = w.heap.size := ⟨_, rfl⟩
  rw [← hg] at hB hR ⊢
  rw [← fl_zero 16 (fun i => sb (gb b i)) b hb] at hB
  have HG := Kp.mk hg
  have HW := Kp.mk hw
  clear hg hb hw
  go_loopw [4] (fun i wr => ∃ j : Nat, j ≤ 16 ∧ i = .int .i64 j ∧ Blk wr g sq (bv (fl 16 (fun i => sb (gb b i)) b j)) ∧ Blk wr (g + 1) sq (bv (zb 16)) ∧ Ext w wr) (fun i _ => 16 - (intOf i).toNat)
  case atStart => exact ⟨0, by omega, rfl, hB, hR, hx⟩
  case round =>
    clear hB hR hx
    obtain ⟨j, hj, rfl, hB, hR, hx⟩ := hrel
    by_cases hlt : j < 16
    · have c1 : wr.cell? ⟨g, j, none⟩ = some (.int .u8 ((gb b j).toNat : Int)) := (hB.h.cell j).trans ((bv_at _ j (by rw [fl_len]; exact hlt)).trans (by rw [fl_gb _ _ _ _ _ hlt, if_neg (by omega)]; rfl))
      have c2 := (HW.out.ext hx).at (gb b j)
      have l2 := (gb b j).isLt
      have f1 := hB.h.frozen j
      have b1 : (j : Int) < 16 := by omega
      have hfl := fl_succ 16 (fun i => sb (gb b i)) b j hlt
      have HFL := Kp.mk hfl
      have HB' := Kp.mk hB
      have HR := Kp.mk hR
      have HX := Kp.mk hx
      clear hB hR hx hfl
      generalize gb b j = x at *
      go_wp2_with fail
      go_roundw
      case rel =>
        refine ⟨j + 1, by omega, by go_num, ?_, HR.out.far (p := ⟨g, j, none⟩) (show g + 1 ≠ g by omega) _, HX.out.setCell (p := ⟨g, j, none⟩) (show w.heap.size ≤ g by have := HG.out; omega) _⟩
        rw [← HFL.out]
        exact HB'.out.setB j _
      case measure => simp [intOf]; omega
    · obtain rfl : j = 16 := by omega
      rw [fl_end] at hB
      go_wp2_with (first | (refine wpList_load_row rfl sq _ rfl g rfl sq _ (0, 0) _ hB.h Tryd.underlying50 rfl (szQ _ (li_len _ _)) ?_) | (refine wpList_store_row rfl sq _ _ rfl (g + 1) (bv (subL b)) rfl rfl sq _ hR.h (szQ _ (li_len _ _)) (by rw [bv_size, bv_size, subL_len]; rfl) (bv_one _) ?_) | fail)
      refine bodyPost_ret (v := .agg (bv (subL b))) ?_ rfl ⟨rfl, hx.setRow (show w.heap.size ≤ g + 1 by have := HG.out; omega) _⟩
      exact results_cell_row rfl _ _ (g + 1) sq _ (0, 0) _ rfl (hR.row _).h Tryd.underlying50 rfl (szQ _ (li_len _ _))

theorem mulF_at (b : List (BitVec 8)) (a i : Nat) (ha : a % 4 = 0) (hi : i < 4) : mulF b (a + i) = mc (gb b (a + i)) (gb b (a + (i + 1) % 4)) (gb b (a + (i + 2) % 4)) (gb b (a + (i + 3) % 4)) := by
  unfold mulF
  rw [show (a + i) / 4 * 4 = a by omega, show (a + i + 1) % 4 = (i + 1) % 4 by omega, show (a + i + 2) % 4 = (i + 2) % 4 by omega, show (a + i + 3) % 4 = (i + 3) % 4 by omega]
set_option maxHeartbeats 2000000 in
theorem multiplied_any (b : List (BitVec 8)) (w : World) (hb : b.length = 16) :
    Calls Tryd.prog 37 #[.agg (bv b)] w fun e w' => e = .returned (.agg (bv (mulL b))) ∧ Ext w w' := by
  go_enter Tryd.func37, Tryd.ntmps37
  have hx : Ext w (((w.alloc (.cells (bv b) sq)).alloc (.cells (bv (zb 16)) sq)).alloc (.cells (bv (zb 16)) sq)) := (by (repeat (first | assumption | exact Ext.refl _ | apply Ext.drew | apply Ext.drewN | apply Ext.alloc | refine Ext.trans ?_ (by assumption))); first | done | fail)
  have hB : Blk (((w.alloc (.cells (bv b) sq)).alloc (.cells (bv (zb 16)) sq)).alloc (.cells (bv (zb 16)) sq)) w.heap.size sq (bv b) := ⟨(by (repeat (first | (with_reducible apply Has.drew) | exact Has.new _ _ _ _ (by first | (simp; done) | fail) | (with_reducible apply Has.alloc))); first | done | fail)⟩
  have hR : Blk (((w.alloc (.cells (bv b) sq)).alloc (.cells (bv (zb 16)) sq)).alloc (.cells (bv (zb 16)) sq)) (w.heap.size + 1) sq (bv (zb 16)) := ⟨(by (repeat (first | (with_reducible apply Has.drew) | exact Has.new _ _ _ _ (by first | (simp; done) | fail) | (with_reducible apply Has.alloc))); first | done | fail)⟩
  have hS : Blk (((w.alloc (.cells (bv b) sq)).alloc (.cells (bv (zb 16)) sq)).alloc (.cells (bv (zb 16)) sq)) (w.heap.size + 1 + 1) sq (bv (zb 16)) := ⟨(by (repeat (first | (with_reducible apply Has.drew) | exact Has.new _ _ _ _ (by first | (simp; done) | fail) | (with_reducible apply Has.alloc))); first | done | fail)⟩
  go_wp2_with fail
  change Code.wp _ _ _ _ (((w.alloc (.cells (bv b) sq)).alloc (.cells (bv (zb 16)) sq)).alloc (.cells (bv (zb 16)) sq))
  generalize ((w.alloc (.cells (bv b) sq)).alloc (.cells (bv (zb 16)) sq)).alloc (.cells (bv (zb 16)) sq) = w0 at *
  obtain ⟨g, hg⟩ : ∃ g, g = w.heap.size := ⟨_, rfl⟩
  rw [← hg] at hB hR hS ⊢
  rw [← fl_zero 16 (mulF b) (zb 16) (zb_len 16)] at hS
  have HG := Kp.mk hg
  have HB := Kp.mk hb
  clear hg hb
  go_loopw [4] (fun av wr => ∃ a : Nat, a ≤ 16 ∧ a % 4 = 0 ∧ av = .int .i64 a ∧ Blk wr g sq (bv b) ∧ Blk wr (g + 1) sq (bv (zb 16)) ∧ Blk wr (g + 1 + 1) sq (bv (fl 16 (mulF b) (zb 16) a)) ∧ Ext w wr) (fun a _ => 16 - (intOf a).toNat)
  case atStart => exact ⟨0, by omega, by omega, rfl, hB, hR, hS, hx⟩
  case round =>
    clear hB hR hS hx
    obtain ⟨a, ha, ha4, rfl, hB, hR, hS, hx⟩ := hrel
    by_cases hla : a < 16
    · have ha12 : a ≤ 12 := by omega
      have b0 : (a : Int) < 16 := by omega
      have HA4 := Kp.mk ha4
      clear ha ha4
      go_wp2_with fail
      obtain ⟨wo, rfl⟩ : ∃ wo : World, wo = wr := ⟨_, rfl⟩
      go_loopw [14] (fun iv wr => ∃ i : Nat, i ≤ 4 ∧ iv = .int .i64 i ∧ Blk wr g sq (bv b) ∧ Blk wr (g + 1) sq (bv (zb 16)) ∧ Blk wr (g + 1 + 1) sq (bv (fl 16 (mulF b) (zb 16) (a + i))) ∧ Ext w wr) (fun i _ => 4 - (intOf i).toNat)
      case atStart => exact ⟨0, by omega, rfl, hB, hR, hS, hx⟩
      case round =>
        clear hB hR hS hx
        obtain ⟨i, hi, rfl, hB, hR, hS, hx⟩ := hrel
        by_cases hli : i < 4
        · have hcell : ∀ k, k < 16 → wr.cell? ⟨g, k, none⟩ = some (.int .u8 (ub (gb b k))) := fun k hk => (hB.h.cell k).trans (bv_at _ k (by rw [HB.out]; exact hk))
          have c1 := hcell (a + i) (by omega)
          have c2 := hcell (a + (i + 1) % 4) (by omega)
          have c3 := hcell (a + (i + 2) % 4) (by omega)
          have c4 := hcell (a + (i + 3) % 4) (by omega)
          have c5 := (hS.h.cell (a + i)).trans (bv_at _ (a + i) (by rw [fl_len]; omega))
          have f1 := hS.h.frozen (a + i)
          have b1 : (i : Int) < 4 := by omega
          have hfl := fl_succ 16 (mulF b) (zb 16) (a + i) (by omega)
          rw [mulF_at b a i HA4.out hli] at hfl
          have HFL := Kp.mk hfl
          have HB' := Kp.mk hB
          have HR := Kp.mk hR
          have HS := Kp.mk hS
          have HX := Kp.mk hx
          clear hB hR hx hS hfl hcell
          generalize gb b (a + i) = x1 at *
          generalize gb b (a + (i + 1) % 4) = x2 at *
          generalize gb b (a + (i + 2) % 4) = x3 at *
          generalize gb b (a + (i + 3) % 4) = x4 at *
          go_wp2_with fail
          go_quiet (fail)
          go_wp2_with fail
          go_quiet (fail)
          go_wp2_with (go_at_call 40; refine (twice_any _ _).mono ?_; rintro e w5 ⟨rfl, rfl⟩)
          go_roundw
          case rel =>
            refine ⟨i + 1, by omega, by go_num, (HB'.out.ext (by exact (by (repeat (first | assumption | exact Ext.refl _ | apply Ext.drew | apply Ext.drewN | apply Ext.alloc | refine Ext.trans ?_ (by assumption))); first | done | fail))).far (p := ⟨g + 1 + 1, a + i, none⟩) (show g ≠ g + 1 + 1 by omega) _, (HR.out.ext (by exact (by (repeat (first | assumption | exact Ext.refl _ | apply Ext.drew | apply Ext.drewN | apply Ext.alloc | refine Ext.trans ?_ (by assumption))); first | done | fail))).far (p := ⟨g + 1 + 1, a + i, none⟩) (show g + 1 ≠ g + 1 + 1 by omega) _, ?_, Ext.setCell (HX.out.trans (by exact (by (repeat (first | assumption | exact Ext.refl _ | apply Ext.drew | apply Ext.drewN | apply Ext.alloc | refine Ext.trans ?_ (by assumption))); first | done | fail))) (p := ⟨g + 1 + 1, a + i, none⟩) (show w.heap.size ≤ g + 1 + 1 by have := HG.out; omega) _⟩
            rw [← Nat.add_assoc, ← HFL.out]
            exact (HS.out.ext (by exact (by (repeat (first | assumption | exact Ext.refl _ | apply Ext.drew | apply Ext.drewN | apply Ext.alloc | refine Ext.trans ?_ (by assumption))); first | done | fail))).setB (a + i) _
          case measure => simp [intOf]; omega
        · obtain rfl : i = 4 := by omega
          go_wp2_with fail
          go_roundw
          case rel => exact ⟨a + 4, by omega, by have := HA4.out; omega, by go_num, hB, hR, hS, hx⟩
          case measure => simp [intOf]; omega
    · obtain rfl : a = 16 := by omega
      rw [fl_end] at hS
      go_wp2_with (first | (refine wpList_load_row rfl sq _ rfl (g + 1 + 1) rfl sq _ (0, 0) _ hS.h Tryd.underlying50 rfl (szQ _ (li_len _ _)) ?_) | (refine wpList_store_row rfl sq _ _ rfl (g + 1) (bv (mulL b)) rfl rfl sq _ hR.h (szQ _ (li_len _ _)) (by rw [bv_size, bv_size, mulL_len]; rfl) (bv_one _) ?_) | fail)
      refine bodyPost_ret (v := .agg (bv (mulL b))) ?_ rfl ⟨rfl, hx.setRow (show w.heap.size ≤ g + 1 by have := HG.out; omega) _⟩
      exact results_cell_row rfl _ _ (g + 1) sq _ (0, 0) _ rfl (hR.row _).h Tryd.underlying50 rfl (szQ _ (li_len _ _))
end Go.Proofs.YtjjoghdlbnlicaaDoor
