/-
  The walks of mac.joined, mac.padsOf, the pads' mark, mac.Mark.
-/
import Derived.Test.YtkjfhgbpiogigaaDoorFs
namespace Go.Proofs.YtkjfhgbpiogigaaDoor
open Go Go.RowKit

set_option maxHeartbeats 1000000 in
theorem joined_any {l1 l2 : List (BitVec 8)} {A1 A2 : Option Addr} {n m c1 c2 : Nat} {w : World} (h1 : Bs w A1 n c1 l1) (h2 : Bs w A2 m c2 l2) (hn : n + m ≤ 140737488351232) :
    Calls Tryd.prog 54 #[.slice A1 n c1, .slice A2 m c2] w (Fresh w (n + m) (l1 ++ l2)) := by
  have hmk := run_make0 (n + m) ((n : Int) + (m : Int)) (by omega) (by omega)
  go_enter Tryd.func54, Tryd.ntmps54
  have ho := Own.made w w.heap.size (n + m) (Nat.le_refl _) (by unfold maxLen; omega)
  have hx : Ext w (w.alloc (.cells (bv (zb (n + m))) 5)) := (by (repeat (first | assumption | exact Ext.refl _ | apply Ext.drew | apply Ext.drewN | apply Ext.alloc | refine Ext.trans ?_ (by assumption))); first | done | fail)
  go_wp2_with (first | (at_builtin; refine wpList_append_bs rfl (.tmp 12) (.tmp 13) rfl w.heap.size _ 0 [] rfl ho A1 n c1 l1 rfl (h1.ext hx) (by omega) n (by omega) l1 rfl w hx (Nat.le_refl _) (by simp) ?_; intro A3 c3 w3 ho3 hx3 _) | (at_builtin; refine wpList_append_bs rfl (.tmp 15) (.tmp 16) rfl w.heap.size _ n _ rfl ho3 A2 m c2 l2 rfl (h2.ext hx3) (by omega) _ rfl _ rfl w hx3 (Nat.le_refl _) hx3.size ?_; intro A4 c4 w4 ho4 hx4 _) | fail)
  go_ret
  exact ⟨A4, c4, rfl, ho4.bs, ho4, hx4⟩

theorem szP (l : List (BitVec 8)) (h : l.length = 128) : (Tryd.prog.info? 76).map (·.size) = some (bv l).size := by rw [bv_size, h]; kernel_rfl
/-- behind the long key's digest -/
def PadCut (k : List (BitVec 8)) (w : World) (t : Value) (w' : World) : Prop :=
  ∃ A n c, t = .slice A n c ∧ Bs w' A n c (kx k) ∧ Blk w' w.heap.size 76 (bv (zb 128)) ∧ Ext w w'
set_option maxHeartbeats 4000000 in
theorem padsOf_any {k : List (BitVec 8)} {A : Option Addr} {n c : Nat} {w : World} (hk : Bs w A n c k) (hw : Lay w) (hn : n ≤ 140737488351232) :
    Calls Tryd.prog 51 #[.slice A n c] w fun e w' => e = .returned (.agg (bv (padX (kx k) 54 ++ padX (kx k) 92))) ∧ Ext w w' := by
  go_enter Tryd.func51, Tryd.ntmps51
  have hx0 : Ext w (w.alloc (.cells (bv (zb 128)) 76)) := (by (repeat (first | assumption | exact Ext.refl _ | apply Ext.drew | apply Ext.drewN | apply Ext.alloc | refine Ext.trans ?_ (by assumption))); first | done | fail)
  have hz0 : Blk (w.alloc (.cells (bv (zb 128)) 76)) w.heap.size 76 (bv (zb 128)) := ⟨Has.new _ _ _ _ rfl⟩
  go_upto_if 7 with (fail)
  change Code.wp _ _ _ _ (w.alloc (.cells (bv (zb 128)) 76))
  generalize w.alloc (.cells (bv (zb 128)) 76) = w0 at *
  go_cut [0] (fun t w' => PadCut k w t w')
  case first =>
    by_cases h : 64 < n
    · go_wp2_with (go_at_call 28; refine Calls.mono (sum_fr k A n c w0 (hk.ext hx0) (hw.ext hx0) hn) ?_; rintro e w1 ⟨A1, c1, rfl, hs1, ho1, hx1⟩)
      go_meet
      exact ⟨A1, 32, c1, rfl, by rw [kx, if_pos (by rw [hk.len]; exact h)]; exact hs1, hz0.ext hx1, hx0.trans hx1⟩
    · go_wp2
      go_meet
      exact ⟨A, n, c, rfl, by rw [kx, if_neg (by rw [hk.len]; exact h)]; exact hk.ext hx0, hz0, hx0⟩
  case rest =>
    obtain ⟨A1, n1, c1, rfl, hs1, hz1, hx1⟩ := hcut
    clear hk hw hn hx0 hz0
    have hkl := kx_len k
    have hk1 := hs1.len
    obtain ⟨K, hK⟩ : ∃ K, kx k = K := ⟨_, rfl⟩
    rw [hK] at hs1 hkl hk1
    have HK := Kp.mk hK
    clear hK
    have hn1 : n1 ≤ 64 := by omega
    obtain ⟨gr, hgr⟩ : ∃ g, g = w.heap.size := ⟨_, rfl⟩
    have hgl := hz1.lt
    rw [← hgr] at hz1 hgl
    have HX1 := Kp.mk hx1
    have HS1 := Kp.mk hs1
    have HZ1 := Kp.mk hz1
    have HKL := Kp.mk hkl
    have HK1 := Kp.mk hk1
    have HGR := Kp.mk hgr
    clear hx1 hs1 hz1 hkl hk1 hgr
    have hbz : Below wc.heap.size wc (wc.alloc (.cells (bv (zb 128)) 76)) := (Below.refl _ _).alloc (Nat.le_refl _) _
    have hg0 : (wc.alloc (.cells (bv (zb 128)) 76)).heap[wc.heap.size]? = some (.cells ((zb 128).map vb).toArray 76 (0, 0)) := heap_alloc_new wc _
    have hf1 : (K.map vb).length = Nat.min n1 64 := by rw [List.length_map, HK1.out]; show n1 = min n1 64; omega
    have hf2 : 0 + (K.map vb).length ≤ ((zb 128).map vb).length := by rw [List.length_map, List.length_map, HK1.out, zb_len]; omega
    have hf3 : 64 + (K.map vb).length ≤ (splice ((zb 128).map vb) 0 (K.map vb)).length := by rw [length_splice _ _ _ hf2, List.length_map, List.length_map, HK1.out, zb_len]; omega
    have HBZ := Kp.mk hbz
    have HG0 := Kp.mk hg0
    have HF1 := Kp.mk hf1
    have HF2 := Kp.mk hf2
    have HF3 := Kp.mk hf3
    clear hbz hg0 hf1 hf2 hf3
    go_wp2_with (first | (refine wpList_copy_splice (o := ⟨some 13, _, _, _, _, _⟩) rfl (.tmp 11) (.tmp 12) 36 36 rfl 5 Tryd.underlying36 szB (some ⟨wc.heap.size, 0, none⟩) A1 64 64 n1 c1 rfl rfl wc.heap.size 0 ((zb 128).map vb) 76 HG0.out (K.map vb) HF1.out (fun hp => ⟨rfl, (HS1.out.ext ⟨HBZ.out⟩).news hp⟩) HF2.out (one_vb' K) wc.heap.size wc HBZ.out (Nat.le_refl _) ?_; intro w2 hG2 hb2) | (refine wpList_copy_splice (o := ⟨some 17, _, _, _, _, _⟩) rfl (.tmp 15) (.tmp 16) 36 36 rfl 5 Tryd.underlying36 szB (some ⟨wc.heap.size, 64, none⟩) A1 64 64 n1 c1 rfl rfl wc.heap.size 64 (splice ((zb 128).map vb) 0 (K.map vb)) 76 hG2.out (K.map vb) HF1.out (fun hp => ⟨rfl, (HS1.out.ext ⟨hb2⟩).news hp⟩) HF3.out (one_vb' K) wc.heap.size wc hb2 (Nat.le_refl _) ?_; intro w3 hG3 hb3) | fail)
    have hp0 : Blk w3 wc.heap.size 76 (bv (pf K 0)) := ⟨by have h := hG3.out; rw [pf_start K HKL.out] at h; exact h⟩
    have hr0 : Blk w3 w.heap.size 76 (bv (zb 128)) := by rw [← HGR.out]; exact HZ1.out.ext ⟨hb3⟩
    have hx3 : Ext w w3 := HX1.out.trans ⟨hb3⟩
    have hgl2 : w.heap.size < wc.heap.size := by rw [← HGR.out]; exact hgl
    obtain ⟨g, hg⟩ : ∃ g, g = wc.heap.size := ⟨_, rfl⟩
    rw [← hg] at hp0 hgl2 ⊢
    clear hG2 hb2 hG3 hb3 HG0 HF1 HF2 HF3 HBZ HX1 HS1 HZ1 HGR HK1 hg
    go_loopw [18] (fun i wr => ∃ j : Nat, j ≤ 64 ∧ i = .int .i64 j ∧ Blk wr g 76 (bv (pf K j)) ∧ Blk wr w.heap.size 76 (bv (zb 128)) ∧ Ext w wr) (fun i _ => 64 - (intOf i).toNat)
    case atStart => exact ⟨0, by omega, rfl, hp0, hr0, hx3⟩
    case round =>
      clear hp0 hr0 hx3
      obtain ⟨j, hj, rfl, hp, hr, hx⟩ := hrel
      by_cases hlt : j < 64
      · have c1 : wr.cell? ⟨g, j, none⟩ = some (.int .u8 (ub (gb K j))) := (hp.h.cell j).trans ((bv_at _ j (by rw [pf_len]; omega)).trans (by rw [pf_lo _ _ _ hlt, if_neg (by omega)]))
        have c2 : wr.cell? ⟨g, 64 + j, none⟩ = some (.int .u8 (ub (gb K j))) := (hp.h.cell (64 + j)).trans ((bv_at _ (64 + j) (by rw [pf_len]; omega)).trans (by rw [pf_hi _ _ _ hlt, if_neg (by omega)]))
        have f1 := hp.h.frozen j
        have f2 := hp.h.frozen (64 + j)
        have hne : ¬ (64 + j = j) := by omega
        have bk : (j : Int) < 64 := by omega
        go_wp2_with fail
        go_roundw
        case rel =>
          refine ⟨j + 1, by omega, by go_num, ?_, (hr.far (show w.heap.size ≠ g by omega) _).far (show w.heap.size ≠ g by omega) _, (hx.setCell (p := ⟨g, j, none⟩) (show w.heap.size ≤ g by omega) _).setCell (p := ⟨g, 64 + j, none⟩) (show w.heap.size ≤ g by omega) _⟩
          rw [← pf_next K j hlt]
          exact (hp.setB j _).setB (64 + j) _
        case measure => simp [intOf]; omega
      · obtain rfl : j = 64 := by omega
        have hl := pf_len K 64
        have he := pf_end K
        have HL := Kp.mk hl
        have HE := Kp.mk he
        clear hl he
        go_wp2_with (first | (refine wpList_load_row rfl 76 _ rfl g rfl 76 _ (0, 0) _ hp.h Tryd.underlying76 rfl (szP _ HL.out) ?_) | (refine wpList_store_row rfl 76 _ _ rfl w.heap.size (bv (pf K 64)) rfl rfl 76 _ hr.h (szP _ HL.out) (by rw [bv_size, bv_size, HL.out, zb_len]) (bv_one _) ?_) | fail)
        refine bodyPost_ret (v := .agg (bv (pf K 64))) ?_ rfl ⟨by rw [HK.out, HE.out], hx.setRow (Nat.le_refl _) _⟩
        exact results_cell_row rfl _ _ w.heap.size 76 _ (0, 0) _ rfl (hr.row _).h Tryd.underlying76 rfl (szP _ HL.out)

theorem pads_len (k : List (BitVec 8)) : (padX (kx k) 54).length = 64 ∧ (padX (kx k) 92).length = 64 := ⟨padX_len _ _, padX_len _ _⟩
set_option maxHeartbeats 4000000 in
theorem mark_any {p q b : List (BitVec 8)} {A : Option Addr} {n c : Nat} {w : World} (hp : p.length = 64) (hq : q.length = 64) (hb : Bs w A n c b) (hw : Lay w) (hn : n ≤ 4294967296) :
    Calls Tryd.prog 52 #[.agg (bv (p ++ q)), .slice A n c] w (Fresh w 32 (mkP p q b)) := by
  go_enter Tryd.func52, Tryd.ntmps52
  have hx0 : Ext w (w.alloc (.cells (bv (p ++ q)) 76)) := (by (repeat (first | assumption | exact Ext.refl _ | apply Ext.drew | apply Ext.drewN | apply Ext.alloc | refine Ext.trans ?_ (by assumption))); first | done | fail)
  have hz0 := Blk.new w 76 (bv (p ++ q))
  go_wp2
  generalize w.alloc (.cells (bv (p ++ q)) 76) = w0 at *
  have hpl : (p ++ q).length = 128 := by rw [List.length_append, hp, hq]
  have hi := hz0.bs 0 64 64 (by omega) (Nat.le_refl _)
  have ho := hz0.bs 64 64 64 (by omega) (Nat.le_refl _)
  rw [List.drop_zero, List.take_left' hp] at hi
  rw [List.drop_left' hp, List.take_of_length_le (by omega)] at ho
  have hb0 := hb.ext hx0
  have hw0 := hw.ext hx0
  clear hz0 hpl hp hq hb hw
  go_region_held3 (fun w' => Ext w0 w') (exact (by (repeat (first | assumption | exact Ext.refl _ | apply Ext.drew | apply Ext.drewN | apply Ext.alloc | refine Ext.trans ?_ (by assumption))); first | done | fail)) (first | (go_at_call 54; refine (joined_any (Bs.ext (by assumption) (by (repeat (first | assumption | exact Ext.refl _ | apply Ext.drew | apply Ext.drewN | apply Ext.alloc | refine Ext.trans ?_ (by assumption))); first | done | fail)) (Bs.ext (by assumption) (by (repeat (first | assumption | exact Ext.refl _ | apply Ext.drew | apply Ext.drewN | apply Ext.alloc | refine Ext.trans ?_ (by assumption))); first | done | fail)) (by omega)).mono ?_; rintro e w1 ⟨A1, c1, rfl, hs1, ho1, hx1⟩) | (go_at_call 28; refine (sum_fr _ _ _ _ _ (by assumption) (hw0.ext (by (repeat (first | assumption | exact Ext.refl _ | apply Ext.drew | apply Ext.drewN | apply Ext.alloc | refine Ext.trans ?_ (by assumption))); first | done | fail)) (by omega)).mono ?_; rintro e w1 ⟨A1, c1, rfl, hs1, ho1, hx1⟩))
  go_wp2
  go_ret
  exact fresh_mk hs1 ho1 (by (repeat (first | assumption | exact Ext.refl _ | apply Ext.drew | apply Ext.drewN | apply Ext.alloc | refine Ext.trans ?_ (by assumption))); first | done | fail) (by (repeat (first | assumption | exact Ext.refl _ | apply Ext.drew | apply Ext.drewN | apply Ext.alloc | refine Ext.trans ?_ (by assumption))); first | done | fail)
end Go.Proofs.YtkjfhgbpiogigaaDoor
