/-
  The walk of the reference's Mark.
-/
import Derived.Test.YtkjfhgbpiogigaaDoorRs
import Derived.Test.YtkjfhgbpiogigaaDoorMa
namespace Go.Proofs.YtkjfhgbpiogigaaDoor
open Go Go.RowKit
attribute [local go_sem ↓] loadT_eq

theorem byte_bs (w : World) (x : BitVec 8) : Bs (w.alloc (.cells #[.int .u8 (ub x)] 5)) (some ⟨w.heap.size, 0, none⟩) 1 1 [x] := (Blk.new w 5 (bv [x])).bs 0 1 1 (by simp) (Nat.le_refl _)
/-- behind the long key's digest -/
def RefCut (k : List (BitVec 8)) (At : Option Addr) (ct : Nat) (w : World) (t : Value) (w' : World) : Prop :=
  ∃ A n c, t = .slice A n c ∧ Bs w' A n c (kx k) ∧ Blk w' w.heap.size 47 (tab At ct HH) ∧ Ext w w'

set_option maxHeartbeats 4000000 in
theorem refMark_any {k b : List (BitVec 8)} {At A B : Option Addr} {ct n c m d : Nat} {w : World} (ht : Tab w At ct) (hk : Bs w A n c k) (hb : Bs w B m d b) (hn : n ≤ 2000) (hm : m ≤ 1900) :
    Calls Tryd.prog 34 #[.agg (tab At ct HH), .slice A n c, .slice B m d] w (Fresh w 32 (mkL k b)) := by
  go_enter Tryd.func34, Tryd.ntmps34
  have hx0 : Ext w (w.alloc (.cells (tab At ct HH) 47)) := (by (repeat (first | assumption | exact Ext.refl _ | apply Ext.drew | apply Ext.drewN | apply Ext.alloc | refine Ext.trans ?_ (by assumption))); first | done | fail)
  have hz0 := Blk.new w 47 (tab At ct HH)
  go_upto_if 15 with (fail)
  generalize w.alloc (.cells (tab At ct HH) 47) = w0 at *
  go_cut [7] (fun t w' => RefCut k At ct w t w')
  case first =>
    have hload := fun (w' : World) (hx : Ext w0 w') => run_loadT hz0 hx
    by_cases h : 64 < n
    · go_wp2_with (go_at_call 30; refine (refsum_fr (ht.ext hx0) (hk.ext hx0) hn).mono ?_; rintro e w1 ⟨A1, c1, rfl, hs1, ho1, hx1⟩)
      go_meet
      exact ⟨A1, 32, c1, rfl, by rw [kx, if_pos (by rw [hk.len]; exact h)]; exact hs1, hz0.ext hx1, hx0.trans hx1⟩
    · go_wp2
      go_meet
      exact ⟨A, n, c, rfl, by rw [kx, if_neg (by rw [hk.len]; exact h)]; exact hk.ext hx0, hz0, hx0⟩
  case rest =>
    obtain ⟨A1, n1, c1, rfl, hs1, hz1, hx1⟩ := hcut
    have hkl := kx_len k
    have hk1 := hs1.len
    have hn1 : n1 ≤ 64 := by omega
    have ht1 := ht.ext hx1
    have hb1 := hb.ext hx1
    obtain ⟨K, hK⟩ : ∃ K, kx k = K := ⟨_, rfl⟩
    have hres : mkP (padX K 54) (padX K 92) b = mkL k b := by rw [← hK]; rfl
    rw [hK] at hs1
    have HRES := Kp.mk hres
    have HKN := Kp.mk hs1.len
    clear hK hres hkl hk1 ht hb hk hz0 hx0
    obtain ⟨g, hg⟩ : ∃ g, g = w.heap.size := ⟨_, rfl⟩
    have hgl := hz1.lt
    rw [← hg] at hz1 hgl ⊢
    have HX1 := Kp.mk hx1
    clear hx1 hg
    go_wp2_with fail
    go_loopw [8, 9, 10] (fun vi vo iv wr => ∃ j : Nat, j ≤ 64 ∧ iv = .int .i64 j ∧ (∃ A c, vi = .slice A j c) ∧ (∃ A c, vo = .slice A j c) ∧ Own wr wc.heap.size vi j (padTo K 54 j) ∧ Own wr wc.heap.size vo j (padTo K 92 j) ∧ Dj vi vo ∧ Ext wc wr) (fun _ _ iv _ => 64 - (intOf iv).toNat)
    case atStart => exact ⟨0, by omega, rfl, ⟨_, _, rfl⟩, ⟨_, _, rfl⟩, Own.nil _ _, Own.nil _ _, Dj.nil _, Ext.refl _⟩
    case round =>
      obtain ⟨j, hj, rfl, ⟨Ai, ci, rfl⟩, ⟨Ao, co, rfl⟩, hi, ho, hd, hx⟩ := hrel
      by_cases hlt : j < 64
      · have hp1 := padTo_succ K 54 j
        have hp2 := padTo_succ K 92 j
        have HP1 := Kp.mk hp1
        have HP2 := Kp.mk hp2
        clear hp1 hp2
        by_cases hin : j < n1
        · obtain ⟨gk, ok, rfl, hcells⟩ := (hs1.ext hx).s.2.2.2 (by omega)
          have hc := hcells j hin
          clear hcells
          generalize gb K j = x at *
          go_wp2_with (first | (at_builtin; refine wpList_append_bs rfl (.tmp 31) (.tmp 34) rfl wc.heap.size _ j _ rfl (hi.ext (by (repeat (first | assumption | exact Ext.refl _ | apply Ext.drew | apply Ext.drewN | apply Ext.alloc | refine Ext.trans ?_ (by assumption))); first | done | fail)) _ 1 1 [x ^^^ 54] rfl (byte_bs wr _) (by omega) _ rfl _ rfl wc (by (repeat (first | assumption | exact Ext.refl _ | apply Ext.drew | apply Ext.drewN | apply Ext.alloc | refine Ext.trans ?_ (by assumption))); first | done | fail) (Nat.le_refl _) (Ext.size (by (repeat (first | assumption | exact Ext.refl _ | apply Ext.drew | apply Ext.drewN | apply Ext.alloc | refine Ext.trans ?_ (by assumption))); first | done | fail)) ?_; intro A3 c3 w3 hi3 hx3 hap3; have ho3 := hap3.keep (ho.ext (by (repeat (first | assumption | exact Ext.refl _ | apply Ext.drew | apply Ext.drewN | apply Ext.alloc | refine Ext.trans ?_ (by assumption))); first | done | fail)) hd.symm; have hd3 := hap3.dj (ho.ext (by (repeat (first | assumption | exact Ext.refl _ | apply Ext.drew | apply Ext.drewN | apply Ext.alloc | refine Ext.trans ?_ (by assumption))); first | done | fail)) hd) | (at_builtin; refine wpList_append_bs rfl (.tmp 36) (.tmp 39) rfl wc.heap.size _ j _ rfl (ho3.ext (by (repeat (first | assumption | exact Ext.refl _ | apply Ext.drew | apply Ext.drewN | apply Ext.alloc | refine Ext.trans ?_ (by assumption))); first | done | fail)) _ 1 1 [x ^^^ 92] rfl (byte_bs w3 _) (by omega) _ rfl _ rfl wc (by (repeat (first | assumption | exact Ext.refl _ | apply Ext.drew | apply Ext.drewN | apply Ext.alloc | refine Ext.trans ?_ (by assumption))); first | done | fail) (Nat.le_refl _) (Ext.size (by (repeat (first | assumption | exact Ext.refl _ | apply Ext.drew | apply Ext.drewN | apply Ext.alloc | refine Ext.trans ?_ (by assumption))); first | done | fail)) ?_; intro A4 c4 w4 ho4 hx4 hap4) | fail)
          go_roundw
          case rel =>
            refine ⟨j + 1, by omega, by go_num, ⟨_, _, rfl⟩, ⟨_, _, rfl⟩, ?_, ?_, ?_, hx4⟩
            · rw [HP1.out]
              exact hap4.keep (hi3.ext (by (repeat (first | assumption | exact Ext.refl _ | apply Ext.drew | apply Ext.drewN | apply Ext.alloc | refine Ext.trans ?_ (by assumption))); first | done | fail)) hd3
            · rw [HP2.out]
              exact ho4
            · exact (hap4.dj (hi3.ext (by (repeat (first | assumption | exact Ext.refl _ | apply Ext.drew | apply Ext.drewN | apply Ext.alloc | refine Ext.trans ?_ (by assumption))); first | done | fail)) hd3.symm).symm
          case measure => simp [intOf]; omega
        · have hz : gb K j = 0 := gb_out K j (by have := HKN.out; omega)
          rw [hz] at HP1 HP2
          clear hz
          go_wp2_with (first | (at_builtin; refine wpList_append_bs rfl (.tmp 31) (.tmp 34) rfl wc.heap.size _ j _ rfl (hi.ext (by (repeat (first | assumption | exact Ext.refl _ | apply Ext.drew | apply Ext.drewN | apply Ext.alloc | refine Ext.trans ?_ (by assumption))); first | done | fail)) _ 1 1 [54] rfl (byte_bs wr 54) (by omega) _ rfl _ rfl wc (by (repeat (first | assumption | exact Ext.refl _ | apply Ext.drew | apply Ext.drewN | apply Ext.alloc | refine Ext.trans ?_ (by assumption))); first | done | fail) (Nat.le_refl _) (Ext.size (by (repeat (first | assumption | exact Ext.refl _ | apply Ext.drew | apply Ext.drewN | apply Ext.alloc | refine Ext.trans ?_ (by assumption))); first | done | fail)) ?_; intro A3 c3 w3 hi3 hx3 hap3; have ho3 := hap3.keep (ho.ext (by (repeat (first | assumption | exact Ext.refl _ | apply Ext.drew | apply Ext.drewN | apply Ext.alloc | refine Ext.trans ?_ (by assumption))); first | done | fail)) hd.symm; have hd3 := hap3.dj (ho.ext (by (repeat (first | assumption | exact Ext.refl _ | apply Ext.drew | apply Ext.drewN | apply Ext.alloc | refine Ext.trans ?_ (by assumption))); first | done | fail)) hd) | (at_builtin; refine wpList_append_bs rfl (.tmp 36) (.tmp 39) rfl wc.heap.size _ j _ rfl (ho3.ext (by (repeat (first | assumption | exact Ext.refl _ | apply Ext.drew | apply Ext.drewN | apply Ext.alloc | refine Ext.trans ?_ (by assumption))); first | done | fail)) _ 1 1 [92] rfl (byte_bs w3 92) (by omega) _ rfl _ rfl wc (by (repeat (first | assumption | exact Ext.refl _ | apply Ext.drew | apply Ext.drewN | apply Ext.alloc | refine Ext.trans ?_ (by assumption))); first | done | fail) (Nat.le_refl _) (Ext.size (by (repeat (first | assumption | exact Ext.refl _ | apply Ext.drew | apply Ext.drewN | apply Ext.alloc | refine Ext.trans ?_ (by assumption))); first | done | fail)) ?_; intro A4 c4 w4 ho4 hx4 hap4) | fail)
          go_roundw
          case rel =>
            refine ⟨j + 1, by omega, by go_num, ⟨_, _, rfl⟩, ⟨_, _, rfl⟩, ?_, ?_, ?_, hx4⟩
            · rw [HP1.out]
              exact hap4.keep (hi3.ext (by (repeat (first | assumption | exact Ext.refl _ | apply Ext.drew | apply Ext.drewN | apply Ext.alloc | refine Ext.trans ?_ (by assumption))); first | done | fail)) hd3
            · rw [HP2.out]
              exact ho4
            · exact (hap4.dj (hi3.ext (by (repeat (first | assumption | exact Ext.refl _ | apply Ext.drew | apply Ext.drewN | apply Ext.alloc | refine Ext.trans ?_ (by assumption))); first | done | fail)) hd3.symm).symm
          case measure => simp [intOf]; omega
      · obtain rfl : j = 64 := by omega
        have hload := fun (w' : World) (hx : Ext wc w') => run_loadT hz1 hx
        have ht2 := ht1
        have hs2 : Bs wr B m d b := hb1.ext hx
        have hi1 : Own wr wc.heap.size (.slice Ai 64 ci) 64 (padX K 54) := hi
        have ho1 : Own wr wc.heap.size (.slice Ao 64 co) 64 (padX K 92) := ho
        clear hi ho
        go_wp2_with fail
        go_region_held3 (fun w' => Ext wc w') (exact (by (repeat (first | assumption | exact Ext.refl _ | apply Ext.drew | apply Ext.drewN | apply Ext.alloc | refine Ext.trans ?_ (by assumption))); first | done | fail)) (first | (go_at_call 30; refine (refsum_fr (ht1.ext (by (repeat (first | assumption | exact Ext.refl _ | apply Ext.drew | apply Ext.drewN | apply Ext.alloc | refine Ext.trans ?_ (by assumption))); first | done | fail)) (by assumption) (by omega)).mono ?_; rintro e w5 ⟨A5, c5, rfl, hs5, ho5, hx5⟩) | (rw [if_pos (by rfl)]; refine wp_append_bs (.tmp 44) (.tmp 45) rfl wc.heap.size _ 64 _ rfl (hi1.ext (by (repeat (first | assumption | exact Ext.refl _ | apply Ext.drew | apply Ext.drewN | apply Ext.alloc | refine Ext.trans ?_ (by assumption))); first | done | fail)) _ m d b rfl (hs2.ext (by (repeat (first | assumption | exact Ext.refl _ | apply Ext.drew | apply Ext.drewN | apply Ext.alloc | refine Ext.trans ?_ (by assumption))); first | done | fail)) (by omega) _ rfl _ rfl wc (by (repeat (first | assumption | exact Ext.refl _ | apply Ext.drew | apply Ext.drewN | apply Ext.alloc | refine Ext.trans ?_ (by assumption))); first | done | fail) (Nat.le_refl _) (Ext.size (by (repeat (first | assumption | exact Ext.refl _ | apply Ext.drew | apply Ext.drewN | apply Ext.alloc | refine Ext.trans ?_ (by assumption))); first | done | fail)) ?_; intro A6 c6 w6 hi6 hx6 hap6; have ho6 := hap6.keep (ho1.ext (by (repeat (first | assumption | exact Ext.refl _ | apply Ext.drew | apply Ext.drewN | apply Ext.alloc | refine Ext.trans ?_ (by assumption))); first | done | fail)) hd.symm; have hb6 := hi6.bs) | (rw [if_pos (by rfl)]; refine wp_append_bs (.tmp 42) (.tmp 47) rfl wc.heap.size _ 64 _ rfl (ho6.ext (by (repeat (first | assumption | exact Ext.refl _ | apply Ext.drew | apply Ext.drewN | apply Ext.alloc | refine Ext.trans ?_ (by assumption))); first | done | fail)) _ 32 c5 _ rfl hs5 (by omega) _ rfl _ rfl wc (by (repeat (first | assumption | exact Ext.refl _ | apply Ext.drew | apply Ext.drewN | apply Ext.alloc | refine Ext.trans ?_ (by assumption))); first | done | fail) (Nat.le_refl _) (Ext.size (by (repeat (first | assumption | exact Ext.refl _ | apply Ext.drew | apply Ext.drewN | apply Ext.alloc | refine Ext.trans ?_ (by assumption))); first | done | fail)) ?_; intro A7 c7 w7 ho7 hx7 hap7; have hb7 := ho7.bs))
        go_wp2
        go_ret
        have hf : Fresh w 32 (mkP (padX K 54) (padX K 92) b) _ _ := fresh_mk hs5 ho5 (HX1.out.trans (by (repeat (first | assumption | exact Ext.refl _ | apply Ext.drew | apply Ext.drewN | apply Ext.alloc | refine Ext.trans ?_ (by assumption))); first | done | fail)) hx5
        rw [HRES.out] at hf
        exact hf
end Go.Proofs.YtkjfhgbpiogigaaDoor
