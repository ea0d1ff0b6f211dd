/-
  The reference's Seal.
-/
import Derived.Test.YtjjoghdlbnlicaaDoorCd
import Derived.Test.YtjjoghdlbnlicaaDoorCi
import Derived.Test.YtjjoghdlbnlicaaDoorBt
namespace Go.Proofs.YtjjoghdlbnlicaaDoor
open Go Go.RowKit

theorem Bs.at_ {w : World} {g o n c : Nat} {l : List (BitVec 8)} (h : Bs w (some ⟨g, o, none⟩) n c l) (j : Nat) (hj : j < n) : w.cell? ⟨g, o + j, none⟩ = some (.int .u8 (ub (gb l j))) := by
  obtain ⟨g', o', e, hc⟩ := h.s.2.2.2 (by omega)
  cases e
  exact hc j hj
theorem xor_b16 (F L : List (BitVec 8)) (j m : Nat) (hm : m = 16 * j) : li 16 (fun q => gb F (m + q) ^^^ gb L q) = xorL (b16 F j) L := by
  subst hm
  exact li_congr fun q hq => by rw [b16_gb _ _ _ hq]
set_option maxHeartbeats 4000000 in
theorem refSeal_any {k g t : List (BitVec 8)} {T A B C : Option Addr} {ct c d n e : Nat} {w : World} (ht : Bs w T 256 ct SB) (hk : Bs w A 16 c k) (hg : Bs w B 16 d g) (hx : Bs w C n e t) (hn : n ≤ 65536) :
    Calls Tryd.prog 11 #[.slice T 256 ct, .slice A 16 c, .slice B 16 d, .slice C n e] w (Fresh w (16 * (n / 16 + 1)) (sealL (ks k) g t)) := by
  have htl := hx.len
  go_enter Tryd.func11, Tryd.ntmps11
  go_wp2_with (first | (go_at_call 21; refine (refFill_any hx (by omega)).mono ?_; rintro e1 w2 ⟨A2, c2, rfl, hf2, ho2, hx2⟩) | fail)
  obtain ⟨N, hN⟩ : ∃ N, N = n / 16 + 1 := ⟨_, rfl⟩
  obtain ⟨F, hF⟩ : ∃ F, F = fillL t := ⟨_, rfl⟩
  obtain ⟨Z, hZ⟩ : ∃ Z, Z = n + fn n := ⟨_, rfl⟩
  have hZN : Z = 16 * N := by rw [hZ, hN]; unfold fn; omega
  have hse : sealL (ks k) g t = sealN (ks k) F g N := by unfold sealL; rw [htl, hF, hN]
  rw [← hF, ← hZ] at hf2
  rw [← hZ]
  have HSE := Kp.mk hse
  have HZ1 : Kp (16 * (n / 16 + 1) = Z) := ⟨by rw [hZN, hN]⟩
  have hZb : Z ≤ 65552 := by omega
  have hFl := hf2.len
  obtain ⟨gF, oF, rfl, _⟩ := hf2.rge (by omega)
  have HZ := Kp.mk hZN
  have HT := Kp.mk (ht.ext hx2)
  have HK := Kp.mk (hk.ext hx2)
  have HFB := Kp.mk hf2
  have hg2 := hg.ext hx2
  clear ht hk hg hx ho2 hF hZ hN hse hZN htl hf2 hn hFl
  go_loopw [9, 10, 12] (fun ov lv iv wr => ∃ j m : Nat, j ≤ N ∧ m = 16 * j ∧ iv = .int .i64 (m : Int) ∧ (∃ A c, ov = .slice A m c) ∧ Own wr w2.heap.size ov m (sealN (ks k) F g j) ∧ (∃ A c, lv = .slice A 16 c ∧ Bs wr A 16 c (chn (ks k) F g j)) ∧ Ext w2 wr) (fun _ _ i _ => Z - (intOf i).toNat)
  case atStart => exact ⟨0, 0, Nat.zero_le _, rfl, rfl, ⟨_, _, rfl⟩, Own.nil _ _, ⟨_, _, rfl, hg2⟩, Ext.refl _⟩
  case round =>
    clear hg2
    obtain ⟨j, m, hj, hm, rfl, ⟨Ao, co, rfl⟩, ho, ⟨Al, cl, rfl, hl⟩, hxr⟩ := hrel
    by_cases hlt : j < N
    · have b1 : (m : Int) < Z := by have := HZ.out; omega
      have b2 : m + 16 ≤ Z := by have := HZ.out; omega
      have hFw := HFB.out.ext hxr
      obtain ⟨gL, oL, rfl, _⟩ := hl.rge (by decide)
      obtain ⟨L, hL⟩ : ∃ L, L = chn (ks k) F g j := ⟨_, rfl⟩
      have hch : chn (ks k) F g (j + 1) = encL (ks k) (li 16 (fun q => gb F (m + q) ^^^ gb L q)) := by rw [xor_b16 F L j m hm, chn, hL]
      have hsn : sealN (ks k) F g (j + 1) = sealN (ks k) F g j ++ chn (ks k) F g (j + 1) := rfl
      rw [← hL] at hl
      have HM := Kp.mk hm
      have HCH := Kp.mk hch
      have HSN := Kp.mk hsn
      have HO := Kp.mk ho
      have HX := Kp.mk hxr
      have HFW := Kp.mk hFw
      have HL := Kp.mk hl
      clear hm hch hsn ho hxr hFw hl hL
      go_wp2_with fail
      obtain ⟨wo, rfl⟩ : ∃ wo : World, wo = wr := ⟨_, rfl⟩
      go_loopw [13, 14] (fun xv iv wq => ∃ i : Nat, i ≤ 16 ∧ iv = .int .i64 (i : Int) ∧ (∃ A c, xv = .slice A i c) ∧ Own wq wo.heap.size xv i (li i (fun q => gb F (m + q) ^^^ gb L q)) ∧ Ext wo wq) (fun _ i _ => 16 - (intOf i).toNat)
      case atStart => exact ⟨0, by omega, rfl, ⟨_, _, rfl⟩, Own.nil _ _, Ext.refl _⟩
      case round =>
        obtain ⟨i, hi, rfl, ⟨Ax, cx, rfl⟩, hox, hxq⟩ := hrel
        by_cases hi16 : i < 16
        · have d1 : (i : Int) < 16 := by omega
          have k1 : ∀ w', Ext wo w' → w'.cell? ⟨gF, oF + (m + i), none⟩ = some (.int .u8 (ub (gb F (m + i)))) := fun w' h => (HFW.out.ext h).at_ (m + i) (by omega)
          have k2 : ∀ w', Ext wo w' → w'.cell? ⟨gL, oL + i, none⟩ = some (.int .u8 (ub (gb L i))) := fun w' h => (HL.out.ext h).at_ i hi16
          have HLS := Kp.mk (li_succ i (fun q => gb F (m + q) ^^^ gb L q))
          have d2 : (m : Int) + (i : Int) < Z := by omega
          have d3 : 0 ≤ (m : Int) + (i : Int) := by omega
          have d4 : ((m : Int) + (i : Int)).toNat = m + i := by omega
          have d5 : IntKind.i64.wrap ((m : Int) + (i : Int)) = (m : Int) + (i : Int) := by rw [IntKind.wrap_i64]; omega
          generalize gb F (m + i) = x at *
          generalize gb L i = y at *
          go_wp2_with fail
          refine wp_region_held_drew (S := fun w' => Ext wo w') (by kernel_rfl) hxq.drew (fun hHeld => ?_)
          refine wpAnyH_take (i := 0) (oi := ⟨some 28, _, _, _, _, _⟩) (v := ?_) rfl (by kernel_rfl) (by kernel_rfl) (by kernel_rfl) (fun _ _ _ h => h) (Or.inl ⟨by rfl, ?_⟩) (by assumption) ?_
          rotate_left
          · (intro w hSw; (try dsimp only at hSw); go_simp; try with_reducible rfl)
          try simp only [Act.put, List.setIfInBounds_toArray, List.set_cons_zero, List.set_cons_succ]
          refine wpAnyH_take (i := 1) (oi := ⟨some 29, _, _, _, _, _⟩) (v := ?_) rfl (by kernel_rfl) (by kernel_rfl) (by kernel_rfl) (fun _ _ _ h => h) (Or.inl ⟨by rfl, ?_⟩) (by assumption) ?_
          rotate_left
          · (intro w hSw; (try dsimp only at hSw); go_simp; try with_reducible rfl)
          try simp only [Act.put, List.setIfInBounds_toArray, List.set_cons_zero, List.set_cons_succ]
          refine wpAnyH_take (i := 2) (oi := ⟨some 30, _, _, _, _, _⟩) (v := ?_) rfl (by kernel_rfl) (by kernel_rfl) (by kernel_rfl) (fun _ _ _ h => h) (Or.inl ⟨by rfl, ?_⟩) (by assumption) ?_
          rotate_left
          · (intro w hSw; (try dsimp only at hSw); go_simp; try with_reducible rfl)
          try simp only [Act.put, List.setIfInBounds_toArray, List.set_cons_zero, List.set_cons_succ]
          refine wpAnyH_take (i := 3) (oi := ⟨some 31, _, _, _, _, _⟩) (v := ?_) rfl (by kernel_rfl) (by kernel_rfl) (by kernel_rfl) (fun _ _ _ h => h) (Or.inl ⟨by rfl, ?_⟩) (by assumption) ?_
          rotate_left
          · (intro w hSw; (try dsimp only at hSw); go_simp; try with_reducible rfl)
          try simp only [Act.put, List.setIfInBounds_toArray, List.set_cons_zero, List.set_cons_succ]
          refine wpAnyH_take (i := 4) (oi := ⟨some 32, _, _, _, _, _⟩) (v := ?_) rfl (by kernel_rfl) (by kernel_rfl) (by kernel_rfl) (fun _ _ _ h => h) (Or.inl ⟨by rfl, ?_⟩) (by assumption) ?_
          rotate_left
          · (intro w hSw; (try dsimp only at hSw); go_simp; try with_reducible rfl)
          try simp only [Act.put, List.setIfInBounds_toArray, List.set_cons_zero, List.set_cons_succ]
          refine wpAnyH_take (i := 5) (oi := ⟨some 33, _, _, _, _, _⟩) (v := ?_) rfl (by kernel_rfl) (by kernel_rfl) (by kernel_rfl) (fun _ _ _ h => h) (Or.inl ⟨by rfl, ?_⟩) (by assumption) ?_
          rotate_left
          · (intro w hSw; (try dsimp only at hSw); go_simp; try with_reducible rfl)
          try simp only [Act.put, List.setIfInBounds_toArray, List.set_cons_zero, List.set_cons_succ]
          refine wpAnyH_take (i := 6) (oi := ⟨some 34, _, _, _, _, _⟩) (v := ?_) rfl (by kernel_rfl) (by kernel_rfl) (by kernel_rfl) (fun _ _ _ h => h) (Or.inl ⟨by rfl, ?_⟩) (by assumption) ?_
          rotate_left
          · (intro w hSw; (try dsimp only at hSw); go_simp; try with_reducible rfl)
          try simp only [Act.put, List.setIfInBounds_toArray, List.set_cons_zero, List.set_cons_succ]
          refine wpAnyH_take (i := 7) (oi := ⟨some 35, _, _, _, _, _⟩) (v := ?_) rfl (by kernel_rfl) (by kernel_rfl) (by kernel_rfl) (fun _ _ _ h => h) (Or.inl ⟨by rfl, ?_⟩) (by assumption) ?_
          rotate_left
          · (intro w hSw; (try dsimp only at hSw); go_simp; try with_reducible rfl)
          try simp only [Act.put, List.setIfInBounds_toArray, List.set_cons_zero, List.set_cons_succ]
          refine wpAnyH_take (i := 8) (oi := ⟨some 36, _, _, _, _, _⟩) (v := ?_) rfl (by kernel_rfl) (by kernel_rfl) (by kernel_rfl) (fun _ _ _ h => h) (Or.inl ⟨by rfl, ?_⟩) (by assumption) ?_
          rotate_left
          · (intro w hSw; (try dsimp only at hSw); go_simp; try with_reducible rfl)
          try simp only [Act.put, List.setIfInBounds_toArray, List.set_cons_zero, List.set_cons_succ]
          refine wpAnyH_take (i := 9) (oi := ⟨some 37, _, _, _, _, _⟩) (v := ?_) rfl (by kernel_rfl) (by kernel_rfl) (by kernel_rfl) (fun _ _ _ h => h) (Or.inl ⟨by rfl, ?_⟩) (by assumption) ?_
          rotate_left
          · (intro w hSw; (try dsimp only at hSw); go_simp; try with_reducible rfl)
          try simp only [Act.put, List.setIfInBounds_toArray, List.set_cons_zero, List.set_cons_succ]
          refine wpAnyH_take (i := 10) (oi := ⟨some 38, _, _, _, _, _⟩) (v := ?_) rfl (by kernel_rfl) (by kernel_rfl) (by kernel_rfl) (fun _ _ _ h => h) (Or.inl ⟨by rfl, ?_⟩) (by assumption) ?_
          rotate_left
          · (intro w hSw; (try dsimp only at hSw); go_simp; try with_reducible rfl)
          try simp only [Act.put, List.setIfInBounds_toArray, List.set_cons_zero, List.set_cons_succ]
          refine wpAnyH_take (i := 11) (oi := ⟨some 39, _, _, _, _, _⟩) (v := ?_) rfl (by kernel_rfl) (by kernel_rfl) (by kernel_rfl) (fun _ _ _ h => h) (Or.inl ⟨by rfl, ?_⟩) (by assumption) ?_
          rotate_left
          · (intro w hSw; (try dsimp only at hSw); go_simp; try with_reducible rfl)
          try simp only [Act.put, List.setIfInBounds_toArray, List.set_cons_zero, List.set_cons_succ]
          refine next_one 12 (by kernel_rfl) rfl (by rfl) fun K' HK' => ?_
          go_simp
          refine held_go HK' (by (repeat (first | assumption | exact Ext.refl _ | apply Ext.drew | apply Ext.drewN | apply Ext.alloc | refine Ext.trans ?_ (by assumption))); first | done | fail) (fun hHeld => ?_)
          clear HK'
          try simp only [Act.put, List.setIfInBounds_toArray, List.set_cons_zero, List.set_cons_succ]
          refine next_one 13 (by kernel_rfl) rfl (by rfl) fun K' HK' => ?_
          refine wp_append_bs (o := ⟨some 41, _, _, _, _, _⟩) (.tmp 28) (.tmp 40) rfl wo.heap.size (.slice Ax i cx) i (li i (fun q => gb F (m + q) ^^^ gb L q)) rfl (hox.ext (by (repeat (first | assumption | exact Ext.refl _ | apply Ext.drew | apply Ext.drewN | apply Ext.alloc | refine Ext.trans ?_ (by assumption))); first | done | fail)) _ 1 1 [x ^^^ y] rfl (num_bs wr.drew _ _ rfl) (by omega) (i + 1) rfl _ rfl wo (hxq.trans (by (repeat (first | assumption | exact Ext.refl _ | apply Ext.drew | apply Ext.drewN | apply Ext.alloc | refine Ext.trans ?_ (by assumption))); first | done | fail)) (Nat.le_refl _) (hxq.trans (by (repeat (first | assumption | exact Ext.refl _ | apply Ext.drew | apply Ext.drewN | apply Ext.alloc | refine Ext.trans ?_ (by assumption))); first | done | fail)).size ?_
          intro A5 c5 w5 ho5 hx5 _
          clear hHeld
          refine held_go HK' hx5 (fun hHeld => ?_)
          clear HK'
          try simp only [Act.put, List.setIfInBounds_toArray, List.set_cons_zero, List.set_cons_succ]
          refine wpAnyH_take (i := 14) (oi := ⟨some 13, _, _, _, _, _⟩) (v := ?_) rfl (by kernel_rfl) (by kernel_rfl) (by kernel_rfl) (fun _ _ _ h => h) (Or.inl ⟨by rfl, ?_⟩) (by assumption) ?_
          rotate_left
          · (intro w hSw; (try dsimp only at hSw); go_simp; try with_reducible rfl)
          try simp only [Act.put, List.setIfInBounds_toArray, List.set_cons_zero, List.set_cons_succ]
          refine wpAnyH_done (by kernel_rfl) ?_ _
          go_wp2_with fail
          go_roundw
          case rel => exact ⟨i + 1, by omega, by go_num, ⟨_, _, rfl⟩, by rw [HLS.out]; exact ho5, hx5⟩
          case measure => simp [intOf]; omega
        · obtain rfl : i = 16 := by omega
          have hx16 := hox.bs
          have HO2 := Kp.mk (HO.out.ext hxq)
          have HXQ := Kp.mk (HX.out.trans hxq)
          clear hox
          have hbnd : m + 16 ≤ 140737488355328 := by omega
          have HX16 := Kp.mk hx16
          clear hx16 hxq
          go_wp2_with (first | (go_at_call 22; refine (refEncrypt_any (HT.out.ext (HXQ.out.trans (by (repeat (first | assumption | exact Ext.refl _ | apply Ext.drew | apply Ext.drewN | apply Ext.alloc | refine Ext.trans ?_ (by assumption))); first | done | fail))) (HK.out.ext (HXQ.out.trans (by (repeat (first | assumption | exact Ext.refl _ | apply Ext.drew | apply Ext.drewN | apply Ext.alloc | refine Ext.trans ?_ (by assumption))); first | done | fail))) HX16.out).mono ?_; rintro e6 w6 ⟨A6, c6, rfl, hs6, ho6, hx6⟩; rw [← HCH.out] at hs6) | (at_builtin; refine wpList_append_bs rfl (.tmp 46) (.tmp 47) rfl w2.heap.size _ m _ rfl (HO2.out.ext hx6) A6 16 c6 (chn (ks k) F g (j + 1)) rfl hs6 hbnd (m + 16) rfl (sealN (ks k) F g (j + 1)) HSN.out.symm w2 (HXQ.out.trans hx6) (Nat.le_refl _) (HXQ.out.trans hx6).size ?_; intro A7 c7 w7 ho7 hx7 hap7) | fail)
          have hs7 := (Apd.keep (v := .slice Ao m co) hap7 ho6 (HO2.out.dj ho6 (Nat.le_refl _)).symm).bs
          rw [← HCH.out] at hs7
          go_roundw
          case rel => exact ⟨j + 1, m + 16, by omega, by have := HM.out; omega, by go_num, ⟨_, _, rfl⟩, ho7, ⟨_, _, rfl, hs7⟩, hx7⟩
          case measure => simp [intOf]; omega
    · obtain rfl : j = N := by omega
      obtain rfl : m = Z := by have := HZ.out; omega
      go_wp2_with fail
      go_ret
      exact ⟨_, _, by rw [HZ1.out]; rfl, by rw [HZ1.out, HSE.out]; exact ho.bs, by rw [HZ1.out, HSE.out]; exact ho.lower hx2.size, hx2.trans hxr⟩
end Go.Proofs.YtjjoghdlbnlicaaDoor
