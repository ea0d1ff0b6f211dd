/-
  The walks of the reference's Derive and Based.
-/
import Derived.Test.YtkjfhgbpiogigaaDoorMe
import Derived.Test.YtkjfhgbpiogigaaDoorMb
namespace Go.Proofs.YtkjfhgbpiogigaaDoor
open Go Go.RowKit
attribute [local go_sem ↓] loadT_eq

set_option maxHeartbeats 4000000 in
theorem refBased_any {k s : List (BitVec 8)} {At A B : Option Addr} {ct n c m d : Nat} {w : World} (r : Nat) (ht : Tab w At ct) (hk : Bs w A n c k) (hs : Bs w B m d s) (hn : n ≤ 900) (hm : m ≤ 900) (hr : 1 ≤ r) (hr2 : r ≤ 10000) :
    Calls Tryd.prog 38 #[.agg (tab At ct HH), .slice A n c, .slice B m d, .int .i64 (r : Int)] w (Fresh w 32 (bk k s (r - 1))) := by
  go_enter Tryd.func38, Tryd.ntmps38
  have hx0 : Ext w (w.alloc (.cells (tab At ct HH) 47)) := (by (repeat (first | assumption | exact Ext.refl _ | apply Ext.drew | apply Ext.drewN | apply Ext.alloc | refine Ext.trans ?_ (by assumption))); first | done | fail)
  have hz0 := Blk.new w 47 (tab At ct HH)
  go_wp2
  generalize w.alloc (.cells (tab At ct HH) 47) = w0 at *
  obtain ⟨g, hg⟩ : ∃ g, g = w.heap.size := ⟨_, rfl⟩
  rw [← hg] at hz0 ⊢
  clear hg
  have hload := fun (w' : World) (hx : Ext w0 w') => run_loadT hz0 hx
  have ht0 := ht.ext hx0
  have hk0 := hk.ext hx0
  have hs0 := hs.ext hx0
  clear ht hk hs
  go_region_held3 (fun w' => Ext w0 w') (exact (by (repeat (first | assumption | exact Ext.refl _ | apply Ext.drew | apply Ext.drewN | apply Ext.alloc | refine Ext.trans ?_ (by assumption))); first | done | fail)) (first | (go_at_call 30; refine (refsum_fr (ht0.ext (by (repeat (first | assumption | exact Ext.refl _ | apply Ext.drew | apply Ext.drewN | apply Ext.alloc | refine Ext.trans ?_ (by assumption))); first | done | fail)) (by assumption) (by omega)).mono ?_; rintro e w5 ⟨A5, c5, rfl, hs5, ho5, hx5⟩) | (rw [if_pos (by rfl)]; refine wp_append_bs (.tmp 12) (.tmp 13) rfl w0.heap.size _ 0 [] rfl (Own.ext (Own.new w0 w0.heap.size 0 [] rfl (Nat.le_refl _) (by decide)) (by (repeat (first | assumption | exact Ext.refl _ | apply Ext.drew | apply Ext.drewN | apply Ext.alloc | refine Ext.trans ?_ (by assumption))); first | done | fail)) _ n c k rfl (hk0.ext (by (repeat (first | assumption | exact Ext.refl _ | apply Ext.drew | apply Ext.drewN | apply Ext.alloc | refine Ext.trans ?_ (by assumption))); first | done | fail)) (by omega) n (by omega) k rfl w0 (by (repeat (first | assumption | exact Ext.refl _ | apply Ext.drew | apply Ext.drewN | apply Ext.alloc | refine Ext.trans ?_ (by assumption))); first | done | fail) (Nat.le_refl _) (Ext.size (by (repeat (first | assumption | exact Ext.refl _ | apply Ext.drew | apply Ext.drewN | apply Ext.alloc | refine Ext.trans ?_ (by assumption))); first | done | fail)) ?_; intro A6 c6 w6 ho6 hx6 hap6) | (rw [if_pos (by rfl)]; refine wp_append_bs (.tmp 14) (.tmp 15) rfl w0.heap.size _ n _ rfl (ho6.ext (by (repeat (first | assumption | exact Ext.refl _ | apply Ext.drew | apply Ext.drewN | apply Ext.alloc | refine Ext.trans ?_ (by assumption))); first | done | fail)) _ m d s rfl (hs0.ext (by (repeat (first | assumption | exact Ext.refl _ | apply Ext.drew | apply Ext.drewN | apply Ext.alloc | refine Ext.trans ?_ (by assumption))); first | done | fail)) (by omega) _ rfl _ rfl w0 (by (repeat (first | assumption | exact Ext.refl _ | apply Ext.drew | apply Ext.drewN | apply Ext.alloc | refine Ext.trans ?_ (by assumption))); first | done | fail) (Nat.le_refl _) (Ext.size (by (repeat (first | assumption | exact Ext.refl _ | apply Ext.drew | apply Ext.drewN | apply Ext.alloc | refine Ext.trans ?_ (by assumption))); first | done | fail)) ?_; intro A7 c7 w7 ho7 hx7 hap7; have hb7 := ho7.bs))
  go_wp2_with fail
  have hxw : Ext w0 w5 := (by (repeat (first | assumption | exact Ext.refl _ | apply Ext.drew | apply Ext.drewN | apply Ext.alloc | refine Ext.trans ?_ (by assumption))); first | done | fail)
  have how : Own w5 w0.heap.size (.slice A5 32 c5) 32 (bk k s 0) := ho5.lower (Ext.size (by (repeat (first | assumption | exact Ext.refl _ | apply Ext.drew | apply Ext.drewN | apply Ext.alloc | refine Ext.trans ?_ (by assumption))); first | done | fail))
  clear hs5 ho5 hx5 hb7 ho7 hx7 hap7 ho6 hx6 hap6
  obtain ⟨t, ht⟩ : ∃ t, r - 1 = t := ⟨_, rfl⟩
  have hrt : r = t + 1 := by omega
  have HT := Kp.mk ht
  go_loopw [9, 10] (fun v iv wr => ∃ j i : Nat, i = j + 1 ∧ j ≤ t ∧ iv = .int .i64 i ∧ (∃ A c, v = .slice A 32 c) ∧ Own wr w0.heap.size v 32 (bk k s j) ∧ Ext w0 wr) (fun _ iv _ => t + 1 - (intOf iv).toNat)
  case atStart => exact ⟨0, 1, rfl, by omega, rfl, ⟨_, _, rfl⟩, how, hxw⟩
  case round =>
    clear how hxw ht
    obtain ⟨j, i, hij, hj, rfl, ⟨Av, cv, rfl⟩, ho, hx⟩ := hrel
    have HIJ := Kp.mk hij
    have HRT := Kp.mk hrt
    by_cases hlt : i < r
    · have hbs := bk_succ k s j
      have HBS := Kp.mk hbs
      have h1 : i < t + 1 := by omega
      have h2 : i ≤ 10000 := by omega
      clear hbs hij hrt
      go_wp2_with fail
      refine (refsum_fr (ht0.ext (by (repeat (first | assumption | exact Ext.refl _ | apply Ext.drew | apply Ext.drewN | apply Ext.alloc | refine Ext.trans ?_ (by assumption))); first | done | fail)) ho.bs (by omega)).mono ?_
      rintro e w5 ⟨A5, c5, rfl, hs5, ho5, hx5⟩
      go_wp2_with fail
      go_roundw
      case rel => exact ⟨j + 1, i + 1, by rw [HIJ.out], by have := HIJ.out; omega, by go_num, ⟨_, _, rfl⟩, by rw [HBS.out]; exact ho5.lower hx.size, hx.trans hx5⟩
      case measure => simp [intOf]; omega
    · obtain rfl : j = t := by omega
      have HO := Kp.mk ho
      have HX := Kp.mk hx
      clear ho hx hij hrt
      go_wp2_with fail
      go_ret
      rw [HT.out]
      exact ⟨_, _, rfl, HO.out.bs, HO.out.lower hx0.size, hx0.trans HX.out⟩

theorem be4_small (i : Nat) (h : i ≤ 65535) : be4 i = [0, 0, BitVec.ofNat 8 (i / 256), BitVec.ofNat 8 (i % 256)] := by
  have e1 : i / 16777216 = 0 := by omega
  have e2 : i / 65536 = 0 := by omega
  have e3 : BitVec.ofNat 8 i = BitVec.ofNat 8 (i % 256) := by
    apply BitVec.eq_of_toNat_eq
    simp
  unfold be4
  rw [e1, e2, e3]
  rfl
theorem ref4_bs (i : Nat) (hi : i ≤ 65535) (w : World) : Bs (w.alloc (.cells #[.int .u8 0, .int .u8 0, .int .u8 ((i : Int) / 256), .int .u8 ((i : Int) % 256)] 5)) (some ⟨w.heap.size, 0, none⟩) 4 4 (be4 i) := by
  have e : #[Value.int .u8 0, .int .u8 0, .int .u8 ((i : Int) / 256), .int .u8 ((i : Int) % 256)] = bv (be4 i) := by
    rw [be4_small i hi]
    have e1 : (i : Int) / 256 % 256 = (i : Int) / 256 := by omega
    simp [bv, ub_ofNat, e1]
  rw [e]
  exact (Blk.new w 5 (bv (be4 i))).bs 0 4 4 (by simp [be4]) (Nat.le_refl _)
set_option maxHeartbeats 4000000 in
theorem refDerive_any {k s : List (BitVec 8)} {At A B : Option Addr} {ct n c m d : Nat} {w : World} (r z : Nat) (ht : Tab w At ct) (hk : Bs w A n c k) (hs : Bs w B m d s) (hn : n ≤ 900) (hm : m ≤ 900) (hr : 1 ≤ r) (hr2 : r ≤ 10000) (hz : z ≤ 256) :
    Calls Tryd.prog 36 #[.agg (tab At ct HH), .slice A n c, .slice B m d, .int .i64 (r : Int), .int .i64 (z : Int)] w (Fresh w z (dkL k s r z)) := by
  go_enter Tryd.func36, Tryd.ntmps36
  have hx0 : Ext w (w.alloc (.cells (tab At ct HH) 47)) := (by (repeat (first | assumption | exact Ext.refl _ | apply Ext.drew | apply Ext.drewN | apply Ext.alloc | refine Ext.trans ?_ (by assumption))); first | done | fail)
  have hz0 := Blk.new w 47 (tab At ct HH)
  go_wp2
  generalize w.alloc (.cells (tab At ct HH) 47) = w0 at *
  obtain ⟨g, hg⟩ : ∃ g, g = w.heap.size := ⟨_, rfl⟩
  rw [← hg] at hz0 ⊢
  clear hg
  have hload := fun (w' : World) (hx : Ext w0 w') => run_loadT hz0 hx
  have ht0 := ht.ext hx0
  have hk0 := hk.ext hx0
  have hs0 := hs.ext hx0
  have hdv := dv_succ (padX (kx k) 54) (padX (kx k) 92) s (r - 1)
  have hres : (dv (padX (kx k) 54) (padX (kx k) 92) s (r - 1) (pcs z)).take z = dkL k s r z := rfl
  obtain ⟨hpl, hql⟩ := pads_len k
  obtain ⟨D, hD⟩ : ∃ D, dv (padX (kx k) 54) (padX (kx k) 92) s (r - 1) = D := ⟨_, rfl⟩
  rw [hD] at hdv hres
  have hD0 : D 0 = [] := by rw [← hD]; rfl
  have hmk : ∀ {b : List (BitVec 8)} {B : Option Addr} {m d : Nat} {w : World}, Tab w At ct → Bs w A n c k → Bs w B m d b → m ≤ 1900 → Calls Tryd.prog 34 #[.agg (tab At ct HH), .slice A n c, .slice B m d] w (Fresh w 32 (mkP (padX (kx k) 54) (padX (kx k) 92) b)) := fun ht hk hb hm => refMark_any ht hk hb (by omega) hm
  generalize padX (kx k) 54 = P at *
  generalize padX (kx k) 92 = Q at *
  have HDV := Kp.mk hdv
  have HD0 := Kp.mk hD0
  have HRES := Kp.mk hres
  have HMK := Kp.mk @hmk
  clear hdv hres hD0 hD ht hk hs hz0 hmk hpl hql
  go_loopw [11, 12] (fun v iv wr => ∃ j i m : Nat, i = j + 1 ∧ m = 32 * j ∧ j ≤ pcs z ∧ iv = .int .i64 i ∧ (∃ A c, v = .slice A m c) ∧ Own wr w0.heap.size v m (D j) ∧ Ext w0 wr) (fun _ iv _ => pcs z + 1 - (intOf iv).toNat)
  case atStart => exact ⟨0, 1, 0, rfl, rfl, by omega, rfl, ⟨_, _, rfl⟩, by rw [HD0.out]; exact Own.nil _ _, Ext.refl _⟩
  case round =>
    obtain ⟨j, i, m', hij, hmj, hj, rfl, ⟨Av, cv, rfl⟩, ho, hx⟩ := hrel
    have HIJ := Kp.mk hij
    have HMJ := Kp.mk hmj
    by_cases hlt : j < pcs z
    · have hmz : (m' : Int) < (z : Int) := by have := pcs_lo z j hlt; omega
      have hm2 : m' ≤ 256 := by omega
      have hi2 : i ≤ 9 := by unfold pcs at hlt; omega
      have hlt2 : i < pcs z + 1 := by omega
      clear hij hmj
      go_wp2_with (first | (at_builtin; refine wpList_append_bs rfl (.tmp 24) (.tmp 25) rfl wr.heap.size _ 0 [] rfl (Own.new wr wr.heap.size 0 [] rfl (Nat.le_refl _) (by decide)) _ m d s rfl (hs0.ext (by (repeat (first | assumption | exact Ext.refl _ | apply Ext.drew | apply Ext.drewN | apply Ext.alloc | refine Ext.trans ?_ (by assumption))); first | done | fail)) (by omega) m (by omega) s rfl wr (by (repeat (first | assumption | exact Ext.refl _ | apply Ext.drew | apply Ext.drewN | apply Ext.alloc | refine Ext.trans ?_ (by assumption))); first | done | fail) (Nat.le_refl _) (Ext.size (by (repeat (first | assumption | exact Ext.refl _ | apply Ext.drew | apply Ext.drewN | apply Ext.alloc | refine Ext.trans ?_ (by assumption))); first | done | fail)) ?_; intro A6 c6 w6 ho6 hx6 hap6) | (at_builtin; refine wpList_append_bs rfl (.tmp 26) (.tmp 33) rfl wr.heap.size _ m _ rfl (ho6.ext (by (repeat (first | assumption | exact Ext.refl _ | apply Ext.drew | apply Ext.drewN | apply Ext.alloc | refine Ext.trans ?_ (by assumption))); first | done | fail)) _ 4 4 (be4 i) rfl (Bs.ext (ref4_bs i (by omega) w6) (by (repeat (first | assumption | exact Ext.refl _ | apply Ext.drew | apply Ext.drewN | apply Ext.alloc | refine Ext.trans ?_ (by assumption))); first | done | fail)) (by omega) _ rfl _ rfl wr (by (repeat (first | assumption | exact Ext.refl _ | apply Ext.drew | apply Ext.drewN | apply Ext.alloc | refine Ext.trans ?_ (by assumption))); first | done | fail) (Nat.le_refl _) (Ext.size (by (repeat (first | assumption | exact Ext.refl _ | apply Ext.drew | apply Ext.drewN | apply Ext.alloc | refine Ext.trans ?_ (by assumption))); first | done | fail)) ?_; intro A7 c7 w7 ho7 hx7 hap7; have hx07 : Ext w0 w7 := (by (repeat (first | assumption | exact Ext.refl _ | apply Ext.drew | apply Ext.drewN | apply Ext.alloc | refine Ext.trans ?_ (by assumption))); first | done | fail)) | fail)
      have hb7 := ho7.bs
      refine (HMK.out (ht0.ext (by (repeat (first | assumption | exact Ext.refl _ | apply Ext.drew | apply Ext.drewN | apply Ext.alloc | refine Ext.trans ?_ (by assumption))); first | done | fail)) (hk0.ext (by (repeat (first | assumption | exact Ext.refl _ | apply Ext.drew | apply Ext.drewN | apply Ext.alloc | refine Ext.trans ?_ (by assumption))); first | done | fail)) hb7 (by omega)).mono ?_
      rintro e w8 ⟨A8, c8, rfl, hs8, ho8, hx8⟩
      have ho08 : Own w8 w0.heap.size (.slice Av m' cv) m' (D j) := ho.ext (by (repeat (first | assumption | exact Ext.refl _ | apply Ext.drew | apply Ext.drewN | apply Ext.alloc | refine Ext.trans ?_ (by assumption))); first | done | fail)
      have hx08 : Ext w0 w8 := (by (repeat (first | assumption | exact Ext.refl _ | apply Ext.drew | apply Ext.drewN | apply Ext.alloc | refine Ext.trans ?_ (by assumption))); first | done | fail)
      clear ho ho8 hb7 ho7 hx7 hx07 hap7 ho6 hx6 hap6 hx8 hx
      go_wp2_with (first | (at_builtin; refine wpList_append_bs rfl (.tmp 39) (.tmp 40) rfl w8.heap.size _ 0 [] rfl (Own.new w8 w8.heap.size 0 [] rfl (Nat.le_refl _) (by decide)) _ 32 c8 _ rfl (hs8.ext (by (repeat (first | assumption | exact Ext.refl _ | apply Ext.drew | apply Ext.drewN | apply Ext.alloc | refine Ext.trans ?_ (by assumption))); first | done | fail)) (by omega) 32 rfl _ rfl w8 (by (repeat (first | assumption | exact Ext.refl _ | apply Ext.drew | apply Ext.drewN | apply Ext.alloc | refine Ext.trans ?_ (by assumption))); first | done | fail) (Nat.le_refl _) (Ext.size (by (repeat (first | assumption | exact Ext.refl _ | apply Ext.drew | apply Ext.drewN | apply Ext.alloc | refine Ext.trans ?_ (by assumption))); first | done | fail)) ?_; intro A9 c9 w9 ho9 hx9 hap9) | fail)
      obtain ⟨S, hS⟩ : ∃ S, s ++ be4 i = S := ⟨_, rfl⟩
      rw [hS, List.nil_append] at ho9
      rw [hS] at hs8
      have how := ho9.lower hx08.size
      have hu9 := hs8.ext hx9
      have hx09 := hx08.trans hx9
      have ho09 := ho08.ext hx9
      obtain ⟨ga, rfl, hga, hgaw⟩ := ho9.some_ (by decide)
      have hga0 : w0.heap.size ≤ ga := Nat.le_trans hx08.size hga
      have hdj := ho08.dj ho9 (Nat.le_refl _)
      clear ho9 hs8 ho08 hap9 hx9 hx08
      have HS := Kp.mk hS
      clear hS
      obtain ⟨t, ht⟩ : ∃ t, r - 1 = t := ⟨_, rfl⟩
      have hrt : r = t + 1 := by omega
      have HT := Kp.mk ht
      clear ht
      obtain ⟨wp, rfl⟩ : ∃ wo : World, wo = wr := ⟨_, rfl⟩
      go_loopw [14, 16] (fun uv iv wr => ∃ q' q : Nat, q = q' + 1 ∧ q' ≤ t ∧ iv = .int .i64 q ∧ (∃ A c, uv = .slice A 32 c ∧ Bs wr A 32 c (um P Q S q')) ∧ Own wr w0.heap.size (.slice (some ⟨ga, 0, none⟩) 32 c9) 32 (pc P Q S q') ∧ Own wr w0.heap.size (.slice Av m' cv) m' (D j) ∧ Ext w0 wr) (fun _ iv _ => t + 1 - (intOf iv).toNat)
      case atStart => exact ⟨0, 1, rfl, by omega, rfl, ⟨_, _, rfl, hu9⟩, how, ho09, hx09⟩
      case round =>
        clear how ho09 hx09 hu9
        obtain ⟨q', q, hqq, hq, rfl, ⟨Au, cu, rfl, hu⟩, ho, hov, hx⟩ := hrel
        have HQQ := Kp.mk hqq
        have HRT := Kp.mk hrt
        by_cases hlq : q < r
        · obtain ⟨ga', e1, _, hgw⟩ := ho.some_ (by decide)
          obtain rfl : ga = ga' := by cases e1; rfl
          clear e1
          have hq2 : q < t + 1 := by omega
          have hq3 : q ≤ 10000 := by omega
          clear hqq hrt
          go_wp2_with fail
          refine (HMK.out (ht0.ext hx) (hk0.ext hx) hu (by omega)).mono ?_
          rintro e wa ⟨Aa, ca, rfl, hsa, hoa, hxa⟩
          obtain ⟨gm, rfl, hgm, _⟩ := hoa.some_ (by decide)
          have hne : gm ≠ ga := by omega
          have ho' := ho.ext hxa
          have hov' := hov.ext hxa
          have hm' : Own wa w0.heap.size (.slice (some ⟨gm, 0, none⟩) 32 ca) 32 (um P Q S (q' + 1)) := hoa.lower hx.size
          have hxw : Ext w0 wa := hx.trans hxa
          have hpn := pc_succ P Q S q'
          clear hu ho hov hx hsa hoa hxa hgw hgm
          obtain ⟨U, hU⟩ : ∃ U, um P Q S (q' + 1) = U := ⟨_, rfl⟩
          obtain ⟨P0, hP0⟩ : ∃ P0, pc P Q S q' = P0 := ⟨_, rfl⟩
          rw [hU] at hm' hpn
          rw [hP0] at ho' hpn
          have HU := Kp.mk hU
          have HPN := Kp.mk hpn
          clear hU hP0 hpn
          go_wp2_with fail
          obtain ⟨wo, rfl⟩ : ∃ wo : World, wo = wr := ⟨_, rfl⟩
          go_loopw [17] (fun tv wi => ∃ y : Nat, y ≤ 32 ∧ tv = .int .i64 y ∧ Own wi w0.heap.size (.slice (some ⟨ga, 0, none⟩) 32 c9) 32 (xorTo P0 U y) ∧ Own wi w0.heap.size (.slice (some ⟨gm, 0, none⟩) 32 ca) 32 U ∧ Own wi w0.heap.size (.slice Av m' cv) m' (D j) ∧ Ext w0 wi) (fun tv _ => 32 - (intOf tv).toNat)
          case atStart => exact ⟨0, by omega, rfl, ho', hm', hov', hxw⟩
          case round =>
            clear ho' hm' hov' hxw
            obtain ⟨y, hy, rfl, ho, hm', hov, hx⟩ := hrel
            by_cases hly : y < 32
            · have k1 := ho.cell y hly
              have k2 := hm'.cell y hly
              have f1 := ho.free y
              have b0 : (0 : Int) ≤ (y : Int) := by omega
              have b1 : (y : Int) < 32 := by omega
              have HXS := Kp.mk (xorTo_succ P0 U y)
              have HO := Kp.mk ho
              have HM := Kp.mk hm'
              have HOV := Kp.mk hov
              have HX := Kp.mk hx
              have HD := Kp.mk hdj
              clear ho hm' hov hx hdj
              go_wp2_with fail
              go_region
              go_wp2_with fail
              go_roundw
              case rel =>
                refine ⟨y + 1, by omega, by go_num, ?_, ?_, ?_, ?_⟩
                · rw [HXS.out]
                  exact (HO.out.set y _).ext (Ext.refl _).drew
                · exact (HM.out.far (p := ⟨ga, y, none⟩) (by simp [Value.ownBlock]; exact hne) _).ext (Ext.refl _).drew
                · exact (HOV.out.far (p := ⟨ga, y, none⟩) (by
                    intro e1
                    rcases HD.out with e2 | e2
                    · rw [e2] at e1; cases e1
                    · exact e2 (by rw [e1]; rfl)) _).ext (Ext.refl _).drew
                · exact (HX.out.setCell (p := ⟨ga, y, none⟩) hga0 _).drew
              case measure => simp [intOf]; omega
            · obtain rfl : y = 32 := by omega
              rw [← HPN.out] at ho
              have hmb := hm'.bs
              rw [← HU.out] at hmb
              have HO := Kp.mk ho
              have HM := Kp.mk hmb
              have HX := Kp.mk hx
              have HOV := Kp.mk hov
              clear ho hm' hx hmb hov
              go_wp2_with fail
              go_roundw
              case rel => exact ⟨q' + 1, q + 1, by rw [HQQ.out], by have := HQQ.out; have := HRT.out; omega, by go_num, ⟨_, _, rfl, HM.out⟩, HO.out, HOV.out, HX.out⟩
              case measure => simp [intOf]; omega
        · obtain rfl : q' = t := by omega
          clear hu hqq hrt
          have hpb := ho.bs
          go_wp2_with (first | (at_builtin; refine wpList_append_bs rfl (.tmp 67) (.tmp 68) rfl w0.heap.size _ m' (D j) rfl hov _ 32 c9 _ rfl hpb (by omega) _ rfl _ rfl w0 hx (Nat.le_refl _) hx.size ?_; intro Ab cb wb hob hxb _) | fail)
          go_roundw
          case rel =>
            refine ⟨j + 1, i + 1, m' + 32, by rw [HIJ.out], by rw [HMJ.out]; omega, by omega, by go_num, ⟨_, _, rfl⟩, ?_, hxb⟩
            rw [HDV.out, ← HIJ.out, HS.out, HT.out]
            exact hob
          case measure => simp [intOf]; omega
    · obtain rfl : j = pcs z := by omega
      have hzm : ¬ ((m' : Int) < (z : Int)) := by have := pcs_hi z; omega
      have hzm2 : z ≤ m' := by have := pcs_hi z; omega
      have hup := run_uptoB ho z hzm2
      have HO := Kp.mk (ho.take hzm2)
      have HX := Kp.mk hx
      rw [HRES.out] at HO
      clear ho hx hij hmj
      go_wp2_with fail
      go_ret
      exact ⟨_, _, rfl, HO.out.bs, HO.out.lower hx0.size, hx0.trans HX.out⟩
end Go.Proofs.YtkjfhgbpiogigaaDoor
