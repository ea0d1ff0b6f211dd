/-
  The walk of the law MacStays.
-/
import Derived.Test.YtkjfhgbpiogigaaDoorMl
import Derived.Test.YtkjfhgbpiogigaaDoorEr
import Derived.Test.YtkjfhgbpiogigaaDoorPureh
namespace Go.Proofs.YtkjfhgbpiogigaaDoor
open Go Go.RowKit

/-- two rows of the law's own, whatever they hold -/
structure Two (wb : World) (gm cm gd cd : Nat) (wi : World) : Prop where
  m : ∃ l, Own wi wb.heap.size (.slice (some ⟨gm, 0, none⟩) 32 cm) 32 l
  d : ∃ l, Own wi wb.heap.size (.slice (some ⟨gd, 0, none⟩) 40 cd) 40 l
  x : Ext wb wi
theorem Two.setM {wb wi : World} {gm cm gd cd : Nat} (h : Two wb gm cm gd cd wi) (hne : gd ≠ gm) (j : Nat) (x : BitVec 8) : Two wb gm cm gd cd (wi.setCell ⟨gm, j, none⟩ (.int .u8 (ub x))) := by
  obtain ⟨l1, h1⟩ := h.m
  obtain ⟨l2, h2⟩ := h.d
  exact ⟨⟨_, h1.set j x⟩, ⟨_, h2.far (p := ⟨gm, j, none⟩) (by simp [Value.ownBlock]; exact hne) _⟩, h.x.setCell (p := ⟨gm, j, none⟩) (h1.base gm rfl) _⟩
theorem Two.setD {wb wi : World} {gm cm gd cd : Nat} (h : Two wb gm cm gd cd wi) (hne : gm ≠ gd) (j : Nat) (x : BitVec 8) : Two wb gm cm gd cd (wi.setCell ⟨gd, j, none⟩ (.int .u8 (ub x))) := by
  obtain ⟨l1, h1⟩ := h.m
  obtain ⟨l2, h2⟩ := h.d
  exact ⟨⟨_, h1.far (p := ⟨gd, j, none⟩) (by simp [Value.ownBlock]; exact hne) _⟩, ⟨_, h2.set j x⟩, h.x.setCell (p := ⟨gd, j, none⟩) (h2.base gd rfl) _⟩

set_option maxRecDepth 100000 in
set_option maxHeartbeats 8000000 in
theorem MacStays_any {k0 b0 : List (BitVec 8)} {A B : Option Addr} {n0 c m0 d : Nat} {w : World} (hk0 : Bs w A n0 c k0) (hb0 : Bs w B m0 d b0) (hw : Lay w) :
    Calls Tryd.prog 16 #[.slice A n0 c, .slice B m0 d] w fun e w' => e = .returned (.bool true) ∧ Below w.heap.size w w' := by
  go_enter Tryd.func16, Tryd.ntmps16
  go_wp2_with fail
  refine (up2_any _ hw).mono ?_
  rintro e w1 ⟨rfl, hx1⟩
  go_wp2_with fail
  refine (cut2_any (k := 300) 300 (hk0.ext hx1) rfl).mono ?_
  rintro e w1' ⟨n, k, rfl, hn, _, hk, rfl⟩
  go_wp2_with fail
  refine (cut2_any (k := 300) 300 (hb0.ext hx1) rfl).mono ?_
  rintro e w1' ⟨m, b, rfl, hm, _, hb, rfl⟩
  have hw1 := hw.ext hx1
  have HX1 := Kp.mk hx1
  clear hk0 hb0 hw hx1
  go_wp2_with (first | (at_builtin; refine wpList_append_bs rfl (.tmp 26) (.tmp 27) rfl w1.heap.size (.slice (some ⟨w1.heap.size, 0, none⟩) 0 0) 0 [] rfl (Own.new w1 w1.heap.size 0 [] rfl (Nat.le_refl _) (by decide)) _ n c k rfl (hk.ext (by (repeat (first | assumption | exact Ext.refl _ | apply Ext.drew | apply Ext.drewN | apply Ext.alloc | refine Ext.trans ?_ (by assumption))); first | done | fail)) (by omega) n (by omega) k rfl w1 (by (repeat (first | assumption | exact Ext.refl _ | apply Ext.drew | apply Ext.drewN | apply Ext.alloc | refine Ext.trans ?_ (by assumption))); first | done | fail) (Nat.le_refl _) (Ext.size (by (repeat (first | assumption | exact Ext.refl _ | apply Ext.drew | apply Ext.drewN | apply Ext.alloc | refine Ext.trans ?_ (by assumption))); first | done | fail)) ?_; intro A2 c2 w2 ho2 hx2 _) | (at_builtin; refine wpList_append_bs rfl (.tmp 29) (.tmp 30) rfl w2.heap.size (.slice (some ⟨w2.heap.size, 0, none⟩) 0 0) 0 [] rfl (Own.new w2 w2.heap.size 0 [] rfl (Nat.le_refl _) (by decide)) _ m d b rfl ((hb.ext hx2).ext (by (repeat (first | assumption | exact Ext.refl _ | apply Ext.drew | apply Ext.drewN | apply Ext.alloc | refine Ext.trans ?_ (by assumption))); first | done | fail)) (by omega) m (by omega) b rfl w2 (by (repeat (first | assumption | exact Ext.refl _ | apply Ext.drew | apply Ext.drewN | apply Ext.alloc | refine Ext.trans ?_ (by assumption))); first | done | fail) (Nat.le_refl _) (Ext.size (by (repeat (first | assumption | exact Ext.refl _ | apply Ext.drew | apply Ext.drewN | apply Ext.alloc | refine Ext.trans ?_ (by assumption))); first | done | fail)) ?_; intro A3 c3 w3 ho3 hx3 _) | fail)
  have hk3 : Bs w3 A2 n c2 k := ho2.bs.ext hx3
  have hb3 : Bs w3 A3 m c3 b := ho3.bs
  have hx13 := hx2.trans hx3
  have hw3 := hw1.ext hx13
  clear ho2 ho3 hx2 hx3
  refine (Mark_any hk3 hb3 hw3 (by omega) (by omega)).mono ?_
  rintro e w4 ⟨A4, c4, rfl, hs4, ho4, hx4⟩
  go_wp2_with fail
  refine (Derive_any 2 40 (hk3.ext hx4) (hb3.ext hx4) (hw3.ext hx4) (by omega) (by omega) (by decide) (by decide) (by decide)).mono ?_
  rintro e w5 ⟨A5, c5, rfl, hs5, ho5, hx5⟩
  have hx35 := hx4.trans hx5
  go_wp2_with fail
  refine (Based_any 2 (hk3.ext hx35) (hb3.ext hx35) (hw3.ext hx35) (by omega) (by omega) (by decide) (by decide)).mono ?_
  rintro e w6 ⟨A6, c6, rfl, hs6, _, hx6⟩
  have hx36 := hx35.trans hx6
  have hx16 := hx13.trans hx36
  have s1 := (hk3.ext hx36).str (Ext.refl _)
  have s2 := (hb3.ext hx36).str (Ext.refl _)
  have s3 := (hk.ext hx16).str (Ext.refl _)
  have s4 := (hb.ext hx16).str (Ext.refl _)
  have s5 := ((hs4.ext hx5).ext hx6).str (Ext.refl _)
  have s6 := (hs5.ext hx6).str (Ext.refl _)
  have s7 := hs6.str (Ext.refl _)
  obtain ⟨sm, hsm⟩ : ∃ x, strOf (mkL k b) = x := ⟨_, rfl⟩
  obtain ⟨sd, hsd⟩ : ∃ x, strOf (dkL k b 2 40) = x := ⟨_, rfl⟩
  obtain ⟨sp, hsp⟩ : ∃ x, strOf (bk k b (2 - 1)) = x := ⟨_, rfl⟩
  have z1 : sm.size ≤ 32 := by rw [← hsm, strOf_size, mkL_len]; exact Nat.le_refl _
  have z2 : sd.size ≤ 40 := by rw [← hsd, strOf_size, dkL_len]; exact Nat.le_refl _
  have z3 : sp.size ≤ 32 := by rw [← hsp, strOf_size, bk_len]; exact Nat.le_refl _
  have z4 : (sm ++ sd).size = sm.size + sd.size := ByteArray.size_append
  have a1 : ∀ w : World, (Op.stringOp .add sm sd).run Tryd.prog w = .ok (.string (sm ++ sd)) w := fun w => run_string_add_sum w _ _ (by omega)
  have a2 : ∀ w : World, (Op.stringOp .add (sm ++ sd) sp).run Tryd.prog w = .ok (.string (sm ++ sd ++ sp)) w := fun w => run_string_add_sum w _ _ (by omega)
  rw [hsm] at s5
  rw [hsd] at s6
  rw [hsp] at s7
  have HSM := Kp.mk hsm
  have HSD := Kp.mk hsd
  have HSP := Kp.mk hsp
  have A1 := Kp.mk a1
  have A2' := Kp.mk a2
  clear hsm hsd hsp z1 z2 z3 z4
  obtain ⟨gm, rfl, hgm, hgm2⟩ := ho4.some_ (by decide)
  obtain ⟨gd, rfl, hgd, hgd2⟩ := ho5.some_ (by decide)
  have hne : gm ≠ gd := by omega
  have h2 : Two w1 gm c4 gd c5 w6 := ⟨⟨_, ((ho4.ext hx5).ext hx6).lower (by have := hx13.size; omega)⟩, ⟨_, (ho5.ext hx6).lower (by have := hx13.size; have := hx4.size; omega)⟩, hx16⟩
  have HW1 := Kp.mk hw1
  have HK := Kp.mk hk
  have HB := Kp.mk hb
  have H2 := Kp.mk h2
  clear hs4 ho4 hs5 ho5 hs6 hx4 hx5 hx6 hx35 hx36 hx13 hx16 hk3 hb3 hw3 h2 hgm hgm2 hgd hgd2 hk hb hw1
  go_wp2_with fail
  clear s1 s2 s3 s4 s5 s6 s7 a1 a2
  go_loopw [15] (fun i wi => ∃ j : Nat, j ≤ 32 ∧ i = .int .i64 (j : Int) ∧ Two w1 gm c4 gd c5 wi) (fun i _ => 32 - (intOf i).toNat)
  case atStart => exact ⟨0, by omega, rfl, H2.out⟩
  case round =>
    clear H2
    obtain ⟨j, hj, rfl, hst⟩ := hrel
    by_cases hlj : j < 32
    · obtain ⟨l1, h1⟩ := hst.m
      have k1 := h1.cell j hlj
      have f1 := h1.free j
      have HS := Kp.mk hst
      generalize gb l1 j = x at *
      clear hst h1
      go_wp2_with fail
      go_roundw
      case rel =>
        refine ⟨j + 1, by omega, by go_num, ?_⟩
        rw [ub_inc]
        exact HS.out.setM (Ne.symm hne) j _
      case measure => simp [intOf]; omega
    · obtain rfl : j = 32 := by omega
      have HS := Kp.mk hst
      clear hst
      go_wp2_with fail
      obtain ⟨wo, rfl⟩ : ∃ wo : World, wo = wr := ⟨_, rfl⟩
      go_loopw [16] (fun i wi => ∃ j : Nat, j ≤ 40 ∧ i = .int .i64 (j : Int) ∧ Two w1 gm c4 gd c5 wi) (fun i _ => 40 - (intOf i).toNat)
      case atStart => exact ⟨0, by omega, rfl, HS.out⟩
      case round =>
        clear HS
        obtain ⟨j, hj, rfl, hst⟩ := hrel
        by_cases hlj : j < 40
        · obtain ⟨l1, h1⟩ := hst.d
          have k1 := h1.cell j hlj
          have f1 := h1.free j
          have HS := Kp.mk hst
          generalize gb l1 j = x at *
          clear hst h1
          go_wp2_with fail
          go_roundw
          case rel =>
            refine ⟨j + 1, by omega, by go_num, ?_⟩
            rw [ub_inc]
            exact HS.out.setD hne j _
          case measure => simp [intOf]; omega
        · obtain rfl : j = 40 := by omega
          have hx := hst.x
          clear hst
          go_wp2_with fail
          refine (Derive_any 2 40 (HK.out.ext hx) (HB.out.ext hx) (HW1.out.ext hx) (by omega) (by omega) (by decide) (by decide) (by decide)).mono ?_
          rintro e w7 ⟨A7, c7, rfl, hs7, _, hx7⟩
          have hx17 := hx.trans hx7
          go_wp2_with fail
          refine (Based_any 2 (HK.out.ext hx17) (HB.out.ext hx17) (HW1.out.ext hx17) (by omega) (by omega) (by decide) (by decide)).mono ?_
          rintro e w8 ⟨A8, c8, rfl, hs8, _, hx8⟩
          have hx18 := hx17.trans hx8
          have hk8 := HK.out.ext hx18
          have hb8 := HB.out.ext hx18
          have hw8 := HW1.out.ext hx18
          have HX8 := Kp.mk (HX1.out.trans hx18)
          have hs78 := hs7.ext hx8
          have t7 := fun (w' : World) (hx : Ext w8 w') => hs78.str hx
          have t8 := fun (w' : World) (hx : Ext w8 w') => hs8.str hx
          rw [HSD.out] at t7
          rw [HSP.out] at t8
          have a1 := A1.out
          have a2 := A2'.out
          clear hx hx7 hx17 hx8 hx18 hs7 hs8 hs78
          go_wp2_with fail
          refine wp_region_held_drew (S := fun w' => Ext w8 w') (by kernel_rfl) (Ext.refl w8).drew (fun hHeld => ?_)
          refine wpAnyH_take (i := 0) (oi := ⟨some 107, _, _, _, _, _⟩) (v := ?_) rfl (by kernel_rfl) (by kernel_rfl) (by kernel_rfl) (fun _ _ _ h => h) (Or.inl ⟨by rfl, ?_⟩) (by assumption) ?_
          rotate_left
          · (intro w hSw; (try dsimp only at hSw); go_simp; try with_reducible rfl)
          try simp only [Act.put, List.setIfInBounds_toArray, List.set_cons_zero, List.set_cons_succ]
          refine wpAnyH_take (i := 1) (oi := ⟨some 108, _, _, _, _, _⟩) (v := ?_) rfl (by kernel_rfl) (by kernel_rfl) (by kernel_rfl) (fun _ _ _ h => h) (Or.inl ⟨by rfl, ?_⟩) (by assumption) ?_
          rotate_left
          · (intro w hSw; (try dsimp only at hSw); go_simp; try with_reducible rfl)
          try simp only [Act.put, List.setIfInBounds_toArray, List.set_cons_zero, List.set_cons_succ]
          refine wpAnyH_take (i := 2) (oi := ⟨some 109, _, _, _, _, _⟩) (v := ?_) rfl (by kernel_rfl) (by kernel_rfl) (by kernel_rfl) (fun _ _ _ h => h) (Or.inl ⟨by rfl, ?_⟩) (by assumption) ?_
          rotate_left
          · (intro w hSw; (try dsimp only at hSw); go_simp; try with_reducible rfl)
          try simp only [Act.put, List.setIfInBounds_toArray, List.set_cons_zero, List.set_cons_succ]
          refine wpAnyH_take (i := 3) (oi := ⟨some 110, _, _, _, _, _⟩) (v := ?_) rfl (by kernel_rfl) (by kernel_rfl) (by kernel_rfl) (fun _ _ _ h => h) (Or.inl ⟨by rfl, ?_⟩) (by assumption) ?_
          rotate_left
          · (intro w hSw; (try dsimp only at hSw); go_simp; try with_reducible rfl)
          try simp only [Act.put, List.setIfInBounds_toArray, List.set_cons_zero, List.set_cons_succ]
          refine wpAnyH_take (i := 4) (oi := ⟨some 111, _, _, _, _, _⟩) (v := ?_) rfl (by kernel_rfl) (by kernel_rfl) (by kernel_rfl) (fun _ _ _ h => h) (Or.inl ⟨by rfl, ?_⟩) (by assumption) ?_
          rotate_left
          · (intro w hSw; (try dsimp only at hSw); go_simp; try with_reducible rfl)
          try simp only [Act.put, List.setIfInBounds_toArray, List.set_cons_zero, List.set_cons_succ]
          refine wpAnyH_take (i := 5) (oi := ⟨some 112, _, _, _, _, _⟩) (v := ?_) rfl (by kernel_rfl) (by kernel_rfl) (by kernel_rfl) (fun _ _ _ h => h) (Or.inl ⟨by rfl, ?_⟩) (by assumption) ?_
          rotate_left
          · (intro w hSw; (try dsimp only at hSw); go_simp; try with_reducible rfl)
          try simp only [Act.put, List.setIfInBounds_toArray, List.set_cons_zero, List.set_cons_succ]
          refine wpAnyH_take (i := 6) (oi := ⟨some 113, _, _, _, _, _⟩) (v := ?_) rfl (by kernel_rfl) (by kernel_rfl) (by kernel_rfl) (fun _ _ _ h => h) (Or.inl ⟨by rfl, ?_⟩) (by assumption) ?_
          rotate_left
          · (intro w hSw; (try dsimp only at hSw); go_simp; try with_reducible rfl)
          try simp only [Act.put, List.setIfInBounds_toArray, List.set_cons_zero, List.set_cons_succ]
          refine wpAnyH_take (i := 7) (oi := ⟨some 114, _, _, _, _, _⟩) (v := ?_) rfl (by kernel_rfl) (by kernel_rfl) (by kernel_rfl) (fun _ _ _ h => h) (Or.inl ⟨by rfl, ?_⟩) (by assumption) ?_
          rotate_left
          · (intro w hSw; (try dsimp only at hSw); go_simp; try with_reducible rfl)
          try simp only [Act.put, List.setIfInBounds_toArray, List.set_cons_zero, List.set_cons_succ]
          refine wpAnyH_take (i := 8) (oi := ⟨some 115, _, _, _, _, _⟩) (v := ?_) rfl (by kernel_rfl) (by kernel_rfl) (by kernel_rfl) (fun _ _ _ h => h) (Or.inl ⟨by rfl, ?_⟩) (by assumption) ?_
          rotate_left
          · (intro w hSw; (try dsimp only at hSw); go_simp; try with_reducible rfl)
          try simp only [Act.put, List.setIfInBounds_toArray, List.set_cons_zero, List.set_cons_succ]
          refine wpAnyH_take (i := 9) (oi := ⟨some 116, _, _, _, _, _⟩) (v := ?_) rfl (by kernel_rfl) (by kernel_rfl) (by kernel_rfl) (fun _ _ _ h => h) (Or.inl ⟨by rfl, ?_⟩) (by assumption) ?_
          rotate_left
          · (intro w hSw; (try dsimp only at hSw); go_simp; try with_reducible rfl)
          try simp only [Act.put, List.setIfInBounds_toArray, List.set_cons_zero, List.set_cons_succ]
          refine wpAnyH_take (i := 10) (oi := ⟨some 117, _, _, _, _, _⟩) (v := ?_) rfl (by kernel_rfl) (by kernel_rfl) (by kernel_rfl) (fun _ _ _ h => h) (Or.inl ⟨by rfl, ?_⟩) (by assumption) ?_
          rotate_left
          · (intro w hSw; (try dsimp only at hSw); go_simp; try with_reducible rfl)
          try simp only [Act.put, List.setIfInBounds_toArray, List.set_cons_zero, List.set_cons_succ]
          refine wpAnyH_take (i := 11) (oi := ⟨some 118, _, _, _, _, _⟩) (v := ?_) rfl (by kernel_rfl) (by kernel_rfl) (by kernel_rfl) (fun _ _ _ h => h) (Or.inl ⟨by rfl, ?_⟩) (by assumption) ?_
          rotate_left
          · (intro w hSw; (try dsimp only at hSw); go_simp; try with_reducible rfl)
          try simp only [Act.put, List.setIfInBounds_toArray, List.set_cons_zero, List.set_cons_succ]
          refine wpAnyH_take (i := 12) (oi := ⟨some 119, _, _, _, _, _⟩) (v := ?_) rfl (by kernel_rfl) (by kernel_rfl) (by kernel_rfl) (fun _ _ _ h => h) (Or.inl ⟨by rfl, ?_⟩) (by assumption) ?_
          rotate_left
          · (intro w hSw; (try dsimp only at hSw); go_simp; try with_reducible rfl)
          try simp only [Act.put, List.setIfInBounds_toArray, List.set_cons_zero, List.set_cons_succ]
          refine wpAnyH_take (i := 13) (oi := ⟨some 120, _, _, _, _, _⟩) (v := ?_) rfl (by kernel_rfl) (by kernel_rfl) (by kernel_rfl) (fun _ _ _ h => h) (Or.inl ⟨by rfl, ?_⟩) (by assumption) ?_
          rotate_left
          · (intro w hSw; (try dsimp only at hSw); go_simp; try with_reducible rfl)
          try simp only [Act.put, List.setIfInBounds_toArray, List.set_cons_zero, List.set_cons_succ]
          refine wpAnyH_take (i := 14) (oi := ⟨some 121, _, _, _, _, _⟩) (v := ?_) rfl (by kernel_rfl) (by kernel_rfl) (by kernel_rfl) (fun _ _ _ h => h) (Or.inl ⟨by rfl, ?_⟩) (by assumption) ?_
          rotate_left
          · (intro w hSw; (try dsimp only at hSw); go_simp; try with_reducible rfl)
          try simp only [Act.put, List.setIfInBounds_toArray, List.set_cons_zero, List.set_cons_succ]
          refine wpAnyH_take (i := 15) (oi := ⟨some 122, _, _, _, _, _⟩) (v := ?_) rfl (by kernel_rfl) (by kernel_rfl) (by kernel_rfl) (fun _ _ _ h => h) (Or.inl ⟨by rfl, ?_⟩) (by assumption) ?_
          rotate_left
          · (intro w hSw; (try dsimp only at hSw); go_simp; try with_reducible rfl)
          try simp only [Act.put, List.setIfInBounds_toArray, List.set_cons_zero, List.set_cons_succ]
          refine wpAnyH_take (i := 16) (oi := ⟨some 123, _, _, _, _, _⟩) (v := ?_) rfl (by kernel_rfl) (by kernel_rfl) (by kernel_rfl) (fun _ _ _ h => h) (Or.inl ⟨by rfl, ?_⟩) (by assumption) ?_
          rotate_left
          · (intro w hSw; (try dsimp only at hSw); go_simp; try with_reducible rfl)
          try simp only [Act.put, List.setIfInBounds_toArray, List.set_cons_zero, List.set_cons_succ]
          refine wpAnyH_take (i := 17) (oi := ⟨some 124, _, _, _, _, _⟩) (v := ?_) rfl (by kernel_rfl) (by kernel_rfl) (by kernel_rfl) (fun _ _ _ h => h) (Or.inl ⟨by rfl, ?_⟩) (by assumption) ?_
          rotate_left
          · (intro w hSw; (try dsimp only at hSw); go_simp; try with_reducible rfl)
          try simp only [Act.put, List.setIfInBounds_toArray, List.set_cons_zero, List.set_cons_succ]
          refine wpAnyH_take (i := 18) (oi := ⟨some 125, _, _, _, _, _⟩) (v := ?_) rfl (by kernel_rfl) (by kernel_rfl) (by kernel_rfl) (fun _ _ _ h => h) (Or.inl ⟨by rfl, ?_⟩) (by assumption) ?_
          rotate_left
          · (intro w hSw; (try dsimp only at hSw); go_simp; try with_reducible rfl)
          try simp only [Act.put, List.setIfInBounds_toArray, List.set_cons_zero, List.set_cons_succ]
          refine wpAnyH_take (i := 19) (oi := ⟨some 126, _, _, _, _, _⟩) (v := ?_) rfl (by kernel_rfl) (by kernel_rfl) (by kernel_rfl) (fun _ _ _ h => h) (Or.inl ⟨by rfl, ?_⟩) (by assumption) ?_
          rotate_left
          · (intro w hSw; (try dsimp only at hSw); go_simp; try with_reducible rfl)
          try simp only [Act.put, List.setIfInBounds_toArray, List.set_cons_zero, List.set_cons_succ]
          refine wpAnyH_take (i := 20) (oi := ⟨some 127, _, _, _, _, _⟩) (v := ?_) rfl (by kernel_rfl) (by kernel_rfl) (by kernel_rfl) (fun _ _ _ h => h) (Or.inl ⟨by rfl, ?_⟩) (by assumption) ?_
          rotate_left
          · (intro w hSw; (try dsimp only at hSw); go_simp; try with_reducible rfl)
          try simp only [Act.put, List.setIfInBounds_toArray, List.set_cons_zero, List.set_cons_succ]
          refine wpAnyH_take (i := 21) (oi := ⟨some 128, _, _, _, _, _⟩) (v := ?_) rfl (by kernel_rfl) (by kernel_rfl) (by kernel_rfl) (fun _ _ _ h => h) (Or.inl ⟨by rfl, ?_⟩) (by assumption) ?_
          rotate_left
          · (intro w hSw; (try dsimp only at hSw); go_simp; try with_reducible rfl)
          try simp only [Act.put, List.setIfInBounds_toArray, List.set_cons_zero, List.set_cons_succ]
          refine wpAnyH_take (i := 22) (oi := ⟨some 129, _, _, _, _, _⟩) (v := ?_) rfl (by kernel_rfl) (by kernel_rfl) (by kernel_rfl) (fun _ _ _ h => h) (Or.inl ⟨by rfl, ?_⟩) (by assumption) ?_
          rotate_left
          · (intro w hSw; (try dsimp only at hSw); go_simp; try with_reducible rfl)
          try simp only [Act.put, List.setIfInBounds_toArray, List.set_cons_zero, List.set_cons_succ]
          refine wpAnyH_take (i := 25) (oi := ⟨some 132, _, _, _, _, _⟩) (v := ?_) rfl (by kernel_rfl) (by kernel_rfl) (by kernel_rfl) (fun _ _ _ h => h) (Or.inl ⟨by rfl, ?_⟩) (by assumption) ?_
          rotate_left
          · (intro w hSw; (try dsimp only at hSw); go_simp; try with_reducible rfl)
          try simp only [Act.put, List.setIfInBounds_toArray, List.set_cons_zero, List.set_cons_succ]
          refine wpAnyH_take (i := 26) (oi := ⟨some 133, _, _, _, _, _⟩) (v := ?_) rfl (by kernel_rfl) (by kernel_rfl) (by kernel_rfl) (fun _ _ _ h => h) (Or.inl ⟨by rfl, ?_⟩) (by assumption) ?_
          rotate_left
          · (intro w hSw; (try dsimp only at hSw); go_simp; try with_reducible rfl)
          try simp only [Act.put, List.setIfInBounds_toArray, List.set_cons_zero, List.set_cons_succ]
          refine wpAnyH_take (i := 28) (oi := ⟨some 135, _, _, _, _, _⟩) (v := ?_) rfl (by kernel_rfl) (by kernel_rfl) (by kernel_rfl) (fun _ _ _ h => h) (Or.inl ⟨by rfl, ?_⟩) (by assumption) ?_
          rotate_left
          · (intro w hSw; (try dsimp only at hSw); go_simp; try with_reducible rfl)
          try simp only [Act.put, List.setIfInBounds_toArray, List.set_cons_zero, List.set_cons_succ]
          refine wpAnyH_take (i := 29) (oi := ⟨some 136, _, _, _, _, _⟩) (v := ?_) rfl (by kernel_rfl) (by kernel_rfl) (by kernel_rfl) (fun _ _ _ h => h) (Or.inl ⟨by rfl, ?_⟩) (by assumption) ?_
          rotate_left
          · (intro w hSw; (try dsimp only at hSw); go_simp; try with_reducible rfl)
          try simp only [Act.put, List.setIfInBounds_toArray, List.set_cons_zero, List.set_cons_succ]
          refine wpAnyH_take (i := 31) (oi := ⟨some 138, _, _, _, _, _⟩) (v := ?_) rfl (by kernel_rfl) (by kernel_rfl) (by kernel_rfl) (fun _ _ _ h => h) (Or.inl ⟨by rfl, ?_⟩) (by assumption) ?_
          rotate_left
          · (intro w hSw; (try dsimp only at hSw); go_simp; try with_reducible rfl)
          try simp only [Act.put, List.setIfInBounds_toArray, List.set_cons_zero, List.set_cons_succ]
          refine next_one 23 (by kernel_rfl) rfl (by rfl) fun K' HK' => ?_
          go_simp
          refine (Mark_any (hk8.ext (by (repeat (first | assumption | exact Ext.refl _ | apply Ext.drew | apply Ext.drewN | apply Ext.alloc | refine Ext.trans ?_ (by assumption))); first | done | fail)) (hb8.ext (by (repeat (first | assumption | exact Ext.refl _ | apply Ext.drew | apply Ext.drewN | apply Ext.alloc | refine Ext.trans ?_ (by assumption))); first | done | fail)) (hw8.ext (by (repeat (first | assumption | exact Ext.refl _ | apply Ext.drew | apply Ext.drewN | apply Ext.alloc | refine Ext.trans ?_ (by assumption))); first | done | fail)) (by omega) (by omega)).mono ?_
          rintro e w9 ⟨A9, c9, rfl, hs9, _, hx9⟩
          have hx89 : Ext w8 w9 := (by (repeat (first | assumption | exact Ext.refl _ | apply Ext.drew | apply Ext.drewN | apply Ext.alloc | refine Ext.trans ?_ (by assumption))); first | done | fail)
          have hS2 := Ext.trans hHeld hx9
          refine held_go HK' hS2 (fun _ => ?_)
          clear HK'
          refine held_more (S' := fun w' => Ext w9 w') (fun _ h => Ext.trans hS2 h) _ _ _ _ ?_
          clear hHeld hS2
          have hHeld : Ext w9 w9 := Ext.refl _
          try simp only [Act.put, List.setIfInBounds_toArray, List.set_cons_zero, List.set_cons_succ]
          have t9 := fun (w' : World) (hx : Ext w9 w') => hs9.str hx
          rw [HSM.out] at t9
          refine wpAnyH_take (i := 24) (oi := ⟨some 131, _, _, _, _, _⟩) (v := ?_) rfl (by kernel_rfl) (by kernel_rfl) (by kernel_rfl) (fun _ _ _ h => h) (Or.inl ⟨by rfl, ?_⟩) (by assumption) ?_
          rotate_left
          · (intro w hSw; (try dsimp only at hSw); go_simp; try with_reducible rfl)
          try simp only [Act.put, List.setIfInBounds_toArray, List.set_cons_zero, List.set_cons_succ]
          refine wpAnyH_take (i := 27) (oi := ⟨some 134, _, _, _, _, _⟩) (v := ?_) rfl (by kernel_rfl) (by kernel_rfl) (by kernel_rfl) (fun _ _ _ h => h) (Or.inl ⟨by rfl, ?_⟩) (by assumption) ?_
          rotate_left
          · (intro w hSw; (try dsimp only at hSw); go_simp; try with_reducible rfl)
          try simp only [Act.put, List.setIfInBounds_toArray, List.set_cons_zero, List.set_cons_succ]
          refine wpAnyH_take (i := 30) (oi := ⟨some 137, _, _, _, _, _⟩) (v := ?_) rfl (by kernel_rfl) (by kernel_rfl) (by kernel_rfl) (fun _ _ _ h => h) (Or.inl ⟨by rfl, ?_⟩) (by assumption) ?_
          rotate_left
          · (intro w hSw; (try dsimp only at hSw); go_simp; try with_reducible rfl)
          try simp only [Act.put, List.setIfInBounds_toArray, List.set_cons_zero, List.set_cons_succ]
          refine wpAnyH_take (i := 32) (oi := ⟨some 139, _, _, _, _, _⟩) (v := ?_) rfl (by kernel_rfl) (by kernel_rfl) (by kernel_rfl) (fun _ _ _ h => h) (Or.inl ⟨by rfl, ?_⟩) (by assumption) ?_
          rotate_left
          · (intro w hSw; (try dsimp only at hSw); go_simp; try with_reducible rfl)
          try simp only [Act.put, List.setIfInBounds_toArray, List.set_cons_zero, List.set_cons_succ]
          refine wpAnyH_take (i := 33) (oi := ⟨some 140, _, _, _, _, _⟩) (v := ?_) rfl (by kernel_rfl) (by kernel_rfl) (by kernel_rfl) (fun _ _ _ h => h) (Or.inl ⟨by rfl, ?_⟩) (by assumption) ?_
          rotate_left
          · (intro w hSw; (try dsimp only at hSw); go_simp; try with_reducible rfl)
          try simp only [Act.put, List.setIfInBounds_toArray, List.set_cons_zero, List.set_cons_succ]
          refine wpAnyH_take (i := 34) (oi := ⟨some 4, _, _, _, _, _⟩) (v := ?_) rfl (by kernel_rfl) (by kernel_rfl) (by kernel_rfl) (fun _ _ _ h => h) (Or.inl ⟨by rfl, ?_⟩) (by assumption) ?_
          rotate_left
          · (intro w hSw; (try dsimp only at hSw); go_simp; try with_reducible rfl)
          try simp only [Act.put, List.setIfInBounds_toArray, List.set_cons_zero, List.set_cons_succ]
          refine wpAnyH_done (by kernel_rfl) ?_ _
          go_wp2
          go_ret
          exact ⟨rfl, (HX8.out.trans hx89).b⟩
end Go.Proofs.YtkjfhgbpiogigaaDoor
