/-
  The walk of the law CbcOpens.
-/
import Derived.Test.YtjjoghdlbnlicaaDoorCu
import Derived.Test.YtjjoghdlbnlicaaDoorCj
namespace Go.Proofs.YtjjoghdlbnlicaaDoor
open Go Go.RowKit

theorem Bs.mid {w : World} {g o n c : Nat} {l : List (BitVec 8)} (h : Bs w (some ⟨g, o, none⟩) n c l) (i k : Nat) (hk : i + k ≤ n) : Bs w (some ⟨g, o + i, none⟩) k (c - i) ((l.drop i).take k) := by
  have hl := h.len
  have hc := h.cap
  refine ⟨by rw [List.length_take, List.length_drop]; omega, by omega, (fun e => by cases e), fun _ => ⟨g, o + i, rfl, fun j hj => ?_⟩⟩
  rw [gb_take _ _ _ hj, gb_drop, Nat.add_assoc]
  exact h.at_ (i + j) (by omega)
/-- the block ahead of the last one -/
def LastCut (w : World) (l : List (BitVec 8)) (t : Value) (w' : World) : Prop := ∃ A c, t = .slice A 16 c ∧ Bs w A 16 c l ∧ w' = w
theorem sealed_back (K : Nat → List (BitVec 8)) (t g x : List (BitVec 8)) (N : Nat) (ht : t.length = 16 * N) (hx : emptyL (openN K t g N) = some x) : sealL K g x = t ∧ x.length ≤ 16 * N := by
  have h1 := (empty_iff _ _).1 hx
  have h2 := fill_mod x
  have h3 := fill_len x
  have h4 := fn_lo x.length
  rw [h1, openN_len] at h2 h3
  refine ⟨?_, by omega⟩
  unfold sealL
  rw [h1, show x.length / 16 + 1 = N by omega]
  exact seal_open K t g N ht
theorem last_none (K : Nat → List (BitVec 8)) (t g : List (BitVec 8)) (N : Nat) (h0 : 0 < N) (h : emptyL (openN K t g N) = none) : emptyL (xorL (decL K (b16 t (N - 1))) (pv t g (N - 1))) = none := by
  obtain ⟨M, rfl⟩ : ∃ M, N = M + 1 := ⟨N - 1, by omega⟩
  refine empty_tail (openN K t g M) _ (by rw [openN_len]; omega) ?_
  exact h
theorem Open_some {k g t b x : List (BitVec 8)} {A B C : Option Addr} {c d n e : Nat} {w : World} (hk : Bs w A 16 c k) (hg : Bs w B 16 d g) (ht : Bs w C n e t) (hn : n ≤ 65552) (N : Nat) (hN : n = 16 * N) (h0 : 0 < N) (hw : Lay3 w) (hb : openN (ks k) t g N = b) (hx : emptyL b = some x) :
    Calls Tryd.prog 13 #[.slice A 16 c, .slice B 16 d, .slice C n e] w (FreshE w x.length x) := by
  have h := Open_any hk hg ht hn N hN h0 hw
  rw [hb] at h
  refine h.mono fun e w' hh => ?_
  rcases hh with ⟨y, h1, h2⟩ | ⟨h1, _⟩
  · obtain rfl : x = y := Option.some.inj (hx.symm.trans h1)
    exact h2
  · rw [hx] at h1; cases h1
theorem Open_none {k g t b : List (BitVec 8)} {A B C : Option Addr} {c d n e : Nat} {w : World} (hk : Bs w A 16 c k) (hg : Bs w B 16 d g) (ht : Bs w C n e t) (hn : n ≤ 65552) (N : Nat) (hN : n = 16 * N) (h0 : 0 < N) (hw : Lay3 w) (hb : openN (ks k) t g N = b) (hx : emptyL b = none) :
    Calls Tryd.prog 13 #[.slice A 16 c, .slice B 16 d, .slice C n e] w fun e w' => e = .returned (.tuple #[.slice none 0 0, err 7]) ∧ Ext w w' := by
  have h := Open_any hk hg ht hn N hN h0 hw
  rw [hb] at h
  refine h.mono fun e w' hh => ?_
  rcases hh with ⟨y, h1, _⟩ | ⟨_, h2, h3⟩
  · rw [hx] at h1; cases h1
  · exact ⟨h2, h3⟩
set_option maxRecDepth 100000 in
set_option maxHeartbeats 4000000 in
theorem CbcOpens_any {k g t0 : List (BitVec 8)} {A B C : Option Addr} {n c m d p e : Nat} {w : World} (hk : Bs w A n c k) (hg : Bs w B m d g) (ht : Bs w C p e t0) (hw : Lay3 w) :
    Calls Tryd.prog 4 #[.slice A n c, .slice B m d, .slice C p e] w fun e w' => e = .returned (.bool true) ∧ Below w.heap.size w w' := by
  go_enter Tryd.func4, Tryd.ntmps4
  go_wp2_with fail
  refine (up4_any w).mono ?_
  rintro e1 w1 ⟨rfl, hx1⟩
  go_wp2_with fail
  refine (cut4_any C p e 320 320 rfl ht.cap w1).mono ?_
  rintro e1 w2 ⟨rfl, rfl⟩
  have hm : min p 320 ≤ 320 := Nat.min_le_right _ _
  have ht1 := (ht.ext hx1).take (min p 320) (Nat.min_le_left _ _)
  generalize min p 320 = q at *
  generalize t0.take q = t at *
  have hk1 := hk.ext hx1
  have hg1 := hg.ext hx1
  have hw1 := hw.ext hx1
  have HX1 := Kp.mk hx1
  clear hk hg ht hw hx1
  by_cases hnm : n = 16 ∧ m = 16 ∧ 0 < q ∧ q % 16 = 0
  · obtain ⟨rfl, rfl, hq0, hq16⟩ := hnm
    obtain ⟨N, hN⟩ : ∃ N, q = 16 * N := ⟨q / 16, by omega⟩
    have hN0 : 0 < N := by omega
    have htl := ht1.len
    have z1 : (q : Int) ≠ 0 := by omega
    have z2 : (q : Int) % 16 = 0 := by omega
    have HN := Kp.mk hN
    clear hN
    go_wp2_with fail
    have hN := HN.out
    obtain ⟨b, hb⟩ : ∃ b, openN (ks k) t g N = b := ⟨_, rfl⟩
    cases hx : emptyL b with
    | some x =>
      obtain ⟨hse, hxl⟩ := sealed_back (ks k) t g x N (htl.trans hN) (by rw [hb]; exact hx)
      refine (Open_some hk1 hg1 ht1 (by omega) N hN hN0 hw1 hb hx).mono ?_
      rintro e1 w2 ⟨A2, c2, rfl, hs2, _, hx2⟩
      have hk2 := hk1.ext hx2
      have hg2 := hg1.ext hx2
      have ht2 := ht1.ext hx2
      have hct := fun (w' : World) (hx : Ext w2 w') => ht2.str hx
      have HX2 := Kp.mk (HX1.out.trans hx2)
      have HSE := Kp.mk hse
      have HXL := Kp.mk hxl
      clear ht1 hk1 hg1 hw1 hx2 hse hxl hx hN hb
      go_wp2_with fail
      refine wp_region_held_drew (S := fun w' => Ext w2 w') (by kernel_rfl) (Ext.refl w2).drew (fun hHeld => ?_)
      refine wpAnyH_take (i := 0) (oi := ⟨some 58, _, _, _, _, _⟩) (v := ?_) rfl (by kernel_rfl) (by kernel_rfl) (by kernel_rfl) (fun _ _ _ h => h) (Or.inl ⟨by rfl, ?_⟩) (by assumption) ?_
      rotate_left
      · (intro w hSw; (try dsimp only at hSw); go_simp; try with_reducible rfl)
      try simp only [Act.put, List.setIfInBounds_toArray, List.set_cons_zero, List.set_cons_succ]
      refine wpAnyH_take (i := 1) (oi := ⟨some 59, _, _, _, _, _⟩) (v := ?_) rfl (by kernel_rfl) (by kernel_rfl) (by kernel_rfl) (fun _ _ _ h => h) (Or.inl ⟨by rfl, ?_⟩) (by assumption) ?_
      rotate_left
      · (intro w hSw; (try dsimp only at hSw); go_simp; try with_reducible rfl)
      try simp only [Act.put, List.setIfInBounds_toArray, List.set_cons_zero, List.set_cons_succ]
      refine wpAnyH_take (i := 3) (oi := ⟨some 61, _, _, _, _, _⟩) (v := ?_) rfl (by kernel_rfl) (by kernel_rfl) (by kernel_rfl) (fun _ _ _ h => h) (Or.inl ⟨by rfl, ?_⟩) (by assumption) ?_
      rotate_left
      · (intro w hSw; (try dsimp only at hSw); go_simp; try with_reducible rfl)
      try simp only [Act.put, List.setIfInBounds_toArray, List.set_cons_zero, List.set_cons_succ]
      refine wpAnyH_take (i := 4) (oi := ⟨some 62, _, _, _, _, _⟩) (v := ?_) rfl (by kernel_rfl) (by kernel_rfl) (by kernel_rfl) (fun _ _ _ h => h) (Or.inl ⟨by rfl, ?_⟩) (by assumption) ?_
      rotate_left
      · (intro w hSw; (try dsimp only at hSw); go_simp; try with_reducible rfl)
      try simp only [Act.put, List.setIfInBounds_toArray, List.set_cons_zero, List.set_cons_succ]
      refine wpAnyH_take (i := 5) (oi := ⟨some 63, _, _, _, _, _⟩) (v := ?_) rfl (by kernel_rfl) (by kernel_rfl) (by kernel_rfl) (fun _ _ _ h => h) (Or.inl ⟨by rfl, ?_⟩) (by assumption) ?_
      rotate_left
      · (intro w hSw; (try dsimp only at hSw); go_simp; try with_reducible rfl)
      try simp only [Act.put, List.setIfInBounds_toArray, List.set_cons_zero, List.set_cons_succ]
      refine wpAnyH_take (i := 8) (oi := ⟨some 66, _, _, _, _, _⟩) (v := ?_) rfl (by kernel_rfl) (by kernel_rfl) (by kernel_rfl) (fun _ _ _ h => h) (Or.inl ⟨by rfl, ?_⟩) (by assumption) ?_
      rotate_left
      · (intro w hSw; (try dsimp only at hSw); go_simp; try with_reducible rfl)
      try simp only [Act.put, List.setIfInBounds_toArray, List.set_cons_zero, List.set_cons_succ]
      refine wpAnyH_take (i := 9) (oi := ⟨some 67, _, _, _, _, _⟩) (v := ?_) rfl (by kernel_rfl) (by kernel_rfl) (by kernel_rfl) (fun _ _ _ h => h) (Or.inl ⟨by rfl, ?_⟩) (by assumption) ?_
      rotate_left
      · (intro w hSw; (try dsimp only at hSw); go_simp; try with_reducible rfl)
      try simp only [Act.put, List.setIfInBounds_toArray, List.set_cons_zero, List.set_cons_succ]
      refine next_one 2 (by kernel_rfl) rfl (by rfl) fun K' HK' => ?_
      go_simp
      refine (Table_any _).mono ?_
      rintro e1 w3 ⟨A3, c3, rfl, hs3, _, hx3⟩
      have hx23 : Ext w2 w3 := (by (repeat (first | assumption | exact Ext.refl _ | apply Ext.drew | apply Ext.drewN | apply Ext.alloc | refine Ext.trans ?_ (by assumption))); first | done | fail)
      have hS2 := Ext.trans hHeld hx3
      refine held_go HK' hS2 (fun _ => ?_)
      clear HK'
      refine held_more (S' := fun w' => Ext w3 w') (fun _ h => Ext.trans hS2 h) _ _ _ _ ?_
      clear hHeld hS2
      have hHeld : Ext w3 w3 := Ext.refl _
      try simp only [Act.put, List.setIfInBounds_toArray, List.set_cons_zero, List.set_cons_succ]
      refine next_one 6 (by kernel_rfl) rfl (by rfl) fun K' HK' => ?_
      go_simp
      refine (refSeal_any hs3 (hk2.ext hx23) (hg2.ext hx23) (hs2.ext hx23) (by have := HXL.out; have := HN.out; omega)).mono ?_
      rintro e1 w4 ⟨A4, c4, rfl, hs4, _, hx4⟩
      rw [HSE.out] at hs4
      have hS2 := Ext.trans hHeld hx4
      refine held_go HK' hS2 (fun _ => ?_)
      clear HK'
      refine held_more (S' := fun w' => Ext w4 w') (fun _ h => Ext.trans hS2 h) _ _ _ _ ?_
      clear hHeld hS2
      have hHeld : Ext w4 w4 := Ext.refl _
      try simp only [Act.put, List.setIfInBounds_toArray, List.set_cons_zero, List.set_cons_succ]
      have hc4 := fun (w' : World) (hx : Ext w4 w') => hs4.str hx
      refine wpAnyH_take (i := 7) (oi := ⟨some 65, _, _, _, _, _⟩) (v := ?_) rfl (by kernel_rfl) (by kernel_rfl) (by kernel_rfl) (fun _ _ _ h => h) (Or.inl ⟨by rfl, ?_⟩) (by assumption) ?_
      rotate_left
      · (intro w hSw; (try dsimp only at hSw); go_simp; try with_reducible rfl)
      try simp only [Act.put, List.setIfInBounds_toArray, List.set_cons_zero, List.set_cons_succ]
      refine wpAnyH_take (i := 10) (oi := ⟨some 68, _, _, _, _, _⟩) (v := ?_) rfl (by kernel_rfl) (by kernel_rfl) (by kernel_rfl) (fun _ _ _ h => h) (Or.inl ⟨by rfl, ?_⟩) (by assumption) ?_
      rotate_left
      · (intro w hSw; (try dsimp only at hSw); go_simp; try with_reducible rfl)
      try simp only [Act.put, List.setIfInBounds_toArray, List.set_cons_zero, List.set_cons_succ]
      refine wpAnyH_take (i := 11) (oi := ⟨some 69, _, _, _, _, _⟩) (v := ?_) rfl (by kernel_rfl) (by kernel_rfl) (by kernel_rfl) (fun _ _ _ h => h) (Or.inl ⟨by rfl, ?_⟩) (by assumption) ?_
      rotate_left
      · (intro w hSw; (try dsimp only at hSw); go_simp; try with_reducible rfl)
      try simp only [Act.put, List.setIfInBounds_toArray, List.set_cons_zero, List.set_cons_succ]
      refine wpAnyH_take (i := 12) (oi := ⟨some 6, _, _, _, _, _⟩) (v := ?_) rfl (by kernel_rfl) (by kernel_rfl) (by kernel_rfl) (fun _ _ _ h => h) (Or.inl ⟨by rfl, ?_⟩) (by assumption) ?_
      rotate_left
      · (intro w hSw; (try dsimp only at hSw); go_simp; try with_reducible rfl)
      try simp only [Act.put, List.setIfInBounds_toArray, List.set_cons_zero, List.set_cons_succ]
      refine wpAnyH_done (by kernel_rfl) ?_ _
      go_wp2
      go_ret
      exact ⟨rfl, (HX2.out.trans (hx23.trans hx4)).b⟩
    | none =>
      have hln := last_none (ks k) t g N hN0 (by rw [hb]; exact hx)
      refine (Open_none hk1 hg1 ht1 (by omega) N hN hN0 hw1 hb hx).mono ?_
      rintro e1 w2 ⟨rfl, hx2⟩
      have hk2 := hk1.ext hx2
      have hg2 := hg1.ext hx2
      have ht2 := ht1.ext hx2
      have hw2 := hw1.ext hx2
      have hcap := ht2.cap
      have HX2 := Kp.mk (HX1.out.trans hx2)
      have HLN := Kp.mk hln
      clear ht1 hk1 hg1 hw1 hx2 hx hb hln hN
      obtain ⟨gC, oC, rfl, _⟩ := ht2.rge hq0
      obtain ⟨Ls, hLs⟩ : ∃ Ls, Ls = pv t g (N - 1) := ⟨_, rfl⟩
      obtain ⟨D, hD⟩ : ∃ D, D = decL (ks k) (b16 t (N - 1)) := ⟨_, rfl⟩
      have hDl : D.length = 16 := by rw [hD]; exact decL_len _ _
      have hHD := Kp.mk hD
      have HLs := Kp.mk hLs
      clear hLs hD
      go_upto_if 73 with (fail)
      go_cut [10] (fun t w' => LastCut w2 Ls t w')
      case first =>
        by_cases h2 : 2 ≤ N
        · obtain ⟨M, hM⟩ : ∃ M, N = M + 2 := ⟨N - 2, by omega⟩
          have hq32 : 32 ≤ q := by have := HN.out; omega
          have c1 : (16 : Int) < q := by omega
          have e1 : (q : Int) - 32 = ((q - 32 : Nat) : Int) := by omega
          have e2 : (q : Int) - 16 = (((q - 32) + 16 : Nat) : Int) := by omega
          have hsl := fun w => run_mid (P := Tryd.prog) gC oC q e 22 5 Tryd.underlying22 szB (q - 32) 16 _ _ e1 e2 (by omega) hcap (by omega) w
          have hmid := ht2.mid (q - 32) 16 (by omega)
          have hlq : Ls = (t.drop (q - 32)).take 16 := by
            rw [HLs.out, hM, show M + 2 - 1 = M + 1 by omega]
            show b16 t M = _
            unfold b16
            rw [show q - 32 = 16 * M by have := HN.out; omega]
          have e3 := e1
          have b2 : 0 ≤ (q : Int) - 32 := by omega
          have HMID := Kp.mk hmid
          have HLQ := Kp.mk hlq
          clear hmid hlq e1 e2 e3 hM
          go_wp2_with fail
          go_meet
          exact ⟨_, _, rfl, by rw [HLQ.out]; exact HMID.out, rfl⟩
        · have hN1 : N = 1 := by omega
          have hq1 : q = 16 := by have := HN.out; omega
          have hlq : Ls = g := by rw [HLs.out, hN1]; rfl
          have c1 : (q : Int) ≤ 16 := by omega
          have HLQ := Kp.mk hlq
          clear hlq hq1 hN1
          go_wp2
          go_meet
          exact ⟨_, _, rfl, by rw [HLQ.out]; exact hg2, rfl⟩
      case rest =>
        obtain ⟨Al, cl, rfl, hl, rfl⟩ := hcut
        have hq16' : 16 ≤ q := by have := HN.out; omega
        have e2 : (q : Int) - 16 = ((q - 16 : Nat) : Int) := by omega
        have hfrom := fun W => run_from (P := Tryd.prog) (some ⟨gC, oC, none⟩) q e 22 5 Tryd.underlying22 szB (q - 16) _ e2 (by omega) W
        have hadd : (⟨gC, oC, none⟩ : Addr).add (q - 16) = ⟨gC, oC + (q - 16), none⟩ := by unfold Addr.add; split <;> simp_all
        simp only [if_neg (show ¬ e = q - 16 by omega), Option.map_some, hadd, show q - (q - 16) = 16 by omega] at hfrom
        have hmid := ht2.mid (q - 16) 16 (by omega)
        have hbq : (t.drop (q - 16)).take 16 = b16 t (N - 1) := by unfold b16; rw [show q - 16 = 16 * (N - 1) by have := HN.out; omega]
        rw [hbq] at hmid
        have b2 : 0 ≤ (q : Int) - 16 := by omega
        have HMID := Kp.mk hmid
        clear hmid hbq e2 hadd
        go_wp2_with fail
        refine (Decrypt_any hk2 HMID.out hw2).mono ?_
        rintro e7 w7 ⟨A7, c7, rfl, hs7, ho7, hx7⟩
        rw [← hHD.out] at hs7 ho7
        obtain ⟨g7, rfl, hg71, hg72⟩ := ho7.some_ (by decide)
        have hl7 := hl.ext hx7
        obtain ⟨gL, oL, rfl, _⟩ := hl7.rge (by decide)
        have hee := code_eq 7 7
        have HL := Kp.mk hl
        have HX7 := Kp.mk (HX2.out.trans hx7)
        clear hs7 hl hl7 hfrom HMID hk2 hg2 ht2 hw2
        go_wp2_with fail
        rw [← fl_zero 16 (fun i => gb D i ^^^ gb Ls i) D hDl] at ho7
        clear hDl
        go_loopw [13] (fun iv wr => ∃ j : Nat, j ≤ 16 ∧ iv = .int .i64 (j : Int) ∧ Own wr wc.heap.size (.slice (some ⟨g7, 0, none⟩) 16 c7) 16 (fl 16 (fun i => gb D i ^^^ gb Ls i) D j) ∧ Ext wc wr) (fun i _ => 16 - (intOf i).toNat)
        case atStart => exact ⟨0, by omega, rfl, ho7, hx7⟩
        case round =>
          clear ho7 hx7
          obtain ⟨j, hj, rfl, ho, hx⟩ := hrel
          by_cases hlt : j < 16
          · have b1 : (j : Int) < 16 := by omega
            have k1 : wr.cell? ⟨g7, j, none⟩ = some (.int .u8 (ub (gb D j))) := (ho.cell j hlt).trans (by rw [fl_gb _ _ _ _ _ hlt, if_neg (by omega)])
            have k2 := (HL.out.ext hx).at_ j hlt
            have f1 := ho.free j
            have HFL : Kp ((fl 16 (fun i => gb D i ^^^ gb Ls i) D j).set j (gb D j ^^^ gb Ls j) = fl 16 (fun i => gb D i ^^^ gb Ls i) D (j + 1)) := ⟨fl_succ 16 (fun i => gb D i ^^^ gb Ls i) D j hlt⟩
            have HO := Kp.mk ho
            have HX := Kp.mk hx
            clear ho hx
            generalize gb Ls j = y at *
            generalize gb D j = x at *
            go_wp2_with fail
            go_region
            go_wp2_with fail
            go_roundw
            case rel =>
              refine ⟨j + 1, by omega, by go_num, ?_, (HX.out.setCell (p := ⟨g7, j, none⟩) hg71 _).drew⟩
              rw [← HFL.out]
              exact (HO.out.set j _).ext (Ext.refl _).drew
            case measure => simp [intOf]; omega
          · obtain rfl : j = 16 := by omega
            rw [fl_end] at ho
            have hbs : Bs wr (some ⟨g7, 0, none⟩) 16 c7 (xorL D Ls) := ho.bs
            have hno : emptyL (xorL D Ls) = none := by rw [hHD.out, HLs.out]; exact HLN.out
            have HX := Kp.mk (HX2.out.trans hx)
            clear ho hx
            go_wp2_with fail
            refine (refEmpty_none hbs (by omega) hno).mono ?_
            rintro e8 w8 ⟨rfl, hx8⟩
            have HX8 := Kp.mk (HX.out.trans hx8)
            clear hx8 hbs hno
            go_wp2_with fail
            go_ret
            exact ⟨rfl, HX8.out.b⟩
  · have hee := code_eq 1 1
    have hor : n ≠ 16 ∨ m ≠ 16 ∨ ¬ (0 < q ∧ q % 16 = 0) := by omega
    go_wp2_with fail
    refine (Open_arg w1 hor).mono ?_
    rintro e1 w2 ⟨rfl, hx2⟩
    have HX2 := Kp.mk (HX1.out.trans hx2)
    clear hx2 hk1 hg1 ht1 hw1 hor
    by_cases h1 : n = 16
    · subst h1
      by_cases h2 : m = 16
      · subst h2
        by_cases h3 : q = 0
        · subst h3
          go_wp2
          go_ret
          exact ⟨rfl, HX2.out.b⟩
        · have h4 : (q : Int) % 16 ≠ 0 := by omega
          have h5 : (q : Int) ≠ 0 := by omega
          have h6 : ((q : Int) == 0) = false := beq_eq_false_iff_ne.2 h5
          have h7 : ((q : Int) % 16 != 0) = true := bne_iff_ne.2 h4
          clear hnm
          go_wp2
          go_ret
          exact ⟨rfl, HX2.out.b⟩
      · clear hnm
        go_wp2
        go_ret
        exact ⟨rfl, HX2.out.b⟩
    · clear hnm
      go_wp2
      go_ret
      exact ⟨rfl, HX2.out.b⟩
end Go.Proofs.YtjjoghdlbnlicaaDoor
