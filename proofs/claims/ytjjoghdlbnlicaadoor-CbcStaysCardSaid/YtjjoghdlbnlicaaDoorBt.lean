/-
  The walk of the reference's Encrypt.
-/
import Derived.Test.YtjjoghdlbnlicaaDoorBs
namespace Go.Proofs.YtjjoghdlbnlicaaDoor
open Go Go.RowKit

theorem shsub_at (X : List (BitVec 8)) (c r : Nat) (hc : c < 4) (hr : r < 4) : gb (shL 1 (subL X)) (4 * c + r) = sb (gb X (4 * ((c + r) % 4) + r)) := by
  unfold shL
  rw [li_gb _ _ _ (by omega), show (4 * c + r + 4 * (1 * ((4 * c + r) % 4))) % 16 = 4 * ((c + r) % 4) + r by omega]
  unfold subL
  rw [li_gb _ _ _ (by omega)]
theorem mul_at (Y : List (BitVec 8)) (c r : Nat) (hc : c < 4) (hr : r < 4) : gb (mulL Y) (4 * c + r) = tw (gb Y (4 * c + r)) ^^^ (tw (gb Y (4 * c + (r + 1) % 4)) ^^^ gb Y (4 * c + (r + 1) % 4)) ^^^ gb Y (4 * c + (r + 2) % 4) ^^^ gb Y (4 * c + (r + 3) % 4) := by
  rw [mul_gb _ _ (by omega)]
  unfold mulF mc
  rw [show (4 * c + r) / 4 * 4 = 4 * c by omega, show (4 * c + r + 1) % 4 = (r + 1) % 4 by omega, show (4 * c + r + 2) % 4 = (r + 2) % 4 by omega, show (4 * c + r + 3) % 4 = (r + 3) % 4 by omega, tw_xor]
  generalize tw (gb Y (4 * c + r)) = a
  rw [BitVec.xor_assoc a]
theorem times23 (q : Int) (x : BitVec 8) (w : World) (hq : q = 2 ∨ q = 3) :
    Calls Tryd.prog 34 #[.int .u8 q, .int .u8 (ub x)] w fun e w' => e = .returned (.int .u8 (ub (if q = 2 then tw x else tw x ^^^ x))) ∧ w = w' := by
  rcases hq with rfl | rfl
  · have h := Times_any 2 x w
    rw [two_tm] at h
    exact h
  · have h := Times_any 3 x w
    rw [three_tm] at h
    exact h
/-- the code that is reckoned, in the call's own memory -/
structure Cd (w1 : World) (gs cs : Nat) (X : List (BitVec 8)) (w' : World) : Prop where
  o : Own w' w1.heap.size (.slice (some ⟨gs, 0, none⟩) 16 cs) 16 X
  x : Ext w1 w'
theorem Cd.set {w1 w' : World} {gs cs : Nat} {X : List (BitVec 8)} (h : Cd w1 gs cs X w') (j : Nat) (x : BitVec 8) : Cd w1 gs cs (X.set j x) (w'.setCell ⟨gs, j, none⟩ (.int .u8 (ub x))) :=
  ⟨h.o.set j x, h.x.setCell (p := ⟨gs, j, none⟩) (h.o.base gs rfl) _⟩
theorem Cd.ext {w1 w' w'' : World} {gs cs : Nat} {X : List (BitVec 8)} (h : Cd w1 gs cs X w') (hx : Ext w' w'') : Cd w1 gs cs X w'' := ⟨h.o.ext hx, h.x.trans hx⟩

/-- and the row that the bytes are moved into -/
structure Mv (w1 : World) (gs cs : Nat) (X : List (BitVec 8)) (B gm : Nat) (L : List (BitVec 8)) (w' : World) : Prop where
  c : Cd w1 gs cs X w'
  o : Own w' B (.slice (some ⟨gm, 0, none⟩) 16 16) 16 L
  n : gs < B
section
variable {w1 w' w'' : World} {gs cs B gm : Nat} {X L : List (BitVec 8)}
theorem Mv.ext (h : Mv w1 gs cs X B gm L w') (hx : Ext w' w'') : Mv w1 gs cs X B gm L w'' := ⟨h.c.ext hx, h.o.ext hx, h.n⟩
theorem Mv.ne (h : Mv w1 gs cs X B gm L w') : gs ≠ gm := by
  have h1 := h.o.base gm rfl
  have h2 := h.n
  omega
theorem Mv.setL (h : Mv w1 gs cs X B gm L w') (j : Nat) (x : BitVec 8) : Mv w1 gs cs X B gm (L.set j x) (w'.setCell ⟨gm, j, none⟩ (.int .u8 (ub x))) := by
  have h1 := h.o.base gm rfl
  have h2 := h.c.o.base gs rfl
  have h3 := h.n
  exact ⟨⟨h.c.o.far (p := ⟨gm, j, none⟩) (by simp [Value.ownBlock]; exact h.ne) _, h.c.x.setCell (p := ⟨gm, j, none⟩) (show w1.heap.size ≤ gm by omega) _⟩, h.o.set j x, h.n⟩
theorem Mv.setX (h : Mv w1 gs cs X B gm L w') (j : Nat) (x : BitVec 8) : Mv w1 gs cs (X.set j x) B gm L (w'.setCell ⟨gs, j, none⟩ (.int .u8 (ub x))) :=
  ⟨h.c.set j x, h.o.far (p := ⟨gs, j, none⟩) (by simp [Value.ownBlock]; exact fun e => h.ne e.symm) _, h.n⟩
end
set_option maxRecDepth 20000 in
set_option maxHeartbeats 8000000 in
theorem refEncrypt_any {key b : List (BitVec 8)} {T A B : Option Addr} {ct c d : Nat} {w : World} (ht : Bs w T 256 ct SB) (hk : Bs w A 16 c key) (hb : Bs w B 16 d b) :
    Calls Tryd.prog 22 #[.slice T 256 ct, .slice A 16 c, .slice B 16 d] w (Fresh w 16 (encL (ks key) b)) := by
  have hkl := hk.len
  go_enter Tryd.func22, Tryd.ntmps22
  go_wp2_with fail
  refine (refKeys_any ht hk).mono ?_
  rintro e w1 ⟨Ao, co, rfl, ho, hx1⟩
  have hb1 := hb.ext hx1
  have ht1 := ht.ext hx1
  go_wp2_with (first | (at_builtin; refine wpList_append_bs rfl (.tmp 20) (.tmp 21) rfl w1.heap.size _ 0 [] rfl (Own.new w1 w1.heap.size 0 [] rfl (Nat.le_refl _) (by decide)) B 16 d b rfl (hb1.ext (by (repeat (first | assumption | exact Ext.refl _ | apply Ext.drew | apply Ext.drewN | apply Ext.alloc | refine Ext.trans ?_ (by assumption))); first | done | fail)) (by omega) 16 rfl b rfl w1 (by (repeat (first | assumption | exact Ext.refl _ | apply Ext.drew | apply Ext.drewN | apply Ext.alloc | refine Ext.trans ?_ (by assumption))); first | done | fail) (Nat.le_refl _) (Ext.size (by (repeat (first | assumption | exact Ext.refl _ | apply Ext.drew | apply Ext.drewN | apply Ext.alloc | refine Ext.trans ?_ (by assumption))); first | done | fail)) ?_; intro A2 c2 w2 ho2 hx2 _) | fail)
  obtain ⟨gs, rfl, hgs, hgs2⟩ := ho2.some_ (by decide)
  obtain ⟨gt, ot, rfl, htc0⟩ := ht1.cell (by decide)
  have htc : ∀ w', Ext w1 w' → ∀ x : BitVec 8, w'.cell? ⟨gt, ot + x.toNat, none⟩ = some (.int .u8 (ub (sb x))) := fun w' hx' x => by
    obtain ⟨g9, o9, e9, h9⟩ := (ht1.ext hx').cell (by decide)
    cases e9
    exact h9 _ x.isLt
  obtain ⟨g, cg, _, _, e1, _⟩ := ho.get 0 _ (kl_at key 11 0 (by decide))
  obtain ⟨rfl, rfl⟩ : Ao = some ⟨g, 0, none⟩ ∧ co = cg := by rw [kl_len] at e1; cases e1; exact ⟨rfl, rfl⟩
  clear e1
  have hrow : ∀ n, n ≤ 10 → ∃ gn dn, (∀ w', Ext w1 w' → w'.cell? ⟨g, n, none⟩ = some (.slice (some ⟨gn, 0, none⟩) 16 dn)) ∧ (∀ w', Ext w1 w' → ∀ i, i < 16 → w'.cell? ⟨gn, i, none⟩ = some (.int .u8 (ub (gb (ks key n) i)))) := fun n hn => by
    obtain ⟨g', c', Aw, dw, e1, _, hg2, hcw, how, _⟩ := ho.get n _ (kl_at key 11 n (by omega))
    obtain rfl : g = g' := by cases e1; rfl
    rw [ks_len key hkl n] at hcw how
    obtain ⟨gw, rfl, _, _⟩ := how.some_ (by decide)
    exact ⟨gw, dw, fun w' hx' => (hx'.b.cell (p := ⟨g, n, none⟩) hg2).trans hcw, fun w' hx' i hi => (how.ext hx').cell i hi⟩
  have hcd : Cd w1 gs c2 b w2 := ⟨ho2, hx2⟩
  have hbl := hb.len
  have HX1 := Kp.mk hx1
  have HTC := Kp.mk htc
  have HROW := Kp.mk hrow
  clear htc hrow htc0 ht ht1 hk hb hb1 ho ho2 hx1 hx2 hgs hgs2 hkl
  obtain ⟨g0, d0, r0, r0'⟩ := HROW.out 0 (by decide)
  rw [← fl_zero 16 (fun i => gb b i ^^^ gb (ks key 0) i) b hbl] at hcd
  clear hbl
  go_loopw [9] (fun iv w' => ∃ j : Nat, j ≤ 16 ∧ iv = .int .i64 j ∧ Cd w1 gs c2 (fl 16 (fun i => gb b i ^^^ gb (ks key 0) i) b j) w') (fun i _ => 16 - (intOf i).toNat)
  case atStart => exact ⟨0, by omega, rfl, hcd⟩
  case round =>
    clear hcd
    obtain ⟨j, hj, rfl, hcd⟩ := hrel
    by_cases hlt : j < 16
    · have b1 : (j : Int) < 16 := by omega
      have k1 : wr.cell? ⟨gs, j, none⟩ = some (.int .u8 (ub (gb b j))) := (hcd.o.cell j hlt).trans (by rw [fl_gb _ _ _ _ _ hlt, if_neg (by omega)])
      have k2 := r0 _ hcd.x
      have k3 := r0' _ hcd.x j hlt
      have f1 := hcd.o.free j
      have HFL : Kp ((fl 16 (fun i => gb b i ^^^ gb (ks key 0) i) b j).set j (gb b j ^^^ gb (ks key 0) j) = fl 16 (fun i => gb b i ^^^ gb (ks key 0) i) b (j + 1)) := ⟨fl_succ 16 (fun i => gb b i ^^^ gb (ks key 0) i) b j hlt⟩
      have HCD := Kp.mk hcd
      clear hcd r0 r0'
      generalize gb (ks key 0) j = y at *
      generalize gb b j = x at *
      go_wp2_with fail
      go_region
      go_wp2_with fail
      go_roundw
      case rel =>
        refine ⟨j + 1, by omega, by go_num, ?_⟩
        rw [← HFL.out]
        exact (HCD.out.set j _).ext (Ext.refl _).drew
      case measure => simp [intOf]; omega
    · obtain rfl : j = 16 := by omega
      have he : Cd w1 gs c2 (enc (ks key) b 0) wr := by rw [fl_end] at hcd; exact hcd
      clear hcd r0 r0'
      have hmk := run_makeN 16 16 rfl (by decide)
      go_wp2_with fail
      rw [show ((16 : Nat) : Int) = 16 from rfl]
      go_loopw [10] (fun iv w' => ∃ n : Nat, n ≤ 10 ∧ iv = .int .i64 ((n : Int) + 1) ∧ Cd w1 gs c2 (enc (ks key) b n) w') (fun i _ => 11 - (intOf i).toNat)
      case atStart => exact ⟨0, by omega, rfl, he⟩
      case round =>
        clear he
        obtain ⟨n, hn, rfl, hcd⟩ := hrel
        by_cases hln : n < 10
        · have b1 : (n : Int) + 1 ≤ 10 := by omega
          have b1' : (n : Int) + 1 < 11 := by omega
          have HEN : Kp (∀ m, decide (n + 1 < 10) = m → xorL (mf m (shL 1 (subL (enc (ks key) b n)))) (ks key (n + 1)) = enc (ks key) b (n + 1)) := ⟨fun m h => by subst h; rfl⟩
          have hXl := enc_len (ks key) b n
          obtain ⟨gn, dn, rn, rn'⟩ := HROW.out (n + 1) (by omega)
          generalize enc (ks key) b n = X at *
          go_wp2_with fail
          obtain ⟨wo, hwo⟩ : ∃ wo, wo = wr.alloc (.cells (bv (zb 16)) 5) := ⟨_, rfl⟩
          have hmv : Mv w1 gs c2 X wr.heap.size wr.heap.size (fl 16 (gb (shL 1 (subL X))) (zb 16) 0) wo := by
            rw [fl_zero _ _ _ (zb_len 16), hwo]
            exact ⟨hcd.ext (by (repeat (first | assumption | exact Ext.refl _ | apply Ext.drew | apply Ext.drewN | apply Ext.alloc | refine Ext.trans ?_ (by assumption))); first | done | fail), Own.new wr wr.heap.size 16 (zb 16) (zb_len 16) (Nat.le_refl _) (by decide), hcd.o.lt gs rfl⟩
          change Code.wp _ _ _ _ (wr.alloc (.cells (bv (zb 16)) 5))
          rw [← hwo]
          have HXL := Kp.mk hXl
          have HRN := Kp.mk rn
          have HRN' := Kp.mk rn'
          clear hwo hcd hmk rn rn' hXl
          obtain ⟨gm, hgm⟩ : ∃ gm, gm = wr.heap.size := ⟨_, rfl⟩
          rw [← hgm] at hmv ⊢
          clear hgm
          go_loopw [12] (fun iv w' => ∃ c : Nat, c ≤ 4 ∧ iv = .int .i64 (c : Int) ∧ Mv w1 gs c2 X gm gm (fl 16 (gb (shL 1 (subL X))) (zb 16) (4 * c)) w') (fun i _ => 4 - (intOf i).toNat)
          case atStart => exact ⟨0, by omega, rfl, hmv⟩
          case round =>
            clear hmv
            obtain ⟨c, hc, rfl, hmv⟩ := hrel
            by_cases hlc : c < 4
            · have b2 : (c : Int) < 4 := by omega
              go_wp2_with fail
              go_loopw [13] (fun iv w' => ∃ r : Nat, r ≤ 4 ∧ iv = .int .i64 (r : Int) ∧ Mv w1 gs c2 X gm gm (fl 16 (gb (shL 1 (subL X))) (zb 16) (4 * c + r)) w') (fun i _ => 4 - (intOf i).toNat)
              case atStart => exact ⟨0, by omega, rfl, hmv⟩
              case round =>
                clear hmv
                obtain ⟨r, hr, rfl, hmv⟩ := hrel
                by_cases hlr : r < 4
                · have b3 : (r : Int) < 4 := by omega
                  have k1 : wr.cell? ⟨gs, 4 * ((c + r) % 4) + r, none⟩ = some (.int .u8 ((gb X (4 * ((c + r) % 4) + r)).toNat : Int)) := hmv.c.o.cell _ (by omega)
                  have k2 := HTC.out _ hmv.c.x (gb X (4 * ((c + r) % 4) + r))
                  have l2 := (gb X (4 * ((c + r) % 4) + r)).isLt
                  have k3 := hmv.o.cell (4 * c + r) (by omega)
                  have f1 := hmv.o.free (4 * c + r)
                  have HFL : Kp ((fl 16 (gb (shL 1 (subL X))) (zb 16) (4 * c + r)).set (4 * c + r) (sb (gb X (4 * ((c + r) % 4) + r))) = fl 16 (gb (shL 1 (subL X))) (zb 16) (4 * c + (r + 1))) := ⟨by
                    rw [← shsub_at X c r hlc hlr]
                    exact fl_succ 16 (gb (shL 1 (subL X))) (zb 16) (4 * c + r) (by omega)⟩
                  have HMV := Kp.mk hmv
                  clear hmv
                  generalize gb X (4 * ((c + r) % 4) + r) = x at *
                  generalize gb (fl 16 (gb (shL 1 (subL X))) (zb 16) (4 * c + r)) (4 * c + r) = y at *
                  go_wp2_with fail
                  go_roundw
                  case rel =>
                    refine ⟨r + 1, by omega, by go_num, ?_⟩
                    rw [← HFL.out]
                    exact HMV.out.setL _ _
                  case measure => simp [intOf]; omega
                · obtain rfl : r = 4 := by omega
                  go_wp2_with fail
                  go_roundw
                  case rel => exact ⟨c + 1, by omega, by go_num, hmv⟩
                  case measure => simp [intOf]; omega
            · obtain rfl : c = 4 := by omega
              have hYl : (shL 1 (subL X)).length = 16 := shL_len _ _
              rw [fl_end, li_self _ 16 hYl] at hmv
              obtain ⟨Y, hY⟩ : ∃ Y, shL 1 (subL X) = Y := ⟨_, rfl⟩
              obtain ⟨m, hm⟩ : ∃ m, decide (n + 1 < 10) = m := ⟨_, rfl⟩
              have HEM := Kp.mk (HEN.out m hm)
              have HMM := Kp.mk hm
              rw [hY] at hmv HEM
              have h0 := fl_zero 16 (fun i => gb (mf m Y) i ^^^ gb (ks key (n + 1)) i) X HXL.out
              rw [← h0] at hmv
              clear hY hYl HEN h0 hm
              go_wp2_with fail
              rw [show ((4 : Nat) : Int) = 4 from rfl]
              go_loopw [14] (fun iv w' => ∃ c : Nat, c ≤ 4 ∧ iv = .int .i64 (c : Int) ∧ Mv w1 gs c2 (fl 16 (fun i => gb (mf m Y) i ^^^ gb (ks key (n + 1)) i) X (4 * c)) gm gm Y w') (fun i _ => 4 - (intOf i).toNat)
              case atStart => exact ⟨0, by omega, rfl, hmv⟩
              case round =>
                clear hmv
                obtain ⟨c, hc, rfl, hmv⟩ := hrel
                by_cases hlc : c < 4
                · have b2 : (c : Int) < 4 := by omega
                  go_wp2_with fail
                  go_loopw [15] (fun iv w' => ∃ r : Nat, r ≤ 4 ∧ iv = .int .i64 (r : Int) ∧ Mv w1 gs c2 (fl 16 (fun i => gb (mf m Y) i ^^^ gb (ks key (n + 1)) i) X (4 * c + r)) gm gm Y w') (fun i _ => 4 - (intOf i).toNat)
                  case atStart => exact ⟨0, by omega, rfl, hmv⟩
                  case round =>
                    clear hmv
                    obtain ⟨r, hr, rfl, hmv⟩ := hrel
                    by_cases hlr : r < 4
                    · have b3 : (r : Int) < 4 := by omega
                      have k1 := hmv.o.cell (4 * c + r) (by omega)
                      have k2 := hmv.o.cell (4 * c + (r + 1) % 4) (by omega)
                      have k3 := hmv.o.cell (4 * c + (r + 2) % 4) (by omega)
                      have k4 := hmv.o.cell (4 * c + (r + 3) % 4) (by omega)
                      have k5 := HRN.out _ hmv.c.x
                      have k6 := HRN'.out _ hmv.c.x (4 * c + r) (by omega)
                      have k7 := hmv.c.o.cell (4 * c + r) (by omega)
                      have f1 := hmv.c.o.free (4 * c + r)
                      have HMV := Kp.mk hmv
                      clear hmv
                      cases m
                      · have b9 : ¬ (n : Int) + 1 < 10 := by (have h9 := of_decide_eq_false HMM.out); omega
                        have hz : gb (mf false Y) (4 * c + r) = gb Y (4 * c + r) := rfl
                        have HFL : Kp ((fl 16 (fun i => gb (mf false Y) i ^^^ gb (ks key (n + 1)) i) X (4 * c + r)).set (4 * c + r) (gb (mf false Y) (4 * c + r) ^^^ gb (ks key (n + 1)) (4 * c + r)) = fl 16 (fun i => gb (mf false Y) i ^^^ gb (ks key (n + 1)) i) X (4 * c + (r + 1))) := ⟨fl_succ 16 (fun i => gb (mf false Y) i ^^^ gb (ks key (n + 1)) i) X (4 * c + r) (by omega)⟩
                        rw [hz] at HFL
                        clear hz
                        generalize gb Y (4 * c + r) = x1 at *
                        generalize gb Y (4 * c + (r + 1) % 4) = x2 at *
                        generalize gb Y (4 * c + (r + 2) % 4) = x3 at *
                        generalize gb Y (4 * c + (r + 3) % 4) = x4 at *
                        generalize gb (ks key (n + 1)) (4 * c + r) = x5 at *
                        generalize gb (fl 16 (fun i => gb (mf false Y) i ^^^ gb (ks key (n + 1)) i) X (4 * c + r)) (4 * c + r) = x6 at *
                        go_wp2_with fail
                        go_roundw
                        case rel =>
                          refine ⟨r + 1, by omega, by go_num, ?_⟩
                          rw [← HFL.out]
                          exact HMV.out.setX _ _
                        case measure => simp [intOf]; omega
                      · have b9 : (n : Int) + 1 < 10 := by (have h9 := of_decide_eq_true HMM.out); omega
                        have hz : gb (mf true Y) (4 * c + r) = tw (gb Y (4 * c + r)) ^^^ (tw (gb Y (4 * c + (r + 1) % 4)) ^^^ gb Y (4 * c + (r + 1) % 4)) ^^^ gb Y (4 * c + (r + 2) % 4) ^^^ gb Y (4 * c + (r + 3) % 4) := mul_at Y c r hlc hlr
                        have HFL : Kp ((fl 16 (fun i => gb (mf true Y) i ^^^ gb (ks key (n + 1)) i) X (4 * c + r)).set (4 * c + r) (gb (mf true Y) (4 * c + r) ^^^ gb (ks key (n + 1)) (4 * c + r)) = fl 16 (fun i => gb (mf true Y) i ^^^ gb (ks key (n + 1)) i) X (4 * c + (r + 1))) := ⟨fl_succ 16 (fun i => gb (mf true Y) i ^^^ gb (ks key (n + 1)) i) X (4 * c + r) (by omega)⟩
                        rw [hz] at HFL
                        clear hz
                        generalize gb Y (4 * c + r) = x1 at *
                        generalize gb Y (4 * c + (r + 1) % 4) = x2 at *
                        generalize gb Y (4 * c + (r + 2) % 4) = x3 at *
                        generalize gb Y (4 * c + (r + 3) % 4) = x4 at *
                        generalize gb (ks key (n + 1)) (4 * c + r) = x5 at *
                        generalize gb (fl 16 (fun i => gb (mf true Y) i ^^^ gb (ks key (n + 1)) i) X (4 * c + r)) (4 * c + r) = x6 at *
                        go_wp2_with fail
                        have q0 : (0 : Int) ≤ 4 * (c : Int) + (r : Int) ∧ 4 * (c : Int) + (r : Int) < 16 := by omega
                        have q1 : (0 : Int) ≤ 4 * (c : Int) + ((r : Int) + 1) % 4 ∧ 4 * (c : Int) + ((r : Int) + 1) % 4 < 16 := by omega
                        have q2 : (0 : Int) ≤ 4 * (c : Int) + ((r : Int) + 2) % 4 ∧ 4 * (c : Int) + ((r : Int) + 2) % 4 < 16 := by omega
                        have q3 : (0 : Int) ≤ 4 * (c : Int) + ((r : Int) + 3) % 4 ∧ 4 * (c : Int) + ((r : Int) + 3) % 4 < 16 := by omega
                        go_quiet (first | (go_at_call 34; exact Calls.quiet_of_same ((times23 _ _ _ (by first | exact .inl rfl | exact .inr rfl)).mono fun _ _ h => ⟨h.1, h.2.symm⟩)) | fail)
                        go_wp2_with fail
                        go_roundw
                        case rel =>
                          refine ⟨r + 1, by omega, by go_num, ?_⟩
                          rw [← HFL.out]
                          exact Mv.setX (Mv.ext HMV.out (by exact (by (repeat (first | assumption | exact Ext.refl _ | apply Ext.drew | apply Ext.drewN | apply Ext.alloc | refine Ext.trans ?_ (by assumption))); first | done | fail))) _ _
                        case measure => simp [intOf]; omega
                    · obtain rfl : r = 4 := by omega
                      go_wp2_with fail
                      go_roundw
                      case rel => exact ⟨c + 1, by omega, by go_num, hmv⟩
                      case measure => simp [intOf]; omega
                · obtain rfl : c = 4 := by omega
                  rw [fl_end] at hmv
                  have hcd : Cd w1 gs c2 (enc (ks key) b (n + 1)) wr := by rw [← HEM.out]; exact hmv.c
                  clear hmv
                  go_wp2_with fail
                  go_roundw
                  case rel => exact ⟨n + 1, by omega, by go_num, hcd⟩
                  case measure => simp [intOf]; omega
        · obtain rfl : n = 10 := by omega
          go_wp2_with fail
          go_ret
          exact ⟨_, _, rfl, hcd.o.bs, hcd.o.lower HX1.out.size, HX1.out.trans hcd.x⟩
end Go.Proofs.YtjjoghdlbnlicaaDoor
