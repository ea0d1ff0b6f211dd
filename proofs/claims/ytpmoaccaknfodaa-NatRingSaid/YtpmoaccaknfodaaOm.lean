/-
  The walk of the law NatRing.
-/
import Derived.Test.YtpmoaccaknfodaaOl
namespace Go.Proofs.Ytpmoaccaknfodaa
open Go Go.RowKit

theorem light_gt {n k : Nat} (h : k < n) : ((k : Nat) : Int) < (n : Int) := by omega
set_option maxRecDepth 100000 in
set_option maxHeartbeats 8000000 in
theorem NatRing_any {a b c : List Nat} {A B C : Option Addr} {n m k cA cB cC : Nat} {w : World} (ha : Rd vL w A n cA a) (hb : Rd vL w B m cB b) (hc : Rd vL w C k cC c) (da : Dg BB a) (db : Dg BB b) (dc : Dg BB c) :
    Calls Try.prog 9 #[.slice A n cA, .slice B m cB, .slice C k cC] w fun e w' => e = .returned (.bool true) ∧ Below w.heap.size w w' := by
  have HU := Kp.mk (up_any w)
  by_cases hs : n ≤ 15 ∧ m ≤ 15 ∧ k ≤ 15
  · obtain ⟨hn, hm, hk⟩ := hs
    have b1 : decide ((15 : Int) < (n : Int)) = false := decide_eq_false (by omega)
    have b2 : decide ((15 : Int) < (m : Int)) = false := decide_eq_false (by omega)
    have b3 : decide ((15 : Int) < (k : Int)) = false := decide_eq_false (by omega)
    have NA := Kp.mk (Nv.small ha da (by omega))
    have NB := Kp.mk (Nv.small hb db (by omega))
    have NC := Kp.mk (Nv.small hc dc (by omega))
    have la : vl BB a < BB ^ 15 := Nat.lt_of_lt_of_le (vl_len ha da) (Nat.pow_le_pow_right (by decide) hn)
    have lb : vl BB b < BB ^ 15 := Nat.lt_of_lt_of_le (vl_len hb db) (Nat.pow_le_pow_right (by decide) hm)
    have lc : vl BB c < BB ^ 15 := Nat.lt_of_lt_of_le (vl_len hc dc) (Nat.pow_le_pow_right (by decide) hk)
    generalize vl BB a = va at *
    generalize vl BB b = vb at *
    generalize vl BB c = vc at *
    have lab : va + vb < BB ^ 16 := lt_add la lb (by decide) (by decide)
    have lba : vb + va < BB ^ 16 := lt_add lb la (by decide) (by decide)
    have lp : va * vb < BB ^ 30 := lt_mul la lb (by decide)
    have lq : vb * va < BB ^ 30 := lt_mul lb la (by decide)
    have ll : vc * (va + vb) < BB ^ 31 := lt_mul lc lab (by decide)
    have lca : vc * va < BB ^ 30 := lt_mul lc la (by decide)
    have lcb : vc * vb < BB ^ 30 := lt_mul lc lb (by decide)
    have lr : vc * va + vc * vb < BB ^ 31 := lt_add lca lcb (by decide) (by decide)
    have SA := Kp.mk (short_of la (by decide))
    have SB := Kp.mk (short_of lb (by decide))
    have SC := Kp.mk (short_of lc (by decide))
    have SAB := Kp.mk (short_of lab (by decide))
    have SBA := Kp.mk (short_of lba (by decide))
    have SP := Kp.mk (short_of lp (by decide))
    have SQ := Kp.mk (short_of lq (by decide))
    have SL := Kp.mk (short_of ll (by decide))
    have SCA := Kp.mk (short_of lca (by decide))
    have SCB := Kp.mk (short_of lcb (by decide))
    have SR := Kp.mk (short_of lr (by decide))
    have SD := Kp.mk (show ¬ lng (va + vb - vb) by rw [Nat.add_sub_cancel]; exact SA.out)
    clear ha hb hc da db dc la lb lc lab lba lp lq ll lca lcb lr
    go_enter Try.func9, Try.ntmps9
    go_wp2_with fail
    refine HU.out.mono ?_
    rintro e w1 ⟨rfl, x1⟩
    go_wp2_with fail
    refine (AddV (NA.out.ext (by (repeat (first | assumption | exact Ext.refl _ | apply Ext.drew | apply Ext.drewN | apply Ext.alloc | refine Ext.trans ?_ (by assumption))); first | done | fail)) (NB.out.ext (by (repeat (first | assumption | exact Ext.refl _ | apply Ext.drew | apply Ext.drewN | apply Ext.alloc | refine Ext.trans ?_ (by assumption))); first | done | fail)) SA.out SB.out).mono ?_
    rintro e w2 ⟨Aab, nab, cab, rfl, o, xab⟩
    have Nab := Kp.mk (Nv.of o SAB.out)
    clear o
    go_wp2_with fail
    refine (AddV (NB.out.ext (by (repeat (first | assumption | exact Ext.refl _ | apply Ext.drew | apply Ext.drewN | apply Ext.alloc | refine Ext.trans ?_ (by assumption))); first | done | fail)) (NA.out.ext (by (repeat (first | assumption | exact Ext.refl _ | apply Ext.drew | apply Ext.drewN | apply Ext.alloc | refine Ext.trans ?_ (by assumption))); first | done | fail)) SB.out SA.out).mono ?_
    rintro e w3 ⟨Aba, nba, cba, rfl, o, xba⟩
    have Nba := Kp.mk (Nv.of o SBA.out)
    clear o
    go_wp2_with fail
    refine (MulV (NA.out.ext (by (repeat (first | assumption | exact Ext.refl _ | apply Ext.drew | apply Ext.drewN | apply Ext.alloc | refine Ext.trans ?_ (by assumption))); first | done | fail)) (NB.out.ext (by (repeat (first | assumption | exact Ext.refl _ | apply Ext.drew | apply Ext.drewN | apply Ext.alloc | refine Ext.trans ?_ (by assumption))); first | done | fail)) SA.out SB.out).mono ?_
    rintro e w4 ⟨Ap, np, cp, rfl, o, xp⟩
    have Np := Kp.mk (Nv.of o SP.out)
    clear o
    go_wp2_with fail
    refine (MulV (NB.out.ext (by (repeat (first | assumption | exact Ext.refl _ | apply Ext.drew | apply Ext.drewN | apply Ext.alloc | refine Ext.trans ?_ (by assumption))); first | done | fail)) (NA.out.ext (by (repeat (first | assumption | exact Ext.refl _ | apply Ext.drew | apply Ext.drewN | apply Ext.alloc | refine Ext.trans ?_ (by assumption))); first | done | fail)) SB.out SA.out).mono ?_
    rintro e w5 ⟨Aq, nq, cq, rfl, o, xq⟩
    have Nq := Kp.mk (Nv.of o SQ.out)
    clear o
    go_wp2_with fail
    refine (MulV (NC.out.ext (by (repeat (first | assumption | exact Ext.refl _ | apply Ext.drew | apply Ext.drewN | apply Ext.alloc | refine Ext.trans ?_ (by assumption))); first | done | fail)) (Nab.out.ext (by (repeat (first | assumption | exact Ext.refl _ | apply Ext.drew | apply Ext.drewN | apply Ext.alloc | refine Ext.trans ?_ (by assumption))); first | done | fail)) SC.out SAB.out).mono ?_
    rintro e w6 ⟨Al, nl, cl, rfl, o, xl⟩
    have Nl := Kp.mk (Nv.of o SL.out)
    clear o
    go_wp2_with fail
    refine (MulV (NC.out.ext (by (repeat (first | assumption | exact Ext.refl _ | apply Ext.drew | apply Ext.drewN | apply Ext.alloc | refine Ext.trans ?_ (by assumption))); first | done | fail)) (NA.out.ext (by (repeat (first | assumption | exact Ext.refl _ | apply Ext.drew | apply Ext.drewN | apply Ext.alloc | refine Ext.trans ?_ (by assumption))); first | done | fail)) SC.out SA.out).mono ?_
    rintro e w7 ⟨Aca, nca, cca, rfl, o, xca⟩
    have Nca := Kp.mk (Nv.of o SCA.out)
    clear o
    go_wp2_with fail
    refine (MulV (NC.out.ext (by (repeat (first | assumption | exact Ext.refl _ | apply Ext.drew | apply Ext.drewN | apply Ext.alloc | refine Ext.trans ?_ (by assumption))); first | done | fail)) (NB.out.ext (by (repeat (first | assumption | exact Ext.refl _ | apply Ext.drew | apply Ext.drewN | apply Ext.alloc | refine Ext.trans ?_ (by assumption))); first | done | fail)) SC.out SB.out).mono ?_
    rintro e w8 ⟨Acb, ncb, ccb, rfl, o, xcb⟩
    have Ncb := Kp.mk (Nv.of o SCB.out)
    clear o
    go_wp2_with fail
    refine (AddV (Nca.out.ext (by (repeat (first | assumption | exact Ext.refl _ | apply Ext.drew | apply Ext.drewN | apply Ext.alloc | refine Ext.trans ?_ (by assumption))); first | done | fail)) (Ncb.out.ext (by (repeat (first | assumption | exact Ext.refl _ | apply Ext.drew | apply Ext.drewN | apply Ext.alloc | refine Ext.trans ?_ (by assumption))); first | done | fail)) SCA.out SCB.out).mono ?_
    rintro e w9 ⟨Ar, nr, cr, rfl, o, xr⟩
    have Nr := Kp.mk (Nv.of o SR.out)
    clear o
    go_wp2_with fail
    refine (SubV (Nab.out.ext (by (repeat (first | assumption | exact Ext.refl _ | apply Ext.drew | apply Ext.drewN | apply Ext.alloc | refine Ext.trans ?_ (by assumption))); first | done | fail)) (NB.out.ext (by (repeat (first | assumption | exact Ext.refl _ | apply Ext.drew | apply Ext.drewN | apply Ext.alloc | refine Ext.trans ?_ (by assumption))); first | done | fail)) SAB.out SB.out (Nat.le_add_left _ _)).mono ?_
    rintro e w10 ⟨Ad, nd, cd, rfl, o, xd⟩
    have Nd := Kp.mk (Nv.of o SD.out)
    clear o
    go_wp2_with fail
    refine (CmpV (Nab.out.ext (by (repeat (first | assumption | exact Ext.refl _ | apply Ext.drew | apply Ext.drewN | apply Ext.alloc | refine Ext.trans ?_ (by assumption))); first | done | fail)) (Nba.out.ext (by (repeat (first | assumption | exact Ext.refl _ | apply Ext.drew | apply Ext.drewN | apply Ext.alloc | refine Ext.trans ?_ (by assumption))); first | done | fail)) 0 (cmpI_same (Nat.add_comm _ _))).mono ?_
    rintro e w11 ⟨rfl, xw11⟩
    go_wp2_with fail
    refine (CmpV (Np.out.ext (by (repeat (first | assumption | exact Ext.refl _ | apply Ext.drew | apply Ext.drewN | apply Ext.alloc | refine Ext.trans ?_ (by assumption))); first | done | fail)) (Nq.out.ext (by (repeat (first | assumption | exact Ext.refl _ | apply Ext.drew | apply Ext.drewN | apply Ext.alloc | refine Ext.trans ?_ (by assumption))); first | done | fail)) 0 (cmpI_same (Nat.mul_comm _ _))).mono ?_
    rintro e w12 ⟨rfl, xw12⟩
    go_wp2_with fail
    refine (CmpV (Nl.out.ext (by (repeat (first | assumption | exact Ext.refl _ | apply Ext.drew | apply Ext.drewN | apply Ext.alloc | refine Ext.trans ?_ (by assumption))); first | done | fail)) (Nr.out.ext (by (repeat (first | assumption | exact Ext.refl _ | apply Ext.drew | apply Ext.drewN | apply Ext.alloc | refine Ext.trans ?_ (by assumption))); first | done | fail)) 0 (cmpI_same (Nat.mul_add _ _ _))).mono ?_
    rintro e w13 ⟨rfl, xw13⟩
    go_wp2_with fail
    refine (CmpV (Nd.out.ext (by (repeat (first | assumption | exact Ext.refl _ | apply Ext.drew | apply Ext.drewN | apply Ext.alloc | refine Ext.trans ?_ (by assumption))); first | done | fail)) (NA.out.ext (by (repeat (first | assumption | exact Ext.refl _ | apply Ext.drew | apply Ext.drewN | apply Ext.alloc | refine Ext.trans ?_ (by assumption))); first | done | fail)) 0 (cmpI_same (Nat.add_sub_cancel _ _))).mono ?_
    rintro e w14 ⟨rfl, xw14⟩
    have HX := Kp.mk (show Ext w w14 from (by (repeat (first | assumption | exact Ext.refl _ | apply Ext.drew | apply Ext.drewN | apply Ext.alloc | refine Ext.trans ?_ (by assumption))); first | done | fail))
    have NP := Kp.mk (Np.out.ext (show Ext w4 w14 from (by (repeat (first | assumption | exact Ext.refl _ | apply Ext.drew | apply Ext.drewN | apply Ext.alloc | refine Ext.trans ?_ (by assumption))); first | done | fail)))
    have NC2 := Kp.mk (NC.out.ext HX.out)
    clear x1 xab xba xp xq xl xca xcb xr xd xw11 xw12 xw13 xw14 Nab Nba Np Nq Nl Nca Ncb Nr Nd NA NB NC SAB SBA SQ SL SCA SCB SR SD
    by_cases h0 : vc = 0
    · subst h0
      have ee := code_eq 1 1
      go_wp2_with fail
      refine (DivV0 NP.out NC2.out SP.out).mono ?_
      rintro e w15 ⟨rfl, x15⟩
      go_wp2_with fail
      refine (CmpV (NC2.out.ext x15) (Nv.nil _) 0 rfl).mono ?_
      rintro e w16 ⟨rfl, x16⟩
      have HB := Kp.mk ((HX.out.trans x15).trans x16)
      clear x15 x16
      go_wp2_with fail
      go_ret
      exact ⟨rfl, HB.out.b⟩
    · have hdm := Nat.div_add_mod (va * vb) vc
      rw [Nat.mul_comm] at hdm
      have hml : va * vb % vc < vc := Nat.mod_lt _ (Nat.pos_of_ne_zero h0)
      have SU := Kp.mk (show ¬ lng (va * vb / vc) from fun h => SP.out (Nat.lt_of_lt_of_le h (nl_mono (Nat.div_le_self _ _))))
      have SV := Kp.mk (show ¬ lng (va * vb % vc) from fun h => SP.out (Nat.lt_of_lt_of_le h (nl_mono (Nat.mod_le _ _))))
      have SW := Kp.mk (show ¬ lng (va * vb / vc * vc) from fun h => SP.out (Nat.lt_of_lt_of_le h (nl_mono (Nat.div_mul_le_self _ _))))
      have SX := Kp.mk (show ¬ lng (va * vb / vc * vc + va * vb % vc) by rw [hdm]; exact SP.out)
      have HDM := Kp.mk hdm
      have HML := Kp.mk hml
      have H0 := Kp.mk h0
      clear hdm hml h0
      generalize va * vb = vp at *
      go_wp2_with fail
      refine (DivV NP.out NC2.out SP.out SC.out H0.out).mono ?_
      rintro e w15 ⟨Au, nu, cu, Av, nv, cv, rfl, ou, ov, x15⟩
      have NU := Kp.mk (Nv.of ou SU.out)
      have NV := Kp.mk (Nv.of ov SV.out)
      clear ou ov
      go_wp2_with fail
      refine (CmpV (NC2.out.ext (by (repeat (first | assumption | exact Ext.refl _ | apply Ext.drew | apply Ext.drewN | apply Ext.alloc | refine Ext.trans ?_ (by assumption))); first | done | fail)) (Nv.nil _) 1 (cmpI_gt (Nat.pos_of_ne_zero H0.out))).mono ?_
      rintro e w16 ⟨rfl, x16⟩
      go_wp2_with fail
      refine (MulV (NU.out.ext (by (repeat (first | assumption | exact Ext.refl _ | apply Ext.drew | apply Ext.drewN | apply Ext.alloc | refine Ext.trans ?_ (by assumption))); first | done | fail)) (NC2.out.ext (by (repeat (first | assumption | exact Ext.refl _ | apply Ext.drew | apply Ext.drewN | apply Ext.alloc | refine Ext.trans ?_ (by assumption))); first | done | fail)) SU.out SC.out).mono ?_
      rintro e w17 ⟨Aw, nw, cw, rfl, ow, x17⟩
      have NW := Kp.mk (Nv.of ow SW.out)
      clear ow
      go_wp2_with fail
      refine (AddV (NW.out.ext (by (repeat (first | assumption | exact Ext.refl _ | apply Ext.drew | apply Ext.drewN | apply Ext.alloc | refine Ext.trans ?_ (by assumption))); first | done | fail)) (NV.out.ext (by (repeat (first | assumption | exact Ext.refl _ | apply Ext.drew | apply Ext.drewN | apply Ext.alloc | refine Ext.trans ?_ (by assumption))); first | done | fail)) SW.out SV.out).mono ?_
      rintro e w18 ⟨Ax, nx, cx, rfl, ox, x18⟩
      have NX := Kp.mk (Nv.of ox SX.out)
      clear ox
      go_wp2_with fail
      refine (CmpV (NX.out.ext (by (repeat (first | assumption | exact Ext.refl _ | apply Ext.drew | apply Ext.drewN | apply Ext.alloc | refine Ext.trans ?_ (by assumption))); first | done | fail)) (NP.out.ext (by (repeat (first | assumption | exact Ext.refl _ | apply Ext.drew | apply Ext.drewN | apply Ext.alloc | refine Ext.trans ?_ (by assumption))); first | done | fail)) 0 (cmpI_same HDM.out)).mono ?_
      rintro e w19 ⟨rfl, x19⟩
      go_wp2_with fail
      refine (CmpV (NV.out.ext (by (repeat (first | assumption | exact Ext.refl _ | apply Ext.drew | apply Ext.drewN | apply Ext.alloc | refine Ext.trans ?_ (by assumption))); first | done | fail)) (NC2.out.ext (by (repeat (first | assumption | exact Ext.refl _ | apply Ext.drew | apply Ext.drewN | apply Ext.alloc | refine Ext.trans ?_ (by assumption))); first | done | fail)) (-1) (cmpI_lt HML.out)).mono ?_
      rintro e w20 ⟨rfl, x20⟩
      have HB := Kp.mk (HX.out.trans (show Ext w14 w20 from (by (repeat (first | assumption | exact Ext.refl _ | apply Ext.drew | apply Ext.drewN | apply Ext.alloc | refine Ext.trans ?_ (by assumption))); first | done | fail)))
      clear x15 x16 x17 x18 x19 x20
      go_wp2_with fail
      go_ret
      exact ⟨rfl, HB.out.b⟩
  · have hc3 : (15 < n) ∨ (n ≤ 15 ∧ 15 < m) ∨ (n ≤ 15 ∧ m ≤ 15 ∧ 15 < k) := by omega
    clear hs ha hb hc da db dc
    rcases hc3 with h | ⟨h1, h⟩ | ⟨h1, h2, h⟩
    · have b1 : decide ((15 : Int) < (n : Int)) = true := decide_eq_true (by omega)
      go_enter Try.func9, Try.ntmps9
      go_wp2_with fail
      refine HU.out.mono ?_
      rintro e w1 ⟨rfl, x1⟩
      go_wp2_with fail
      go_ret
      exact ⟨rfl, x1.b⟩
    · have b1 : decide ((15 : Int) < (n : Int)) = false := decide_eq_false (by omega)
      have b2 : decide ((15 : Int) < (m : Int)) = true := decide_eq_true (by omega)
      go_enter Try.func9, Try.ntmps9
      go_wp2_with fail
      refine HU.out.mono ?_
      rintro e w1 ⟨rfl, x1⟩
      go_wp2_with fail
      go_ret
      exact ⟨rfl, x1.b⟩
    · have b1 : decide ((15 : Int) < (n : Int)) = false := decide_eq_false (by omega)
      have b2 : decide ((15 : Int) < (m : Int)) = false := decide_eq_false (by omega)
      have b3 : decide ((15 : Int) < (k : Int)) = true := decide_eq_true (by omega)
      go_enter Try.func9, Try.ntmps9
      go_wp2_with fail
      refine HU.out.mono ?_
      rintro e w1 ⟨rfl, x1⟩
      go_wp2_with fail
      go_ret
      exact ⟨rfl, x1.b⟩
end Go.Proofs.Ytpmoaccaknfodaa
