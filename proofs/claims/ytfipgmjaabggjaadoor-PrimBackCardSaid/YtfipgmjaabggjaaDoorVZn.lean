/-
  The walk of the law PrimBack.
-/
import Derived.Test.YtfipgmjaabggjaaDoorM25
import Derived.Test.YtfipgmjaabggjaaDoorM24
import Derived.Test.YtfipgmjaabggjaaDoorVVs
import Derived.Test.YtfipgmjaabggjaaDoorVVz
import Derived.Test.YtfipgmjaabggjaaDoorM26
namespace Go.Proofs.YtfipgmjaabggjaaDoor
open Go Go.RowKit
set_option maxRecDepth 4000

theorem tcV_bounds {b : List (BitVec 8)} (ht : tcB b = true) (h8 : b.length ≤ 8) : -9223372036854775808 ≤ tcV b ∧ tcV b < 9223372036854775808 := by
  have hne : b ≠ [] := fun e => by rw [e] at ht; cases ht
  have h := tcV_range b hne
  have h2 : tcH b.length ≤ 9223372036854775808 := by
    unfold tcH
    have h3 : 256 ^ (b.length - 1) ≤ 256 ^ 7 := Nat.pow_le_pow_right (by decide) (by omega)
    omega
  omega
set_option maxHeartbeats 16000000 in
theorem PrimBack_any (n0 : Int) (hn0 : -9223372036854775808 ≤ n0 ∧ n0 ≤ 9223372036854775807) {la : List Nat} {A0 : Option Addr} {a0 d0 : Nat} {w : World} (hA : Rd vL w A0 a0 d0 la) (hAd : Dg BB la) {ll : List Nat} {A1 : Option Addr} {a1 d1 : Nat} (hL : Rd vL w A1 a1 d1 ll) (hLd : Dg 4294967296 ll)
    (y mo d h mi s : Int) {b : List (BitVec 8)} {B : Option Addr} {m e0 : Nat} (hb : Bs w B m e0 b) :
    Calls Tryd.prog 5 #[.int .i64 n0, .slice A0 a0 d0, .slice A1 a1 d1, .agg (tci y mo d h mi s), .slice B m e0] w fun e w' => e = .returned (.bool true) ∧ Below w.heap.size w w' := by
  have HA := Kp.mk hA
  have HAd := Kp.mk hAd
  have HL := Kp.mk hL
  have HLd := Kp.mk hLd
  have HB := Kp.mk hb
  have HN0 := Kp.mk hn0
  have HBT := Kp.mk (Blk.new w tmt (tci y mo d h mi s))
  obtain ⟨W0, hW0⟩ : ∃ W0, W0 = w.alloc (.cells (tci y mo d h mi s) tmt) := ⟨_, rfl⟩
  have hx0 : Ext w W0 := by rw [hW0]; exact (by (repeat (first | assumption | exact Ext.refl _ | apply Ext.drew | apply Ext.drewN | apply Ext.alloc | refine Ext.trans ?_ (by assumption))); first | done | fail)
  have X0 := Kp.mk hx0
  have hmay : (∃ t, MayT t ∧ tci y mo d h mi s = tcs t) ∨ ¬ MayI y mo d h mi s := by
    by_cases hM : MayI y mo d h mi s
    · obtain ⟨t, ht, rfl, rfl, rfl, rfl, rfl, rfl⟩ := hM
      exact .inl ⟨t, ht, rfl⟩
    · exact .inr hM
  have HMay := Kp.mk hmay
  have hneq := neq_time y mo d h mi s
  clear hA hAd hL hLd hb hx0 hn0 hmay
  by_cases h60 : 60 < a0
  · as_aux_lemma =>
    have bz : decide ((60 : Int) < (a0 : Int)) = true := decide_eq_true (by omega)
    clear h60
    unfold tci at *
    go_enter Tryd.func5, Tryd.ntmps5
    go_wp2_with fail
    rw [← hW0] at HBT ⊢
    clear hW0
    refine (up8 _).mono ?_
    rintro e w1 ⟨rfl, x1⟩
    have X1 := Kp.mk (X0.out.trans x1)
    clear x1
    go_wp2_with fail
    go_ret
    exact ⟨rfl, X1.out.b⟩
  have b_h60 : decide ((60 : Int) < (a0 : Int)) = false := decide_eq_false (by omega)
  by_cases h50 : 50 < a1
  · as_aux_lemma =>
    have bz : decide ((50 : Int) < (a1 : Int)) = true := decide_eq_true (by omega)
    clear h50
    unfold tci at *
    go_enter Tryd.func5, Tryd.ntmps5
    go_wp2_with fail
    rw [← hW0] at HBT ⊢
    clear hW0
    refine (up8 _).mono ?_
    rintro e w1 ⟨rfl, x1⟩
    have X1 := Kp.mk (X0.out.trans x1)
    clear x1
    go_wp2_with fail
    go_ret
    exact ⟨rfl, X1.out.b⟩
  have b_h50 : decide ((50 : Int) < (a1 : Int)) = false := decide_eq_false (by omega)
  by_cases h200 : 200 < m
  · as_aux_lemma =>
    have bz : decide ((200 : Int) < (m : Int)) = true := decide_eq_true (by omega)
    clear h200
    unfold tci at *
    go_enter Tryd.func5, Tryd.ntmps5
    go_wp2_with fail
    rw [← hW0] at HBT ⊢
    clear hW0
    refine (up8 _).mono ?_
    rintro e w1 ⟨rfl, x1⟩
    have X1 := Kp.mk (X0.out.trans x1)
    clear x1
    go_wp2_with fail
    go_ret
    exact ⟨rfl, X1.out.b⟩
  have b_h200 : decide ((200 : Int) < (m : Int)) = false := decide_eq_false (by omega)
  have HNv := Kp.mk (Nv.small HA.out HAd.out (by omega))
  have hvb := vl_len HA.out HAd.out
  obtain ⟨v, hv⟩ : ∃ v, vl BB la = v := ⟨_, rfl⟩
  rw [hv] at HNv hvb
  have hvb2 : v < BB ^ 60 := Nat.lt_of_lt_of_le hvb (Nat.pow_le_pow_right (by decide) (by omega))
  have HVB := Kp.mk hvb2
  have HSh := Kp.mk (short_of hvb2 (by decide))
  have hm : m ≤ 200 := by omega
  have ha1 : a1 ≤ 50 := by omega
  clear h60 h50 h200 hv hvb hvb2 HA HAd
  unfold tci at HBT hW0 hneq ⊢
  go_enter Tryd.func5, Tryd.ntmps5
  go_wp2_with fail
  rw [← hW0] at HBT ⊢
  clear hW0
  refine (up8 _).mono ?_
  rintro e w1 ⟨rfl, x1⟩
  have Y1 := Kp.mk x1
  have X1 := Kp.mk (X0.out.trans x1)
  clear x1
  obtain ⟨k, lI, hlI, hk1, hk8, hb1, hv1, hC⟩ := Int_any n0 w1 HN0.out.1 (by have := HN0.out.2; omega)
  have HK := Kp.mk hlI
  have HKI := Kp.mk hb1
  have HVI := Kp.mk hv1
  clear hlI hb1 hv1
  go_wp2_with fail
  refine hC.mono ?_
  clear hC
  rintro e w2 ⟨A2, c2, rfl, s2, _, x2⟩
  have Y2 := Kp.mk (Y1.out.trans x2)
  have X2 := Kp.mk (X1.out.trans x2)
  have S2 := Kp.mk s2
  clear x2 s2
  go_wp2_with fail
  refine (ReadInt_any S2.out n0 .nilIface (.inr (.inr ⟨HKI.out, hk8, HVI.out.symm, rfl⟩))).mono ?_
  rintro e w3 ⟨rfl, x3⟩
  have Y3 := Kp.mk (Y2.out.trans x3)
  have X3 := Kp.mk (X2.out.trans x3)
  clear x3 S2 HK HKI HVI hk1 hk8
  go_wp2_with fail
  refine (Big_any (HNv.out.ext X3.out)).mono ?_
  rintro e w4 (⟨hno, _⟩ | ⟨_, A4, c4, rfl, s4, _, x4⟩)
  · exact absurd hno HSh.out
  have Y4 := Kp.mk (Y3.out.trans x4)
  have X4 := Kp.mk (X3.out.trans x4)
  have hln : (bigL v).length ≤ 1000000 := by
    have h1 := lng_nb HSh.out
    have h2 := sml_len v
    unfold bigL
    split
    · simp; omega
    · omega
  have HRb := Kp.mk (ReadBig_any s4 hln)
  have hob := big_ok v
  have hbn : vl 256 ((bigL v).map BitVec.toNat).reverse = v := bnum_big v
  rw [ReadR_eq, hbn] at HRb
  have HOb := Kp.mk hob
  clear x4 s4 hln hob hbn
  generalize bigL v = Lb at *
  generalize Lb.length = NLb at *
  go_wp2_with fail
  refine HRb.out.mono ?_
  rintro e w5 (⟨hz, _⟩ | ⟨_, ⟨hz, _⟩ | ⟨_, A5, n5, c5, rfl, r5, x5⟩⟩)
  · rw [HOb.out] at hz; cases hz
  · have h1 := HVB.out
    rw [show BB = 256 ^ 4 by decide, ← Nat.pow_mul] at h1
    exact absurd (Nat.lt_of_lt_of_le h1 (Nat.pow_le_pow_right (by decide) (by decide))) (Nat.not_lt_of_le hz)
  have Y5 := Kp.mk (Y4.out.trans x5)
  have X5 := Kp.mk (X4.out.trans x5)
  have HNc := Kp.mk (Nv.of r5 HSh.out)
  clear x5 r5 HRb HOb
  go_wp2_with fail
  refine (OfV HNc.out).mono ?_
  rintro e w6 ⟨A6, n6, c6, rfl, r6, _, x6⟩
  have Y6 := Kp.mk (Y5.out.trans x6)
  have X6 := Kp.mk (X5.out.trans x6)
  have I6 := Kp.mk (Ni.of r6 HVB.out (by decide))
  clear x6 r6
  go_wp2_with fail
  refine (OfV (HNv.out.ext X6.out)).mono ?_
  rintro e w7 ⟨A7, n7, c7, rfl, r7, _, x7⟩
  have Y7 := Kp.mk (Y6.out.trans x7)
  have X7 := Kp.mk (X6.out.trans x7)
  have I7 := Kp.mk (Ni.of r7 HVB.out (by decide))
  have I6' := Kp.mk (I6.out.ext x7)
  clear x7 r7
  go_wp2_with fail
  refine (RCmpV I6'.out I7.out 0 (cmpI_same rfl)).mono ?_
  rintro e w8 ⟨rfl, x8⟩
  have Y8 := Kp.mk (Y7.out.trans x8)
  have X8 := Kp.mk (X7.out.trans x8)
  clear x8 I6 I6' I7 HNc HNv HVB HSh
  go_wp2_with fail
  refine (Oid_any (HL.out.ext X8.out) HLd.out).mono ?_
  rintro e w9 (⟨_, rfl, x9⟩ | ⟨hP, A9, c9, rfl, s9, _, x9⟩)
  · have Y9 := Kp.mk (Y8.out.trans x9)
    have X9 := Kp.mk (X8.out.trans x9)
    clear x9
    rcases HMay.out with ⟨t, ht, et⟩ | hno
    · have hTT := fun W => Time_ok t ht W
      have hCC := fun W => Count_ok t ht W
      have hAt := fun W => At_ok t ht W
      have e13 := et.symm
      rw [← et] at hTT hCC hAt
      unfold tci at hTT hCC hAt e13
      have HTT := Kp.mk hTT
      have HCC := Kp.mk hCC
      have HAt := Kp.mk hAt
      have E13 := Kp.mk e13
      have HTm := Kp.mk ht
      have HRT := Kp.mk (fun (W : World) (A : Option Addr) (c : Nat) (hs : Bs W A (tmB t).length c (tmB t)) => ReadTime_any (tmM t) hs)
      unfold RTime at HRT
      clear hTT hCC hAt e13 et ht
      have q0 := fun (W : World) (hx : Ext w9 W) => (box6 HBT.out (Y9.out.trans hx)).1
      have q1 := fun (W : World) (hx : Ext w9 W) => (box6 HBT.out (Y9.out.trans hx)).2.1
      have q2 := fun (W : World) (hx : Ext w9 W) => (box6 HBT.out (Y9.out.trans hx)).2.2.1
      have q3 := fun (W : World) (hx : Ext w9 W) => (box6 HBT.out (Y9.out.trans hx)).2.2.2.1
      have q4 := fun (W : World) (hx : Ext w9 W) => (box6 HBT.out (Y9.out.trans hx)).2.2.2.2.1
      have q5 := fun (W : World) (hx : Ext w9 W) => (box6 HBT.out (Y9.out.trans hx)).2.2.2.2.2
      go_wp2_with fail
      refine (HTT.out _).mono ?_
      rintro e w30 ⟨A30, c30, rfl, o30, x30⟩
      have Y30 := Kp.mk (Y9.out.trans x30)
      have X30 := Kp.mk (X9.out.trans x30)
      have HR1 := Kp.mk (HRT.out _ _ _ o30.bs)
      have HMB := Kp.mk (fun t' (h1 : MayT t') (h2 : tmM t' = tmM t) (h3 : tmB t' = tmB t) => tmB_inj h1 HTm.out h2 h3)
      have HMM := Kp.mk (show ∃ t', MayT t' ∧ tmM t' = tmM t ∧ tmB t' = tmB t from ⟨t, HTm.out, rfl, rfl⟩)
      clear x30 o30 HRT q0 q1 q2 q3 q4 q5
      generalize cntT t = CT at *
      generalize (tmB t).length = NT at *
      generalize ub (tmM t) = MT at *
      go_wp2_with fail
      refine HR1.out.mono ?_
      rintro e w31 (⟨hno, _⟩ | ⟨t', ht', hm', hb', he, x31⟩)
      · exact absurd HMM.out hno
      obtain rfl : t' = t := HMB.out t' ht' hm' hb'
      rw [E13.out] at he
      subst he
      have Y31 := Kp.mk (Y30.out.trans x31)
      have X31 := Kp.mk (X30.out.trans x31)
      clear x31 hm' hb' ht' HR1 HMB HMM
      have q0 := fun (W : World) (hx : Ext w31 W) => (box6 HBT.out (Y31.out.trans hx)).1
      have q1 := fun (W : World) (hx : Ext w31 W) => (box6 HBT.out (Y31.out.trans hx)).2.1
      have q2 := fun (W : World) (hx : Ext w31 W) => (box6 HBT.out (Y31.out.trans hx)).2.2.1
      have q3 := fun (W : World) (hx : Ext w31 W) => (box6 HBT.out (Y31.out.trans hx)).2.2.2.1
      have q4 := fun (W : World) (hx : Ext w31 W) => (box6 HBT.out (Y31.out.trans hx)).2.2.2.2.1
      have q5 := fun (W : World) (hx : Ext w31 W) => (box6 HBT.out (Y31.out.trans hx)).2.2.2.2.2
      have HB25 := Kp.mk (Blk.new w31 tmt #[.int .i64 y, .int .i64 mo, .int .i64 d, .int .i64 h, .int .i64 mi, .int .i64 s])
      have hx31 : Ext w31 (w31.alloc (.cells #[.int .i64 y, .int .i64 mo, .int .i64 d, .int .i64 h, .int .i64 mi, .int .i64 s] tmt)) := (by (repeat (first | assumption | exact Ext.refl _ | apply Ext.drew | apply Ext.drewN | apply Ext.alloc | refine Ext.trans ?_ (by assumption))); first | done | fail)
      go_wp2_with fail
      refine (HCC.out _).mono ?_
      rintro e w32 ⟨rfl, x32⟩
      have Y32 := Kp.mk (Y31.out.trans (hx31.trans x32))
      have X32 := Kp.mk (X31.out.trans (hx31.trans x32))
      have HB26 := Kp.mk (HB25.out.ext x32)
      clear x32 hx31 q0 q1 q2 q3 q4 q5 HB25
      go_wp2_with fail
      refine (HAt.out _).mono ?_
      rintro e w33 ⟨rfl, x33⟩
      have Y33 := Kp.mk (Y32.out.trans x33)
      have X33 := Kp.mk (X32.out.trans x33)
      have HB27 := Kp.mk (HB26.out.ext x33)
      clear x33 HB26
      have q0 := fun (W : World) (hx : Ext w33 W) => (box6 HBT.out (Y33.out.trans hx)).1
      have q1 := fun (W : World) (hx : Ext w33 W) => (box6 HBT.out (Y33.out.trans hx)).2.1
      have q2 := fun (W : World) (hx : Ext w33 W) => (box6 HBT.out (Y33.out.trans hx)).2.2.1
      have q3 := fun (W : World) (hx : Ext w33 W) => (box6 HBT.out (Y33.out.trans hx)).2.2.2.1
      have q4 := fun (W : World) (hx : Ext w33 W) => (box6 HBT.out (Y33.out.trans hx)).2.2.2.2.1
      have q5 := fun (W : World) (hx : Ext w33 W) => (box6 HBT.out (Y33.out.trans hx)).2.2.2.2.2
      have r0 := fun (W : World) (hx : Ext w33 W) => (box6 HB27.out ((Ext.refl w33).trans hx)).1
      have r1 := fun (W : World) (hx : Ext w33 W) => (box6 HB27.out ((Ext.refl w33).trans hx)).2.1
      have r2 := fun (W : World) (hx : Ext w33 W) => (box6 HB27.out ((Ext.refl w33).trans hx)).2.2.1
      have r3 := fun (W : World) (hx : Ext w33 W) => (box6 HB27.out ((Ext.refl w33).trans hx)).2.2.2.1
      have r4 := fun (W : World) (hx : Ext w33 W) => (box6 HB27.out ((Ext.refl w33).trans hx)).2.2.2.2.1
      have r5 := fun (W : World) (hx : Ext w33 W) => (box6 HB27.out ((Ext.refl w33).trans hx)).2.2.2.2.2
      go_wp2_with fail
      have hx34 : Ext w33 (w33.alloc (.cells #[.int .i64 y, .int .i64 mo, .int .i64 d, .int .i64 h, .int .i64 mi, .int .i64 s] tmt)) := (by (repeat (first | assumption | exact Ext.refl _ | apply Ext.drew | apply Ext.drewN | apply Ext.alloc | refine Ext.trans ?_ (by assumption))); first | done | fail)
      have Y34 := Kp.mk (Y33.out.trans hx34)
      have X34 := Kp.mk (X33.out.trans hx34)
      clear hx34 q0 q1 q2 q3 q4 q5 r0 r1 r2 r3 r4 r5 HTT HCC HAt HB27
      generalize w33.alloc (.cells #[.int .i64 y, .int .i64 mo, .int .i64 d, .int .i64 h, .int .i64 mi, .int .i64 s] tmt) = w34 at *
      have HI := Kp.mk (HB.out.ext X34.out)
      have key : ∃ (vI : Int) (eI : Value), (tcB b = true ∧ m ≤ 8 ∧ vI = tcV b ∧ eI = .nilIface ∨ ((∃ z, eI = err z) ∧ vI = 0)) ∧ Calls Tryd.prog 18 #[.slice B m e0] w34 fun e w' => e = .returned (.tuple #[.int .i64 vI, eI]) ∧ Ext w34 w' := by
        cases ht : tcB b with
        | false => exact ⟨0, err 2, .inr ⟨⟨2, rfl⟩, rfl⟩, ReadInt_any HI.out 0 (err 2) (.inl ⟨ht, rfl, rfl⟩)⟩
        | true =>
          by_cases h8 : m ≤ 8
          · exact ⟨tcV b, .nilIface, .inl ⟨rfl, h8, rfl, rfl⟩, ReadInt_any HI.out (tcV b) .nilIface (.inr (.inr ⟨ht, h8, rfl, rfl⟩))⟩
          · exact ⟨0, err 4, .inr ⟨⟨4, rfl⟩, rfl⟩, ReadInt_any HI.out 0 (err 4) (.inr (.inl ⟨ht, by omega, rfl, rfl⟩))⟩
      obtain ⟨vI, eI, hK, hRI⟩ := key
      have HRI := Kp.mk hRI
      clear hRI HI
      rcases hK with ⟨hI1, hI2, rfl, rfl⟩ | ⟨⟨z, rfl⟩, rfl⟩
      · have HI1 := Kp.mk hI1
        have HTR := Kp.mk (tcV_bounds (b := b) hI1 (by rw [HB.out.len]; exact hI2))
        clear hI1 hI2
        refine HRI.out.mono ?_
        rintro e w35 ⟨rfl, xa⟩
        have Y35 := Kp.mk (Y34.out.trans xa)
        have X35 := Kp.mk (X34.out.trans xa)
        clear xa HRI
        go_wp2_with fail
        refine (ReadOid_any (HB.out.ext X35.out)).mono ?_
        rintro e w36 (⟨_, rfl, xa⟩ | ⟨hPo, hEo, Ao1, co1, rfl, ro, xa⟩)
        · have Y36 := Kp.mk (Y35.out.trans xa)
          have X36 := Kp.mk (X35.out.trans xa)
          clear xa
          go_wp2_with fail
          refine (ReadBits_any (HB.out.ext X36.out) (by omega)).mono ?_
          unfold RBits
          rintro e w37 (⟨_, rfl, xa⟩ | ⟨hby, Ab, cb, rfl, ob, xa⟩)
          · as_aux_lemma =>
            have Y37 := Kp.mk (Y36.out.trans xa)
            have X37 := Kp.mk (X36.out.trans xa)
            clear xa
            have hxb : Ext w37 (w37.alloc (.cells #[.slice none 0 0, .int .i64 0] bit)) := (by (repeat (first | assumption | exact Ext.refl _ | apply Ext.drew | apply Ext.drewN | apply Ext.alloc | refine Ext.trans ?_ (by assumption))); first | done | fail)
            go_upto_region 26 with fail
            have Y38 := Kp.mk (Y37.out.trans hxb)
            have X38 := Kp.mk (X37.out.trans hxb)
            clear hxb
            generalize w37.alloc (.cells #[.slice none 0 0, .int .i64 0] bit) = w38 at *
            have SB := Kp.mk ((HB.out.ext X38.out).str (Ext.refl _))
            obtain ⟨ki, li, hli, hki1, hki8, hbi, hvi, hCi⟩ := Int_any (tcV b) w38.drew HTR.out.1 HTR.out.2
            obtain rfl : li = b := tcV_inj hbi HI1.out hvi
            obtain rfl : m = ki := HB.out.len.symm.trans hli
            have HCi := Kp.mk hCi
            clear hCi hbi hvi hli hki1 hki8
            generalize tcV li = vI at *
            refine wp_region_held_drew (S := fun w' => Ext w38 w') (by kernel_rfl) (Ext.refl w38).drew (fun hHeld => ?_)
            have hcb := fun (w' : World) (hx : Ext w38 w') => (HB.out.ext (X38.out.trans hx)).str (Ext.refl _)
            refine wpAnyH_take (i := 0) (oi := ⟨some 172, _, _, _, _, _⟩) (v := ?_) rfl (by kernel_rfl) (by kernel_rfl) (by kernel_rfl) (fun _ _ _ h => h) (Or.inl ⟨by rfl, ?_⟩) (by assumption) ?_
            rotate_left
            · (intro w hSw; (try dsimp only at hSw); go_simp; try with_reducible rfl)
            try simp only [Act.put, List.setIfInBounds_toArray, List.set_cons_zero, List.set_cons_succ]
            refine wpAnyH_take (i := 1) (oi := ⟨some 173, _, _, _, _, _⟩) (v := ?_) rfl (by kernel_rfl) (by kernel_rfl) (by kernel_rfl) (fun _ _ _ h => h) (Or.inl ⟨by rfl, ?_⟩) (by assumption) ?_
            rotate_left
            · (intro w hSw; (try dsimp only at hSw); go_simp; try with_reducible rfl)
            try simp only [Act.put, List.setIfInBounds_toArray, List.set_cons_zero, List.set_cons_succ]
            refine wpAnyH_take (i := 2) (oi := ⟨some 174, _, _, _, _, _⟩) (v := ?_) rfl (by kernel_rfl) (by kernel_rfl) (by kernel_rfl) (fun _ _ _ h => h) (Or.inl ⟨by rfl, ?_⟩) (by assumption) ?_
            rotate_left
            · (intro w hSw; (try dsimp only at hSw); go_simp; try with_reducible rfl)
            try simp only [Act.put, List.setIfInBounds_toArray, List.set_cons_zero, List.set_cons_succ]
            refine wpAnyH_take (i := 3) (oi := ⟨some 175, _, _, _, _, _⟩) (v := ?_) rfl (by kernel_rfl) (by kernel_rfl) (by kernel_rfl) (fun _ _ _ h => h) (Or.inl ⟨by rfl, ?_⟩) (by assumption) ?_
            rotate_left
            · (intro w hSw; (try dsimp only at hSw); go_simp; try with_reducible rfl)
            try simp only [Act.put, List.setIfInBounds_toArray, List.set_cons_zero, List.set_cons_succ]
            refine wpAnyH_take (i := 6) (oi := ⟨some 178, _, _, _, _, _⟩) (v := ?_) rfl (by kernel_rfl) (by kernel_rfl) (by kernel_rfl) (fun _ _ _ h => h) (Or.inl ⟨by rfl, ?_⟩) (by assumption) ?_
            rotate_left
            · (intro w hSw; (try dsimp only at hSw); go_simp; try with_reducible rfl)
            try simp only [Act.put, List.setIfInBounds_toArray, List.set_cons_zero, List.set_cons_succ]
            refine wpAnyH_take (i := 7) (oi := ⟨some 179, _, _, _, _, _⟩) (v := ?_) rfl (by kernel_rfl) (by kernel_rfl) (by kernel_rfl) (fun _ _ _ h => h) (Or.inl ⟨by rfl, ?_⟩) (by assumption) ?_
            rotate_left
            · (intro w hSw; (try dsimp only at hSw); go_simp; try with_reducible rfl)
            try simp only [Act.put, List.setIfInBounds_toArray, List.set_cons_zero, List.set_cons_succ]
            refine next_one 4 (by kernel_rfl) rfl (by rfl) fun K' HK' => ?_
            go_simp
            refine HCi.out.mono ?_
            rintro e w39 ⟨Ai, ci, rfl, si, _, xi⟩
            have hxi : Ext w38 w39 := (by (repeat (first | assumption | exact Ext.refl _ | apply Ext.drew | apply Ext.drewN | apply Ext.alloc | refine Ext.trans ?_ (by assumption))); first | done | fail)
            have Y39 := Kp.mk (Y38.out.trans hxi)
            have X39 := Kp.mk (X38.out.trans hxi)



            have hS2 := Ext.trans hHeld xi
            refine held_go HK' hS2 (fun _ => ?_)
            clear HK'
            refine held_more (S' := fun w' => Ext w39 w') (fun _ h => Ext.trans hS2 h) _ _ _ _ ?_
            clear hHeld hS2
            have hHeld : Ext w39 w39 := Ext.refl _
            try simp only [Act.put, List.setIfInBounds_toArray, List.set_cons_zero, List.set_cons_succ]
            have hci := fun (w' : World) (hx : Ext w39 w') => (si.ext hx).str (Ext.refl _)
            have hcb2 := fun (w' : World) (hx : Ext w39 w') => (HB.out.ext (X39.out.trans hx)).str (Ext.refl _)
            clear hxi hcb
            refine wpAnyH_take (i := 5) (oi := ⟨some 177, _, _, _, _, _⟩) (v := ?_) rfl (by kernel_rfl) (by kernel_rfl) (by kernel_rfl) (fun _ _ _ h => h) (Or.inl ⟨by rfl, ?_⟩) (by assumption) ?_
            rotate_left
            · (intro w hSw; (try dsimp only at hSw); go_simp; try with_reducible rfl)
            try simp only [Act.put, List.setIfInBounds_toArray, List.set_cons_zero, List.set_cons_succ]
            refine wpAnyH_take (i := 8) (oi := ⟨some 180, _, _, _, _, _⟩) (v := ?_) rfl (by kernel_rfl) (by kernel_rfl) (by kernel_rfl) (fun _ _ _ h => h) (Or.inl ⟨by rfl, ?_⟩) (by assumption) ?_
            rotate_left
            · (intro w hSw; (try dsimp only at hSw); go_simp; try with_reducible rfl)
            try simp only [Act.put, List.setIfInBounds_toArray, List.set_cons_zero, List.set_cons_succ]
            refine wpAnyH_take (i := 9) (oi := ⟨some 181, _, _, _, _, _⟩) (v := ?_) rfl (by kernel_rfl) (by kernel_rfl) (by kernel_rfl) (fun _ _ _ h => h) (Or.inl ⟨by rfl, ?_⟩) (by assumption) ?_
            rotate_left
            · (intro w hSw; (try dsimp only at hSw); go_simp; try with_reducible rfl)
            try simp only [Act.put, List.setIfInBounds_toArray, List.set_cons_zero, List.set_cons_succ]
            refine wpAnyH_done (by kernel_rfl) ?_ _
            clear si xi hci hcb2
            have hxd : Ext w39 w39 := Ext.refl _
            go_wp2_with fail
            go_ret
            exact ⟨rfl, X39.out.b⟩
          · as_aux_lemma =>
            have Y37 := Kp.mk (Y36.out.trans xa)
            have X37 := Kp.mk (X36.out.trans xa)
            have HBY := Kp.mk hby
            have HOb := Kp.mk ob
            clear hby ob
            clear xa
            have HBB := Kp.mk (Blk.new w37 bit #[.slice Ab (m - 1) cb, .int .i64 (ub (gb b 0))])
            have hxb : Ext w37 (w37.alloc (.cells #[.slice Ab (m - 1) cb, .int .i64 (ub (gb b 0))] bit)) := (by (repeat (first | assumption | exact Ext.refl _ | apply Ext.drew | apply Ext.drewN | apply Ext.alloc | refine Ext.trans ?_ (by assumption))); first | done | fail)
            have HOB := Kp.mk (HOb.out.ext hxb)
            have hbe := bits_cons (b := b) (by intro e; have := HB.out.len; rw [e] at this; simp at this; have := HBY.out.1; omega)
            have hue : BitVec.ofNat 8 (ub (gb b 0)).toNat = gb b 0 := by unfold ub; simp
            have HBE := Kp.mk (show (BitVec.ofNat 8 (ub (gb b 0)).toNat :: b.drop 1) = b by rw [hue]; exact hbe.symm)
            clear hbe hue
            generalize ub (gb b 0) = ubz at *
            go_upto_region 26 with fail
            have Y38 := Kp.mk (Y37.out.trans hxb)
            have X38 := Kp.mk (X37.out.trans hxb)
            clear hxb
            generalize w37.alloc (.cells #[.slice Ab (m - 1) cb, .int .i64 ubz] bit) = w38 at *
            have SB := Kp.mk ((HB.out.ext X38.out).str (Ext.refl _))
            obtain ⟨ki, li, hli, hki1, hki8, hbi, hvi, hCi⟩ := Int_any (tcV b) w38.drew HTR.out.1 HTR.out.2
            obtain rfl : li = b := tcV_inj hbi HI1.out hvi
            obtain rfl : m = ki := HB.out.len.symm.trans hli
            have HCi := Kp.mk hCi
            clear hCi hbi hvi hli hki1 hki8
            generalize tcV li = vI at *
            refine wp_region_held_drew (S := fun w' => Ext w38 w') (by kernel_rfl) (Ext.refl w38).drew (fun hHeld => ?_)
            have hcb := fun (w' : World) (hx : Ext w38 w') => (HB.out.ext (X38.out.trans hx)).str (Ext.refl _)
            refine wpAnyH_take (i := 0) (oi := ⟨some 172, _, _, _, _, _⟩) (v := ?_) rfl (by kernel_rfl) (by kernel_rfl) (by kernel_rfl) (fun _ _ _ h => h) (Or.inl ⟨by rfl, ?_⟩) (by assumption) ?_
            rotate_left
            · (intro w hSw; (try dsimp only at hSw); go_simp; try with_reducible rfl)
            try simp only [Act.put, List.setIfInBounds_toArray, List.set_cons_zero, List.set_cons_succ]
            refine wpAnyH_take (i := 1) (oi := ⟨some 173, _, _, _, _, _⟩) (v := ?_) rfl (by kernel_rfl) (by kernel_rfl) (by kernel_rfl) (fun _ _ _ h => h) (Or.inl ⟨by rfl, ?_⟩) (by assumption) ?_
            rotate_left
            · (intro w hSw; (try dsimp only at hSw); go_simp; try with_reducible rfl)
            try simp only [Act.put, List.setIfInBounds_toArray, List.set_cons_zero, List.set_cons_succ]
            refine wpAnyH_take (i := 2) (oi := ⟨some 174, _, _, _, _, _⟩) (v := ?_) rfl (by kernel_rfl) (by kernel_rfl) (by kernel_rfl) (fun _ _ _ h => h) (Or.inl ⟨by rfl, ?_⟩) (by assumption) ?_
            rotate_left
            · (intro w hSw; (try dsimp only at hSw); go_simp; try with_reducible rfl)
            try simp only [Act.put, List.setIfInBounds_toArray, List.set_cons_zero, List.set_cons_succ]
            refine wpAnyH_take (i := 3) (oi := ⟨some 175, _, _, _, _, _⟩) (v := ?_) rfl (by kernel_rfl) (by kernel_rfl) (by kernel_rfl) (fun _ _ _ h => h) (Or.inl ⟨by rfl, ?_⟩) (by assumption) ?_
            rotate_left
            · (intro w hSw; (try dsimp only at hSw); go_simp; try with_reducible rfl)
            try simp only [Act.put, List.setIfInBounds_toArray, List.set_cons_zero, List.set_cons_succ]
            refine wpAnyH_take (i := 6) (oi := ⟨some 178, _, _, _, _, _⟩) (v := ?_) rfl (by kernel_rfl) (by kernel_rfl) (by kernel_rfl) (fun _ _ _ h => h) (Or.inl ⟨by rfl, ?_⟩) (by assumption) ?_
            rotate_left
            · (intro w hSw; (try dsimp only at hSw); go_simp; try with_reducible rfl)
            try simp only [Act.put, List.setIfInBounds_toArray, List.set_cons_zero, List.set_cons_succ]
            refine wpAnyH_take (i := 7) (oi := ⟨some 179, _, _, _, _, _⟩) (v := ?_) rfl (by kernel_rfl) (by kernel_rfl) (by kernel_rfl) (fun _ _ _ h => h) (Or.inl ⟨by rfl, ?_⟩) (by assumption) ?_
            rotate_left
            · (intro w hSw; (try dsimp only at hSw); go_simp; try with_reducible rfl)
            try simp only [Act.put, List.setIfInBounds_toArray, List.set_cons_zero, List.set_cons_succ]
            refine next_one 4 (by kernel_rfl) rfl (by rfl) fun K' HK' => ?_
            go_simp
            refine HCi.out.mono ?_
            rintro e w39 ⟨Ai, ci, rfl, si, _, xi⟩
            have hxi : Ext w38 w39 := (by (repeat (first | assumption | exact Ext.refl _ | apply Ext.drew | apply Ext.drewN | apply Ext.alloc | refine Ext.trans ?_ (by assumption))); first | done | fail)
            have Y39 := Kp.mk (Y38.out.trans hxi)
            have X39 := Kp.mk (X38.out.trans hxi)

            have HBB2 := Kp.mk (HBB.out.ext hxi)
            have HOB2 := Kp.mk (HOB.out.ext hxi)
            have hS2 := Ext.trans hHeld xi
            refine held_go HK' hS2 (fun _ => ?_)
            clear HK'
            refine held_more (S' := fun w' => Ext w39 w') (fun _ h => Ext.trans hS2 h) _ _ _ _ ?_
            clear hHeld hS2
            have hHeld : Ext w39 w39 := Ext.refl _
            try simp only [Act.put, List.setIfInBounds_toArray, List.set_cons_zero, List.set_cons_succ]
            have hci := fun (w' : World) (hx : Ext w39 w') => (si.ext hx).str (Ext.refl _)
            have hcb2 := fun (w' : World) (hx : Ext w39 w') => (HB.out.ext (X39.out.trans hx)).str (Ext.refl _)
            clear hxi hcb
            refine wpAnyH_take (i := 5) (oi := ⟨some 177, _, _, _, _, _⟩) (v := ?_) rfl (by kernel_rfl) (by kernel_rfl) (by kernel_rfl) (fun _ _ _ h => h) (Or.inl ⟨by rfl, ?_⟩) (by assumption) ?_
            rotate_left
            · (intro w hSw; (try dsimp only at hSw); go_simp; try with_reducible rfl)
            try simp only [Act.put, List.setIfInBounds_toArray, List.set_cons_zero, List.set_cons_succ]
            refine wpAnyH_take (i := 8) (oi := ⟨some 180, _, _, _, _, _⟩) (v := ?_) rfl (by kernel_rfl) (by kernel_rfl) (by kernel_rfl) (fun _ _ _ h => h) (Or.inl ⟨by rfl, ?_⟩) (by assumption) ?_
            rotate_left
            · (intro w hSw; (try dsimp only at hSw); go_simp; try with_reducible rfl)
            try simp only [Act.put, List.setIfInBounds_toArray, List.set_cons_zero, List.set_cons_succ]
            refine wpAnyH_take (i := 9) (oi := ⟨some 181, _, _, _, _, _⟩) (v := ?_) rfl (by kernel_rfl) (by kernel_rfl) (by kernel_rfl) (fun _ _ _ h => h) (Or.inl ⟨by rfl, ?_⟩) (by assumption) ?_
            rotate_left
            · (intro w hSw; (try dsimp only at hSw); go_simp; try with_reducible rfl)
            try simp only [Act.put, List.setIfInBounds_toArray, List.set_cons_zero, List.set_cons_succ]
            refine wpAnyH_done (by kernel_rfl) ?_ _
            clear si xi hci hcb2
            have hxd : Ext w39 w39 := Ext.refl _
            obtain ⟨bx0, bx1⟩ := box2b HBB2.out (Ext.refl _)
            go_wp2_with fail
            refine (Bits_any HOB2.out.bs (by omega) ubz).mono ?_
            rintro e w40 (⟨hno, _⟩ | ⟨_, Ab2, cb2, rfl, sb, _, xb⟩)
            · rw [HBY.out.2] at hno; cases hno
            have X40 := Kp.mk (X39.out.trans xb)
            rw [HBE.out] at sb
            have sc3 := sb.str (Ext.refl _)
            have sc4 := (HB.out.ext X40.out).str (Ext.refl _)
            clear sb xb
            go_wp2_with fail
            go_ret
            exact ⟨rfl, X40.out.b⟩
        · have Y36 := Kp.mk (Y35.out.trans xa)
          have X36 := Kp.mk (X35.out.trans xa)
          have HOi := Kp.mk ro.rd
          have HPo := Kp.mk hPo
          have HEo := Kp.mk hEo
          have HDo := Kp.mk (show Dg 4294967296 (oidU (pmO b)) from oidU_dg (stT_len b b.length (Nat.le_refl _)).2.2)
          clear ro hPo hEo
          generalize oidU (pmO b) = Qo at *
          generalize Qo.length = NQ at *
          clear xa
          go_wp2_with fail
          refine (ReadBits_any (HB.out.ext X36.out) (by omega)).mono ?_
          unfold RBits
          rintro e w37 (⟨_, rfl, xa⟩ | ⟨hby, Ab, cb, rfl, ob, xa⟩)
          · as_aux_lemma =>
            have Y37 := Kp.mk (Y36.out.trans xa)
            have X37 := Kp.mk (X36.out.trans xa)
            have HOi := Kp.mk (HOi.out.ext xa)
            clear xa
            have hxb : Ext w37 (w37.alloc (.cells #[.slice none 0 0, .int .i64 0] bit)) := (by (repeat (first | assumption | exact Ext.refl _ | apply Ext.drew | apply Ext.drewN | apply Ext.alloc | refine Ext.trans ?_ (by assumption))); first | done | fail)
            go_upto_region 26 with fail
            have Y38 := Kp.mk (Y37.out.trans hxb)
            have X38 := Kp.mk (X37.out.trans hxb)
            have HO38 := Kp.mk (HOi.out.ext hxb)
            clear hxb
            generalize w37.alloc (.cells #[.slice none 0 0, .int .i64 0] bit) = w38 at *
            have SB := Kp.mk ((HB.out.ext X38.out).str (Ext.refl _))
            obtain ⟨ki, li, hli, hki1, hki8, hbi, hvi, hCi⟩ := Int_any (tcV b) w38.drew HTR.out.1 HTR.out.2
            obtain rfl : li = b := tcV_inj hbi HI1.out hvi
            obtain rfl : m = ki := HB.out.len.symm.trans hli
            have HCi := Kp.mk hCi
            clear hCi hbi hvi hli hki1 hki8
            generalize tcV li = vI at *
            refine wp_region_held_drew (S := fun w' => Ext w38 w') (by kernel_rfl) (Ext.refl w38).drew (fun hHeld => ?_)
            have hcb := fun (w' : World) (hx : Ext w38 w') => (HB.out.ext (X38.out.trans hx)).str (Ext.refl _)
            refine wpAnyH_take (i := 0) (oi := ⟨some 172, _, _, _, _, _⟩) (v := ?_) rfl (by kernel_rfl) (by kernel_rfl) (by kernel_rfl) (fun _ _ _ h => h) (Or.inl ⟨by rfl, ?_⟩) (by assumption) ?_
            rotate_left
            · (intro w hSw; (try dsimp only at hSw); go_simp; try with_reducible rfl)
            try simp only [Act.put, List.setIfInBounds_toArray, List.set_cons_zero, List.set_cons_succ]
            refine wpAnyH_take (i := 1) (oi := ⟨some 173, _, _, _, _, _⟩) (v := ?_) rfl (by kernel_rfl) (by kernel_rfl) (by kernel_rfl) (fun _ _ _ h => h) (Or.inl ⟨by rfl, ?_⟩) (by assumption) ?_
            rotate_left
            · (intro w hSw; (try dsimp only at hSw); go_simp; try with_reducible rfl)
            try simp only [Act.put, List.setIfInBounds_toArray, List.set_cons_zero, List.set_cons_succ]
            refine wpAnyH_take (i := 2) (oi := ⟨some 174, _, _, _, _, _⟩) (v := ?_) rfl (by kernel_rfl) (by kernel_rfl) (by kernel_rfl) (fun _ _ _ h => h) (Or.inl ⟨by rfl, ?_⟩) (by assumption) ?_
            rotate_left
            · (intro w hSw; (try dsimp only at hSw); go_simp; try with_reducible rfl)
            try simp only [Act.put, List.setIfInBounds_toArray, List.set_cons_zero, List.set_cons_succ]
            refine wpAnyH_take (i := 3) (oi := ⟨some 175, _, _, _, _, _⟩) (v := ?_) rfl (by kernel_rfl) (by kernel_rfl) (by kernel_rfl) (fun _ _ _ h => h) (Or.inl ⟨by rfl, ?_⟩) (by assumption) ?_
            rotate_left
            · (intro w hSw; (try dsimp only at hSw); go_simp; try with_reducible rfl)
            try simp only [Act.put, List.setIfInBounds_toArray, List.set_cons_zero, List.set_cons_succ]
            refine wpAnyH_take (i := 6) (oi := ⟨some 178, _, _, _, _, _⟩) (v := ?_) rfl (by kernel_rfl) (by kernel_rfl) (by kernel_rfl) (fun _ _ _ h => h) (Or.inl ⟨by rfl, ?_⟩) (by assumption) ?_
            rotate_left
            · (intro w hSw; (try dsimp only at hSw); go_simp; try with_reducible rfl)
            try simp only [Act.put, List.setIfInBounds_toArray, List.set_cons_zero, List.set_cons_succ]
            refine wpAnyH_take (i := 7) (oi := ⟨some 179, _, _, _, _, _⟩) (v := ?_) rfl (by kernel_rfl) (by kernel_rfl) (by kernel_rfl) (fun _ _ _ h => h) (Or.inl ⟨by rfl, ?_⟩) (by assumption) ?_
            rotate_left
            · (intro w hSw; (try dsimp only at hSw); go_simp; try with_reducible rfl)
            try simp only [Act.put, List.setIfInBounds_toArray, List.set_cons_zero, List.set_cons_succ]
            refine next_one 4 (by kernel_rfl) rfl (by rfl) fun K' HK' => ?_
            go_simp
            refine HCi.out.mono ?_
            rintro e w39 ⟨Ai, ci, rfl, si, _, xi⟩
            have hxi : Ext w38 w39 := (by (repeat (first | assumption | exact Ext.refl _ | apply Ext.drew | apply Ext.drewN | apply Ext.alloc | refine Ext.trans ?_ (by assumption))); first | done | fail)
            have Y39 := Kp.mk (Y38.out.trans hxi)
            have X39 := Kp.mk (X38.out.trans hxi)
            have HO39 := Kp.mk (HO38.out.ext hxi)


            have hS2 := Ext.trans hHeld xi
            refine held_go HK' hS2 (fun _ => ?_)
            clear HK'
            refine held_more (S' := fun w' => Ext w39 w') (fun _ h => Ext.trans hS2 h) _ _ _ _ ?_
            clear hHeld hS2
            have hHeld : Ext w39 w39 := Ext.refl _
            try simp only [Act.put, List.setIfInBounds_toArray, List.set_cons_zero, List.set_cons_succ]
            have hci := fun (w' : World) (hx : Ext w39 w') => (si.ext hx).str (Ext.refl _)
            have hcb2 := fun (w' : World) (hx : Ext w39 w') => (HB.out.ext (X39.out.trans hx)).str (Ext.refl _)
            clear hxi hcb
            refine wpAnyH_take (i := 5) (oi := ⟨some 177, _, _, _, _, _⟩) (v := ?_) rfl (by kernel_rfl) (by kernel_rfl) (by kernel_rfl) (fun _ _ _ h => h) (Or.inl ⟨by rfl, ?_⟩) (by assumption) ?_
            rotate_left
            · (intro w hSw; (try dsimp only at hSw); go_simp; try with_reducible rfl)
            try simp only [Act.put, List.setIfInBounds_toArray, List.set_cons_zero, List.set_cons_succ]
            refine wpAnyH_take (i := 8) (oi := ⟨some 180, _, _, _, _, _⟩) (v := ?_) rfl (by kernel_rfl) (by kernel_rfl) (by kernel_rfl) (fun _ _ _ h => h) (Or.inl ⟨by rfl, ?_⟩) (by assumption) ?_
            rotate_left
            · (intro w hSw; (try dsimp only at hSw); go_simp; try with_reducible rfl)
            try simp only [Act.put, List.setIfInBounds_toArray, List.set_cons_zero, List.set_cons_succ]
            refine wpAnyH_take (i := 9) (oi := ⟨some 181, _, _, _, _, _⟩) (v := ?_) rfl (by kernel_rfl) (by kernel_rfl) (by kernel_rfl) (fun _ _ _ h => h) (Or.inl ⟨by rfl, ?_⟩) (by assumption) ?_
            rotate_left
            · (intro w hSw; (try dsimp only at hSw); go_simp; try with_reducible rfl)
            try simp only [Act.put, List.setIfInBounds_toArray, List.set_cons_zero, List.set_cons_succ]
            refine wpAnyH_done (by kernel_rfl) ?_ _
            clear si xi hci hcb2
            have hxd : Ext w39 w39 := Ext.refl _
            go_wp2_with fail
            refine (Oid_any HO39.out HDo.out).mono ?_
            rintro e w40 (⟨hno, _⟩ | ⟨_, Ao, co, rfl, so, _, xo⟩)
            · exact absurd HPo.out hno
            have Y40 := Kp.mk (Y39.out.trans xo)
            have X40 := Kp.mk (X39.out.trans xo)


            clear xo
            rw [HEo.out] at so ⊢
            have sc := so.str (Ext.refl _)
            have sc2 := (HB.out.ext X40.out).str (Ext.refl _)
            clear so
            generalize li.length = Nb at *
            go_wp2_with fail
            go_ret
            exact ⟨rfl, X40.out.b⟩
          · as_aux_lemma =>
            have Y37 := Kp.mk (Y36.out.trans xa)
            have X37 := Kp.mk (X36.out.trans xa)
            have HOi := Kp.mk (HOi.out.ext xa)
            have HBY := Kp.mk hby
            have HOb := Kp.mk ob
            clear hby ob
            clear xa
            have HBB := Kp.mk (Blk.new w37 bit #[.slice Ab (m - 1) cb, .int .i64 (ub (gb b 0))])
            have hxb : Ext w37 (w37.alloc (.cells #[.slice Ab (m - 1) cb, .int .i64 (ub (gb b 0))] bit)) := (by (repeat (first | assumption | exact Ext.refl _ | apply Ext.drew | apply Ext.drewN | apply Ext.alloc | refine Ext.trans ?_ (by assumption))); first | done | fail)
            have HOB := Kp.mk (HOb.out.ext hxb)
            have hbe := bits_cons (b := b) (by intro e; have := HB.out.len; rw [e] at this; simp at this; have := HBY.out.1; omega)
            have hue : BitVec.ofNat 8 (ub (gb b 0)).toNat = gb b 0 := by unfold ub; simp
            have HBE := Kp.mk (show (BitVec.ofNat 8 (ub (gb b 0)).toNat :: b.drop 1) = b by rw [hue]; exact hbe.symm)
            clear hbe hue
            generalize ub (gb b 0) = ubz at *
            go_upto_region 26 with fail
            have Y38 := Kp.mk (Y37.out.trans hxb)
            have X38 := Kp.mk (X37.out.trans hxb)
            have HO38 := Kp.mk (HOi.out.ext hxb)
            clear hxb
            generalize w37.alloc (.cells #[.slice Ab (m - 1) cb, .int .i64 ubz] bit) = w38 at *
            have SB := Kp.mk ((HB.out.ext X38.out).str (Ext.refl _))
            obtain ⟨ki, li, hli, hki1, hki8, hbi, hvi, hCi⟩ := Int_any (tcV b) w38.drew HTR.out.1 HTR.out.2
            obtain rfl : li = b := tcV_inj hbi HI1.out hvi
            obtain rfl : m = ki := HB.out.len.symm.trans hli
            have HCi := Kp.mk hCi
            clear hCi hbi hvi hli hki1 hki8
            generalize tcV li = vI at *
            refine wp_region_held_drew (S := fun w' => Ext w38 w') (by kernel_rfl) (Ext.refl w38).drew (fun hHeld => ?_)
            have hcb := fun (w' : World) (hx : Ext w38 w') => (HB.out.ext (X38.out.trans hx)).str (Ext.refl _)
            refine wpAnyH_take (i := 0) (oi := ⟨some 172, _, _, _, _, _⟩) (v := ?_) rfl (by kernel_rfl) (by kernel_rfl) (by kernel_rfl) (fun _ _ _ h => h) (Or.inl ⟨by rfl, ?_⟩) (by assumption) ?_
            rotate_left
            · (intro w hSw; (try dsimp only at hSw); go_simp; try with_reducible rfl)
            try simp only [Act.put, List.setIfInBounds_toArray, List.set_cons_zero, List.set_cons_succ]
            refine wpAnyH_take (i := 1) (oi := ⟨some 173, _, _, _, _, _⟩) (v := ?_) rfl (by kernel_rfl) (by kernel_rfl) (by kernel_rfl) (fun _ _ _ h => h) (Or.inl ⟨by rfl, ?_⟩) (by assumption) ?_
            rotate_left
            · (intro w hSw; (try dsimp only at hSw); go_simp; try with_reducible rfl)
            try simp only [Act.put, List.setIfInBounds_toArray, List.set_cons_zero, List.set_cons_succ]
            refine wpAnyH_take (i := 2) (oi := ⟨some 174, _, _, _, _, _⟩) (v := ?_) rfl (by kernel_rfl) (by kernel_rfl) (by kernel_rfl) (fun _ _ _ h => h) (Or.inl ⟨by rfl, ?_⟩) (by assumption) ?_
            rotate_left
            · (intro w hSw; (try dsimp only at hSw); go_simp; try with_reducible rfl)
            try simp only [Act.put, List.setIfInBounds_toArray, List.set_cons_zero, List.set_cons_succ]
            refine wpAnyH_take (i := 3) (oi := ⟨some 175, _, _, _, _, _⟩) (v := ?_) rfl (by kernel_rfl) (by kernel_rfl) (by kernel_rfl) (fun _ _ _ h => h) (Or.inl ⟨by rfl, ?_⟩) (by assumption) ?_
            rotate_left
            · (intro w hSw; (try dsimp only at hSw); go_simp; try with_reducible rfl)
            try simp only [Act.put, List.setIfInBounds_toArray, List.set_cons_zero, List.set_cons_succ]
            refine wpAnyH_take (i := 6) (oi := ⟨some 178, _, _, _, _, _⟩) (v := ?_) rfl (by kernel_rfl) (by kernel_rfl) (by kernel_rfl) (fun _ _ _ h => h) (Or.inl ⟨by rfl, ?_⟩) (by assumption) ?_
            rotate_left
            · (intro w hSw; (try dsimp only at hSw); go_simp; try with_reducible rfl)
            try simp only [Act.put, List.setIfInBounds_toArray, List.set_cons_zero, List.set_cons_succ]
            refine wpAnyH_take (i := 7) (oi := ⟨some 179, _, _, _, _, _⟩) (v := ?_) rfl (by kernel_rfl) (by kernel_rfl) (by kernel_rfl) (fun _ _ _ h => h) (Or.inl ⟨by rfl, ?_⟩) (by assumption) ?_
            rotate_left
            · (intro w hSw; (try dsimp only at hSw); go_simp; try with_reducible rfl)
            try simp only [Act.put, List.setIfInBounds_toArray, List.set_cons_zero, List.set_cons_succ]
            refine next_one 4 (by kernel_rfl) rfl (by rfl) fun K' HK' => ?_
            go_simp
            refine HCi.out.mono ?_
            rintro e w39 ⟨Ai, ci, rfl, si, _, xi⟩
            have hxi : Ext w38 w39 := (by (repeat (first | assumption | exact Ext.refl _ | apply Ext.drew | apply Ext.drewN | apply Ext.alloc | refine Ext.trans ?_ (by assumption))); first | done | fail)
            have Y39 := Kp.mk (Y38.out.trans hxi)
            have X39 := Kp.mk (X38.out.trans hxi)
            have HO39 := Kp.mk (HO38.out.ext hxi)
            have HBB2 := Kp.mk (HBB.out.ext hxi)
            have HOB2 := Kp.mk (HOB.out.ext hxi)
            have hS2 := Ext.trans hHeld xi
            refine held_go HK' hS2 (fun _ => ?_)
            clear HK'
            refine held_more (S' := fun w' => Ext w39 w') (fun _ h => Ext.trans hS2 h) _ _ _ _ ?_
            clear hHeld hS2
            have hHeld : Ext w39 w39 := Ext.refl _
            try simp only [Act.put, List.setIfInBounds_toArray, List.set_cons_zero, List.set_cons_succ]
            have hci := fun (w' : World) (hx : Ext w39 w') => (si.ext hx).str (Ext.refl _)
            have hcb2 := fun (w' : World) (hx : Ext w39 w') => (HB.out.ext (X39.out.trans hx)).str (Ext.refl _)
            clear hxi hcb
            refine wpAnyH_take (i := 5) (oi := ⟨some 177, _, _, _, _, _⟩) (v := ?_) rfl (by kernel_rfl) (by kernel_rfl) (by kernel_rfl) (fun _ _ _ h => h) (Or.inl ⟨by rfl, ?_⟩) (by assumption) ?_
            rotate_left
            · (intro w hSw; (try dsimp only at hSw); go_simp; try with_reducible rfl)
            try simp only [Act.put, List.setIfInBounds_toArray, List.set_cons_zero, List.set_cons_succ]
            refine wpAnyH_take (i := 8) (oi := ⟨some 180, _, _, _, _, _⟩) (v := ?_) rfl (by kernel_rfl) (by kernel_rfl) (by kernel_rfl) (fun _ _ _ h => h) (Or.inl ⟨by rfl, ?_⟩) (by assumption) ?_
            rotate_left
            · (intro w hSw; (try dsimp only at hSw); go_simp; try with_reducible rfl)
            try simp only [Act.put, List.setIfInBounds_toArray, List.set_cons_zero, List.set_cons_succ]
            refine wpAnyH_take (i := 9) (oi := ⟨some 181, _, _, _, _, _⟩) (v := ?_) rfl (by kernel_rfl) (by kernel_rfl) (by kernel_rfl) (fun _ _ _ h => h) (Or.inl ⟨by rfl, ?_⟩) (by assumption) ?_
            rotate_left
            · (intro w hSw; (try dsimp only at hSw); go_simp; try with_reducible rfl)
            try simp only [Act.put, List.setIfInBounds_toArray, List.set_cons_zero, List.set_cons_succ]
            refine wpAnyH_done (by kernel_rfl) ?_ _
            clear si xi hci hcb2
            have hxd : Ext w39 w39 := Ext.refl _
            obtain ⟨bx0, bx1⟩ := box2b HBB2.out (Ext.refl _)
            go_wp2_with fail
            refine (Oid_any HO39.out HDo.out).mono ?_
            rintro e w40 (⟨hno, _⟩ | ⟨_, Ao, co, rfl, so, _, xo⟩)
            · exact absurd HPo.out hno
            have Y40 := Kp.mk (Y39.out.trans xo)
            have X40 := Kp.mk (X39.out.trans xo)
            have HBB3 := Kp.mk (HBB2.out.ext xo)
            have HOB3 := Kp.mk (HOB2.out.ext xo)
            clear xo
            rw [HEo.out] at so ⊢
            have sc := so.str (Ext.refl _)
            have sc2 := (HB.out.ext X40.out).str (Ext.refl _)
            clear so
            generalize li.length = Nb at *
            obtain ⟨bx0, bx1⟩ := box2b HBB3.out (Ext.refl _)
            go_wp2_with fail
            refine (Bits_any HOB3.out.bs (by omega) ubz).mono ?_
            rintro e w41 (⟨hno, _⟩ | ⟨_, Ab2, cb2, rfl, sb, _, xb⟩)
            · rw [HBY.out.2] at hno; cases hno
            have X41 := Kp.mk (X40.out.trans xb)
            rw [HBE.out] at sb
            have sc3 := sb.str (Ext.refl _)
            have sc4 := (HB.out.ext X41.out).str (Ext.refl _)
            clear sb xb
            go_wp2_with fail
            go_ret
            exact ⟨rfl, X41.out.b⟩
      · refine HRI.out.mono ?_
        rintro e w35 ⟨rfl, xa⟩
        have Y35 := Kp.mk (Y34.out.trans xa)
        have X35 := Kp.mk (X34.out.trans xa)
        clear xa HRI
        go_wp2_with fail
        refine (ReadOid_any (HB.out.ext X35.out)).mono ?_
        rintro e w36 (⟨_, rfl, xa⟩ | ⟨hPo, hEo, Ao1, co1, rfl, ro, xa⟩)
        · have Y36 := Kp.mk (Y35.out.trans xa)
          have X36 := Kp.mk (X35.out.trans xa)
          clear xa
          go_wp2_with fail
          refine (ReadBits_any (HB.out.ext X36.out) (by omega)).mono ?_
          unfold RBits
          rintro e w37 (⟨_, rfl, xa⟩ | ⟨hby, Ab, cb, rfl, ob, xa⟩)
          · as_aux_lemma =>
            have Y37 := Kp.mk (Y36.out.trans xa)
            have X37 := Kp.mk (X36.out.trans xa)
            clear xa
            have hxb : Ext w37 (w37.alloc (.cells #[.slice none 0 0, .int .i64 0] bit)) := (by (repeat (first | assumption | exact Ext.refl _ | apply Ext.drew | apply Ext.drewN | apply Ext.alloc | refine Ext.trans ?_ (by assumption))); first | done | fail)
            go_upto_region 26 with fail
            have Y38 := Kp.mk (Y37.out.trans hxb)
            have X38 := Kp.mk (X37.out.trans hxb)
            clear hxb
            generalize w37.alloc (.cells #[.slice none 0 0, .int .i64 0] bit) = w38 at *
            have SB := Kp.mk ((HB.out.ext X38.out).str (Ext.refl _))
            go_quiet (fail)
            have hxi : Ext w38 (w38.drewN nq) := (by (repeat (first | assumption | exact Ext.refl _ | apply Ext.drew | apply Ext.drewN | apply Ext.alloc | refine Ext.trans ?_ (by assumption))); first | done | fail)
            have Y39 := Kp.mk (Y38.out.trans hxi)
            have X39 := Kp.mk (X38.out.trans hxi)



            clear hxi
            generalize w38.drewN nq = w39 at *
            go_wp2_with fail
            go_ret
            exact ⟨rfl, X39.out.b⟩
          · as_aux_lemma =>
            have Y37 := Kp.mk (Y36.out.trans xa)
            have X37 := Kp.mk (X36.out.trans xa)
            have HBY := Kp.mk hby
            have HOb := Kp.mk ob
            clear hby ob
            clear xa
            have HBB := Kp.mk (Blk.new w37 bit #[.slice Ab (m - 1) cb, .int .i64 (ub (gb b 0))])
            have hxb : Ext w37 (w37.alloc (.cells #[.slice Ab (m - 1) cb, .int .i64 (ub (gb b 0))] bit)) := (by (repeat (first | assumption | exact Ext.refl _ | apply Ext.drew | apply Ext.drewN | apply Ext.alloc | refine Ext.trans ?_ (by assumption))); first | done | fail)
            have HOB := Kp.mk (HOb.out.ext hxb)
            have hbe := bits_cons (b := b) (by intro e; have := HB.out.len; rw [e] at this; simp at this; have := HBY.out.1; omega)
            have hue : BitVec.ofNat 8 (ub (gb b 0)).toNat = gb b 0 := by unfold ub; simp
            have HBE := Kp.mk (show (BitVec.ofNat 8 (ub (gb b 0)).toNat :: b.drop 1) = b by rw [hue]; exact hbe.symm)
            clear hbe hue
            generalize ub (gb b 0) = ubz at *
            go_upto_region 26 with fail
            have Y38 := Kp.mk (Y37.out.trans hxb)
            have X38 := Kp.mk (X37.out.trans hxb)
            clear hxb
            generalize w37.alloc (.cells #[.slice Ab (m - 1) cb, .int .i64 ubz] bit) = w38 at *
            have SB := Kp.mk ((HB.out.ext X38.out).str (Ext.refl _))
            go_quiet (fail)
            have hxi : Ext w38 (w38.drewN nq) := (by (repeat (first | assumption | exact Ext.refl _ | apply Ext.drew | apply Ext.drewN | apply Ext.alloc | refine Ext.trans ?_ (by assumption))); first | done | fail)
            have Y39 := Kp.mk (Y38.out.trans hxi)
            have X39 := Kp.mk (X38.out.trans hxi)

            have HBB2 := Kp.mk (HBB.out.ext hxi)
            have HOB2 := Kp.mk (HOB.out.ext hxi)
            clear hxi
            generalize w38.drewN nq = w39 at *
            obtain ⟨bx0, bx1⟩ := box2b HBB2.out (Ext.refl _)
            go_wp2_with fail
            refine (Bits_any HOB2.out.bs (by omega) ubz).mono ?_
            rintro e w40 (⟨hno, _⟩ | ⟨_, Ab2, cb2, rfl, sb, _, xb⟩)
            · rw [HBY.out.2] at hno; cases hno
            have X40 := Kp.mk (X39.out.trans xb)
            rw [HBE.out] at sb
            have sc3 := sb.str (Ext.refl _)
            have sc4 := (HB.out.ext X40.out).str (Ext.refl _)
            clear sb xb
            go_wp2_with fail
            go_ret
            exact ⟨rfl, X40.out.b⟩
        · have Y36 := Kp.mk (Y35.out.trans xa)
          have X36 := Kp.mk (X35.out.trans xa)
          have HOi := Kp.mk ro.rd
          have HPo := Kp.mk hPo
          have HEo := Kp.mk hEo
          have HDo := Kp.mk (show Dg 4294967296 (oidU (pmO b)) from oidU_dg (stT_len b b.length (Nat.le_refl _)).2.2)
          clear ro hPo hEo
          generalize oidU (pmO b) = Qo at *
          generalize Qo.length = NQ at *
          clear xa
          go_wp2_with fail
          refine (ReadBits_any (HB.out.ext X36.out) (by omega)).mono ?_
          unfold RBits
          rintro e w37 (⟨_, rfl, xa⟩ | ⟨hby, Ab, cb, rfl, ob, xa⟩)
          · as_aux_lemma =>
            have Y37 := Kp.mk (Y36.out.trans xa)
            have X37 := Kp.mk (X36.out.trans xa)
            have HOi := Kp.mk (HOi.out.ext xa)
            clear xa
            have hxb : Ext w37 (w37.alloc (.cells #[.slice none 0 0, .int .i64 0] bit)) := (by (repeat (first | assumption | exact Ext.refl _ | apply Ext.drew | apply Ext.drewN | apply Ext.alloc | refine Ext.trans ?_ (by assumption))); first | done | fail)
            go_upto_region 26 with fail
            have Y38 := Kp.mk (Y37.out.trans hxb)
            have X38 := Kp.mk (X37.out.trans hxb)
            have HO38 := Kp.mk (HOi.out.ext hxb)
            clear hxb
            generalize w37.alloc (.cells #[.slice none 0 0, .int .i64 0] bit) = w38 at *
            have SB := Kp.mk ((HB.out.ext X38.out).str (Ext.refl _))
            go_quiet (fail)
            have hxi : Ext w38 (w38.drewN nq) := (by (repeat (first | assumption | exact Ext.refl _ | apply Ext.drew | apply Ext.drewN | apply Ext.alloc | refine Ext.trans ?_ (by assumption))); first | done | fail)
            have Y39 := Kp.mk (Y38.out.trans hxi)
            have X39 := Kp.mk (X38.out.trans hxi)
            have HO39 := Kp.mk (HO38.out.ext hxi)


            clear hxi
            generalize w38.drewN nq = w39 at *
            go_wp2_with fail
            refine (Oid_any HO39.out HDo.out).mono ?_
            rintro e w40 (⟨hno, _⟩ | ⟨_, Ao, co, rfl, so, _, xo⟩)
            · exact absurd HPo.out hno
            have Y40 := Kp.mk (Y39.out.trans xo)
            have X40 := Kp.mk (X39.out.trans xo)


            clear xo
            rw [HEo.out] at so ⊢
            have sc := so.str (Ext.refl _)
            have sc2 := (HB.out.ext X40.out).str (Ext.refl _)
            clear so
            generalize b.length = Nb at *
            go_wp2_with fail
            go_ret
            exact ⟨rfl, X40.out.b⟩
          · as_aux_lemma =>
            have Y37 := Kp.mk (Y36.out.trans xa)
            have X37 := Kp.mk (X36.out.trans xa)
            have HOi := Kp.mk (HOi.out.ext xa)
            have HBY := Kp.mk hby
            have HOb := Kp.mk ob
            clear hby ob
            clear xa
            have HBB := Kp.mk (Blk.new w37 bit #[.slice Ab (m - 1) cb, .int .i64 (ub (gb b 0))])
            have hxb : Ext w37 (w37.alloc (.cells #[.slice Ab (m - 1) cb, .int .i64 (ub (gb b 0))] bit)) := (by (repeat (first | assumption | exact Ext.refl _ | apply Ext.drew | apply Ext.drewN | apply Ext.alloc | refine Ext.trans ?_ (by assumption))); first | done | fail)
            have HOB := Kp.mk (HOb.out.ext hxb)
            have hbe := bits_cons (b := b) (by intro e; have := HB.out.len; rw [e] at this; simp at this; have := HBY.out.1; omega)
            have hue : BitVec.ofNat 8 (ub (gb b 0)).toNat = gb b 0 := by unfold ub; simp
            have HBE := Kp.mk (show (BitVec.ofNat 8 (ub (gb b 0)).toNat :: b.drop 1) = b by rw [hue]; exact hbe.symm)
            clear hbe hue
            generalize ub (gb b 0) = ubz at *
            go_upto_region 26 with fail
            have Y38 := Kp.mk (Y37.out.trans hxb)
            have X38 := Kp.mk (X37.out.trans hxb)
            have HO38 := Kp.mk (HOi.out.ext hxb)
            clear hxb
            generalize w37.alloc (.cells #[.slice Ab (m - 1) cb, .int .i64 ubz] bit) = w38 at *
            have SB := Kp.mk ((HB.out.ext X38.out).str (Ext.refl _))
            go_quiet (fail)
            have hxi : Ext w38 (w38.drewN nq) := (by (repeat (first | assumption | exact Ext.refl _ | apply Ext.drew | apply Ext.drewN | apply Ext.alloc | refine Ext.trans ?_ (by assumption))); first | done | fail)
            have Y39 := Kp.mk (Y38.out.trans hxi)
            have X39 := Kp.mk (X38.out.trans hxi)
            have HO39 := Kp.mk (HO38.out.ext hxi)
            have HBB2 := Kp.mk (HBB.out.ext hxi)
            have HOB2 := Kp.mk (HOB.out.ext hxi)
            clear hxi
            generalize w38.drewN nq = w39 at *
            obtain ⟨bx0, bx1⟩ := box2b HBB2.out (Ext.refl _)
            go_wp2_with fail
            refine (Oid_any HO39.out HDo.out).mono ?_
            rintro e w40 (⟨hno, _⟩ | ⟨_, Ao, co, rfl, so, _, xo⟩)
            · exact absurd HPo.out hno
            have Y40 := Kp.mk (Y39.out.trans xo)
            have X40 := Kp.mk (X39.out.trans xo)
            have HBB3 := Kp.mk (HBB2.out.ext xo)
            have HOB3 := Kp.mk (HOB2.out.ext xo)
            clear xo
            rw [HEo.out] at so ⊢
            have sc := so.str (Ext.refl _)
            have sc2 := (HB.out.ext X40.out).str (Ext.refl _)
            clear so
            generalize b.length = Nb at *
            obtain ⟨bx0, bx1⟩ := box2b HBB3.out (Ext.refl _)
            go_wp2_with fail
            refine (Bits_any HOB3.out.bs (by omega) ubz).mono ?_
            rintro e w41 (⟨hno, _⟩ | ⟨_, Ab2, cb2, rfl, sb, _, xb⟩)
            · rw [HBY.out.2] at hno; cases hno
            have X41 := Kp.mk (X40.out.trans xb)
            rw [HBE.out] at sb
            have sc3 := sb.str (Ext.refl _)
            have sc4 := (HB.out.ext X41.out).str (Ext.refl _)
            clear sb xb
            go_wp2_with fail
            go_ret
            exact ⟨rfl, X41.out.b⟩
    · have hTn := fun W => Time_no y mo d h mi s W hno
      unfold tci at hTn
      have HTn := Kp.mk hTn
      clear hTn hno
      have q0 := fun (W : World) (hx : Ext w9 W) => (box6 HBT.out (Y9.out.trans hx)).1
      have q1 := fun (W : World) (hx : Ext w9 W) => (box6 HBT.out (Y9.out.trans hx)).2.1
      have q2 := fun (W : World) (hx : Ext w9 W) => (box6 HBT.out (Y9.out.trans hx)).2.2.1
      have q3 := fun (W : World) (hx : Ext w9 W) => (box6 HBT.out (Y9.out.trans hx)).2.2.2.1
      have q4 := fun (W : World) (hx : Ext w9 W) => (box6 HBT.out (Y9.out.trans hx)).2.2.2.2.1
      have q5 := fun (W : World) (hx : Ext w9 W) => (box6 HBT.out (Y9.out.trans hx)).2.2.2.2.2
      go_wp2_with fail
      refine (HTn.out _).mono ?_
      rintro e w34 ⟨rfl, x34⟩
      have Y34 := Kp.mk (Y9.out.trans x34)
      have X34 := Kp.mk (X9.out.trans x34)
      clear x34 q0 q1 q2 q3 q4 q5 HTn
      go_wp2_with fail
      have HI := Kp.mk (HB.out.ext X34.out)
      have key : ∃ (vI : Int) (eI : Value), (tcB b = true ∧ m ≤ 8 ∧ vI = tcV b ∧ eI = .nilIface ∨ ((∃ z, eI = err z) ∧ vI = 0)) ∧ Calls Tryd.prog 18 #[.slice B m e0] w34 fun e w' => e = .returned (.tuple #[.int .i64 vI, eI]) ∧ Ext w34 w' := by
        cases ht : tcB b with
        | false => exact ⟨0, err 2, .inr ⟨⟨2, rfl⟩, rfl⟩, ReadInt_any HI.out 0 (err 2) (.inl ⟨ht, rfl, rfl⟩)⟩
        | true =>
          by_cases h8 : m ≤ 8
          · exact ⟨tcV b, .nilIface, .inl ⟨rfl, h8, rfl, rfl⟩, ReadInt_any HI.out (tcV b) .nilIface (.inr (.inr ⟨ht, h8, rfl, rfl⟩))⟩
          · exact ⟨0, err 4, .inr ⟨⟨4, rfl⟩, rfl⟩, ReadInt_any HI.out 0 (err 4) (.inr (.inl ⟨ht, by omega, rfl, rfl⟩))⟩
      obtain ⟨vI, eI, hK, hRI⟩ := key
      have HRI := Kp.mk hRI
      clear hRI HI
      rcases hK with ⟨hI1, hI2, rfl, rfl⟩ | ⟨⟨z, rfl⟩, rfl⟩
      · have HI1 := Kp.mk hI1
        have HTR := Kp.mk (tcV_bounds (b := b) hI1 (by rw [HB.out.len]; exact hI2))
        clear hI1 hI2
        refine HRI.out.mono ?_
        rintro e w35 ⟨rfl, xa⟩
        have Y35 := Kp.mk (Y34.out.trans xa)
        have X35 := Kp.mk (X34.out.trans xa)
        clear xa HRI
        go_wp2_with fail
        refine (ReadOid_any (HB.out.ext X35.out)).mono ?_
        rintro e w36 (⟨_, rfl, xa⟩ | ⟨hPo, hEo, Ao1, co1, rfl, ro, xa⟩)
        · have Y36 := Kp.mk (Y35.out.trans xa)
          have X36 := Kp.mk (X35.out.trans xa)
          clear xa
          go_wp2_with fail
          refine (ReadBits_any (HB.out.ext X36.out) (by omega)).mono ?_
          unfold RBits
          rintro e w37 (⟨_, rfl, xa⟩ | ⟨hby, Ab, cb, rfl, ob, xa⟩)
          · as_aux_lemma =>
            have Y37 := Kp.mk (Y36.out.trans xa)
            have X37 := Kp.mk (X36.out.trans xa)
            clear xa
            have hxb : Ext w37 (w37.alloc (.cells #[.slice none 0 0, .int .i64 0] bit)) := (by (repeat (first | assumption | exact Ext.refl _ | apply Ext.drew | apply Ext.drewN | apply Ext.alloc | refine Ext.trans ?_ (by assumption))); first | done | fail)
            go_upto_region 26 with fail
            have Y38 := Kp.mk (Y37.out.trans hxb)
            have X38 := Kp.mk (X37.out.trans hxb)
            clear hxb
            generalize w37.alloc (.cells #[.slice none 0 0, .int .i64 0] bit) = w38 at *
            have SB := Kp.mk ((HB.out.ext X38.out).str (Ext.refl _))
            obtain ⟨ki, li, hli, hki1, hki8, hbi, hvi, hCi⟩ := Int_any (tcV b) w38.drew HTR.out.1 HTR.out.2
            obtain rfl : li = b := tcV_inj hbi HI1.out hvi
            obtain rfl : m = ki := HB.out.len.symm.trans hli
            have HCi := Kp.mk hCi
            clear hCi hbi hvi hli hki1 hki8
            generalize tcV li = vI at *
            refine wp_region_held_drew (S := fun w' => Ext w38 w') (by kernel_rfl) (Ext.refl w38).drew (fun hHeld => ?_)
            have hcb := fun (w' : World) (hx : Ext w38 w') => (HB.out.ext (X38.out.trans hx)).str (Ext.refl _)
            refine wpAnyH_take (i := 0) (oi := ⟨some 172, _, _, _, _, _⟩) (v := ?_) rfl (by kernel_rfl) (by kernel_rfl) (by kernel_rfl) (fun _ _ _ h => h) (Or.inl ⟨by rfl, ?_⟩) (by assumption) ?_
            rotate_left
            · (intro w hSw; (try dsimp only at hSw); go_simp; try with_reducible rfl)
            try simp only [Act.put, List.setIfInBounds_toArray, List.set_cons_zero, List.set_cons_succ]
            refine wpAnyH_take (i := 1) (oi := ⟨some 173, _, _, _, _, _⟩) (v := ?_) rfl (by kernel_rfl) (by kernel_rfl) (by kernel_rfl) (fun _ _ _ h => h) (Or.inl ⟨by rfl, ?_⟩) (by assumption) ?_
            rotate_left
            · (intro w hSw; (try dsimp only at hSw); go_simp; try with_reducible rfl)
            try simp only [Act.put, List.setIfInBounds_toArray, List.set_cons_zero, List.set_cons_succ]
            refine wpAnyH_take (i := 2) (oi := ⟨some 174, _, _, _, _, _⟩) (v := ?_) rfl (by kernel_rfl) (by kernel_rfl) (by kernel_rfl) (fun _ _ _ h => h) (Or.inl ⟨by rfl, ?_⟩) (by assumption) ?_
            rotate_left
            · (intro w hSw; (try dsimp only at hSw); go_simp; try with_reducible rfl)
            try simp only [Act.put, List.setIfInBounds_toArray, List.set_cons_zero, List.set_cons_succ]
            refine wpAnyH_take (i := 3) (oi := ⟨some 175, _, _, _, _, _⟩) (v := ?_) rfl (by kernel_rfl) (by kernel_rfl) (by kernel_rfl) (fun _ _ _ h => h) (Or.inl ⟨by rfl, ?_⟩) (by assumption) ?_
            rotate_left
            · (intro w hSw; (try dsimp only at hSw); go_simp; try with_reducible rfl)
            try simp only [Act.put, List.setIfInBounds_toArray, List.set_cons_zero, List.set_cons_succ]
            refine wpAnyH_take (i := 6) (oi := ⟨some 178, _, _, _, _, _⟩) (v := ?_) rfl (by kernel_rfl) (by kernel_rfl) (by kernel_rfl) (fun _ _ _ h => h) (Or.inl ⟨by rfl, ?_⟩) (by assumption) ?_
            rotate_left
            · (intro w hSw; (try dsimp only at hSw); go_simp; try with_reducible rfl)
            try simp only [Act.put, List.setIfInBounds_toArray, List.set_cons_zero, List.set_cons_succ]
            refine wpAnyH_take (i := 7) (oi := ⟨some 179, _, _, _, _, _⟩) (v := ?_) rfl (by kernel_rfl) (by kernel_rfl) (by kernel_rfl) (fun _ _ _ h => h) (Or.inl ⟨by rfl, ?_⟩) (by assumption) ?_
            rotate_left
            · (intro w hSw; (try dsimp only at hSw); go_simp; try with_reducible rfl)
            try simp only [Act.put, List.setIfInBounds_toArray, List.set_cons_zero, List.set_cons_succ]
            refine next_one 4 (by kernel_rfl) rfl (by rfl) fun K' HK' => ?_
            go_simp
            refine HCi.out.mono ?_
            rintro e w39 ⟨Ai, ci, rfl, si, _, xi⟩
            have hxi : Ext w38 w39 := (by (repeat (first | assumption | exact Ext.refl _ | apply Ext.drew | apply Ext.drewN | apply Ext.alloc | refine Ext.trans ?_ (by assumption))); first | done | fail)
            have Y39 := Kp.mk (Y38.out.trans hxi)
            have X39 := Kp.mk (X38.out.trans hxi)



            have hS2 := Ext.trans hHeld xi
            refine held_go HK' hS2 (fun _ => ?_)
            clear HK'
            refine held_more (S' := fun w' => Ext w39 w') (fun _ h => Ext.trans hS2 h) _ _ _ _ ?_
            clear hHeld hS2
            have hHeld : Ext w39 w39 := Ext.refl _
            try simp only [Act.put, List.setIfInBounds_toArray, List.set_cons_zero, List.set_cons_succ]
            have hci := fun (w' : World) (hx : Ext w39 w') => (si.ext hx).str (Ext.refl _)
            have hcb2 := fun (w' : World) (hx : Ext w39 w') => (HB.out.ext (X39.out.trans hx)).str (Ext.refl _)
            clear hxi hcb
            refine wpAnyH_take (i := 5) (oi := ⟨some 177, _, _, _, _, _⟩) (v := ?_) rfl (by kernel_rfl) (by kernel_rfl) (by kernel_rfl) (fun _ _ _ h => h) (Or.inl ⟨by rfl, ?_⟩) (by assumption) ?_
            rotate_left
            · (intro w hSw; (try dsimp only at hSw); go_simp; try with_reducible rfl)
            try simp only [Act.put, List.setIfInBounds_toArray, List.set_cons_zero, List.set_cons_succ]
            refine wpAnyH_take (i := 8) (oi := ⟨some 180, _, _, _, _, _⟩) (v := ?_) rfl (by kernel_rfl) (by kernel_rfl) (by kernel_rfl) (fun _ _ _ h => h) (Or.inl ⟨by rfl, ?_⟩) (by assumption) ?_
            rotate_left
            · (intro w hSw; (try dsimp only at hSw); go_simp; try with_reducible rfl)
            try simp only [Act.put, List.setIfInBounds_toArray, List.set_cons_zero, List.set_cons_succ]
            refine wpAnyH_take (i := 9) (oi := ⟨some 181, _, _, _, _, _⟩) (v := ?_) rfl (by kernel_rfl) (by kernel_rfl) (by kernel_rfl) (fun _ _ _ h => h) (Or.inl ⟨by rfl, ?_⟩) (by assumption) ?_
            rotate_left
            · (intro w hSw; (try dsimp only at hSw); go_simp; try with_reducible rfl)
            try simp only [Act.put, List.setIfInBounds_toArray, List.set_cons_zero, List.set_cons_succ]
            refine wpAnyH_done (by kernel_rfl) ?_ _
            clear si xi hci hcb2
            have hxd : Ext w39 w39 := Ext.refl _
            go_wp2_with fail
            go_ret
            exact ⟨rfl, X39.out.b⟩
          · as_aux_lemma =>
            have Y37 := Kp.mk (Y36.out.trans xa)
            have X37 := Kp.mk (X36.out.trans xa)
            have HBY := Kp.mk hby
            have HOb := Kp.mk ob
            clear hby ob
            clear xa
            have HBB := Kp.mk (Blk.new w37 bit #[.slice Ab (m - 1) cb, .int .i64 (ub (gb b 0))])
            have hxb : Ext w37 (w37.alloc (.cells #[.slice Ab (m - 1) cb, .int .i64 (ub (gb b 0))] bit)) := (by (repeat (first | assumption | exact Ext.refl _ | apply Ext.drew | apply Ext.drewN | apply Ext.alloc | refine Ext.trans ?_ (by assumption))); first | done | fail)
            have HOB := Kp.mk (HOb.out.ext hxb)
            have hbe := bits_cons (b := b) (by intro e; have := HB.out.len; rw [e] at this; simp at this; have := HBY.out.1; omega)
            have hue : BitVec.ofNat 8 (ub (gb b 0)).toNat = gb b 0 := by unfold ub; simp
            have HBE := Kp.mk (show (BitVec.ofNat 8 (ub (gb b 0)).toNat :: b.drop 1) = b by rw [hue]; exact hbe.symm)
            clear hbe hue
            generalize ub (gb b 0) = ubz at *
            go_upto_region 26 with fail
            have Y38 := Kp.mk (Y37.out.trans hxb)
            have X38 := Kp.mk (X37.out.trans hxb)
            clear hxb
            generalize w37.alloc (.cells #[.slice Ab (m - 1) cb, .int .i64 ubz] bit) = w38 at *
            have SB := Kp.mk ((HB.out.ext X38.out).str (Ext.refl _))
            obtain ⟨ki, li, hli, hki1, hki8, hbi, hvi, hCi⟩ := Int_any (tcV b) w38.drew HTR.out.1 HTR.out.2
            obtain rfl : li = b := tcV_inj hbi HI1.out hvi
            obtain rfl : m = ki := HB.out.len.symm.trans hli
            have HCi := Kp.mk hCi
            clear hCi hbi hvi hli hki1 hki8
            generalize tcV li = vI at *
            refine wp_region_held_drew (S := fun w' => Ext w38 w') (by kernel_rfl) (Ext.refl w38).drew (fun hHeld => ?_)
            have hcb := fun (w' : World) (hx : Ext w38 w') => (HB.out.ext (X38.out.trans hx)).str (Ext.refl _)
            refine wpAnyH_take (i := 0) (oi := ⟨some 172, _, _, _, _, _⟩) (v := ?_) rfl (by kernel_rfl) (by kernel_rfl) (by kernel_rfl) (fun _ _ _ h => h) (Or.inl ⟨by rfl, ?_⟩) (by assumption) ?_
            rotate_left
            · (intro w hSw; (try dsimp only at hSw); go_simp; try with_reducible rfl)
            try simp only [Act.put, List.setIfInBounds_toArray, List.set_cons_zero, List.set_cons_succ]
            refine wpAnyH_take (i := 1) (oi := ⟨some 173, _, _, _, _, _⟩) (v := ?_) rfl (by kernel_rfl) (by kernel_rfl) (by kernel_rfl) (fun _ _ _ h => h) (Or.inl ⟨by rfl, ?_⟩) (by assumption) ?_
            rotate_left
            · (intro w hSw; (try dsimp only at hSw); go_simp; try with_reducible rfl)
            try simp only [Act.put, List.setIfInBounds_toArray, List.set_cons_zero, List.set_cons_succ]
            refine wpAnyH_take (i := 2) (oi := ⟨some 174, _, _, _, _, _⟩) (v := ?_) rfl (by kernel_rfl) (by kernel_rfl) (by kernel_rfl) (fun _ _ _ h => h) (Or.inl ⟨by rfl, ?_⟩) (by assumption) ?_
            rotate_left
            · (intro w hSw; (try dsimp only at hSw); go_simp; try with_reducible rfl)
            try simp only [Act.put, List.setIfInBounds_toArray, List.set_cons_zero, List.set_cons_succ]
            refine wpAnyH_take (i := 3) (oi := ⟨some 175, _, _, _, _, _⟩) (v := ?_) rfl (by kernel_rfl) (by kernel_rfl) (by kernel_rfl) (fun _ _ _ h => h) (Or.inl ⟨by rfl, ?_⟩) (by assumption) ?_
            rotate_left
            · (intro w hSw; (try dsimp only at hSw); go_simp; try with_reducible rfl)
            try simp only [Act.put, List.setIfInBounds_toArray, List.set_cons_zero, List.set_cons_succ]
            refine wpAnyH_take (i := 6) (oi := ⟨some 178, _, _, _, _, _⟩) (v := ?_) rfl (by kernel_rfl) (by kernel_rfl) (by kernel_rfl) (fun _ _ _ h => h) (Or.inl ⟨by rfl, ?_⟩) (by assumption) ?_
            rotate_left
            · (intro w hSw; (try dsimp only at hSw); go_simp; try with_reducible rfl)
            try simp only [Act.put, List.setIfInBounds_toArray, List.set_cons_zero, List.set_cons_succ]
            refine wpAnyH_take (i := 7) (oi := ⟨some 179, _, _, _, _, _⟩) (v := ?_) rfl (by kernel_rfl) (by kernel_rfl) (by kernel_rfl) (fun _ _ _ h => h) (Or.inl ⟨by rfl, ?_⟩) (by assumption) ?_
            rotate_left
            · (intro w hSw; (try dsimp only at hSw); go_simp; try with_reducible rfl)
            try simp only [Act.put, List.setIfInBounds_toArray, List.set_cons_zero, List.set_cons_succ]
            refine next_one 4 (by kernel_rfl) rfl (by rfl) fun K' HK' => ?_
            go_simp
            refine HCi.out.mono ?_
            rintro e w39 ⟨Ai, ci, rfl, si, _, xi⟩
            have hxi : Ext w38 w39 := (by (repeat (first | assumption | exact Ext.refl _ | apply Ext.drew | apply Ext.drewN | apply Ext.alloc | refine Ext.trans ?_ (by assumption))); first | done | fail)
            have Y39 := Kp.mk (Y38.out.trans hxi)
            have X39 := Kp.mk (X38.out.trans hxi)

            have HBB2 := Kp.mk (HBB.out.ext hxi)
            have HOB2 := Kp.mk (HOB.out.ext hxi)
            have hS2 := Ext.trans hHeld xi
            refine held_go HK' hS2 (fun _ => ?_)
            clear HK'
            refine held_more (S' := fun w' => Ext w39 w') (fun _ h => Ext.trans hS2 h) _ _ _ _ ?_
            clear hHeld hS2
            have hHeld : Ext w39 w39 := Ext.refl _
            try simp only [Act.put, List.setIfInBounds_toArray, List.set_cons_zero, List.set_cons_succ]
            have hci := fun (w' : World) (hx : Ext w39 w') => (si.ext hx).str (Ext.refl _)
            have hcb2 := fun (w' : World) (hx : Ext w39 w') => (HB.out.ext (X39.out.trans hx)).str (Ext.refl _)
            clear hxi hcb
            refine wpAnyH_take (i := 5) (oi := ⟨some 177, _, _, _, _, _⟩) (v := ?_) rfl (by kernel_rfl) (by kernel_rfl) (by kernel_rfl) (fun _ _ _ h => h) (Or.inl ⟨by rfl, ?_⟩) (by assumption) ?_
            rotate_left
            · (intro w hSw; (try dsimp only at hSw); go_simp; try with_reducible rfl)
            try simp only [Act.put, List.setIfInBounds_toArray, List.set_cons_zero, List.set_cons_succ]
            refine wpAnyH_take (i := 8) (oi := ⟨some 180, _, _, _, _, _⟩) (v := ?_) rfl (by kernel_rfl) (by kernel_rfl) (by kernel_rfl) (fun _ _ _ h => h) (Or.inl ⟨by rfl, ?_⟩) (by assumption) ?_
            rotate_left
            · (intro w hSw; (try dsimp only at hSw); go_simp; try with_reducible rfl)
            try simp only [Act.put, List.setIfInBounds_toArray, List.set_cons_zero, List.set_cons_succ]
            refine wpAnyH_take (i := 9) (oi := ⟨some 181, _, _, _, _, _⟩) (v := ?_) rfl (by kernel_rfl) (by kernel_rfl) (by kernel_rfl) (fun _ _ _ h => h) (Or.inl ⟨by rfl, ?_⟩) (by assumption) ?_
            rotate_left
            · (intro w hSw; (try dsimp only at hSw); go_simp; try with_reducible rfl)
            try simp only [Act.put, List.setIfInBounds_toArray, List.set_cons_zero, List.set_cons_succ]
            refine wpAnyH_done (by kernel_rfl) ?_ _
            clear si xi hci hcb2
            have hxd : Ext w39 w39 := Ext.refl _
            obtain ⟨bx0, bx1⟩ := box2b HBB2.out (Ext.refl _)
            go_wp2_with fail
            refine (Bits_any HOB2.out.bs (by omega) ubz).mono ?_
            rintro e w40 (⟨hno, _⟩ | ⟨_, Ab2, cb2, rfl, sb, _, xb⟩)
            · rw [HBY.out.2] at hno; cases hno
            have X40 := Kp.mk (X39.out.trans xb)
            rw [HBE.out] at sb
            have sc3 := sb.str (Ext.refl _)
            have sc4 := (HB.out.ext X40.out).str (Ext.refl _)
            clear sb xb
            go_wp2_with fail
            go_ret
            exact ⟨rfl, X40.out.b⟩
        · have Y36 := Kp.mk (Y35.out.trans xa)
          have X36 := Kp.mk (X35.out.trans xa)
          have HOi := Kp.mk ro.rd
          have HPo := Kp.mk hPo
          have HEo := Kp.mk hEo
          have HDo := Kp.mk (show Dg 4294967296 (oidU (pmO b)) from oidU_dg (stT_len b b.length (Nat.le_refl _)).2.2)
          clear ro hPo hEo
          generalize oidU (pmO b) = Qo at *
          generalize Qo.length = NQ at *
          clear xa
          go_wp2_with fail
          refine (ReadBits_any (HB.out.ext X36.out) (by omega)).mono ?_
          unfold RBits
          rintro e w37 (⟨_, rfl, xa⟩ | ⟨hby, Ab, cb, rfl, ob, xa⟩)
          · as_aux_lemma =>
            have Y37 := Kp.mk (Y36.out.trans xa)
            have X37 := Kp.mk (X36.out.trans xa)
            have HOi := Kp.mk (HOi.out.ext xa)
            clear xa
            have hxb : Ext w37 (w37.alloc (.cells #[.slice none 0 0, .int .i64 0] bit)) := (by (repeat (first | assumption | exact Ext.refl _ | apply Ext.drew | apply Ext.drewN | apply Ext.alloc | refine Ext.trans ?_ (by assumption))); first | done | fail)
            go_upto_region 26 with fail
            have Y38 := Kp.mk (Y37.out.trans hxb)
            have X38 := Kp.mk (X37.out.trans hxb)
            have HO38 := Kp.mk (HOi.out.ext hxb)
            clear hxb
            generalize w37.alloc (.cells #[.slice none 0 0, .int .i64 0] bit) = w38 at *
            have SB := Kp.mk ((HB.out.ext X38.out).str (Ext.refl _))
            obtain ⟨ki, li, hli, hki1, hki8, hbi, hvi, hCi⟩ := Int_any (tcV b) w38.drew HTR.out.1 HTR.out.2
            obtain rfl : li = b := tcV_inj hbi HI1.out hvi
            obtain rfl : m = ki := HB.out.len.symm.trans hli
            have HCi := Kp.mk hCi
            clear hCi hbi hvi hli hki1 hki8
            generalize tcV li = vI at *
            refine wp_region_held_drew (S := fun w' => Ext w38 w') (by kernel_rfl) (Ext.refl w38).drew (fun hHeld => ?_)
            have hcb := fun (w' : World) (hx : Ext w38 w') => (HB.out.ext (X38.out.trans hx)).str (Ext.refl _)
            refine wpAnyH_take (i := 0) (oi := ⟨some 172, _, _, _, _, _⟩) (v := ?_) rfl (by kernel_rfl) (by kernel_rfl) (by kernel_rfl) (fun _ _ _ h => h) (Or.inl ⟨by rfl, ?_⟩) (by assumption) ?_
            rotate_left
            · (intro w hSw; (try dsimp only at hSw); go_simp; try with_reducible rfl)
            try simp only [Act.put, List.setIfInBounds_toArray, List.set_cons_zero, List.set_cons_succ]
            refine wpAnyH_take (i := 1) (oi := ⟨some 173, _, _, _, _, _⟩) (v := ?_) rfl (by kernel_rfl) (by kernel_rfl) (by kernel_rfl) (fun _ _ _ h => h) (Or.inl ⟨by rfl, ?_⟩) (by assumption) ?_
            rotate_left
            · (intro w hSw; (try dsimp only at hSw); go_simp; try with_reducible rfl)
            try simp only [Act.put, List.setIfInBounds_toArray, List.set_cons_zero, List.set_cons_succ]
            refine wpAnyH_take (i := 2) (oi := ⟨some 174, _, _, _, _, _⟩) (v := ?_) rfl (by kernel_rfl) (by kernel_rfl) (by kernel_rfl) (fun _ _ _ h => h) (Or.inl ⟨by rfl, ?_⟩) (by assumption) ?_
            rotate_left
            · (intro w hSw; (try dsimp only at hSw); go_simp; try with_reducible rfl)
            try simp only [Act.put, List.setIfInBounds_toArray, List.set_cons_zero, List.set_cons_succ]
            refine wpAnyH_take (i := 3) (oi := ⟨some 175, _, _, _, _, _⟩) (v := ?_) rfl (by kernel_rfl) (by kernel_rfl) (by kernel_rfl) (fun _ _ _ h => h) (Or.inl ⟨by rfl, ?_⟩) (by assumption) ?_
            rotate_left
            · (intro w hSw; (try dsimp only at hSw); go_simp; try with_reducible rfl)
            try simp only [Act.put, List.setIfInBounds_toArray, List.set_cons_zero, List.set_cons_succ]
            refine wpAnyH_take (i := 6) (oi := ⟨some 178, _, _, _, _, _⟩) (v := ?_) rfl (by kernel_rfl) (by kernel_rfl) (by kernel_rfl) (fun _ _ _ h => h) (Or.inl ⟨by rfl, ?_⟩) (by assumption) ?_
            rotate_left
            · (intro w hSw; (try dsimp only at hSw); go_simp; try with_reducible rfl)
            try simp only [Act.put, List.setIfInBounds_toArray, List.set_cons_zero, List.set_cons_succ]
            refine wpAnyH_take (i := 7) (oi := ⟨some 179, _, _, _, _, _⟩) (v := ?_) rfl (by kernel_rfl) (by kernel_rfl) (by kernel_rfl) (fun _ _ _ h => h) (Or.inl ⟨by rfl, ?_⟩) (by assumption) ?_
            rotate_left
            · (intro w hSw; (try dsimp only at hSw); go_simp; try with_reducible rfl)
            try simp only [Act.put, List.setIfInBounds_toArray, List.set_cons_zero, List.set_cons_succ]
            refine next_one 4 (by kernel_rfl) rfl (by rfl) fun K' HK' => ?_
            go_simp
            refine HCi.out.mono ?_
            rintro e w39 ⟨Ai, ci, rfl, si, _, xi⟩
            have hxi : Ext w38 w39 := (by (repeat (first | assumption | exact Ext.refl _ | apply Ext.drew | apply Ext.drewN | apply Ext.alloc | refine Ext.trans ?_ (by assumption))); first | done | fail)
            have Y39 := Kp.mk (Y38.out.trans hxi)
            have X39 := Kp.mk (X38.out.trans hxi)
            have HO39 := Kp.mk (HO38.out.ext hxi)


            have hS2 := Ext.trans hHeld xi
            refine held_go HK' hS2 (fun _ => ?_)
            clear HK'
            refine held_more (S' := fun w' => Ext w39 w') (fun _ h => Ext.trans hS2 h) _ _ _ _ ?_
            clear hHeld hS2
            have hHeld : Ext w39 w39 := Ext.refl _
            try simp only [Act.put, List.setIfInBounds_toArray, List.set_cons_zero, List.set_cons_succ]
            have hci := fun (w' : World) (hx : Ext w39 w') => (si.ext hx).str (Ext.refl _)
            have hcb2 := fun (w' : World) (hx : Ext w39 w') => (HB.out.ext (X39.out.trans hx)).str (Ext.refl _)
            clear hxi hcb
            refine wpAnyH_take (i := 5) (oi := ⟨some 177, _, _, _, _, _⟩) (v := ?_) rfl (by kernel_rfl) (by kernel_rfl) (by kernel_rfl) (fun _ _ _ h => h) (Or.inl ⟨by rfl, ?_⟩) (by assumption) ?_
            rotate_left
            · (intro w hSw; (try dsimp only at hSw); go_simp; try with_reducible rfl)
            try simp only [Act.put, List.setIfInBounds_toArray, List.set_cons_zero, List.set_cons_succ]
            refine wpAnyH_take (i := 8) (oi := ⟨some 180, _, _, _, _, _⟩) (v := ?_) rfl (by kernel_rfl) (by kernel_rfl) (by kernel_rfl) (fun _ _ _ h => h) (Or.inl ⟨by rfl, ?_⟩) (by assumption) ?_
            rotate_left
            · (intro w hSw; (try dsimp only at hSw); go_simp; try with_reducible rfl)
            try simp only [Act.put, List.setIfInBounds_toArray, List.set_cons_zero, List.set_cons_succ]
            refine wpAnyH_take (i := 9) (oi := ⟨some 181, _, _, _, _, _⟩) (v := ?_) rfl (by kernel_rfl) (by kernel_rfl) (by kernel_rfl) (fun _ _ _ h => h) (Or.inl ⟨by rfl, ?_⟩) (by assumption) ?_
            rotate_left
            · (intro w hSw; (try dsimp only at hSw); go_simp; try with_reducible rfl)
            try simp only [Act.put, List.setIfInBounds_toArray, List.set_cons_zero, List.set_cons_succ]
            refine wpAnyH_done (by kernel_rfl) ?_ _
            clear si xi hci hcb2
            have hxd : Ext w39 w39 := Ext.refl _
            go_wp2_with fail
            refine (Oid_any HO39.out HDo.out).mono ?_
            rintro e w40 (⟨hno, _⟩ | ⟨_, Ao, co, rfl, so, _, xo⟩)
            · exact absurd HPo.out hno
            have Y40 := Kp.mk (Y39.out.trans xo)
            have X40 := Kp.mk (X39.out.trans xo)


            clear xo
            rw [HEo.out] at so ⊢
            have sc := so.str (Ext.refl _)
            have sc2 := (HB.out.ext X40.out).str (Ext.refl _)
            clear so
            generalize li.length = Nb at *
            go_wp2_with fail
            go_ret
            exact ⟨rfl, X40.out.b⟩
          · as_aux_lemma =>
            have Y37 := Kp.mk (Y36.out.trans xa)
            have X37 := Kp.mk (X36.out.trans xa)
            have HOi := Kp.mk (HOi.out.ext xa)
            have HBY := Kp.mk hby
            have HOb := Kp.mk ob
            clear hby ob
            clear xa
            have HBB := Kp.mk (Blk.new w37 bit #[.slice Ab (m - 1) cb, .int .i64 (ub (gb b 0))])
            have hxb : Ext w37 (w37.alloc (.cells #[.slice Ab (m - 1) cb, .int .i64 (ub (gb b 0))] bit)) := (by (repeat (first | assumption | exact Ext.refl _ | apply Ext.drew | apply Ext.drewN | apply Ext.alloc | refine Ext.trans ?_ (by assumption))); first | done | fail)
            have HOB := Kp.mk (HOb.out.ext hxb)
            have hbe := bits_cons (b := b) (by intro e; have := HB.out.len; rw [e] at this; simp at this; have := HBY.out.1; omega)
            have hue : BitVec.ofNat 8 (ub (gb b 0)).toNat = gb b 0 := by unfold ub; simp
            have HBE := Kp.mk (show (BitVec.ofNat 8 (ub (gb b 0)).toNat :: b.drop 1) = b by rw [hue]; exact hbe.symm)
            clear hbe hue
            generalize ub (gb b 0) = ubz at *
            go_upto_region 26 with fail
            have Y38 := Kp.mk (Y37.out.trans hxb)
            have X38 := Kp.mk (X37.out.trans hxb)
            have HO38 := Kp.mk (HOi.out.ext hxb)
            clear hxb
            generalize w37.alloc (.cells #[.slice Ab (m - 1) cb, .int .i64 ubz] bit) = w38 at *
            have SB := Kp.mk ((HB.out.ext X38.out).str (Ext.refl _))
            obtain ⟨ki, li, hli, hki1, hki8, hbi, hvi, hCi⟩ := Int_any (tcV b) w38.drew HTR.out.1 HTR.out.2
            obtain rfl : li = b := tcV_inj hbi HI1.out hvi
            obtain rfl : m = ki := HB.out.len.symm.trans hli
            have HCi := Kp.mk hCi
            clear hCi hbi hvi hli hki1 hki8
            generalize tcV li = vI at *
            refine wp_region_held_drew (S := fun w' => Ext w38 w') (by kernel_rfl) (Ext.refl w38).drew (fun hHeld => ?_)
            have hcb := fun (w' : World) (hx : Ext w38 w') => (HB.out.ext (X38.out.trans hx)).str (Ext.refl _)
            refine wpAnyH_take (i := 0) (oi := ⟨some 172, _, _, _, _, _⟩) (v := ?_) rfl (by kernel_rfl) (by kernel_rfl) (by kernel_rfl) (fun _ _ _ h => h) (Or.inl ⟨by rfl, ?_⟩) (by assumption) ?_
            rotate_left
            · (intro w hSw; (try dsimp only at hSw); go_simp; try with_reducible rfl)
            try simp only [Act.put, List.setIfInBounds_toArray, List.set_cons_zero, List.set_cons_succ]
            refine wpAnyH_take (i := 1) (oi := ⟨some 173, _, _, _, _, _⟩) (v := ?_) rfl (by kernel_rfl) (by kernel_rfl) (by kernel_rfl) (fun _ _ _ h => h) (Or.inl ⟨by rfl, ?_⟩) (by assumption) ?_
            rotate_left
            · (intro w hSw; (try dsimp only at hSw); go_simp; try with_reducible rfl)
            try simp only [Act.put, List.setIfInBounds_toArray, List.set_cons_zero, List.set_cons_succ]
            refine wpAnyH_take (i := 2) (oi := ⟨some 174, _, _, _, _, _⟩) (v := ?_) rfl (by kernel_rfl) (by kernel_rfl) (by kernel_rfl) (fun _ _ _ h => h) (Or.inl ⟨by rfl, ?_⟩) (by assumption) ?_
            rotate_left
            · (intro w hSw; (try dsimp only at hSw); go_simp; try with_reducible rfl)
            try simp only [Act.put, List.setIfInBounds_toArray, List.set_cons_zero, List.set_cons_succ]
            refine wpAnyH_take (i := 3) (oi := ⟨some 175, _, _, _, _, _⟩) (v := ?_) rfl (by kernel_rfl) (by kernel_rfl) (by kernel_rfl) (fun _ _ _ h => h) (Or.inl ⟨by rfl, ?_⟩) (by assumption) ?_
            rotate_left
            · (intro w hSw; (try dsimp only at hSw); go_simp; try with_reducible rfl)
            try simp only [Act.put, List.setIfInBounds_toArray, List.set_cons_zero, List.set_cons_succ]
            refine wpAnyH_take (i := 6) (oi := ⟨some 178, _, _, _, _, _⟩) (v := ?_) rfl (by kernel_rfl) (by kernel_rfl) (by kernel_rfl) (fun _ _ _ h => h) (Or.inl ⟨by rfl, ?_⟩) (by assumption) ?_
            rotate_left
            · (intro w hSw; (try dsimp only at hSw); go_simp; try with_reducible rfl)
            try simp only [Act.put, List.setIfInBounds_toArray, List.set_cons_zero, List.set_cons_succ]
            refine wpAnyH_take (i := 7) (oi := ⟨some 179, _, _, _, _, _⟩) (v := ?_) rfl (by kernel_rfl) (by kernel_rfl) (by kernel_rfl) (fun _ _ _ h => h) (Or.inl ⟨by rfl, ?_⟩) (by assumption) ?_
            rotate_left
            · (intro w hSw; (try dsimp only at hSw); go_simp; try with_reducible rfl)
            try simp only [Act.put, List.setIfInBounds_toArray, List.set_cons_zero, List.set_cons_succ]
            refine next_one 4 (by kernel_rfl) rfl (by rfl) fun K' HK' => ?_
            go_simp
            refine HCi.out.mono ?_
            rintro e w39 ⟨Ai, ci, rfl, si, _, xi⟩
            have hxi : Ext w38 w39 := (by (repeat (first | assumption | exact Ext.refl _ | apply Ext.drew | apply Ext.drewN | apply Ext.alloc | refine Ext.trans ?_ (by assumption))); first | done | fail)
            have Y39 := Kp.mk (Y38.out.trans hxi)
            have X39 := Kp.mk (X38.out.trans hxi)
            have HO39 := Kp.mk (HO38.out.ext hxi)
            have HBB2 := Kp.mk (HBB.out.ext hxi)
            have HOB2 := Kp.mk (HOB.out.ext hxi)
            have hS2 := Ext.trans hHeld xi
            refine held_go HK' hS2 (fun _ => ?_)
            clear HK'
            refine held_more (S' := fun w' => Ext w39 w') (fun _ h => Ext.trans hS2 h) _ _ _ _ ?_
            clear hHeld hS2
            have hHeld : Ext w39 w39 := Ext.refl _
            try simp only [Act.put, List.setIfInBounds_toArray, List.set_cons_zero, List.set_cons_succ]
            have hci := fun (w' : World) (hx : Ext w39 w') => (si.ext hx).str (Ext.refl _)
            have hcb2 := fun (w' : World) (hx : Ext w39 w') => (HB.out.ext (X39.out.trans hx)).str (Ext.refl _)
            clear hxi hcb
            refine wpAnyH_take (i := 5) (oi := ⟨some 177, _, _, _, _, _⟩) (v := ?_) rfl (by kernel_rfl) (by kernel_rfl) (by kernel_rfl) (fun _ _ _ h => h) (Or.inl ⟨by rfl, ?_⟩) (by assumption) ?_
            rotate_left
            · (intro w hSw; (try dsimp only at hSw); go_simp; try with_reducible rfl)
            try simp only [Act.put, List.setIfInBounds_toArray, List.set_cons_zero, List.set_cons_succ]
            refine wpAnyH_take (i := 8) (oi := ⟨some 180, _, _, _, _, _⟩) (v := ?_) rfl (by kernel_rfl) (by kernel_rfl) (by kernel_rfl) (fun _ _ _ h => h) (Or.inl ⟨by rfl, ?_⟩) (by assumption) ?_
            rotate_left
            · (intro w hSw; (try dsimp only at hSw); go_simp; try with_reducible rfl)
            try simp only [Act.put, List.setIfInBounds_toArray, List.set_cons_zero, List.set_cons_succ]
            refine wpAnyH_take (i := 9) (oi := ⟨some 181, _, _, _, _, _⟩) (v := ?_) rfl (by kernel_rfl) (by kernel_rfl) (by kernel_rfl) (fun _ _ _ h => h) (Or.inl ⟨by rfl, ?_⟩) (by assumption) ?_
            rotate_left
            · (intro w hSw; (try dsimp only at hSw); go_simp; try with_reducible rfl)
            try simp only [Act.put, List.setIfInBounds_toArray, List.set_cons_zero, List.set_cons_succ]
            refine wpAnyH_done (by kernel_rfl) ?_ _
            clear si xi hci hcb2
            have hxd : Ext w39 w39 := Ext.refl _
            obtain ⟨bx0, bx1⟩ := box2b HBB2.out (Ext.refl _)
            go_wp2_with fail
            refine (Oid_any HO39.out HDo.out).mono ?_
            rintro e w40 (⟨hno, _⟩ | ⟨_, Ao, co, rfl, so, _, xo⟩)
            · exact absurd HPo.out hno
            have Y40 := Kp.mk (Y39.out.trans xo)
            have X40 := Kp.mk (X39.out.trans xo)
            have HBB3 := Kp.mk (HBB2.out.ext xo)
            have HOB3 := Kp.mk (HOB2.out.ext xo)
            clear xo
            rw [HEo.out] at so ⊢
            have sc := so.str (Ext.refl _)
            have sc2 := (HB.out.ext X40.out).str (Ext.refl _)
            clear so
            generalize li.length = Nb at *
            obtain ⟨bx0, bx1⟩ := box2b HBB3.out (Ext.refl _)
            go_wp2_with fail
            refine (Bits_any HOB3.out.bs (by omega) ubz).mono ?_
            rintro e w41 (⟨hno, _⟩ | ⟨_, Ab2, cb2, rfl, sb, _, xb⟩)
            · rw [HBY.out.2] at hno; cases hno
            have X41 := Kp.mk (X40.out.trans xb)
            rw [HBE.out] at sb
            have sc3 := sb.str (Ext.refl _)
            have sc4 := (HB.out.ext X41.out).str (Ext.refl _)
            clear sb xb
            go_wp2_with fail
            go_ret
            exact ⟨rfl, X41.out.b⟩
      · refine HRI.out.mono ?_
        rintro e w35 ⟨rfl, xa⟩
        have Y35 := Kp.mk (Y34.out.trans xa)
        have X35 := Kp.mk (X34.out.trans xa)
        clear xa HRI
        go_wp2_with fail
        refine (ReadOid_any (HB.out.ext X35.out)).mono ?_
        rintro e w36 (⟨_, rfl, xa⟩ | ⟨hPo, hEo, Ao1, co1, rfl, ro, xa⟩)
        · have Y36 := Kp.mk (Y35.out.trans xa)
          have X36 := Kp.mk (X35.out.trans xa)
          clear xa
          go_wp2_with fail
          refine (ReadBits_any (HB.out.ext X36.out) (by omega)).mono ?_
          unfold RBits
          rintro e w37 (⟨_, rfl, xa⟩ | ⟨hby, Ab, cb, rfl, ob, xa⟩)
          · as_aux_lemma =>
            have Y37 := Kp.mk (Y36.out.trans xa)
            have X37 := Kp.mk (X36.out.trans xa)
            clear xa
            have hxb : Ext w37 (w37.alloc (.cells #[.slice none 0 0, .int .i64 0] bit)) := (by (repeat (first | assumption | exact Ext.refl _ | apply Ext.drew | apply Ext.drewN | apply Ext.alloc | refine Ext.trans ?_ (by assumption))); first | done | fail)
            go_upto_region 26 with fail
            have Y38 := Kp.mk (Y37.out.trans hxb)
            have X38 := Kp.mk (X37.out.trans hxb)
            clear hxb
            generalize w37.alloc (.cells #[.slice none 0 0, .int .i64 0] bit) = w38 at *
            have SB := Kp.mk ((HB.out.ext X38.out).str (Ext.refl _))
            go_quiet (fail)
            have hxi : Ext w38 (w38.drewN nq) := (by (repeat (first | assumption | exact Ext.refl _ | apply Ext.drew | apply Ext.drewN | apply Ext.alloc | refine Ext.trans ?_ (by assumption))); first | done | fail)
            have Y39 := Kp.mk (Y38.out.trans hxi)
            have X39 := Kp.mk (X38.out.trans hxi)



            clear hxi
            generalize w38.drewN nq = w39 at *
            go_wp2_with fail
            go_ret
            exact ⟨rfl, X39.out.b⟩
          · as_aux_lemma =>
            have Y37 := Kp.mk (Y36.out.trans xa)
            have X37 := Kp.mk (X36.out.trans xa)
            have HBY := Kp.mk hby
            have HOb := Kp.mk ob
            clear hby ob
            clear xa
            have HBB := Kp.mk (Blk.new w37 bit #[.slice Ab (m - 1) cb, .int .i64 (ub (gb b 0))])
            have hxb : Ext w37 (w37.alloc (.cells #[.slice Ab (m - 1) cb, .int .i64 (ub (gb b 0))] bit)) := (by (repeat (first | assumption | exact Ext.refl _ | apply Ext.drew | apply Ext.drewN | apply Ext.alloc | refine Ext.trans ?_ (by assumption))); first | done | fail)
            have HOB := Kp.mk (HOb.out.ext hxb)
            have hbe := bits_cons (b := b) (by intro e; have := HB.out.len; rw [e] at this; simp at this; have := HBY.out.1; omega)
            have hue : BitVec.ofNat 8 (ub (gb b 0)).toNat = gb b 0 := by unfold ub; simp
            have HBE := Kp.mk (show (BitVec.ofNat 8 (ub (gb b 0)).toNat :: b.drop 1) = b by rw [hue]; exact hbe.symm)
            clear hbe hue
            generalize ub (gb b 0) = ubz at *
            go_upto_region 26 with fail
            have Y38 := Kp.mk (Y37.out.trans hxb)
            have X38 := Kp.mk (X37.out.trans hxb)
            clear hxb
            generalize w37.alloc (.cells #[.slice Ab (m - 1) cb, .int .i64 ubz] bit) = w38 at *
            have SB := Kp.mk ((HB.out.ext X38.out).str (Ext.refl _))
            go_quiet (fail)
            have hxi : Ext w38 (w38.drewN nq) := (by (repeat (first | assumption | exact Ext.refl _ | apply Ext.drew | apply Ext.drewN | apply Ext.alloc | refine Ext.trans ?_ (by assumption))); first | done | fail)
            have Y39 := Kp.mk (Y38.out.trans hxi)
            have X39 := Kp.mk (X38.out.trans hxi)

            have HBB2 := Kp.mk (HBB.out.ext hxi)
            have HOB2 := Kp.mk (HOB.out.ext hxi)
            clear hxi
            generalize w38.drewN nq = w39 at *
            obtain ⟨bx0, bx1⟩ := box2b HBB2.out (Ext.refl _)
            go_wp2_with fail
            refine (Bits_any HOB2.out.bs (by omega) ubz).mono ?_
            rintro e w40 (⟨hno, _⟩ | ⟨_, Ab2, cb2, rfl, sb, _, xb⟩)
            · rw [HBY.out.2] at hno; cases hno
            have X40 := Kp.mk (X39.out.trans xb)
            rw [HBE.out] at sb
            have sc3 := sb.str (Ext.refl _)
            have sc4 := (HB.out.ext X40.out).str (Ext.refl _)
            clear sb xb
            go_wp2_with fail
            go_ret
            exact ⟨rfl, X40.out.b⟩
        · have Y36 := Kp.mk (Y35.out.trans xa)
          have X36 := Kp.mk (X35.out.trans xa)
          have HOi := Kp.mk ro.rd
          have HPo := Kp.mk hPo
          have HEo := Kp.mk hEo
          have HDo := Kp.mk (show Dg 4294967296 (oidU (pmO b)) from oidU_dg (stT_len b b.length (Nat.le_refl _)).2.2)
          clear ro hPo hEo
          generalize oidU (pmO b) = Qo at *
          generalize Qo.length = NQ at *
          clear xa
          go_wp2_with fail
          refine (ReadBits_any (HB.out.ext X36.out) (by omega)).mono ?_
          unfold RBits
          rintro e w37 (⟨_, rfl, xa⟩ | ⟨hby, Ab, cb, rfl, ob, xa⟩)
          · as_aux_lemma =>
            have Y37 := Kp.mk (Y36.out.trans xa)
            have X37 := Kp.mk (X36.out.trans xa)
            have HOi := Kp.mk (HOi.out.ext xa)
            clear xa
            have hxb : Ext w37 (w37.alloc (.cells #[.slice none 0 0, .int .i64 0] bit)) := (by (repeat (first | assumption | exact Ext.refl _ | apply Ext.drew | apply Ext.drewN | apply Ext.alloc | refine Ext.trans ?_ (by assumption))); first | done | fail)
            go_upto_region 26 with fail
            have Y38 := Kp.mk (Y37.out.trans hxb)
            have X38 := Kp.mk (X37.out.trans hxb)
            have HO38 := Kp.mk (HOi.out.ext hxb)
            clear hxb
            generalize w37.alloc (.cells #[.slice none 0 0, .int .i64 0] bit) = w38 at *
            have SB := Kp.mk ((HB.out.ext X38.out).str (Ext.refl _))
            go_quiet (fail)
            have hxi : Ext w38 (w38.drewN nq) := (by (repeat (first | assumption | exact Ext.refl _ | apply Ext.drew | apply Ext.drewN | apply Ext.alloc | refine Ext.trans ?_ (by assumption))); first | done | fail)
            have Y39 := Kp.mk (Y38.out.trans hxi)
            have X39 := Kp.mk (X38.out.trans hxi)
            have HO39 := Kp.mk (HO38.out.ext hxi)


            clear hxi
            generalize w38.drewN nq = w39 at *
            go_wp2_with fail
            refine (Oid_any HO39.out HDo.out).mono ?_
            rintro e w40 (⟨hno, _⟩ | ⟨_, Ao, co, rfl, so, _, xo⟩)
            · exact absurd HPo.out hno
            have Y40 := Kp.mk (Y39.out.trans xo)
            have X40 := Kp.mk (X39.out.trans xo)


            clear xo
            rw [HEo.out] at so ⊢
            have sc := so.str (Ext.refl _)
            have sc2 := (HB.out.ext X40.out).str (Ext.refl _)
            clear so
            generalize b.length = Nb at *
            go_wp2_with fail
            go_ret
            exact ⟨rfl, X40.out.b⟩
          · as_aux_lemma =>
            have Y37 := Kp.mk (Y36.out.trans xa)
            have X37 := Kp.mk (X36.out.trans xa)
            have HOi := Kp.mk (HOi.out.ext xa)
            have HBY := Kp.mk hby
            have HOb := Kp.mk ob
            clear hby ob
            clear xa
            have HBB := Kp.mk (Blk.new w37 bit #[.slice Ab (m - 1) cb, .int .i64 (ub (gb b 0))])
            have hxb : Ext w37 (w37.alloc (.cells #[.slice Ab (m - 1) cb, .int .i64 (ub (gb b 0))] bit)) := (by (repeat (first | assumption | exact Ext.refl _ | apply Ext.drew | apply Ext.drewN | apply Ext.alloc | refine Ext.trans ?_ (by assumption))); first | done | fail)
            have HOB := Kp.mk (HOb.out.ext hxb)
            have hbe := bits_cons (b := b) (by intro e; have := HB.out.len; rw [e] at this; simp at this; have := HBY.out.1; omega)
            have hue : BitVec.ofNat 8 (ub (gb b 0)).toNat = gb b 0 := by unfold ub; simp
            have HBE := Kp.mk (show (BitVec.ofNat 8 (ub (gb b 0)).toNat :: b.drop 1) = b by rw [hue]; exact hbe.symm)
            clear hbe hue
            generalize ub (gb b 0) = ubz at *
            go_upto_region 26 with fail
            have Y38 := Kp.mk (Y37.out.trans hxb)
            have X38 := Kp.mk (X37.out.trans hxb)
            have HO38 := Kp.mk (HOi.out.ext hxb)
            clear hxb
            generalize w37.alloc (.cells #[.slice Ab (m - 1) cb, .int .i64 ubz] bit) = w38 at *
            have SB := Kp.mk ((HB.out.ext X38.out).str (Ext.refl _))
            go_quiet (fail)
            have hxi : Ext w38 (w38.drewN nq) := (by (repeat (first | assumption | exact Ext.refl _ | apply Ext.drew | apply Ext.drewN | apply Ext.alloc | refine Ext.trans ?_ (by assumption))); first | done | fail)
            have Y39 := Kp.mk (Y38.out.trans hxi)
            have X39 := Kp.mk (X38.out.trans hxi)
            have HO39 := Kp.mk (HO38.out.ext hxi)
            have HBB2 := Kp.mk (HBB.out.ext hxi)
            have HOB2 := Kp.mk (HOB.out.ext hxi)
            clear hxi
            generalize w38.drewN nq = w39 at *
            obtain ⟨bx0, bx1⟩ := box2b HBB2.out (Ext.refl _)
            go_wp2_with fail
            refine (Oid_any HO39.out HDo.out).mono ?_
            rintro e w40 (⟨hno, _⟩ | ⟨_, Ao, co, rfl, so, _, xo⟩)
            · exact absurd HPo.out hno
            have Y40 := Kp.mk (Y39.out.trans xo)
            have X40 := Kp.mk (X39.out.trans xo)
            have HBB3 := Kp.mk (HBB2.out.ext xo)
            have HOB3 := Kp.mk (HOB2.out.ext xo)
            clear xo
            rw [HEo.out] at so ⊢
            have sc := so.str (Ext.refl _)
            have sc2 := (HB.out.ext X40.out).str (Ext.refl _)
            clear so
            generalize b.length = Nb at *
            obtain ⟨bx0, bx1⟩ := box2b HBB3.out (Ext.refl _)
            go_wp2_with fail
            refine (Bits_any HOB3.out.bs (by omega) ubz).mono ?_
            rintro e w41 (⟨hno, _⟩ | ⟨_, Ab2, cb2, rfl, sb, _, xb⟩)
            · rw [HBY.out.2] at hno; cases hno
            have X41 := Kp.mk (X40.out.trans xb)
            rw [HBE.out] at sb
            have sc3 := sb.str (Ext.refl _)
            have sc4 := (HB.out.ext X41.out).str (Ext.refl _)
            clear sb xb
            go_wp2_with fail
            go_ret
            exact ⟨rfl, X41.out.b⟩
  · have Y9 := Kp.mk (Y8.out.trans x9)
    have X9 := Kp.mk (X8.out.trans x9)
    have hro := ReadOid_any s9
    rw [pmO_back hP] at hro
    have HLN := HL.out.len
    rw [HLN] at hro
    have HRo := Kp.mk hro
    have HP2 := Kp.mk (And.intro hP (rfl : oidB ll = oidB ll))
    clear x9 hro hP s9 HLN
    generalize oidB ll = LB at *
    generalize LB.length = NLB at *
    go_wp2_with fail
    refine HRo.out.mono ?_
    rintro e w10 (⟨hno, _⟩ | ⟨_, _, A10, c10, rfl, r10, x10⟩)
    · exact absurd HP2.out hno
    have Y10 := Kp.mk (Y9.out.trans x10)
    have X10 := Kp.mk (X9.out.trans x10)
    have R10 := Kp.mk r10.rd
    clear x10 r10 HRo HP2
    go_wp2_with fail
    refine (sameArcs_any R10.out (HL.out.ext X10.out) (by omega)).mono ?_
    rintro e w11 ⟨rfl, x11⟩
    have Y11 := Kp.mk (Y10.out.trans x11)
    have X11 := Kp.mk (X10.out.trans x11)
    clear x11 R10
    rcases HMay.out with ⟨t, ht, et⟩ | hno
    · have hTT := fun W => Time_ok t ht W
      have hCC := fun W => Count_ok t ht W
      have hAt := fun W => At_ok t ht W
      have e13 := et.symm
      rw [← et] at hTT hCC hAt
      unfold tci at hTT hCC hAt e13
      have HTT := Kp.mk hTT
      have HCC := Kp.mk hCC
      have HAt := Kp.mk hAt
      have E13 := Kp.mk e13
      have HTm := Kp.mk ht
      have HRT := Kp.mk (fun (W : World) (A : Option Addr) (c : Nat) (hs : Bs W A (tmB t).length c (tmB t)) => ReadTime_any (tmM t) hs)
      unfold RTime at HRT
      clear hTT hCC hAt e13 et ht
      have q0 := fun (W : World) (hx : Ext w11 W) => (box6 HBT.out (Y11.out.trans hx)).1
      have q1 := fun (W : World) (hx : Ext w11 W) => (box6 HBT.out (Y11.out.trans hx)).2.1
      have q2 := fun (W : World) (hx : Ext w11 W) => (box6 HBT.out (Y11.out.trans hx)).2.2.1
      have q3 := fun (W : World) (hx : Ext w11 W) => (box6 HBT.out (Y11.out.trans hx)).2.2.2.1
      have q4 := fun (W : World) (hx : Ext w11 W) => (box6 HBT.out (Y11.out.trans hx)).2.2.2.2.1
      have q5 := fun (W : World) (hx : Ext w11 W) => (box6 HBT.out (Y11.out.trans hx)).2.2.2.2.2
      go_wp2_with fail
      refine (HTT.out _).mono ?_
      rintro e w30 ⟨A30, c30, rfl, o30, x30⟩
      have Y30 := Kp.mk (Y11.out.trans x30)
      have X30 := Kp.mk (X11.out.trans x30)
      have HR1 := Kp.mk (HRT.out _ _ _ o30.bs)
      have HMB := Kp.mk (fun t' (h1 : MayT t') (h2 : tmM t' = tmM t) (h3 : tmB t' = tmB t) => tmB_inj h1 HTm.out h2 h3)
      have HMM := Kp.mk (show ∃ t', MayT t' ∧ tmM t' = tmM t ∧ tmB t' = tmB t from ⟨t, HTm.out, rfl, rfl⟩)
      clear x30 o30 HRT q0 q1 q2 q3 q4 q5
      generalize cntT t = CT at *
      generalize (tmB t).length = NT at *
      generalize ub (tmM t) = MT at *
      go_wp2_with fail
      refine HR1.out.mono ?_
      rintro e w31 (⟨hno, _⟩ | ⟨t', ht', hm', hb', he, x31⟩)
      · exact absurd HMM.out hno
      obtain rfl : t' = t := HMB.out t' ht' hm' hb'
      rw [E13.out] at he
      subst he
      have Y31 := Kp.mk (Y30.out.trans x31)
      have X31 := Kp.mk (X30.out.trans x31)
      clear x31 hm' hb' ht' HR1 HMB HMM
      have q0 := fun (W : World) (hx : Ext w31 W) => (box6 HBT.out (Y31.out.trans hx)).1
      have q1 := fun (W : World) (hx : Ext w31 W) => (box6 HBT.out (Y31.out.trans hx)).2.1
      have q2 := fun (W : World) (hx : Ext w31 W) => (box6 HBT.out (Y31.out.trans hx)).2.2.1
      have q3 := fun (W : World) (hx : Ext w31 W) => (box6 HBT.out (Y31.out.trans hx)).2.2.2.1
      have q4 := fun (W : World) (hx : Ext w31 W) => (box6 HBT.out (Y31.out.trans hx)).2.2.2.2.1
      have q5 := fun (W : World) (hx : Ext w31 W) => (box6 HBT.out (Y31.out.trans hx)).2.2.2.2.2
      have HB25 := Kp.mk (Blk.new w31 tmt #[.int .i64 y, .int .i64 mo, .int .i64 d, .int .i64 h, .int .i64 mi, .int .i64 s])
      have hx31 : Ext w31 (w31.alloc (.cells #[.int .i64 y, .int .i64 mo, .int .i64 d, .int .i64 h, .int .i64 mi, .int .i64 s] tmt)) := (by (repeat (first | assumption | exact Ext.refl _ | apply Ext.drew | apply Ext.drewN | apply Ext.alloc | refine Ext.trans ?_ (by assumption))); first | done | fail)
      go_wp2_with fail
      refine (HCC.out _).mono ?_
      rintro e w32 ⟨rfl, x32⟩
      have Y32 := Kp.mk (Y31.out.trans (hx31.trans x32))
      have X32 := Kp.mk (X31.out.trans (hx31.trans x32))
      have HB26 := Kp.mk (HB25.out.ext x32)
      clear x32 hx31 q0 q1 q2 q3 q4 q5 HB25
      go_wp2_with fail
      refine (HAt.out _).mono ?_
      rintro e w33 ⟨rfl, x33⟩
      have Y33 := Kp.mk (Y32.out.trans x33)
      have X33 := Kp.mk (X32.out.trans x33)
      have HB27 := Kp.mk (HB26.out.ext x33)
      clear x33 HB26
      have q0 := fun (W : World) (hx : Ext w33 W) => (box6 HBT.out (Y33.out.trans hx)).1
      have q1 := fun (W : World) (hx : Ext w33 W) => (box6 HBT.out (Y33.out.trans hx)).2.1
      have q2 := fun (W : World) (hx : Ext w33 W) => (box6 HBT.out (Y33.out.trans hx)).2.2.1
      have q3 := fun (W : World) (hx : Ext w33 W) => (box6 HBT.out (Y33.out.trans hx)).2.2.2.1
      have q4 := fun (W : World) (hx : Ext w33 W) => (box6 HBT.out (Y33.out.trans hx)).2.2.2.2.1
      have q5 := fun (W : World) (hx : Ext w33 W) => (box6 HBT.out (Y33.out.trans hx)).2.2.2.2.2
      have r0 := fun (W : World) (hx : Ext w33 W) => (box6 HB27.out ((Ext.refl w33).trans hx)).1
      have r1 := fun (W : World) (hx : Ext w33 W) => (box6 HB27.out ((Ext.refl w33).trans hx)).2.1
      have r2 := fun (W : World) (hx : Ext w33 W) => (box6 HB27.out ((Ext.refl w33).trans hx)).2.2.1
      have r3 := fun (W : World) (hx : Ext w33 W) => (box6 HB27.out ((Ext.refl w33).trans hx)).2.2.2.1
      have r4 := fun (W : World) (hx : Ext w33 W) => (box6 HB27.out ((Ext.refl w33).trans hx)).2.2.2.2.1
      have r5 := fun (W : World) (hx : Ext w33 W) => (box6 HB27.out ((Ext.refl w33).trans hx)).2.2.2.2.2
      go_wp2_with fail
      have hx34 : Ext w33 (w33.alloc (.cells #[.int .i64 y, .int .i64 mo, .int .i64 d, .int .i64 h, .int .i64 mi, .int .i64 s] tmt)) := (by (repeat (first | assumption | exact Ext.refl _ | apply Ext.drew | apply Ext.drewN | apply Ext.alloc | refine Ext.trans ?_ (by assumption))); first | done | fail)
      have Y34 := Kp.mk (Y33.out.trans hx34)
      have X34 := Kp.mk (X33.out.trans hx34)
      clear hx34 q0 q1 q2 q3 q4 q5 r0 r1 r2 r3 r4 r5 HTT HCC HAt HB27
      generalize w33.alloc (.cells #[.int .i64 y, .int .i64 mo, .int .i64 d, .int .i64 h, .int .i64 mi, .int .i64 s] tmt) = w34 at *
      have HI := Kp.mk (HB.out.ext X34.out)
      have key : ∃ (vI : Int) (eI : Value), (tcB b = true ∧ m ≤ 8 ∧ vI = tcV b ∧ eI = .nilIface ∨ ((∃ z, eI = err z) ∧ vI = 0)) ∧ Calls Tryd.prog 18 #[.slice B m e0] w34 fun e w' => e = .returned (.tuple #[.int .i64 vI, eI]) ∧ Ext w34 w' := by
        cases ht : tcB b with
        | false => exact ⟨0, err 2, .inr ⟨⟨2, rfl⟩, rfl⟩, ReadInt_any HI.out 0 (err 2) (.inl ⟨ht, rfl, rfl⟩)⟩
        | true =>
          by_cases h8 : m ≤ 8
          · exact ⟨tcV b, .nilIface, .inl ⟨rfl, h8, rfl, rfl⟩, ReadInt_any HI.out (tcV b) .nilIface (.inr (.inr ⟨ht, h8, rfl, rfl⟩))⟩
          · exact ⟨0, err 4, .inr ⟨⟨4, rfl⟩, rfl⟩, ReadInt_any HI.out 0 (err 4) (.inr (.inl ⟨ht, by omega, rfl, rfl⟩))⟩
      obtain ⟨vI, eI, hK, hRI⟩ := key
      have HRI := Kp.mk hRI
      clear hRI HI
      rcases hK with ⟨hI1, hI2, rfl, rfl⟩ | ⟨⟨z, rfl⟩, rfl⟩
      · have HI1 := Kp.mk hI1
        have HTR := Kp.mk (tcV_bounds (b := b) hI1 (by rw [HB.out.len]; exact hI2))
        clear hI1 hI2
        refine HRI.out.mono ?_
        rintro e w35 ⟨rfl, xa⟩
        have Y35 := Kp.mk (Y34.out.trans xa)
        have X35 := Kp.mk (X34.out.trans xa)
        clear xa HRI
        go_wp2_with fail
        refine (ReadOid_any (HB.out.ext X35.out)).mono ?_
        rintro e w36 (⟨_, rfl, xa⟩ | ⟨hPo, hEo, Ao1, co1, rfl, ro, xa⟩)
        · have Y36 := Kp.mk (Y35.out.trans xa)
          have X36 := Kp.mk (X35.out.trans xa)
          clear xa
          go_wp2_with fail
          refine (ReadBits_any (HB.out.ext X36.out) (by omega)).mono ?_
          unfold RBits
          rintro e w37 (⟨_, rfl, xa⟩ | ⟨hby, Ab, cb, rfl, ob, xa⟩)
          · as_aux_lemma =>
            have Y37 := Kp.mk (Y36.out.trans xa)
            have X37 := Kp.mk (X36.out.trans xa)
            clear xa
            have hxb : Ext w37 (w37.alloc (.cells #[.slice none 0 0, .int .i64 0] bit)) := (by (repeat (first | assumption | exact Ext.refl _ | apply Ext.drew | apply Ext.drewN | apply Ext.alloc | refine Ext.trans ?_ (by assumption))); first | done | fail)
            go_upto_region 26 with fail
            have Y38 := Kp.mk (Y37.out.trans hxb)
            have X38 := Kp.mk (X37.out.trans hxb)
            clear hxb
            generalize w37.alloc (.cells #[.slice none 0 0, .int .i64 0] bit) = w38 at *
            have SB := Kp.mk ((HB.out.ext X38.out).str (Ext.refl _))
            obtain ⟨ki, li, hli, hki1, hki8, hbi, hvi, hCi⟩ := Int_any (tcV b) w38.drew HTR.out.1 HTR.out.2
            obtain rfl : li = b := tcV_inj hbi HI1.out hvi
            obtain rfl : m = ki := HB.out.len.symm.trans hli
            have HCi := Kp.mk hCi
            clear hCi hbi hvi hli hki1 hki8
            generalize tcV li = vI at *
            refine wp_region_held_drew (S := fun w' => Ext w38 w') (by kernel_rfl) (Ext.refl w38).drew (fun hHeld => ?_)
            have hcb := fun (w' : World) (hx : Ext w38 w') => (HB.out.ext (X38.out.trans hx)).str (Ext.refl _)
            refine wpAnyH_take (i := 0) (oi := ⟨some 172, _, _, _, _, _⟩) (v := ?_) rfl (by kernel_rfl) (by kernel_rfl) (by kernel_rfl) (fun _ _ _ h => h) (Or.inl ⟨by rfl, ?_⟩) (by assumption) ?_
            rotate_left
            · (intro w hSw; (try dsimp only at hSw); go_simp; try with_reducible rfl)
            try simp only [Act.put, List.setIfInBounds_toArray, List.set_cons_zero, List.set_cons_succ]
            refine wpAnyH_take (i := 1) (oi := ⟨some 173, _, _, _, _, _⟩) (v := ?_) rfl (by kernel_rfl) (by kernel_rfl) (by kernel_rfl) (fun _ _ _ h => h) (Or.inl ⟨by rfl, ?_⟩) (by assumption) ?_
            rotate_left
            · (intro w hSw; (try dsimp only at hSw); go_simp; try with_reducible rfl)
            try simp only [Act.put, List.setIfInBounds_toArray, List.set_cons_zero, List.set_cons_succ]
            refine wpAnyH_take (i := 2) (oi := ⟨some 174, _, _, _, _, _⟩) (v := ?_) rfl (by kernel_rfl) (by kernel_rfl) (by kernel_rfl) (fun _ _ _ h => h) (Or.inl ⟨by rfl, ?_⟩) (by assumption) ?_
            rotate_left
            · (intro w hSw; (try dsimp only at hSw); go_simp; try with_reducible rfl)
            try simp only [Act.put, List.setIfInBounds_toArray, List.set_cons_zero, List.set_cons_succ]
            refine wpAnyH_take (i := 3) (oi := ⟨some 175, _, _, _, _, _⟩) (v := ?_) rfl (by kernel_rfl) (by kernel_rfl) (by kernel_rfl) (fun _ _ _ h => h) (Or.inl ⟨by rfl, ?_⟩) (by assumption) ?_
            rotate_left
            · (intro w hSw; (try dsimp only at hSw); go_simp; try with_reducible rfl)
            try simp only [Act.put, List.setIfInBounds_toArray, List.set_cons_zero, List.set_cons_succ]
            refine wpAnyH_take (i := 6) (oi := ⟨some 178, _, _, _, _, _⟩) (v := ?_) rfl (by kernel_rfl) (by kernel_rfl) (by kernel_rfl) (fun _ _ _ h => h) (Or.inl ⟨by rfl, ?_⟩) (by assumption) ?_
            rotate_left
            · (intro w hSw; (try dsimp only at hSw); go_simp; try with_reducible rfl)
            try simp only [Act.put, List.setIfInBounds_toArray, List.set_cons_zero, List.set_cons_succ]
            refine wpAnyH_take (i := 7) (oi := ⟨some 179, _, _, _, _, _⟩) (v := ?_) rfl (by kernel_rfl) (by kernel_rfl) (by kernel_rfl) (fun _ _ _ h => h) (Or.inl ⟨by rfl, ?_⟩) (by assumption) ?_
            rotate_left
            · (intro w hSw; (try dsimp only at hSw); go_simp; try with_reducible rfl)
            try simp only [Act.put, List.setIfInBounds_toArray, List.set_cons_zero, List.set_cons_succ]
            refine next_one 4 (by kernel_rfl) rfl (by rfl) fun K' HK' => ?_
            go_simp
            refine HCi.out.mono ?_
            rintro e w39 ⟨Ai, ci, rfl, si, _, xi⟩
            have hxi : Ext w38 w39 := (by (repeat (first | assumption | exact Ext.refl _ | apply Ext.drew | apply Ext.drewN | apply Ext.alloc | refine Ext.trans ?_ (by assumption))); first | done | fail)
            have Y39 := Kp.mk (Y38.out.trans hxi)
            have X39 := Kp.mk (X38.out.trans hxi)



            have hS2 := Ext.trans hHeld xi
            refine held_go HK' hS2 (fun _ => ?_)
            clear HK'
            refine held_more (S' := fun w' => Ext w39 w') (fun _ h => Ext.trans hS2 h) _ _ _ _ ?_
            clear hHeld hS2
            have hHeld : Ext w39 w39 := Ext.refl _
            try simp only [Act.put, List.setIfInBounds_toArray, List.set_cons_zero, List.set_cons_succ]
            have hci := fun (w' : World) (hx : Ext w39 w') => (si.ext hx).str (Ext.refl _)
            have hcb2 := fun (w' : World) (hx : Ext w39 w') => (HB.out.ext (X39.out.trans hx)).str (Ext.refl _)
            clear hxi hcb
            refine wpAnyH_take (i := 5) (oi := ⟨some 177, _, _, _, _, _⟩) (v := ?_) rfl (by kernel_rfl) (by kernel_rfl) (by kernel_rfl) (fun _ _ _ h => h) (Or.inl ⟨by rfl, ?_⟩) (by assumption) ?_
            rotate_left
            · (intro w hSw; (try dsimp only at hSw); go_simp; try with_reducible rfl)
            try simp only [Act.put, List.setIfInBounds_toArray, List.set_cons_zero, List.set_cons_succ]
            refine wpAnyH_take (i := 8) (oi := ⟨some 180, _, _, _, _, _⟩) (v := ?_) rfl (by kernel_rfl) (by kernel_rfl) (by kernel_rfl) (fun _ _ _ h => h) (Or.inl ⟨by rfl, ?_⟩) (by assumption) ?_
            rotate_left
            · (intro w hSw; (try dsimp only at hSw); go_simp; try with_reducible rfl)
            try simp only [Act.put, List.setIfInBounds_toArray, List.set_cons_zero, List.set_cons_succ]
            refine wpAnyH_take (i := 9) (oi := ⟨some 181, _, _, _, _, _⟩) (v := ?_) rfl (by kernel_rfl) (by kernel_rfl) (by kernel_rfl) (fun _ _ _ h => h) (Or.inl ⟨by rfl, ?_⟩) (by assumption) ?_
            rotate_left
            · (intro w hSw; (try dsimp only at hSw); go_simp; try with_reducible rfl)
            try simp only [Act.put, List.setIfInBounds_toArray, List.set_cons_zero, List.set_cons_succ]
            refine wpAnyH_done (by kernel_rfl) ?_ _
            clear si xi hci hcb2
            have hxd : Ext w39 w39 := Ext.refl _
            go_wp2_with fail
            go_ret
            exact ⟨rfl, X39.out.b⟩
          · as_aux_lemma =>
            have Y37 := Kp.mk (Y36.out.trans xa)
            have X37 := Kp.mk (X36.out.trans xa)
            have HBY := Kp.mk hby
            have HOb := Kp.mk ob
            clear hby ob
            clear xa
            have HBB := Kp.mk (Blk.new w37 bit #[.slice Ab (m - 1) cb, .int .i64 (ub (gb b 0))])
            have hxb : Ext w37 (w37.alloc (.cells #[.slice Ab (m - 1) cb, .int .i64 (ub (gb b 0))] bit)) := (by (repeat (first | assumption | exact Ext.refl _ | apply Ext.drew | apply Ext.drewN | apply Ext.alloc | refine Ext.trans ?_ (by assumption))); first | done | fail)
            have HOB := Kp.mk (HOb.out.ext hxb)
            have hbe := bits_cons (b := b) (by intro e; have := HB.out.len; rw [e] at this; simp at this; have := HBY.out.1; omega)
            have hue : BitVec.ofNat 8 (ub (gb b 0)).toNat = gb b 0 := by unfold ub; simp
            have HBE := Kp.mk (show (BitVec.ofNat 8 (ub (gb b 0)).toNat :: b.drop 1) = b by rw [hue]; exact hbe.symm)
            clear hbe hue
            generalize ub (gb b 0) = ubz at *
            go_upto_region 26 with fail
            have Y38 := Kp.mk (Y37.out.trans hxb)
            have X38 := Kp.mk (X37.out.trans hxb)
            clear hxb
            generalize w37.alloc (.cells #[.slice Ab (m - 1) cb, .int .i64 ubz] bit) = w38 at *
            have SB := Kp.mk ((HB.out.ext X38.out).str (Ext.refl _))
            obtain ⟨ki, li, hli, hki1, hki8, hbi, hvi, hCi⟩ := Int_any (tcV b) w38.drew HTR.out.1 HTR.out.2
            obtain rfl : li = b := tcV_inj hbi HI1.out hvi
            obtain rfl : m = ki := HB.out.len.symm.trans hli
            have HCi := Kp.mk hCi
            clear hCi hbi hvi hli hki1 hki8
            generalize tcV li = vI at *
            refine wp_region_held_drew (S := fun w' => Ext w38 w') (by kernel_rfl) (Ext.refl w38).drew (fun hHeld => ?_)
            have hcb := fun (w' : World) (hx : Ext w38 w') => (HB.out.ext (X38.out.trans hx)).str (Ext.refl _)
            refine wpAnyH_take (i := 0) (oi := ⟨some 172, _, _, _, _, _⟩) (v := ?_) rfl (by kernel_rfl) (by kernel_rfl) (by kernel_rfl) (fun _ _ _ h => h) (Or.inl ⟨by rfl, ?_⟩) (by assumption) ?_
            rotate_left
            · (intro w hSw; (try dsimp only at hSw); go_simp; try with_reducible rfl)
            try simp only [Act.put, List.setIfInBounds_toArray, List.set_cons_zero, List.set_cons_succ]
            refine wpAnyH_take (i := 1) (oi := ⟨some 173, _, _, _, _, _⟩) (v := ?_) rfl (by kernel_rfl) (by kernel_rfl) (by kernel_rfl) (fun _ _ _ h => h) (Or.inl ⟨by rfl, ?_⟩) (by assumption) ?_
            rotate_left
            · (intro w hSw; (try dsimp only at hSw); go_simp; try with_reducible rfl)
            try simp only [Act.put, List.setIfInBounds_toArray, List.set_cons_zero, List.set_cons_succ]
            refine wpAnyH_take (i := 2) (oi := ⟨some 174, _, _, _, _, _⟩) (v := ?_) rfl (by kernel_rfl) (by kernel_rfl) (by kernel_rfl) (fun _ _ _ h => h) (Or.inl ⟨by rfl, ?_⟩) (by assumption) ?_
            rotate_left
            · (intro w hSw; (try dsimp only at hSw); go_simp; try with_reducible rfl)
            try simp only [Act.put, List.setIfInBounds_toArray, List.set_cons_zero, List.set_cons_succ]
            refine wpAnyH_take (i := 3) (oi := ⟨some 175, _, _, _, _, _⟩) (v := ?_) rfl (by kernel_rfl) (by kernel_rfl) (by kernel_rfl) (fun _ _ _ h => h) (Or.inl ⟨by rfl, ?_⟩) (by assumption) ?_
            rotate_left
            · (intro w hSw; (try dsimp only at hSw); go_simp; try with_reducible rfl)
            try simp only [Act.put, List.setIfInBounds_toArray, List.set_cons_zero, List.set_cons_succ]
            refine wpAnyH_take (i := 6) (oi := ⟨some 178, _, _, _, _, _⟩) (v := ?_) rfl (by kernel_rfl) (by kernel_rfl) (by kernel_rfl) (fun _ _ _ h => h) (Or.inl ⟨by rfl, ?_⟩) (by assumption) ?_
            rotate_left
            · (intro w hSw; (try dsimp only at hSw); go_simp; try with_reducible rfl)
            try simp only [Act.put, List.setIfInBounds_toArray, List.set_cons_zero, List.set_cons_succ]
            refine wpAnyH_take (i := 7) (oi := ⟨some 179, _, _, _, _, _⟩) (v := ?_) rfl (by kernel_rfl) (by kernel_rfl) (by kernel_rfl) (fun _ _ _ h => h) (Or.inl ⟨by rfl, ?_⟩) (by assumption) ?_
            rotate_left
            · (intro w hSw; (try dsimp only at hSw); go_simp; try with_reducible rfl)
            try simp only [Act.put, List.setIfInBounds_toArray, List.set_cons_zero, List.set_cons_succ]
            refine next_one 4 (by kernel_rfl) rfl (by rfl) fun K' HK' => ?_
            go_simp
            refine HCi.out.mono ?_
            rintro e w39 ⟨Ai, ci, rfl, si, _, xi⟩
            have hxi : Ext w38 w39 := (by (repeat (first | assumption | exact Ext.refl _ | apply Ext.drew | apply Ext.drewN | apply Ext.alloc | refine Ext.trans ?_ (by assumption))); first | done | fail)
            have Y39 := Kp.mk (Y38.out.trans hxi)
            have X39 := Kp.mk (X38.out.trans hxi)

            have HBB2 := Kp.mk (HBB.out.ext hxi)
            have HOB2 := Kp.mk (HOB.out.ext hxi)
            have hS2 := Ext.trans hHeld xi
            refine held_go HK' hS2 (fun _ => ?_)
            clear HK'
            refine held_more (S' := fun w' => Ext w39 w') (fun _ h => Ext.trans hS2 h) _ _ _ _ ?_
            clear hHeld hS2
            have hHeld : Ext w39 w39 := Ext.refl _
            try simp only [Act.put, List.setIfInBounds_toArray, List.set_cons_zero, List.set_cons_succ]
            have hci := fun (w' : World) (hx : Ext w39 w') => (si.ext hx).str (Ext.refl _)
            have hcb2 := fun (w' : World) (hx : Ext w39 w') => (HB.out.ext (X39.out.trans hx)).str (Ext.refl _)
            clear hxi hcb
            refine wpAnyH_take (i := 5) (oi := ⟨some 177, _, _, _, _, _⟩) (v := ?_) rfl (by kernel_rfl) (by kernel_rfl) (by kernel_rfl) (fun _ _ _ h => h) (Or.inl ⟨by rfl, ?_⟩) (by assumption) ?_
            rotate_left
            · (intro w hSw; (try dsimp only at hSw); go_simp; try with_reducible rfl)
            try simp only [Act.put, List.setIfInBounds_toArray, List.set_cons_zero, List.set_cons_succ]
            refine wpAnyH_take (i := 8) (oi := ⟨some 180, _, _, _, _, _⟩) (v := ?_) rfl (by kernel_rfl) (by kernel_rfl) (by kernel_rfl) (fun _ _ _ h => h) (Or.inl ⟨by rfl, ?_⟩) (by assumption) ?_
            rotate_left
            · (intro w hSw; (try dsimp only at hSw); go_simp; try with_reducible rfl)
            try simp only [Act.put, List.setIfInBounds_toArray, List.set_cons_zero, List.set_cons_succ]
            refine wpAnyH_take (i := 9) (oi := ⟨some 181, _, _, _, _, _⟩) (v := ?_) rfl (by kernel_rfl) (by kernel_rfl) (by kernel_rfl) (fun _ _ _ h => h) (Or.inl ⟨by rfl, ?_⟩) (by assumption) ?_
            rotate_left
            · (intro w hSw; (try dsimp only at hSw); go_simp; try with_reducible rfl)
            try simp only [Act.put, List.setIfInBounds_toArray, List.set_cons_zero, List.set_cons_succ]
            refine wpAnyH_done (by kernel_rfl) ?_ _
            clear si xi hci hcb2
            have hxd : Ext w39 w39 := Ext.refl _
            obtain ⟨bx0, bx1⟩ := box2b HBB2.out (Ext.refl _)
            go_wp2_with fail
            refine (Bits_any HOB2.out.bs (by omega) ubz).mono ?_
            rintro e w40 (⟨hno, _⟩ | ⟨_, Ab2, cb2, rfl, sb, _, xb⟩)
            · rw [HBY.out.2] at hno; cases hno
            have X40 := Kp.mk (X39.out.trans xb)
            rw [HBE.out] at sb
            have sc3 := sb.str (Ext.refl _)
            have sc4 := (HB.out.ext X40.out).str (Ext.refl _)
            clear sb xb
            go_wp2_with fail
            go_ret
            exact ⟨rfl, X40.out.b⟩
        · have Y36 := Kp.mk (Y35.out.trans xa)
          have X36 := Kp.mk (X35.out.trans xa)
          have HOi := Kp.mk ro.rd
          have HPo := Kp.mk hPo
          have HEo := Kp.mk hEo
          have HDo := Kp.mk (show Dg 4294967296 (oidU (pmO b)) from oidU_dg (stT_len b b.length (Nat.le_refl _)).2.2)
          clear ro hPo hEo
          generalize oidU (pmO b) = Qo at *
          generalize Qo.length = NQ at *
          clear xa
          go_wp2_with fail
          refine (ReadBits_any (HB.out.ext X36.out) (by omega)).mono ?_
          unfold RBits
          rintro e w37 (⟨_, rfl, xa⟩ | ⟨hby, Ab, cb, rfl, ob, xa⟩)
          · as_aux_lemma =>
            have Y37 := Kp.mk (Y36.out.trans xa)
            have X37 := Kp.mk (X36.out.trans xa)
            have HOi := Kp.mk (HOi.out.ext xa)
            clear xa
            have hxb : Ext w37 (w37.alloc (.cells #[.slice none 0 0, .int .i64 0] bit)) := (by (repeat (first | assumption | exact Ext.refl _ | apply Ext.drew | apply Ext.drewN | apply Ext.alloc | refine Ext.trans ?_ (by assumption))); first | done | fail)
            go_upto_region 26 with fail
            have Y38 := Kp.mk (Y37.out.trans hxb)
            have X38 := Kp.mk (X37.out.trans hxb)
            have HO38 := Kp.mk (HOi.out.ext hxb)
            clear hxb
            generalize w37.alloc (.cells #[.slice none 0 0, .int .i64 0] bit) = w38 at *
            have SB := Kp.mk ((HB.out.ext X38.out).str (Ext.refl _))
            obtain ⟨ki, li, hli, hki1, hki8, hbi, hvi, hCi⟩ := Int_any (tcV b) w38.drew HTR.out.1 HTR.out.2
            obtain rfl : li = b := tcV_inj hbi HI1.out hvi
            obtain rfl : m = ki := HB.out.len.symm.trans hli
            have HCi := Kp.mk hCi
            clear hCi hbi hvi hli hki1 hki8
            generalize tcV li = vI at *
            refine wp_region_held_drew (S := fun w' => Ext w38 w') (by kernel_rfl) (Ext.refl w38).drew (fun hHeld => ?_)
            have hcb := fun (w' : World) (hx : Ext w38 w') => (HB.out.ext (X38.out.trans hx)).str (Ext.refl _)
            refine wpAnyH_take (i := 0) (oi := ⟨some 172, _, _, _, _, _⟩) (v := ?_) rfl (by kernel_rfl) (by kernel_rfl) (by kernel_rfl) (fun _ _ _ h => h) (Or.inl ⟨by rfl, ?_⟩) (by assumption) ?_
            rotate_left
            · (intro w hSw; (try dsimp only at hSw); go_simp; try with_reducible rfl)
            try simp only [Act.put, List.setIfInBounds_toArray, List.set_cons_zero, List.set_cons_succ]
            refine wpAnyH_take (i := 1) (oi := ⟨some 173, _, _, _, _, _⟩) (v := ?_) rfl (by kernel_rfl) (by kernel_rfl) (by kernel_rfl) (fun _ _ _ h => h) (Or.inl ⟨by rfl, ?_⟩) (by assumption) ?_
            rotate_left
            · (intro w hSw; (try dsimp only at hSw); go_simp; try with_reducible rfl)
            try simp only [Act.put, List.setIfInBounds_toArray, List.set_cons_zero, List.set_cons_succ]
            refine wpAnyH_take (i := 2) (oi := ⟨some 174, _, _, _, _, _⟩) (v := ?_) rfl (by kernel_rfl) (by kernel_rfl) (by kernel_rfl) (fun _ _ _ h => h) (Or.inl ⟨by rfl, ?_⟩) (by assumption) ?_
            rotate_left
            · (intro w hSw; (try dsimp only at hSw); go_simp; try with_reducible rfl)
            try simp only [Act.put, List.setIfInBounds_toArray, List.set_cons_zero, List.set_cons_succ]
            refine wpAnyH_take (i := 3) (oi := ⟨some 175, _, _, _, _, _⟩) (v := ?_) rfl (by kernel_rfl) (by kernel_rfl) (by kernel_rfl) (fun _ _ _ h => h) (Or.inl ⟨by rfl, ?_⟩) (by assumption) ?_
            rotate_left
            · (intro w hSw; (try dsimp only at hSw); go_simp; try with_reducible rfl)
            try simp only [Act.put, List.setIfInBounds_toArray, List.set_cons_zero, List.set_cons_succ]
            refine wpAnyH_take (i := 6) (oi := ⟨some 178, _, _, _, _, _⟩) (v := ?_) rfl (by kernel_rfl) (by kernel_rfl) (by kernel_rfl) (fun _ _ _ h => h) (Or.inl ⟨by rfl, ?_⟩) (by assumption) ?_
            rotate_left
            · (intro w hSw; (try dsimp only at hSw); go_simp; try with_reducible rfl)
            try simp only [Act.put, List.setIfInBounds_toArray, List.set_cons_zero, List.set_cons_succ]
            refine wpAnyH_take (i := 7) (oi := ⟨some 179, _, _, _, _, _⟩) (v := ?_) rfl (by kernel_rfl) (by kernel_rfl) (by kernel_rfl) (fun _ _ _ h => h) (Or.inl ⟨by rfl, ?_⟩) (by assumption) ?_
            rotate_left
            · (intro w hSw; (try dsimp only at hSw); go_simp; try with_reducible rfl)
            try simp only [Act.put, List.setIfInBounds_toArray, List.set_cons_zero, List.set_cons_succ]
            refine next_one 4 (by kernel_rfl) rfl (by rfl) fun K' HK' => ?_
            go_simp
            refine HCi.out.mono ?_
            rintro e w39 ⟨Ai, ci, rfl, si, _, xi⟩
            have hxi : Ext w38 w39 := (by (repeat (first | assumption | exact Ext.refl _ | apply Ext.drew | apply Ext.drewN | apply Ext.alloc | refine Ext.trans ?_ (by assumption))); first | done | fail)
            have Y39 := Kp.mk (Y38.out.trans hxi)
            have X39 := Kp.mk (X38.out.trans hxi)
            have HO39 := Kp.mk (HO38.out.ext hxi)


            have hS2 := Ext.trans hHeld xi
            refine held_go HK' hS2 (fun _ => ?_)
            clear HK'
            refine held_more (S' := fun w' => Ext w39 w') (fun _ h => Ext.trans hS2 h) _ _ _ _ ?_
            clear hHeld hS2
            have hHeld : Ext w39 w39 := Ext.refl _
            try simp only [Act.put, List.setIfInBounds_toArray, List.set_cons_zero, List.set_cons_succ]
            have hci := fun (w' : World) (hx : Ext w39 w') => (si.ext hx).str (Ext.refl _)
            have hcb2 := fun (w' : World) (hx : Ext w39 w') => (HB.out.ext (X39.out.trans hx)).str (Ext.refl _)
            clear hxi hcb
            refine wpAnyH_take (i := 5) (oi := ⟨some 177, _, _, _, _, _⟩) (v := ?_) rfl (by kernel_rfl) (by kernel_rfl) (by kernel_rfl) (fun _ _ _ h => h) (Or.inl ⟨by rfl, ?_⟩) (by assumption) ?_
            rotate_left
            · (intro w hSw; (try dsimp only at hSw); go_simp; try with_reducible rfl)
            try simp only [Act.put, List.setIfInBounds_toArray, List.set_cons_zero, List.set_cons_succ]
            refine wpAnyH_take (i := 8) (oi := ⟨some 180, _, _, _, _, _⟩) (v := ?_) rfl (by kernel_rfl) (by kernel_rfl) (by kernel_rfl) (fun _ _ _ h => h) (Or.inl ⟨by rfl, ?_⟩) (by assumption) ?_
            rotate_left
            · (intro w hSw; (try dsimp only at hSw); go_simp; try with_reducible rfl)
            try simp only [Act.put, List.setIfInBounds_toArray, List.set_cons_zero, List.set_cons_succ]
            refine wpAnyH_take (i := 9) (oi := ⟨some 181, _, _, _, _, _⟩) (v := ?_) rfl (by kernel_rfl) (by kernel_rfl) (by kernel_rfl) (fun _ _ _ h => h) (Or.inl ⟨by rfl, ?_⟩) (by assumption) ?_
            rotate_left
            · (intro w hSw; (try dsimp only at hSw); go_simp; try with_reducible rfl)
            try simp only [Act.put, List.setIfInBounds_toArray, List.set_cons_zero, List.set_cons_succ]
            refine wpAnyH_done (by kernel_rfl) ?_ _
            clear si xi hci hcb2
            have hxd : Ext w39 w39 := Ext.refl _
            go_wp2_with fail
            refine (Oid_any HO39.out HDo.out).mono ?_
            rintro e w40 (⟨hno, _⟩ | ⟨_, Ao, co, rfl, so, _, xo⟩)
            · exact absurd HPo.out hno
            have Y40 := Kp.mk (Y39.out.trans xo)
            have X40 := Kp.mk (X39.out.trans xo)


            clear xo
            rw [HEo.out] at so ⊢
            have sc := so.str (Ext.refl _)
            have sc2 := (HB.out.ext X40.out).str (Ext.refl _)
            clear so
            generalize li.length = Nb at *
            go_wp2_with fail
            go_ret
            exact ⟨rfl, X40.out.b⟩
          · as_aux_lemma =>
            have Y37 := Kp.mk (Y36.out.trans xa)
            have X37 := Kp.mk (X36.out.trans xa)
            have HOi := Kp.mk (HOi.out.ext xa)
            have HBY := Kp.mk hby
            have HOb := Kp.mk ob
            clear hby ob
            clear xa
            have HBB := Kp.mk (Blk.new w37 bit #[.slice Ab (m - 1) cb, .int .i64 (ub (gb b 0))])
            have hxb : Ext w37 (w37.alloc (.cells #[.slice Ab (m - 1) cb, .int .i64 (ub (gb b 0))] bit)) := (by (repeat (first | assumption | exact Ext.refl _ | apply Ext.drew | apply Ext.drewN | apply Ext.alloc | refine Ext.trans ?_ (by assumption))); first | done | fail)
            have HOB := Kp.mk (HOb.out.ext hxb)
            have hbe := bits_cons (b := b) (by intro e; have := HB.out.len; rw [e] at this; simp at this; have := HBY.out.1; omega)
            have hue : BitVec.ofNat 8 (ub (gb b 0)).toNat = gb b 0 := by unfold ub; simp
            have HBE := Kp.mk (show (BitVec.ofNat 8 (ub (gb b 0)).toNat :: b.drop 1) = b by rw [hue]; exact hbe.symm)
            clear hbe hue
            generalize ub (gb b 0) = ubz at *
            go_upto_region 26 with fail
            have Y38 := Kp.mk (Y37.out.trans hxb)
            have X38 := Kp.mk (X37.out.trans hxb)
            have HO38 := Kp.mk (HOi.out.ext hxb)
            clear hxb
            generalize w37.alloc (.cells #[.slice Ab (m - 1) cb, .int .i64 ubz] bit) = w38 at *
            have SB := Kp.mk ((HB.out.ext X38.out).str (Ext.refl _))
            obtain ⟨ki, li, hli, hki1, hki8, hbi, hvi, hCi⟩ := Int_any (tcV b) w38.drew HTR.out.1 HTR.out.2
            obtain rfl : li = b := tcV_inj hbi HI1.out hvi
            obtain rfl : m = ki := HB.out.len.symm.trans hli
            have HCi := Kp.mk hCi
            clear hCi hbi hvi hli hki1 hki8
            generalize tcV li = vI at *
            refine wp_region_held_drew (S := fun w' => Ext w38 w') (by kernel_rfl) (Ext.refl w38).drew (fun hHeld => ?_)
            have hcb := fun (w' : World) (hx : Ext w38 w') => (HB.out.ext (X38.out.trans hx)).str (Ext.refl _)
            refine wpAnyH_take (i := 0) (oi := ⟨some 172, _, _, _, _, _⟩) (v := ?_) rfl (by kernel_rfl) (by kernel_rfl) (by kernel_rfl) (fun _ _ _ h => h) (Or.inl ⟨by rfl, ?_⟩) (by assumption) ?_
            rotate_left
            · (intro w hSw; (try dsimp only at hSw); go_simp; try with_reducible rfl)
            try simp only [Act.put, List.setIfInBounds_toArray, List.set_cons_zero, List.set_cons_succ]
            refine wpAnyH_take (i := 1) (oi := ⟨some 173, _, _, _, _, _⟩) (v := ?_) rfl (by kernel_rfl) (by kernel_rfl) (by kernel_rfl) (fun _ _ _ h => h) (Or.inl ⟨by rfl, ?_⟩) (by assumption) ?_
            rotate_left
            · (intro w hSw; (try dsimp only at hSw); go_simp; try with_reducible rfl)
            try simp only [Act.put, List.setIfInBounds_toArray, List.set_cons_zero, List.set_cons_succ]
            refine wpAnyH_take (i := 2) (oi := ⟨some 174, _, _, _, _, _⟩) (v := ?_) rfl (by kernel_rfl) (by kernel_rfl) (by kernel_rfl) (fun _ _ _ h => h) (Or.inl ⟨by rfl, ?_⟩) (by assumption) ?_
            rotate_left
            · (intro w hSw; (try dsimp only at hSw); go_simp; try with_reducible rfl)
            try simp only [Act.put, List.setIfInBounds_toArray, List.set_cons_zero, List.set_cons_succ]
            refine wpAnyH_take (i := 3) (oi := ⟨some 175, _, _, _, _, _⟩) (v := ?_) rfl (by kernel_rfl) (by kernel_rfl) (by kernel_rfl) (fun _ _ _ h => h) (Or.inl ⟨by rfl, ?_⟩) (by assumption) ?_
            rotate_left
            · (intro w hSw; (try dsimp only at hSw); go_simp; try with_reducible rfl)
            try simp only [Act.put, List.setIfInBounds_toArray, List.set_cons_zero, List.set_cons_succ]
            refine wpAnyH_take (i := 6) (oi := ⟨some 178, _, _, _, _, _⟩) (v := ?_) rfl (by kernel_rfl) (by kernel_rfl) (by kernel_rfl) (fun _ _ _ h => h) (Or.inl ⟨by rfl, ?_⟩) (by assumption) ?_
            rotate_left
            · (intro w hSw; (try dsimp only at hSw); go_simp; try with_reducible rfl)
            try simp only [Act.put, List.setIfInBounds_toArray, List.set_cons_zero, List.set_cons_succ]
            refine wpAnyH_take (i := 7) (oi := ⟨some 179, _, _, _, _, _⟩) (v := ?_) rfl (by kernel_rfl) (by kernel_rfl) (by kernel_rfl) (fun _ _ _ h => h) (Or.inl ⟨by rfl, ?_⟩) (by assumption) ?_
            rotate_left
            · (intro w hSw; (try dsimp only at hSw); go_simp; try with_reducible rfl)
            try simp only [Act.put, List.setIfInBounds_toArray, List.set_cons_zero, List.set_cons_succ]
            refine next_one 4 (by kernel_rfl) rfl (by rfl) fun K' HK' => ?_
            go_simp
            refine HCi.out.mono ?_
            rintro e w39 ⟨Ai, ci, rfl, si, _, xi⟩
            have hxi : Ext w38 w39 := (by (repeat (first | assumption | exact Ext.refl _ | apply Ext.drew | apply Ext.drewN | apply Ext.alloc | refine Ext.trans ?_ (by assumption))); first | done | fail)
            have Y39 := Kp.mk (Y38.out.trans hxi)
            have X39 := Kp.mk (X38.out.trans hxi)
            have HO39 := Kp.mk (HO38.out.ext hxi)
            have HBB2 := Kp.mk (HBB.out.ext hxi)
            have HOB2 := Kp.mk (HOB.out.ext hxi)
            have hS2 := Ext.trans hHeld xi
            refine held_go HK' hS2 (fun _ => ?_)
            clear HK'
            refine held_more (S' := fun w' => Ext w39 w') (fun _ h => Ext.trans hS2 h) _ _ _ _ ?_
            clear hHeld hS2
            have hHeld : Ext w39 w39 := Ext.refl _
            try simp only [Act.put, List.setIfInBounds_toArray, List.set_cons_zero, List.set_cons_succ]
            have hci := fun (w' : World) (hx : Ext w39 w') => (si.ext hx).str (Ext.refl _)
            have hcb2 := fun (w' : World) (hx : Ext w39 w') => (HB.out.ext (X39.out.trans hx)).str (Ext.refl _)
            clear hxi hcb
            refine wpAnyH_take (i := 5) (oi := ⟨some 177, _, _, _, _, _⟩) (v := ?_) rfl (by kernel_rfl) (by kernel_rfl) (by kernel_rfl) (fun _ _ _ h => h) (Or.inl ⟨by rfl, ?_⟩) (by assumption) ?_
            rotate_left
            · (intro w hSw; (try dsimp only at hSw); go_simp; try with_reducible rfl)
            try simp only [Act.put, List.setIfInBounds_toArray, List.set_cons_zero, List.set_cons_succ]
            refine wpAnyH_take (i := 8) (oi := ⟨some 180, _, _, _, _, _⟩) (v := ?_) rfl (by kernel_rfl) (by kernel_rfl) (by kernel_rfl) (fun _ _ _ h => h) (Or.inl ⟨by rfl, ?_⟩) (by assumption) ?_
            rotate_left
            · (intro w hSw; (try dsimp only at hSw); go_simp; try with_reducible rfl)
            try simp only [Act.put, List.setIfInBounds_toArray, List.set_cons_zero, List.set_cons_succ]
            refine wpAnyH_take (i := 9) (oi := ⟨some 181, _, _, _, _, _⟩) (v := ?_) rfl (by kernel_rfl) (by kernel_rfl) (by kernel_rfl) (fun _ _ _ h => h) (Or.inl ⟨by rfl, ?_⟩) (by assumption) ?_
            rotate_left
            · (intro w hSw; (try dsimp only at hSw); go_simp; try with_reducible rfl)
            try simp only [Act.put, List.setIfInBounds_toArray, List.set_cons_zero, List.set_cons_succ]
            refine wpAnyH_done (by kernel_rfl) ?_ _
            clear si xi hci hcb2
            have hxd : Ext w39 w39 := Ext.refl _
            obtain ⟨bx0, bx1⟩ := box2b HBB2.out (Ext.refl _)
            go_wp2_with fail
            refine (Oid_any HO39.out HDo.out).mono ?_
            rintro e w40 (⟨hno, _⟩ | ⟨_, Ao, co, rfl, so, _, xo⟩)
            · exact absurd HPo.out hno
            have Y40 := Kp.mk (Y39.out.trans xo)
            have X40 := Kp.mk (X39.out.trans xo)
            have HBB3 := Kp.mk (HBB2.out.ext xo)
            have HOB3 := Kp.mk (HOB2.out.ext xo)
            clear xo
            rw [HEo.out] at so ⊢
            have sc := so.str (Ext.refl _)
            have sc2 := (HB.out.ext X40.out).str (Ext.refl _)
            clear so
            generalize li.length = Nb at *
            obtain ⟨bx0, bx1⟩ := box2b HBB3.out (Ext.refl _)
            go_wp2_with fail
            refine (Bits_any HOB3.out.bs (by omega) ubz).mono ?_
            rintro e w41 (⟨hno, _⟩ | ⟨_, Ab2, cb2, rfl, sb, _, xb⟩)
            · rw [HBY.out.2] at hno; cases hno
            have X41 := Kp.mk (X40.out.trans xb)
            rw [HBE.out] at sb
            have sc3 := sb.str (Ext.refl _)
            have sc4 := (HB.out.ext X41.out).str (Ext.refl _)
            clear sb xb
            go_wp2_with fail
            go_ret
            exact ⟨rfl, X41.out.b⟩
      · refine HRI.out.mono ?_
        rintro e w35 ⟨rfl, xa⟩
        have Y35 := Kp.mk (Y34.out.trans xa)
        have X35 := Kp.mk (X34.out.trans xa)
        clear xa HRI
        go_wp2_with fail
        refine (ReadOid_any (HB.out.ext X35.out)).mono ?_
        rintro e w36 (⟨_, rfl, xa⟩ | ⟨hPo, hEo, Ao1, co1, rfl, ro, xa⟩)
        · have Y36 := Kp.mk (Y35.out.trans xa)
          have X36 := Kp.mk (X35.out.trans xa)
          clear xa
          go_wp2_with fail
          refine (ReadBits_any (HB.out.ext X36.out) (by omega)).mono ?_
          unfold RBits
          rintro e w37 (⟨_, rfl, xa⟩ | ⟨hby, Ab, cb, rfl, ob, xa⟩)
          · as_aux_lemma =>
            have Y37 := Kp.mk (Y36.out.trans xa)
            have X37 := Kp.mk (X36.out.trans xa)
            clear xa
            have hxb : Ext w37 (w37.alloc (.cells #[.slice none 0 0, .int .i64 0] bit)) := (by (repeat (first | assumption | exact Ext.refl _ | apply Ext.drew | apply Ext.drewN | apply Ext.alloc | refine Ext.trans ?_ (by assumption))); first | done | fail)
            go_upto_region 26 with fail
            have Y38 := Kp.mk (Y37.out.trans hxb)
            have X38 := Kp.mk (X37.out.trans hxb)
            clear hxb
            generalize w37.alloc (.cells #[.slice none 0 0, .int .i64 0] bit) = w38 at *
            have SB := Kp.mk ((HB.out.ext X38.out).str (Ext.refl _))
            go_quiet (fail)
            have hxi : Ext w38 (w38.drewN nq) := (by (repeat (first | assumption | exact Ext.refl _ | apply Ext.drew | apply Ext.drewN | apply Ext.alloc | refine Ext.trans ?_ (by assumption))); first | done | fail)
            have Y39 := Kp.mk (Y38.out.trans hxi)
            have X39 := Kp.mk (X38.out.trans hxi)



            clear hxi
            generalize w38.drewN nq = w39 at *
            go_wp2_with fail
            go_ret
            exact ⟨rfl, X39.out.b⟩
          · as_aux_lemma =>
            have Y37 := Kp.mk (Y36.out.trans xa)
            have X37 := Kp.mk (X36.out.trans xa)
            have HBY := Kp.mk hby
            have HOb := Kp.mk ob
            clear hby ob
            clear xa
            have HBB := Kp.mk (Blk.new w37 bit #[.slice Ab (m - 1) cb, .int .i64 (ub (gb b 0))])
            have hxb : Ext w37 (w37.alloc (.cells #[.slice Ab (m - 1) cb, .int .i64 (ub (gb b 0))] bit)) := (by (repeat (first | assumption | exact Ext.refl _ | apply Ext.drew | apply Ext.drewN | apply Ext.alloc | refine Ext.trans ?_ (by assumption))); first | done | fail)
            have HOB := Kp.mk (HOb.out.ext hxb)
            have hbe := bits_cons (b := b) (by intro e; have := HB.out.len; rw [e] at this; simp at this; have := HBY.out.1; omega)
            have hue : BitVec.ofNat 8 (ub (gb b 0)).toNat = gb b 0 := by unfold ub; simp
            have HBE := Kp.mk (show (BitVec.ofNat 8 (ub (gb b 0)).toNat :: b.drop 1) = b by rw [hue]; exact hbe.symm)
            clear hbe hue
            generalize ub (gb b 0) = ubz at *
            go_upto_region 26 with fail
            have Y38 := Kp.mk (Y37.out.trans hxb)
            have X38 := Kp.mk (X37.out.trans hxb)
            clear hxb
            generalize w37.alloc (.cells #[.slice Ab (m - 1) cb, .int .i64 ubz] bit) = w38 at *
            have SB := Kp.mk ((HB.out.ext X38.out).str (Ext.refl _))
            go_quiet (fail)
            have hxi : Ext w38 (w38.drewN nq) := (by (repeat (first | assumption | exact Ext.refl _ | apply Ext.drew | apply Ext.drewN | apply Ext.alloc | refine Ext.trans ?_ (by assumption))); first | done | fail)
            have Y39 := Kp.mk (Y38.out.trans hxi)
            have X39 := Kp.mk (X38.out.trans hxi)

            have HBB2 := Kp.mk (HBB.out.ext hxi)
            have HOB2 := Kp.mk (HOB.out.ext hxi)
            clear hxi
            generalize w38.drewN nq = w39 at *
            obtain ⟨bx0, bx1⟩ := box2b HBB2.out (Ext.refl _)
            go_wp2_with fail
            refine (Bits_any HOB2.out.bs (by omega) ubz).mono ?_
            rintro e w40 (⟨hno, _⟩ | ⟨_, Ab2, cb2, rfl, sb, _, xb⟩)
            · rw [HBY.out.2] at hno; cases hno
            have X40 := Kp.mk (X39.out.trans xb)
            rw [HBE.out] at sb
            have sc3 := sb.str (Ext.refl _)
            have sc4 := (HB.out.ext X40.out).str (Ext.refl _)
            clear sb xb
            go_wp2_with fail
            go_ret
            exact ⟨rfl, X40.out.b⟩
        · have Y36 := Kp.mk (Y35.out.trans xa)
          have X36 := Kp.mk (X35.out.trans xa)
          have HOi := Kp.mk ro.rd
          have HPo := Kp.mk hPo
          have HEo := Kp.mk hEo
          have HDo := Kp.mk (show Dg 4294967296 (oidU (pmO b)) from oidU_dg (stT_len b b.length (Nat.le_refl _)).2.2)
          clear ro hPo hEo
          generalize oidU (pmO b) = Qo at *
          generalize Qo.length = NQ at *
          clear xa
          go_wp2_with fail
          refine (ReadBits_any (HB.out.ext X36.out) (by omega)).mono ?_
          unfold RBits
          rintro e w37 (⟨_, rfl, xa⟩ | ⟨hby, Ab, cb, rfl, ob, xa⟩)
          · as_aux_lemma =>
            have Y37 := Kp.mk (Y36.out.trans xa)
            have X37 := Kp.mk (X36.out.trans xa)
            have HOi := Kp.mk (HOi.out.ext xa)
            clear xa
            have hxb : Ext w37 (w37.alloc (.cells #[.slice none 0 0, .int .i64 0] bit)) := (by (repeat (first | assumption | exact Ext.refl _ | apply Ext.drew | apply Ext.drewN | apply Ext.alloc | refine Ext.trans ?_ (by assumption))); first | done | fail)
            go_upto_region 26 with fail
            have Y38 := Kp.mk (Y37.out.trans hxb)
            have X38 := Kp.mk (X37.out.trans hxb)
            have HO38 := Kp.mk (HOi.out.ext hxb)
            clear hxb
            generalize w37.alloc (.cells #[.slice none 0 0, .int .i64 0] bit) = w38 at *
            have SB := Kp.mk ((HB.out.ext X38.out).str (Ext.refl _))
            go_quiet (fail)
            have hxi : Ext w38 (w38.drewN nq) := (by (repeat (first | assumption | exact Ext.refl _ | apply Ext.drew | apply Ext.drewN | apply Ext.alloc | refine Ext.trans ?_ (by assumption))); first | done | fail)
            have Y39 := Kp.mk (Y38.out.trans hxi)
            have X39 := Kp.mk (X38.out.trans hxi)
            have HO39 := Kp.mk (HO38.out.ext hxi)


            clear hxi
            generalize w38.drewN nq = w39 at *
            go_wp2_with fail
            refine (Oid_any HO39.out HDo.out).mono ?_
            rintro e w40 (⟨hno, _⟩ | ⟨_, Ao, co, rfl, so, _, xo⟩)
            · exact absurd HPo.out hno
            have Y40 := Kp.mk (Y39.out.trans xo)
            have X40 := Kp.mk (X39.out.trans xo)


            clear xo
            rw [HEo.out] at so ⊢
            have sc := so.str (Ext.refl _)
            have sc2 := (HB.out.ext X40.out).str (Ext.refl _)
            clear so
            generalize b.length = Nb at *
            go_wp2_with fail
            go_ret
            exact ⟨rfl, X40.out.b⟩
          · as_aux_lemma =>
            have Y37 := Kp.mk (Y36.out.trans xa)
            have X37 := Kp.mk (X36.out.trans xa)
            have HOi := Kp.mk (HOi.out.ext xa)
            have HBY := Kp.mk hby
            have HOb := Kp.mk ob
            clear hby ob
            clear xa
            have HBB := Kp.mk (Blk.new w37 bit #[.slice Ab (m - 1) cb, .int .i64 (ub (gb b 0))])
            have hxb : Ext w37 (w37.alloc (.cells #[.slice Ab (m - 1) cb, .int .i64 (ub (gb b 0))] bit)) := (by (repeat (first | assumption | exact Ext.refl _ | apply Ext.drew | apply Ext.drewN | apply Ext.alloc | refine Ext.trans ?_ (by assumption))); first | done | fail)
            have HOB := Kp.mk (HOb.out.ext hxb)
            have hbe := bits_cons (b := b) (by intro e; have := HB.out.len; rw [e] at this; simp at this; have := HBY.out.1; omega)
            have hue : BitVec.ofNat 8 (ub (gb b 0)).toNat = gb b 0 := by unfold ub; simp
            have HBE := Kp.mk (show (BitVec.ofNat 8 (ub (gb b 0)).toNat :: b.drop 1) = b by rw [hue]; exact hbe.symm)
            clear hbe hue
            generalize ub (gb b 0) = ubz at *
            go_upto_region 26 with fail
            have Y38 := Kp.mk (Y37.out.trans hxb)
            have X38 := Kp.mk (X37.out.trans hxb)
            have HO38 := Kp.mk (HOi.out.ext hxb)
            clear hxb
            generalize w37.alloc (.cells #[.slice Ab (m - 1) cb, .int .i64 ubz] bit) = w38 at *
            have SB := Kp.mk ((HB.out.ext X38.out).str (Ext.refl _))
            go_quiet (fail)
            have hxi : Ext w38 (w38.drewN nq) := (by (repeat (first | assumption | exact Ext.refl _ | apply Ext.drew | apply Ext.drewN | apply Ext.alloc | refine Ext.trans ?_ (by assumption))); first | done | fail)
            have Y39 := Kp.mk (Y38.out.trans hxi)
            have X39 := Kp.mk (X38.out.trans hxi)
            have HO39 := Kp.mk (HO38.out.ext hxi)
            have HBB2 := Kp.mk (HBB.out.ext hxi)
            have HOB2 := Kp.mk (HOB.out.ext hxi)
            clear hxi
            generalize w38.drewN nq = w39 at *
            obtain ⟨bx0, bx1⟩ := box2b HBB2.out (Ext.refl _)
            go_wp2_with fail
            refine (Oid_any HO39.out HDo.out).mono ?_
            rintro e w40 (⟨hno, _⟩ | ⟨_, Ao, co, rfl, so, _, xo⟩)
            · exact absurd HPo.out hno
            have Y40 := Kp.mk (Y39.out.trans xo)
            have X40 := Kp.mk (X39.out.trans xo)
            have HBB3 := Kp.mk (HBB2.out.ext xo)
            have HOB3 := Kp.mk (HOB2.out.ext xo)
            clear xo
            rw [HEo.out] at so ⊢
            have sc := so.str (Ext.refl _)
            have sc2 := (HB.out.ext X40.out).str (Ext.refl _)
            clear so
            generalize b.length = Nb at *
            obtain ⟨bx0, bx1⟩ := box2b HBB3.out (Ext.refl _)
            go_wp2_with fail
            refine (Bits_any HOB3.out.bs (by omega) ubz).mono ?_
            rintro e w41 (⟨hno, _⟩ | ⟨_, Ab2, cb2, rfl, sb, _, xb⟩)
            · rw [HBY.out.2] at hno; cases hno
            have X41 := Kp.mk (X40.out.trans xb)
            rw [HBE.out] at sb
            have sc3 := sb.str (Ext.refl _)
            have sc4 := (HB.out.ext X41.out).str (Ext.refl _)
            clear sb xb
            go_wp2_with fail
            go_ret
            exact ⟨rfl, X41.out.b⟩
    · have hTn := fun W => Time_no y mo d h mi s W hno
      unfold tci at hTn
      have HTn := Kp.mk hTn
      clear hTn hno
      have q0 := fun (W : World) (hx : Ext w11 W) => (box6 HBT.out (Y11.out.trans hx)).1
      have q1 := fun (W : World) (hx : Ext w11 W) => (box6 HBT.out (Y11.out.trans hx)).2.1
      have q2 := fun (W : World) (hx : Ext w11 W) => (box6 HBT.out (Y11.out.trans hx)).2.2.1
      have q3 := fun (W : World) (hx : Ext w11 W) => (box6 HBT.out (Y11.out.trans hx)).2.2.2.1
      have q4 := fun (W : World) (hx : Ext w11 W) => (box6 HBT.out (Y11.out.trans hx)).2.2.2.2.1
      have q5 := fun (W : World) (hx : Ext w11 W) => (box6 HBT.out (Y11.out.trans hx)).2.2.2.2.2
      go_wp2_with fail
      refine (HTn.out _).mono ?_
      rintro e w34 ⟨rfl, x34⟩
      have Y34 := Kp.mk (Y11.out.trans x34)
      have X34 := Kp.mk (X11.out.trans x34)
      clear x34 q0 q1 q2 q3 q4 q5 HTn
      go_wp2_with fail
      have HI := Kp.mk (HB.out.ext X34.out)
      have key : ∃ (vI : Int) (eI : Value), (tcB b = true ∧ m ≤ 8 ∧ vI = tcV b ∧ eI = .nilIface ∨ ((∃ z, eI = err z) ∧ vI = 0)) ∧ Calls Tryd.prog 18 #[.slice B m e0] w34 fun e w' => e = .returned (.tuple #[.int .i64 vI, eI]) ∧ Ext w34 w' := by
        cases ht : tcB b with
        | false => exact ⟨0, err 2, .inr ⟨⟨2, rfl⟩, rfl⟩, ReadInt_any HI.out 0 (err 2) (.inl ⟨ht, rfl, rfl⟩)⟩
        | true =>
          by_cases h8 : m ≤ 8
          · exact ⟨tcV b, .nilIface, .inl ⟨rfl, h8, rfl, rfl⟩, ReadInt_any HI.out (tcV b) .nilIface (.inr (.inr ⟨ht, h8, rfl, rfl⟩))⟩
          · exact ⟨0, err 4, .inr ⟨⟨4, rfl⟩, rfl⟩, ReadInt_any HI.out 0 (err 4) (.inr (.inl ⟨ht, by omega, rfl, rfl⟩))⟩
      obtain ⟨vI, eI, hK, hRI⟩ := key
      have HRI := Kp.mk hRI
      clear hRI HI
      rcases hK with ⟨hI1, hI2, rfl, rfl⟩ | ⟨⟨z, rfl⟩, rfl⟩
      · have HI1 := Kp.mk hI1
        have HTR := Kp.mk (tcV_bounds (b := b) hI1 (by rw [HB.out.len]; exact hI2))
        clear hI1 hI2
        refine HRI.out.mono ?_
        rintro e w35 ⟨rfl, xa⟩
        have Y35 := Kp.mk (Y34.out.trans xa)
        have X35 := Kp.mk (X34.out.trans xa)
        clear xa HRI
        go_wp2_with fail
        refine (ReadOid_any (HB.out.ext X35.out)).mono ?_
        rintro e w36 (⟨_, rfl, xa⟩ | ⟨hPo, hEo, Ao1, co1, rfl, ro, xa⟩)
        · have Y36 := Kp.mk (Y35.out.trans xa)
          have X36 := Kp.mk (X35.out.trans xa)
          clear xa
          go_wp2_with fail
          refine (ReadBits_any (HB.out.ext X36.out) (by omega)).mono ?_
          unfold RBits
          rintro e w37 (⟨_, rfl, xa⟩ | ⟨hby, Ab, cb, rfl, ob, xa⟩)
          · as_aux_lemma =>
            have Y37 := Kp.mk (Y36.out.trans xa)
            have X37 := Kp.mk (X36.out.trans xa)
            clear xa
            have hxb : Ext w37 (w37.alloc (.cells #[.slice none 0 0, .int .i64 0] bit)) := (by (repeat (first | assumption | exact Ext.refl _ | apply Ext.drew | apply Ext.drewN | apply Ext.alloc | refine Ext.trans ?_ (by assumption))); first | done | fail)
            go_upto_region 26 with fail
            have Y38 := Kp.mk (Y37.out.trans hxb)
            have X38 := Kp.mk (X37.out.trans hxb)
            clear hxb
            generalize w37.alloc (.cells #[.slice none 0 0, .int .i64 0] bit) = w38 at *
            have SB := Kp.mk ((HB.out.ext X38.out).str (Ext.refl _))
            obtain ⟨ki, li, hli, hki1, hki8, hbi, hvi, hCi⟩ := Int_any (tcV b) w38.drew HTR.out.1 HTR.out.2
            obtain rfl : li = b := tcV_inj hbi HI1.out hvi
            obtain rfl : m = ki := HB.out.len.symm.trans hli
            have HCi := Kp.mk hCi
            clear hCi hbi hvi hli hki1 hki8
            generalize tcV li = vI at *
            refine wp_region_held_drew (S := fun w' => Ext w38 w') (by kernel_rfl) (Ext.refl w38).drew (fun hHeld => ?_)
            have hcb := fun (w' : World) (hx : Ext w38 w') => (HB.out.ext (X38.out.trans hx)).str (Ext.refl _)
            refine wpAnyH_take (i := 0) (oi := ⟨some 172, _, _, _, _, _⟩) (v := ?_) rfl (by kernel_rfl) (by kernel_rfl) (by kernel_rfl) (fun _ _ _ h => h) (Or.inl ⟨by rfl, ?_⟩) (by assumption) ?_
            rotate_left
            · (intro w hSw; (try dsimp only at hSw); go_simp; try with_reducible rfl)
            try simp only [Act.put, List.setIfInBounds_toArray, List.set_cons_zero, List.set_cons_succ]
            refine wpAnyH_take (i := 1) (oi := ⟨some 173, _, _, _, _, _⟩) (v := ?_) rfl (by kernel_rfl) (by kernel_rfl) (by kernel_rfl) (fun _ _ _ h => h) (Or.inl ⟨by rfl, ?_⟩) (by assumption) ?_
            rotate_left
            · (intro w hSw; (try dsimp only at hSw); go_simp; try with_reducible rfl)
            try simp only [Act.put, List.setIfInBounds_toArray, List.set_cons_zero, List.set_cons_succ]
            refine wpAnyH_take (i := 2) (oi := ⟨some 174, _, _, _, _, _⟩) (v := ?_) rfl (by kernel_rfl) (by kernel_rfl) (by kernel_rfl) (fun _ _ _ h => h) (Or.inl ⟨by rfl, ?_⟩) (by assumption) ?_
            rotate_left
            · (intro w hSw; (try dsimp only at hSw); go_simp; try with_reducible rfl)
            try simp only [Act.put, List.setIfInBounds_toArray, List.set_cons_zero, List.set_cons_succ]
            refine wpAnyH_take (i := 3) (oi := ⟨some 175, _, _, _, _, _⟩) (v := ?_) rfl (by kernel_rfl) (by kernel_rfl) (by kernel_rfl) (fun _ _ _ h => h) (Or.inl ⟨by rfl, ?_⟩) (by assumption) ?_
            rotate_left
            · (intro w hSw; (try dsimp only at hSw); go_simp; try with_reducible rfl)
            try simp only [Act.put, List.setIfInBounds_toArray, List.set_cons_zero, List.set_cons_succ]
            refine wpAnyH_take (i := 6) (oi := ⟨some 178, _, _, _, _, _⟩) (v := ?_) rfl (by kernel_rfl) (by kernel_rfl) (by kernel_rfl) (fun _ _ _ h => h) (Or.inl ⟨by rfl, ?_⟩) (by assumption) ?_
            rotate_left
            · (intro w hSw; (try dsimp only at hSw); go_simp; try with_reducible rfl)
            try simp only [Act.put, List.setIfInBounds_toArray, List.set_cons_zero, List.set_cons_succ]
            refine wpAnyH_take (i := 7) (oi := ⟨some 179, _, _, _, _, _⟩) (v := ?_) rfl (by kernel_rfl) (by kernel_rfl) (by kernel_rfl) (fun _ _ _ h => h) (Or.inl ⟨by rfl, ?_⟩) (by assumption) ?_
            rotate_left
            · (intro w hSw; (try dsimp only at hSw); go_simp; try with_reducible rfl)
            try simp only [Act.put, List.setIfInBounds_toArray, List.set_cons_zero, List.set_cons_succ]
            refine next_one 4 (by kernel_rfl) rfl (by rfl) fun K' HK' => ?_
            go_simp
            refine HCi.out.mono ?_
            rintro e w39 ⟨Ai, ci, rfl, si, _, xi⟩
            have hxi : Ext w38 w39 := (by (repeat (first | assumption | exact Ext.refl _ | apply Ext.drew | apply Ext.drewN | apply Ext.alloc | refine Ext.trans ?_ (by assumption))); first | done | fail)
            have Y39 := Kp.mk (Y38.out.trans hxi)
            have X39 := Kp.mk (X38.out.trans hxi)



            have hS2 := Ext.trans hHeld xi
            refine held_go HK' hS2 (fun _ => ?_)
            clear HK'
            refine held_more (S' := fun w' => Ext w39 w') (fun _ h => Ext.trans hS2 h) _ _ _ _ ?_
            clear hHeld hS2
            have hHeld : Ext w39 w39 := Ext.refl _
            try simp only [Act.put, List.setIfInBounds_toArray, List.set_cons_zero, List.set_cons_succ]
            have hci := fun (w' : World) (hx : Ext w39 w') => (si.ext hx).str (Ext.refl _)
            have hcb2 := fun (w' : World) (hx : Ext w39 w') => (HB.out.ext (X39.out.trans hx)).str (Ext.refl _)
            clear hxi hcb
            refine wpAnyH_take (i := 5) (oi := ⟨some 177, _, _, _, _, _⟩) (v := ?_) rfl (by kernel_rfl) (by kernel_rfl) (by kernel_rfl) (fun _ _ _ h => h) (Or.inl ⟨by rfl, ?_⟩) (by assumption) ?_
            rotate_left
            · (intro w hSw; (try dsimp only at hSw); go_simp; try with_reducible rfl)
            try simp only [Act.put, List.setIfInBounds_toArray, List.set_cons_zero, List.set_cons_succ]
            refine wpAnyH_take (i := 8) (oi := ⟨some 180, _, _, _, _, _⟩) (v := ?_) rfl (by kernel_rfl) (by kernel_rfl) (by kernel_rfl) (fun _ _ _ h => h) (Or.inl ⟨by rfl, ?_⟩) (by assumption) ?_
            rotate_left
            · (intro w hSw; (try dsimp only at hSw); go_simp; try with_reducible rfl)
            try simp only [Act.put, List.setIfInBounds_toArray, List.set_cons_zero, List.set_cons_succ]
            refine wpAnyH_take (i := 9) (oi := ⟨some 181, _, _, _, _, _⟩) (v := ?_) rfl (by kernel_rfl) (by kernel_rfl) (by kernel_rfl) (fun _ _ _ h => h) (Or.inl ⟨by rfl, ?_⟩) (by assumption) ?_
            rotate_left
            · (intro w hSw; (try dsimp only at hSw); go_simp; try with_reducible rfl)
            try simp only [Act.put, List.setIfInBounds_toArray, List.set_cons_zero, List.set_cons_succ]
            refine wpAnyH_done (by kernel_rfl) ?_ _
            clear si xi hci hcb2
            have hxd : Ext w39 w39 := Ext.refl _
            go_wp2_with fail
            go_ret
            exact ⟨rfl, X39.out.b⟩
          · as_aux_lemma =>
            have Y37 := Kp.mk (Y36.out.trans xa)
            have X37 := Kp.mk (X36.out.trans xa)
            have HBY := Kp.mk hby
            have HOb := Kp.mk ob
            clear hby ob
            clear xa
            have HBB := Kp.mk (Blk.new w37 bit #[.slice Ab (m - 1) cb, .int .i64 (ub (gb b 0))])
            have hxb : Ext w37 (w37.alloc (.cells #[.slice Ab (m - 1) cb, .int .i64 (ub (gb b 0))] bit)) := (by (repeat (first | assumption | exact Ext.refl _ | apply Ext.drew | apply Ext.drewN | apply Ext.alloc | refine Ext.trans ?_ (by assumption))); first | done | fail)
            have HOB := Kp.mk (HOb.out.ext hxb)
            have hbe := bits_cons (b := b) (by intro e; have := HB.out.len; rw [e] at this; simp at this; have := HBY.out.1; omega)
            have hue : BitVec.ofNat 8 (ub (gb b 0)).toNat = gb b 0 := by unfold ub; simp
            have HBE := Kp.mk (show (BitVec.ofNat 8 (ub (gb b 0)).toNat :: b.drop 1) = b by rw [hue]; exact hbe.symm)
            clear hbe hue
            generalize ub (gb b 0) = ubz at *
            go_upto_region 26 with fail
            have Y38 := Kp.mk (Y37.out.trans hxb)
            have X38 := Kp.mk (X37.out.trans hxb)
            clear hxb
            generalize w37.alloc (.cells #[.slice Ab (m - 1) cb, .int .i64 ubz] bit) = w38 at *
            have SB := Kp.mk ((HB.out.ext X38.out).str (Ext.refl _))
            obtain ⟨ki, li, hli, hki1, hki8, hbi, hvi, hCi⟩ := Int_any (tcV b) w38.drew HTR.out.1 HTR.out.2
            obtain rfl : li = b := tcV_inj hbi HI1.out hvi
            obtain rfl : m = ki := HB.out.len.symm.trans hli
            have HCi := Kp.mk hCi
            clear hCi hbi hvi hli hki1 hki8
            generalize tcV li = vI at *
            refine wp_region_held_drew (S := fun w' => Ext w38 w') (by kernel_rfl) (Ext.refl w38).drew (fun hHeld => ?_)
            have hcb := fun (w' : World) (hx : Ext w38 w') => (HB.out.ext (X38.out.trans hx)).str (Ext.refl _)
            refine wpAnyH_take (i := 0) (oi := ⟨some 172, _, _, _, _, _⟩) (v := ?_) rfl (by kernel_rfl) (by kernel_rfl) (by kernel_rfl) (fun _ _ _ h => h) (Or.inl ⟨by rfl, ?_⟩) (by assumption) ?_
            rotate_left
            · (intro w hSw; (try dsimp only at hSw); go_simp; try with_reducible rfl)
            try simp only [Act.put, List.setIfInBounds_toArray, List.set_cons_zero, List.set_cons_succ]
            refine wpAnyH_take (i := 1) (oi := ⟨some 173, _, _, _, _, _⟩) (v := ?_) rfl (by kernel_rfl) (by kernel_rfl) (by kernel_rfl) (fun _ _ _ h => h) (Or.inl ⟨by rfl, ?_⟩) (by assumption) ?_
            rotate_left
            · (intro w hSw; (try dsimp only at hSw); go_simp; try with_reducible rfl)
            try simp only [Act.put, List.setIfInBounds_toArray, List.set_cons_zero, List.set_cons_succ]
            refine wpAnyH_take (i := 2) (oi := ⟨some 174, _, _, _, _, _⟩) (v := ?_) rfl (by kernel_rfl) (by kernel_rfl) (by kernel_rfl) (fun _ _ _ h => h) (Or.inl ⟨by rfl, ?_⟩) (by assumption) ?_
            rotate_left
            · (intro w hSw; (try dsimp only at hSw); go_simp; try with_reducible rfl)
            try simp only [Act.put, List.setIfInBounds_toArray, List.set_cons_zero, List.set_cons_succ]
            refine wpAnyH_take (i := 3) (oi := ⟨some 175, _, _, _, _, _⟩) (v := ?_) rfl (by kernel_rfl) (by kernel_rfl) (by kernel_rfl) (fun _ _ _ h => h) (Or.inl ⟨by rfl, ?_⟩) (by assumption) ?_
            rotate_left
            · (intro w hSw; (try dsimp only at hSw); go_simp; try with_reducible rfl)
            try simp only [Act.put, List.setIfInBounds_toArray, List.set_cons_zero, List.set_cons_succ]
            refine wpAnyH_take (i := 6) (oi := ⟨some 178, _, _, _, _, _⟩) (v := ?_) rfl (by kernel_rfl) (by kernel_rfl) (by kernel_rfl) (fun _ _ _ h => h) (Or.inl ⟨by rfl, ?_⟩) (by assumption) ?_
            rotate_left
            · (intro w hSw; (try dsimp only at hSw); go_simp; try with_reducible rfl)
            try simp only [Act.put, List.setIfInBounds_toArray, List.set_cons_zero, List.set_cons_succ]
            refine wpAnyH_take (i := 7) (oi := ⟨some 179, _, _, _, _, _⟩) (v := ?_) rfl (by kernel_rfl) (by kernel_rfl) (by kernel_rfl) (fun _ _ _ h => h) (Or.inl ⟨by rfl, ?_⟩) (by assumption) ?_
            rotate_left
            · (intro w hSw; (try dsimp only at hSw); go_simp; try with_reducible rfl)
            try simp only [Act.put, List.setIfInBounds_toArray, List.set_cons_zero, List.set_cons_succ]
            refine next_one 4 (by kernel_rfl) rfl (by rfl) fun K' HK' => ?_
            go_simp
            refine HCi.out.mono ?_
            rintro e w39 ⟨Ai, ci, rfl, si, _, xi⟩
            have hxi : Ext w38 w39 := (by (repeat (first | assumption | exact Ext.refl _ | apply Ext.drew | apply Ext.drewN | apply Ext.alloc | refine Ext.trans ?_ (by assumption))); first | done | fail)
            have Y39 := Kp.mk (Y38.out.trans hxi)
            have X39 := Kp.mk (X38.out.trans hxi)

            have HBB2 := Kp.mk (HBB.out.ext hxi)
            have HOB2 := Kp.mk (HOB.out.ext hxi)
            have hS2 := Ext.trans hHeld xi
            refine held_go HK' hS2 (fun _ => ?_)
            clear HK'
            refine held_more (S' := fun w' => Ext w39 w') (fun _ h => Ext.trans hS2 h) _ _ _ _ ?_
            clear hHeld hS2
            have hHeld : Ext w39 w39 := Ext.refl _
            try simp only [Act.put, List.setIfInBounds_toArray, List.set_cons_zero, List.set_cons_succ]
            have hci := fun (w' : World) (hx : Ext w39 w') => (si.ext hx).str (Ext.refl _)
            have hcb2 := fun (w' : World) (hx : Ext w39 w') => (HB.out.ext (X39.out.trans hx)).str (Ext.refl _)
            clear hxi hcb
            refine wpAnyH_take (i := 5) (oi := ⟨some 177, _, _, _, _, _⟩) (v := ?_) rfl (by kernel_rfl) (by kernel_rfl) (by kernel_rfl) (fun _ _ _ h => h) (Or.inl ⟨by rfl, ?_⟩) (by assumption) ?_
            rotate_left
            · (intro w hSw; (try dsimp only at hSw); go_simp; try with_reducible rfl)
            try simp only [Act.put, List.setIfInBounds_toArray, List.set_cons_zero, List.set_cons_succ]
            refine wpAnyH_take (i := 8) (oi := ⟨some 180, _, _, _, _, _⟩) (v := ?_) rfl (by kernel_rfl) (by kernel_rfl) (by kernel_rfl) (fun _ _ _ h => h) (Or.inl ⟨by rfl, ?_⟩) (by assumption) ?_
            rotate_left
            · (intro w hSw; (try dsimp only at hSw); go_simp; try with_reducible rfl)
            try simp only [Act.put, List.setIfInBounds_toArray, List.set_cons_zero, List.set_cons_succ]
            refine wpAnyH_take (i := 9) (oi := ⟨some 181, _, _, _, _, _⟩) (v := ?_) rfl (by kernel_rfl) (by kernel_rfl) (by kernel_rfl) (fun _ _ _ h => h) (Or.inl ⟨by rfl, ?_⟩) (by assumption) ?_
            rotate_left
            · (intro w hSw; (try dsimp only at hSw); go_simp; try with_reducible rfl)
            try simp only [Act.put, List.setIfInBounds_toArray, List.set_cons_zero, List.set_cons_succ]
            refine wpAnyH_done (by kernel_rfl) ?_ _
            clear si xi hci hcb2
            have hxd : Ext w39 w39 := Ext.refl _
            obtain ⟨bx0, bx1⟩ := box2b HBB2.out (Ext.refl _)
            go_wp2_with fail
            refine (Bits_any HOB2.out.bs (by omega) ubz).mono ?_
            rintro e w40 (⟨hno, _⟩ | ⟨_, Ab2, cb2, rfl, sb, _, xb⟩)
            · rw [HBY.out.2] at hno; cases hno
            have X40 := Kp.mk (X39.out.trans xb)
            rw [HBE.out] at sb
            have sc3 := sb.str (Ext.refl _)
            have sc4 := (HB.out.ext X40.out).str (Ext.refl _)
            clear sb xb
            go_wp2_with fail
            go_ret
            exact ⟨rfl, X40.out.b⟩
        · have Y36 := Kp.mk (Y35.out.trans xa)
          have X36 := Kp.mk (X35.out.trans xa)
          have HOi := Kp.mk ro.rd
          have HPo := Kp.mk hPo
          have HEo := Kp.mk hEo
          have HDo := Kp.mk (show Dg 4294967296 (oidU (pmO b)) from oidU_dg (stT_len b b.length (Nat.le_refl _)).2.2)
          clear ro hPo hEo
          generalize oidU (pmO b) = Qo at *
          generalize Qo.length = NQ at *
          clear xa
          go_wp2_with fail
          refine (ReadBits_any (HB.out.ext X36.out) (by omega)).mono ?_
          unfold RBits
          rintro e w37 (⟨_, rfl, xa⟩ | ⟨hby, Ab, cb, rfl, ob, xa⟩)
          · as_aux_lemma =>
            have Y37 := Kp.mk (Y36.out.trans xa)
            have X37 := Kp.mk (X36.out.trans xa)
            have HOi := Kp.mk (HOi.out.ext xa)
            clear xa
            have hxb : Ext w37 (w37.alloc (.cells #[.slice none 0 0, .int .i64 0] bit)) := (by (repeat (first | assumption | exact Ext.refl _ | apply Ext.drew | apply Ext.drewN | apply Ext.alloc | refine Ext.trans ?_ (by assumption))); first | done | fail)
            go_upto_region 26 with fail
            have Y38 := Kp.mk (Y37.out.trans hxb)
            have X38 := Kp.mk (X37.out.trans hxb)
            have HO38 := Kp.mk (HOi.out.ext hxb)
            clear hxb
            generalize w37.alloc (.cells #[.slice none 0 0, .int .i64 0] bit) = w38 at *
            have SB := Kp.mk ((HB.out.ext X38.out).str (Ext.refl _))
            obtain ⟨ki, li, hli, hki1, hki8, hbi, hvi, hCi⟩ := Int_any (tcV b) w38.drew HTR.out.1 HTR.out.2
            obtain rfl : li = b := tcV_inj hbi HI1.out hvi
            obtain rfl : m = ki := HB.out.len.symm.trans hli
            have HCi := Kp.mk hCi
            clear hCi hbi hvi hli hki1 hki8
            generalize tcV li = vI at *
            refine wp_region_held_drew (S := fun w' => Ext w38 w') (by kernel_rfl) (Ext.refl w38).drew (fun hHeld => ?_)
            have hcb := fun (w' : World) (hx : Ext w38 w') => (HB.out.ext (X38.out.trans hx)).str (Ext.refl _)
            refine wpAnyH_take (i := 0) (oi := ⟨some 172, _, _, _, _, _⟩) (v := ?_) rfl (by kernel_rfl) (by kernel_rfl) (by kernel_rfl) (fun _ _ _ h => h) (Or.inl ⟨by rfl, ?_⟩) (by assumption) ?_
            rotate_left
            · (intro w hSw; (try dsimp only at hSw); go_simp; try with_reducible rfl)
            try simp only [Act.put, List.setIfInBounds_toArray, List.set_cons_zero, List.set_cons_succ]
            refine wpAnyH_take (i := 1) (oi := ⟨some 173, _, _, _, _, _⟩) (v := ?_) rfl (by kernel_rfl) (by kernel_rfl) (by kernel_rfl) (fun _ _ _ h => h) (Or.inl ⟨by rfl, ?_⟩) (by assumption) ?_
            rotate_left
            · (intro w hSw; (try dsimp only at hSw); go_simp; try with_reducible rfl)
            try simp only [Act.put, List.setIfInBounds_toArray, List.set_cons_zero, List.set_cons_succ]
            refine wpAnyH_take (i := 2) (oi := ⟨some 174, _, _, _, _, _⟩) (v := ?_) rfl (by kernel_rfl) (by kernel_rfl) (by kernel_rfl) (fun _ _ _ h => h) (Or.inl ⟨by rfl, ?_⟩) (by assumption) ?_
            rotate_left
            · (intro w hSw; (try dsimp only at hSw); go_simp; try with_reducible rfl)
            try simp only [Act.put, List.setIfInBounds_toArray, List.set_cons_zero, List.set_cons_succ]
            refine wpAnyH_take (i := 3) (oi := ⟨some 175, _, _, _, _, _⟩) (v := ?_) rfl (by kernel_rfl) (by kernel_rfl) (by kernel_rfl) (fun _ _ _ h => h) (Or.inl ⟨by rfl, ?_⟩) (by assumption) ?_
            rotate_left
            · (intro w hSw; (try dsimp only at hSw); go_simp; try with_reducible rfl)
            try simp only [Act.put, List.setIfInBounds_toArray, List.set_cons_zero, List.set_cons_succ]
            refine wpAnyH_take (i := 6) (oi := ⟨some 178, _, _, _, _, _⟩) (v := ?_) rfl (by kernel_rfl) (by kernel_rfl) (by kernel_rfl) (fun _ _ _ h => h) (Or.inl ⟨by rfl, ?_⟩) (by assumption) ?_
            rotate_left
            · (intro w hSw; (try dsimp only at hSw); go_simp; try with_reducible rfl)
            try simp only [Act.put, List.setIfInBounds_toArray, List.set_cons_zero, List.set_cons_succ]
            refine wpAnyH_take (i := 7) (oi := ⟨some 179, _, _, _, _, _⟩) (v := ?_) rfl (by kernel_rfl) (by kernel_rfl) (by kernel_rfl) (fun _ _ _ h => h) (Or.inl ⟨by rfl, ?_⟩) (by assumption) ?_
            rotate_left
            · (intro w hSw; (try dsimp only at hSw); go_simp; try with_reducible rfl)
            try simp only [Act.put, List.setIfInBounds_toArray, List.set_cons_zero, List.set_cons_succ]
            refine next_one 4 (by kernel_rfl) rfl (by rfl) fun K' HK' => ?_
            go_simp
            refine HCi.out.mono ?_
            rintro e w39 ⟨Ai, ci, rfl, si, _, xi⟩
            have hxi : Ext w38 w39 := (by (repeat (first | assumption | exact Ext.refl _ | apply Ext.drew | apply Ext.drewN | apply Ext.alloc | refine Ext.trans ?_ (by assumption))); first | done | fail)
            have Y39 := Kp.mk (Y38.out.trans hxi)
            have X39 := Kp.mk (X38.out.trans hxi)
            have HO39 := Kp.mk (HO38.out.ext hxi)


            have hS2 := Ext.trans hHeld xi
            refine held_go HK' hS2 (fun _ => ?_)
            clear HK'
            refine held_more (S' := fun w' => Ext w39 w') (fun _ h => Ext.trans hS2 h) _ _ _ _ ?_
            clear hHeld hS2
            have hHeld : Ext w39 w39 := Ext.refl _
            try simp only [Act.put, List.setIfInBounds_toArray, List.set_cons_zero, List.set_cons_succ]
            have hci := fun (w' : World) (hx : Ext w39 w') => (si.ext hx).str (Ext.refl _)
            have hcb2 := fun (w' : World) (hx : Ext w39 w') => (HB.out.ext (X39.out.trans hx)).str (Ext.refl _)
            clear hxi hcb
            refine wpAnyH_take (i := 5) (oi := ⟨some 177, _, _, _, _, _⟩) (v := ?_) rfl (by kernel_rfl) (by kernel_rfl) (by kernel_rfl) (fun _ _ _ h => h) (Or.inl ⟨by rfl, ?_⟩) (by assumption) ?_
            rotate_left
            · (intro w hSw; (try dsimp only at hSw); go_simp; try with_reducible rfl)
            try simp only [Act.put, List.setIfInBounds_toArray, List.set_cons_zero, List.set_cons_succ]
            refine wpAnyH_take (i := 8) (oi := ⟨some 180, _, _, _, _, _⟩) (v := ?_) rfl (by kernel_rfl) (by kernel_rfl) (by kernel_rfl) (fun _ _ _ h => h) (Or.inl ⟨by rfl, ?_⟩) (by assumption) ?_
            rotate_left
            · (intro w hSw; (try dsimp only at hSw); go_simp; try with_reducible rfl)
            try simp only [Act.put, List.setIfInBounds_toArray, List.set_cons_zero, List.set_cons_succ]
            refine wpAnyH_take (i := 9) (oi := ⟨some 181, _, _, _, _, _⟩) (v := ?_) rfl (by kernel_rfl) (by kernel_rfl) (by kernel_rfl) (fun _ _ _ h => h) (Or.inl ⟨by rfl, ?_⟩) (by assumption) ?_
            rotate_left
            · (intro w hSw; (try dsimp only at hSw); go_simp; try with_reducible rfl)
            try simp only [Act.put, List.setIfInBounds_toArray, List.set_cons_zero, List.set_cons_succ]
            refine wpAnyH_done (by kernel_rfl) ?_ _
            clear si xi hci hcb2
            have hxd : Ext w39 w39 := Ext.refl _
            go_wp2_with fail
            refine (Oid_any HO39.out HDo.out).mono ?_
            rintro e w40 (⟨hno, _⟩ | ⟨_, Ao, co, rfl, so, _, xo⟩)
            · exact absurd HPo.out hno
            have Y40 := Kp.mk (Y39.out.trans xo)
            have X40 := Kp.mk (X39.out.trans xo)


            clear xo
            rw [HEo.out] at so ⊢
            have sc := so.str (Ext.refl _)
            have sc2 := (HB.out.ext X40.out).str (Ext.refl _)
            clear so
            generalize li.length = Nb at *
            go_wp2_with fail
            go_ret
            exact ⟨rfl, X40.out.b⟩
          · as_aux_lemma =>
            have Y37 := Kp.mk (Y36.out.trans xa)
            have X37 := Kp.mk (X36.out.trans xa)
            have HOi := Kp.mk (HOi.out.ext xa)
            have HBY := Kp.mk hby
            have HOb := Kp.mk ob
            clear hby ob
            clear xa
            have HBB := Kp.mk (Blk.new w37 bit #[.slice Ab (m - 1) cb, .int .i64 (ub (gb b 0))])
            have hxb : Ext w37 (w37.alloc (.cells #[.slice Ab (m - 1) cb, .int .i64 (ub (gb b 0))] bit)) := (by (repeat (first | assumption | exact Ext.refl _ | apply Ext.drew | apply Ext.drewN | apply Ext.alloc | refine Ext.trans ?_ (by assumption))); first | done | fail)
            have HOB := Kp.mk (HOb.out.ext hxb)
            have hbe := bits_cons (b := b) (by intro e; have := HB.out.len; rw [e] at this; simp at this; have := HBY.out.1; omega)
            have hue : BitVec.ofNat 8 (ub (gb b 0)).toNat = gb b 0 := by unfold ub; simp
            have HBE := Kp.mk (show (BitVec.ofNat 8 (ub (gb b 0)).toNat :: b.drop 1) = b by rw [hue]; exact hbe.symm)
            clear hbe hue
            generalize ub (gb b 0) = ubz at *
            go_upto_region 26 with fail
            have Y38 := Kp.mk (Y37.out.trans hxb)
            have X38 := Kp.mk (X37.out.trans hxb)
            have HO38 := Kp.mk (HOi.out.ext hxb)
            clear hxb
            generalize w37.alloc (.cells #[.slice Ab (m - 1) cb, .int .i64 ubz] bit) = w38 at *
            have SB := Kp.mk ((HB.out.ext X38.out).str (Ext.refl _))
            obtain ⟨ki, li, hli, hki1, hki8, hbi, hvi, hCi⟩ := Int_any (tcV b) w38.drew HTR.out.1 HTR.out.2
            obtain rfl : li = b := tcV_inj hbi HI1.out hvi
            obtain rfl : m = ki := HB.out.len.symm.trans hli
            have HCi := Kp.mk hCi
            clear hCi hbi hvi hli hki1 hki8
            generalize tcV li = vI at *
            refine wp_region_held_drew (S := fun w' => Ext w38 w') (by kernel_rfl) (Ext.refl w38).drew (fun hHeld => ?_)
            have hcb := fun (w' : World) (hx : Ext w38 w') => (HB.out.ext (X38.out.trans hx)).str (Ext.refl _)
            refine wpAnyH_take (i := 0) (oi := ⟨some 172, _, _, _, _, _⟩) (v := ?_) rfl (by kernel_rfl) (by kernel_rfl) (by kernel_rfl) (fun _ _ _ h => h) (Or.inl ⟨by rfl, ?_⟩) (by assumption) ?_
            rotate_left
            · (intro w hSw; (try dsimp only at hSw); go_simp; try with_reducible rfl)
            try simp only [Act.put, List.setIfInBounds_toArray, List.set_cons_zero, List.set_cons_succ]
            refine wpAnyH_take (i := 1) (oi := ⟨some 173, _, _, _, _, _⟩) (v := ?_) rfl (by kernel_rfl) (by kernel_rfl) (by kernel_rfl) (fun _ _ _ h => h) (Or.inl ⟨by rfl, ?_⟩) (by assumption) ?_
            rotate_left
            · (intro w hSw; (try dsimp only at hSw); go_simp; try with_reducible rfl)
            try simp only [Act.put, List.setIfInBounds_toArray, List.set_cons_zero, List.set_cons_succ]
            refine wpAnyH_take (i := 2) (oi := ⟨some 174, _, _, _, _, _⟩) (v := ?_) rfl (by kernel_rfl) (by kernel_rfl) (by kernel_rfl) (fun _ _ _ h => h) (Or.inl ⟨by rfl, ?_⟩) (by assumption) ?_
            rotate_left
            · (intro w hSw; (try dsimp only at hSw); go_simp; try with_reducible rfl)
            try simp only [Act.put, List.setIfInBounds_toArray, List.set_cons_zero, List.set_cons_succ]
            refine wpAnyH_take (i := 3) (oi := ⟨some 175, _, _, _, _, _⟩) (v := ?_) rfl (by kernel_rfl) (by kernel_rfl) (by kernel_rfl) (fun _ _ _ h => h) (Or.inl ⟨by rfl, ?_⟩) (by assumption) ?_
            rotate_left
            · (intro w hSw; (try dsimp only at hSw); go_simp; try with_reducible rfl)
            try simp only [Act.put, List.setIfInBounds_toArray, List.set_cons_zero, List.set_cons_succ]
            refine wpAnyH_take (i := 6) (oi := ⟨some 178, _, _, _, _, _⟩) (v := ?_) rfl (by kernel_rfl) (by kernel_rfl) (by kernel_rfl) (fun _ _ _ h => h) (Or.inl ⟨by rfl, ?_⟩) (by assumption) ?_
            rotate_left
            · (intro w hSw; (try dsimp only at hSw); go_simp; try with_reducible rfl)
            try simp only [Act.put, List.setIfInBounds_toArray, List.set_cons_zero, List.set_cons_succ]
            refine wpAnyH_take (i := 7) (oi := ⟨some 179, _, _, _, _, _⟩) (v := ?_) rfl (by kernel_rfl) (by kernel_rfl) (by kernel_rfl) (fun _ _ _ h => h) (Or.inl ⟨by rfl, ?_⟩) (by assumption) ?_
            rotate_left
            · (intro w hSw; (try dsimp only at hSw); go_simp; try with_reducible rfl)
            try simp only [Act.put, List.setIfInBounds_toArray, List.set_cons_zero, List.set_cons_succ]
            refine next_one 4 (by kernel_rfl) rfl (by rfl) fun K' HK' => ?_
            go_simp
            refine HCi.out.mono ?_
            rintro e w39 ⟨Ai, ci, rfl, si, _, xi⟩
            have hxi : Ext w38 w39 := (by (repeat (first | assumption | exact Ext.refl _ | apply Ext.drew | apply Ext.drewN | apply Ext.alloc | refine Ext.trans ?_ (by assumption))); first | done | fail)
            have Y39 := Kp.mk (Y38.out.trans hxi)
            have X39 := Kp.mk (X38.out.trans hxi)
            have HO39 := Kp.mk (HO38.out.ext hxi)
            have HBB2 := Kp.mk (HBB.out.ext hxi)
            have HOB2 := Kp.mk (HOB.out.ext hxi)
            have hS2 := Ext.trans hHeld xi
            refine held_go HK' hS2 (fun _ => ?_)
            clear HK'
            refine held_more (S' := fun w' => Ext w39 w') (fun _ h => Ext.trans hS2 h) _ _ _ _ ?_
            clear hHeld hS2
            have hHeld : Ext w39 w39 := Ext.refl _
            try simp only [Act.put, List.setIfInBounds_toArray, List.set_cons_zero, List.set_cons_succ]
            have hci := fun (w' : World) (hx : Ext w39 w') => (si.ext hx).str (Ext.refl _)
            have hcb2 := fun (w' : World) (hx : Ext w39 w') => (HB.out.ext (X39.out.trans hx)).str (Ext.refl _)
            clear hxi hcb
            refine wpAnyH_take (i := 5) (oi := ⟨some 177, _, _, _, _, _⟩) (v := ?_) rfl (by kernel_rfl) (by kernel_rfl) (by kernel_rfl) (fun _ _ _ h => h) (Or.inl ⟨by rfl, ?_⟩) (by assumption) ?_
            rotate_left
            · (intro w hSw; (try dsimp only at hSw); go_simp; try with_reducible rfl)
            try simp only [Act.put, List.setIfInBounds_toArray, List.set_cons_zero, List.set_cons_succ]
            refine wpAnyH_take (i := 8) (oi := ⟨some 180, _, _, _, _, _⟩) (v := ?_) rfl (by kernel_rfl) (by kernel_rfl) (by kernel_rfl) (fun _ _ _ h => h) (Or.inl ⟨by rfl, ?_⟩) (by assumption) ?_
            rotate_left
            · (intro w hSw; (try dsimp only at hSw); go_simp; try with_reducible rfl)
            try simp only [Act.put, List.setIfInBounds_toArray, List.set_cons_zero, List.set_cons_succ]
            refine wpAnyH_take (i := 9) (oi := ⟨some 181, _, _, _, _, _⟩) (v := ?_) rfl (by kernel_rfl) (by kernel_rfl) (by kernel_rfl) (fun _ _ _ h => h) (Or.inl ⟨by rfl, ?_⟩) (by assumption) ?_
            rotate_left
            · (intro w hSw; (try dsimp only at hSw); go_simp; try with_reducible rfl)
            try simp only [Act.put, List.setIfInBounds_toArray, List.set_cons_zero, List.set_cons_succ]
            refine wpAnyH_done (by kernel_rfl) ?_ _
            clear si xi hci hcb2
            have hxd : Ext w39 w39 := Ext.refl _
            obtain ⟨bx0, bx1⟩ := box2b HBB2.out (Ext.refl _)
            go_wp2_with fail
            refine (Oid_any HO39.out HDo.out).mono ?_
            rintro e w40 (⟨hno, _⟩ | ⟨_, Ao, co, rfl, so, _, xo⟩)
            · exact absurd HPo.out hno
            have Y40 := Kp.mk (Y39.out.trans xo)
            have X40 := Kp.mk (X39.out.trans xo)
            have HBB3 := Kp.mk (HBB2.out.ext xo)
            have HOB3 := Kp.mk (HOB2.out.ext xo)
            clear xo
            rw [HEo.out] at so ⊢
            have sc := so.str (Ext.refl _)
            have sc2 := (HB.out.ext X40.out).str (Ext.refl _)
            clear so
            generalize li.length = Nb at *
            obtain ⟨bx0, bx1⟩ := box2b HBB3.out (Ext.refl _)
            go_wp2_with fail
            refine (Bits_any HOB3.out.bs (by omega) ubz).mono ?_
            rintro e w41 (⟨hno, _⟩ | ⟨_, Ab2, cb2, rfl, sb, _, xb⟩)
            · rw [HBY.out.2] at hno; cases hno
            have X41 := Kp.mk (X40.out.trans xb)
            rw [HBE.out] at sb
            have sc3 := sb.str (Ext.refl _)
            have sc4 := (HB.out.ext X41.out).str (Ext.refl _)
            clear sb xb
            go_wp2_with fail
            go_ret
            exact ⟨rfl, X41.out.b⟩
      · refine HRI.out.mono ?_
        rintro e w35 ⟨rfl, xa⟩
        have Y35 := Kp.mk (Y34.out.trans xa)
        have X35 := Kp.mk (X34.out.trans xa)
        clear xa HRI
        go_wp2_with fail
        refine (ReadOid_any (HB.out.ext X35.out)).mono ?_
        rintro e w36 (⟨_, rfl, xa⟩ | ⟨hPo, hEo, Ao1, co1, rfl, ro, xa⟩)
        · have Y36 := Kp.mk (Y35.out.trans xa)
          have X36 := Kp.mk (X35.out.trans xa)
          clear xa
          go_wp2_with fail
          refine (ReadBits_any (HB.out.ext X36.out) (by omega)).mono ?_
          unfold RBits
          rintro e w37 (⟨_, rfl, xa⟩ | ⟨hby, Ab, cb, rfl, ob, xa⟩)
          · as_aux_lemma =>
            have Y37 := Kp.mk (Y36.out.trans xa)
            have X37 := Kp.mk (X36.out.trans xa)
            clear xa
            have hxb : Ext w37 (w37.alloc (.cells #[.slice none 0 0, .int .i64 0] bit)) := (by (repeat (first | assumption | exact Ext.refl _ | apply Ext.drew | apply Ext.drewN | apply Ext.alloc | refine Ext.trans ?_ (by assumption))); first | done | fail)
            go_upto_region 26 with fail
            have Y38 := Kp.mk (Y37.out.trans hxb)
            have X38 := Kp.mk (X37.out.trans hxb)
            clear hxb
            generalize w37.alloc (.cells #[.slice none 0 0, .int .i64 0] bit) = w38 at *
            have SB := Kp.mk ((HB.out.ext X38.out).str (Ext.refl _))
            go_quiet (fail)
            have hxi : Ext w38 (w38.drewN nq) := (by (repeat (first | assumption | exact Ext.refl _ | apply Ext.drew | apply Ext.drewN | apply Ext.alloc | refine Ext.trans ?_ (by assumption))); first | done | fail)
            have Y39 := Kp.mk (Y38.out.trans hxi)
            have X39 := Kp.mk (X38.out.trans hxi)



            clear hxi
            generalize w38.drewN nq = w39 at *
            go_wp2_with fail
            go_ret
            exact ⟨rfl, X39.out.b⟩
          · as_aux_lemma =>
            have Y37 := Kp.mk (Y36.out.trans xa)
            have X37 := Kp.mk (X36.out.trans xa)
            have HBY := Kp.mk hby
            have HOb := Kp.mk ob
            clear hby ob
            clear xa
            have HBB := Kp.mk (Blk.new w37 bit #[.slice Ab (m - 1) cb, .int .i64 (ub (gb b 0))])
            have hxb : Ext w37 (w37.alloc (.cells #[.slice Ab (m - 1) cb, .int .i64 (ub (gb b 0))] bit)) := (by (repeat (first | assumption | exact Ext.refl _ | apply Ext.drew | apply Ext.drewN | apply Ext.alloc | refine Ext.trans ?_ (by assumption))); first | done | fail)
            have HOB := Kp.mk (HOb.out.ext hxb)
            have hbe := bits_cons (b := b) (by intro e; have := HB.out.len; rw [e] at this; simp at this; have := HBY.out.1; omega)
            have hue : BitVec.ofNat 8 (ub (gb b 0)).toNat = gb b 0 := by unfold ub; simp
            have HBE := Kp.mk (show (BitVec.ofNat 8 (ub (gb b 0)).toNat :: b.drop 1) = b by rw [hue]; exact hbe.symm)
            clear hbe hue
            generalize ub (gb b 0) = ubz at *
            go_upto_region 26 with fail
            have Y38 := Kp.mk (Y37.out.trans hxb)
            have X38 := Kp.mk (X37.out.trans hxb)
            clear hxb
            generalize w37.alloc (.cells #[.slice Ab (m - 1) cb, .int .i64 ubz] bit) = w38 at *
            have SB := Kp.mk ((HB.out.ext X38.out).str (Ext.refl _))
            go_quiet (fail)
            have hxi : Ext w38 (w38.drewN nq) := (by (repeat (first | assumption | exact Ext.refl _ | apply Ext.drew | apply Ext.drewN | apply Ext.alloc | refine Ext.trans ?_ (by assumption))); first | done | fail)
            have Y39 := Kp.mk (Y38.out.trans hxi)
            have X39 := Kp.mk (X38.out.trans hxi)

            have HBB2 := Kp.mk (HBB.out.ext hxi)
            have HOB2 := Kp.mk (HOB.out.ext hxi)
            clear hxi
            generalize w38.drewN nq = w39 at *
            obtain ⟨bx0, bx1⟩ := box2b HBB2.out (Ext.refl _)
            go_wp2_with fail
            refine (Bits_any HOB2.out.bs (by omega) ubz).mono ?_
            rintro e w40 (⟨hno, _⟩ | ⟨_, Ab2, cb2, rfl, sb, _, xb⟩)
            · rw [HBY.out.2] at hno; cases hno
            have X40 := Kp.mk (X39.out.trans xb)
            rw [HBE.out] at sb
            have sc3 := sb.str (Ext.refl _)
            have sc4 := (HB.out.ext X40.out).str (Ext.refl _)
            clear sb xb
            go_wp2_with fail
            go_ret
            exact ⟨rfl, X40.out.b⟩
        · have Y36 := Kp.mk (Y35.out.trans xa)
          have X36 := Kp.mk (X35.out.trans xa)
          have HOi := Kp.mk ro.rd
          have HPo := Kp.mk hPo
          have HEo := Kp.mk hEo
          have HDo := Kp.mk (show Dg 4294967296 (oidU (pmO b)) from oidU_dg (stT_len b b.length (Nat.le_refl _)).2.2)
          clear ro hPo hEo
          generalize oidU (pmO b) = Qo at *
          generalize Qo.length = NQ at *
          clear xa
          go_wp2_with fail
          refine (ReadBits_any (HB.out.ext X36.out) (by omega)).mono ?_
          unfold RBits
          rintro e w37 (⟨_, rfl, xa⟩ | ⟨hby, Ab, cb, rfl, ob, xa⟩)
          · as_aux_lemma =>
            have Y37 := Kp.mk (Y36.out.trans xa)
            have X37 := Kp.mk (X36.out.trans xa)
            have HOi := Kp.mk (HOi.out.ext xa)
            clear xa
            have hxb : Ext w37 (w37.alloc (.cells #[.slice none 0 0, .int .i64 0] bit)) := (by (repeat (first | assumption | exact Ext.refl _ | apply Ext.drew | apply Ext.drewN | apply Ext.alloc | refine Ext.trans ?_ (by assumption))); first | done | fail)
            go_upto_region 26 with fail
            have Y38 := Kp.mk (Y37.out.trans hxb)
            have X38 := Kp.mk (X37.out.trans hxb)
            have HO38 := Kp.mk (HOi.out.ext hxb)
            clear hxb
            generalize w37.alloc (.cells #[.slice none 0 0, .int .i64 0] bit) = w38 at *
            have SB := Kp.mk ((HB.out.ext X38.out).str (Ext.refl _))
            go_quiet (fail)
            have hxi : Ext w38 (w38.drewN nq) := (by (repeat (first | assumption | exact Ext.refl _ | apply Ext.drew | apply Ext.drewN | apply Ext.alloc | refine Ext.trans ?_ (by assumption))); first | done | fail)
            have Y39 := Kp.mk (Y38.out.trans hxi)
            have X39 := Kp.mk (X38.out.trans hxi)
            have HO39 := Kp.mk (HO38.out.ext hxi)


            clear hxi
            generalize w38.drewN nq = w39 at *
            go_wp2_with fail
            refine (Oid_any HO39.out HDo.out).mono ?_
            rintro e w40 (⟨hno, _⟩ | ⟨_, Ao, co, rfl, so, _, xo⟩)
            · exact absurd HPo.out hno
            have Y40 := Kp.mk (Y39.out.trans xo)
            have X40 := Kp.mk (X39.out.trans xo)


            clear xo
            rw [HEo.out] at so ⊢
            have sc := so.str (Ext.refl _)
            have sc2 := (HB.out.ext X40.out).str (Ext.refl _)
            clear so
            generalize b.length = Nb at *
            go_wp2_with fail
            go_ret
            exact ⟨rfl, X40.out.b⟩
          · as_aux_lemma =>
            have Y37 := Kp.mk (Y36.out.trans xa)
            have X37 := Kp.mk (X36.out.trans xa)
            have HOi := Kp.mk (HOi.out.ext xa)
            have HBY := Kp.mk hby
            have HOb := Kp.mk ob
            clear hby ob
            clear xa
            have HBB := Kp.mk (Blk.new w37 bit #[.slice Ab (m - 1) cb, .int .i64 (ub (gb b 0))])
            have hxb : Ext w37 (w37.alloc (.cells #[.slice Ab (m - 1) cb, .int .i64 (ub (gb b 0))] bit)) := (by (repeat (first | assumption | exact Ext.refl _ | apply Ext.drew | apply Ext.drewN | apply Ext.alloc | refine Ext.trans ?_ (by assumption))); first | done | fail)
            have HOB := Kp.mk (HOb.out.ext hxb)
            have hbe := bits_cons (b := b) (by intro e; have := HB.out.len; rw [e] at this; simp at this; have := HBY.out.1; omega)
            have hue : BitVec.ofNat 8 (ub (gb b 0)).toNat = gb b 0 := by unfold ub; simp
            have HBE := Kp.mk (show (BitVec.ofNat 8 (ub (gb b 0)).toNat :: b.drop 1) = b by rw [hue]; exact hbe.symm)
            clear hbe hue
            generalize ub (gb b 0) = ubz at *
            go_upto_region 26 with fail
            have Y38 := Kp.mk (Y37.out.trans hxb)
            have X38 := Kp.mk (X37.out.trans hxb)
            have HO38 := Kp.mk (HOi.out.ext hxb)
            clear hxb
            generalize w37.alloc (.cells #[.slice Ab (m - 1) cb, .int .i64 ubz] bit) = w38 at *
            have SB := Kp.mk ((HB.out.ext X38.out).str (Ext.refl _))
            go_quiet (fail)
            have hxi : Ext w38 (w38.drewN nq) := (by (repeat (first | assumption | exact Ext.refl _ | apply Ext.drew | apply Ext.drewN | apply Ext.alloc | refine Ext.trans ?_ (by assumption))); first | done | fail)
            have Y39 := Kp.mk (Y38.out.trans hxi)
            have X39 := Kp.mk (X38.out.trans hxi)
            have HO39 := Kp.mk (HO38.out.ext hxi)
            have HBB2 := Kp.mk (HBB.out.ext hxi)
            have HOB2 := Kp.mk (HOB.out.ext hxi)
            clear hxi
            generalize w38.drewN nq = w39 at *
            obtain ⟨bx0, bx1⟩ := box2b HBB2.out (Ext.refl _)
            go_wp2_with fail
            refine (Oid_any HO39.out HDo.out).mono ?_
            rintro e w40 (⟨hno, _⟩ | ⟨_, Ao, co, rfl, so, _, xo⟩)
            · exact absurd HPo.out hno
            have Y40 := Kp.mk (Y39.out.trans xo)
            have X40 := Kp.mk (X39.out.trans xo)
            have HBB3 := Kp.mk (HBB2.out.ext xo)
            have HOB3 := Kp.mk (HOB2.out.ext xo)
            clear xo
            rw [HEo.out] at so ⊢
            have sc := so.str (Ext.refl _)
            have sc2 := (HB.out.ext X40.out).str (Ext.refl _)
            clear so
            generalize b.length = Nb at *
            obtain ⟨bx0, bx1⟩ := box2b HBB3.out (Ext.refl _)
            go_wp2_with fail
            refine (Bits_any HOB3.out.bs (by omega) ubz).mono ?_
            rintro e w41 (⟨hno, _⟩ | ⟨_, Ab2, cb2, rfl, sb, _, xb⟩)
            · rw [HBY.out.2] at hno; cases hno
            have X41 := Kp.mk (X40.out.trans xb)
            rw [HBE.out] at sb
            have sc3 := sb.str (Ext.refl _)
            have sc4 := (HB.out.ext X41.out).str (Ext.refl _)
            clear sb xb
            go_wp2_with fail
            go_ret
            exact ⟨rfl, X41.out.b⟩
end Go.Proofs.YtfipgmjaabggjaaDoor
