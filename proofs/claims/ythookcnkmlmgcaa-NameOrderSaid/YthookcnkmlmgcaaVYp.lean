/-
  The walk of the law NameOrder.
-/
import Derived.Test.YthookcnkmlmgcaaVIv
namespace Go.Proofs.Ythookcnkmlmgcaa
open Go Go.RowKit
set_option maxRecDepth 4000

theorem Alike_v {w : World} {A B : Option Addr} {n c m d : Nat} {x y : List (List Atr)} {D : Bool} (h : Nam w A n c x) (h' : Nam w B m d y) (hx : FitN x) (hy : FitN y) (hD : alN x y = D) :
    Calls Try.prog 10 #[.slice A n c, .slice B m d] w fun e w' => e = .returned (.bool D) ∧ Ext w w' := hD ▸ Alike_any h h' hx hy
theorem Within_v {w : World} {A B : Option Addr} {n c m d : Nat} {x y : List (List Atr)} {D : Bool} (h : Nam w A n c x) (h' : Nam w B m d y) (hx : FitN x) (hy : FitN y) (hD : wiN x y = D) :
    Calls Try.prog 12 #[.slice A n c, .slice B m d] w fun e w' => e = .returned (.bool D) ∧ Ext w w' := hD ▸ Within_any h h' hx hy
set_option maxHeartbeats 16000000 in
theorem NameOrder_any {Aa : Option Addr} {na ca : Nat} {a : List (List Atr)} {Ab : Option Addr} {nb cb : Nat} {b : List (List Atr)} {Ac : Option Addr} {nc cc : Nat} {c : List (List Atr)} {w : World} (ha : Nam w Aa na ca a) (hb : Nam w Ab nb cb b) (hc : Nam w Ac nc cc c) :
    Calls Try.prog 5 #[.slice Aa na ca, .slice Ab nb cb, .slice Ac nc cc] w fun e w' => e = .returned (.bool true) ∧ Below w.heap.size w w' := by
  have HU := Kp.mk up9
  have Ha := Kp.mk ha
  have Hb := Kp.mk hb
  have Hc := Kp.mk hc
  clear ha hb hc
  obtain ⟨D1, hD1⟩ : ∃ D, alN a b = D := ⟨_, rfl⟩
  obtain ⟨D2, hD2⟩ : ∃ D, alN b c = D := ⟨_, rfl⟩
  obtain ⟨V1, hV1⟩ : ∃ D, wiN a b = D := ⟨_, rfl⟩
  obtain ⟨V2, hV2⟩ : ∃ D, wiN b c = D := ⟨_, rfl⟩
  obtain ⟨V4, hV4⟩ : ∃ D, wiN b a = D := ⟨_, rfl⟩
  have hboth := wiN_both a b
  rw [hV1, hV4, hD1] at hboth
  have HD1 := Kp.mk hD1
  have HD1' := Kp.mk ((alN_symm b a).trans hD1)
  have HD2 := Kp.mk hD2
  have HV1 := Kp.mk hV1
  have HV2 := Kp.mk hV2
  have HV4 := Kp.mk hV4
  have HB := Kp.mk hboth
  clear hD1 hD2 hV1 hV2 hV4 hboth
  go_enter Try.func5, Try.ntmps5
  go_wp2_with fail
  refine (HU.out _).mono ?_
  rintro e w1 ⟨rfl, x⟩
  have Xw1 := Kp.mk x
  clear x
  go_wp2_with fail
  refine (light_any (Ha.out.ext Xw1.out)).mono ?_
  rintro e w2 ⟨lb, rfl, hlb, hw⟩
  subst hw
  cases lb with
  | false =>
    clear hlb
    go_wp2_with fail
    go_ret
    exact ⟨rfl, Xw1.out.b⟩
  | true =>
    have Fa := Kp.mk (hlb rfl).fit
    clear hlb
    go_wp2_with fail
    refine (light_any (Hb.out.ext Xw1.out)).mono ?_
    rintro e w2 ⟨lb, rfl, hlb, hw⟩
    subst hw
    cases lb with
    | false =>
      clear hlb
      go_wp2_with fail
      go_ret
      exact ⟨rfl, Xw1.out.b⟩
    | true =>
      have Fb := Kp.mk (hlb rfl).fit
      clear hlb
      go_wp2_with fail
      refine (light_any (Hc.out.ext Xw1.out)).mono ?_
      rintro e w2 ⟨lb, rfl, hlb, hw⟩
      subst hw
      cases lb with
      | false =>
        clear hlb
        go_wp2_with fail
        go_ret
        exact ⟨rfl, Xw1.out.b⟩
      | true =>
        have Fc := Kp.mk (hlb rfl).fit
        clear hlb
        go_wp2_with fail
        refine (Alike_v (Ha.out.ext Xw1.out) (Ha.out.ext Xw1.out) Fa.out Fa.out (alN_refl a)).mono ?_
        rintro e w11 ⟨rfl, x⟩
        have Xw11 := Kp.mk (Xw1.out.trans x)
        clear x
        go_wp2_with fail
        refine (Within_v (Ha.out.ext Xw11.out) (Ha.out.ext Xw11.out) Fa.out Fa.out (wiN_refl a)).mono ?_
        rintro e w12 ⟨rfl, x⟩
        have Xw12 := Kp.mk (Xw11.out.trans x)
        clear x
        go_wp2_with fail
        refine (Alike_v (Ha.out.ext Xw12.out) (Hb.out.ext Xw12.out) Fa.out Fb.out HD1.out).mono ?_
        rintro e w13 ⟨rfl, x⟩
        have Xw13 := Kp.mk (Xw12.out.trans x)
        clear x
        go_wp2_with fail
        refine (Alike_v (Hb.out.ext Xw13.out) (Ha.out.ext Xw13.out) Fb.out Fa.out HD1'.out).mono ?_
        rintro e w14 ⟨rfl, x⟩
        have Xw14 := Kp.mk (Xw13.out.trans x)
        clear x
        have d1 : (D1 == D1) = true := beq_self_eq_true _
        have d2 : (D1 != D1) = false := by rw [bne, d1]; rfl
        go_wp2_with fail
        refine (Alike_v (Ha.out.ext Xw14.out) (Hb.out.ext Xw14.out) Fa.out Fb.out HD1.out).mono ?_
        rintro e w15 ⟨rfl, x⟩
        have Xw15 := Kp.mk (Xw14.out.trans x)
        clear x
        cases D1 with
        | false =>
          go_wp2_with fail
          refine (Within_v (Ha.out.ext Xw15.out) (Hb.out.ext Xw15.out) Fa.out Fb.out HV1.out).mono ?_
          rintro e w16 ⟨rfl, x⟩
          have Xw16 := Kp.mk (Xw15.out.trans x)
          clear x
          cases V1 with
          | false =>
            go_wp2_with fail
            refine (Within_v (Ha.out.ext Xw16.out) (Hb.out.ext Xw16.out) Fa.out Fb.out HV1.out).mono ?_
            rintro e w17 ⟨rfl, x⟩
            have Xw17 := Kp.mk (Xw16.out.trans x)
            clear x
            go_wp2_with fail
            refine (Alike_v (Ha.out.ext Xw17.out) (Hb.out.ext Xw17.out) Fa.out Fb.out HD1.out).mono ?_
            rintro e w18 ⟨rfl, x⟩
            have Xw18 := Kp.mk (Xw17.out.trans x)
            clear x
            go_wp2_with fail
            go_ret
            exact ⟨by first | rfl | simp, Xw18.out.b⟩
          | true =>
            go_wp2_with fail
            refine (Within_v (Hb.out.ext Xw16.out) (Hc.out.ext Xw16.out) Fb.out Fc.out HV2.out).mono ?_
            rintro e w19 ⟨rfl, x⟩
            have Xw19 := Kp.mk (Xw16.out.trans x)
            clear x
            cases V2 with
            | false =>
              go_wp2_with fail
              refine (Within_v (Ha.out.ext Xw19.out) (Hb.out.ext Xw19.out) Fa.out Fb.out HV1.out).mono ?_
              rintro e w20 ⟨rfl, x⟩
              have Xw20 := Kp.mk (Xw19.out.trans x)
              clear x
              go_wp2_with fail
              refine (Within_v (Hb.out.ext Xw20.out) (Ha.out.ext Xw20.out) Fb.out Fa.out HV4.out).mono ?_
              rintro e w21 ⟨rfl, x⟩
              have Xw21 := Kp.mk (Xw20.out.trans x)
              clear x
              obtain rfl : V4 = false := by simpa using HB.out
              go_wp2_with fail
              refine (Alike_v (Ha.out.ext Xw21.out) (Hb.out.ext Xw21.out) Fa.out Fb.out HD1.out).mono ?_
              rintro e w22 ⟨rfl, x⟩
              have Xw22 := Kp.mk (Xw21.out.trans x)
              clear x
              go_wp2_with fail
              go_ret
              exact ⟨by first | rfl | simp, Xw22.out.b⟩
            | true =>
              go_wp2_with fail
              refine (Within_v (Ha.out.ext Xw19.out) (Hc.out.ext Xw19.out) Fa.out Fc.out (wiN_trans HV1.out HV2.out)).mono ?_
              rintro e w23 ⟨rfl, x⟩
              have Xw23 := Kp.mk (Xw19.out.trans x)
              clear x
              go_wp2_with fail
              refine (Within_v (Ha.out.ext Xw23.out) (Hb.out.ext Xw23.out) Fa.out Fb.out HV1.out).mono ?_
              rintro e w24 ⟨rfl, x⟩
              have Xw24 := Kp.mk (Xw23.out.trans x)
              clear x
              go_wp2_with fail
              refine (Within_v (Hb.out.ext Xw24.out) (Ha.out.ext Xw24.out) Fb.out Fa.out HV4.out).mono ?_
              rintro e w25 ⟨rfl, x⟩
              have Xw25 := Kp.mk (Xw24.out.trans x)
              clear x
              obtain rfl : V4 = false := by simpa using HB.out
              go_wp2_with fail
              refine (Alike_v (Ha.out.ext Xw25.out) (Hb.out.ext Xw25.out) Fa.out Fb.out HD1.out).mono ?_
              rintro e w26 ⟨rfl, x⟩
              have Xw26 := Kp.mk (Xw25.out.trans x)
              clear x
              go_wp2_with fail
              go_ret
              exact ⟨by first | rfl | simp, Xw26.out.b⟩
        | true =>
          go_wp2_with fail
          refine (Alike_v (Hb.out.ext Xw15.out) (Hc.out.ext Xw15.out) Fb.out Fc.out HD2.out).mono ?_
          rintro e w27 ⟨rfl, x⟩
          have Xw27 := Kp.mk (Xw15.out.trans x)
          clear x
          cases D2 with
          | false =>
            go_wp2_with fail
            refine (Within_v (Ha.out.ext Xw27.out) (Hb.out.ext Xw27.out) Fa.out Fb.out HV1.out).mono ?_
            rintro e w28 ⟨rfl, x⟩
            have Xw28 := Kp.mk (Xw27.out.trans x)
            clear x
            cases V1 with
            | false =>
              exact absurd HB.out (by simp)
            | true =>
              go_wp2_with fail
              refine (Within_v (Hb.out.ext Xw28.out) (Hc.out.ext Xw28.out) Fb.out Fc.out HV2.out).mono ?_
              rintro e w29 ⟨rfl, x⟩
              have Xw29 := Kp.mk (Xw28.out.trans x)
              clear x
              cases V2 with
              | false =>
                go_wp2_with fail
                refine (Within_v (Ha.out.ext Xw29.out) (Hb.out.ext Xw29.out) Fa.out Fb.out HV1.out).mono ?_
                rintro e w30 ⟨rfl, x⟩
                have Xw30 := Kp.mk (Xw29.out.trans x)
                clear x
                go_wp2_with fail
                refine (Within_v (Hb.out.ext Xw30.out) (Ha.out.ext Xw30.out) Fb.out Fa.out HV4.out).mono ?_
                rintro e w31 ⟨rfl, x⟩
                have Xw31 := Kp.mk (Xw30.out.trans x)
                clear x
                obtain rfl : V4 = true := by simpa using HB.out
                go_wp2_with fail
                refine (Alike_v (Ha.out.ext Xw31.out) (Hb.out.ext Xw31.out) Fa.out Fb.out HD1.out).mono ?_
                rintro e w32 ⟨rfl, x⟩
                have Xw32 := Kp.mk (Xw31.out.trans x)
                clear x
                go_wp2_with fail
                go_ret
                exact ⟨by first | rfl | simp, Xw32.out.b⟩
              | true =>
                go_wp2_with fail
                refine (Within_v (Ha.out.ext Xw29.out) (Hc.out.ext Xw29.out) Fa.out Fc.out (wiN_trans HV1.out HV2.out)).mono ?_
                rintro e w33 ⟨rfl, x⟩
                have Xw33 := Kp.mk (Xw29.out.trans x)
                clear x
                go_wp2_with fail
                refine (Within_v (Ha.out.ext Xw33.out) (Hb.out.ext Xw33.out) Fa.out Fb.out HV1.out).mono ?_
                rintro e w34 ⟨rfl, x⟩
                have Xw34 := Kp.mk (Xw33.out.trans x)
                clear x
                go_wp2_with fail
                refine (Within_v (Hb.out.ext Xw34.out) (Ha.out.ext Xw34.out) Fb.out Fa.out HV4.out).mono ?_
                rintro e w35 ⟨rfl, x⟩
                have Xw35 := Kp.mk (Xw34.out.trans x)
                clear x
                obtain rfl : V4 = true := by simpa using HB.out
                go_wp2_with fail
                refine (Alike_v (Ha.out.ext Xw35.out) (Hb.out.ext Xw35.out) Fa.out Fb.out HD1.out).mono ?_
                rintro e w36 ⟨rfl, x⟩
                have Xw36 := Kp.mk (Xw35.out.trans x)
                clear x
                go_wp2_with fail
                go_ret
                exact ⟨by first | rfl | simp, Xw36.out.b⟩
          | true =>
            go_wp2_with fail
            refine (Alike_v (Ha.out.ext Xw27.out) (Hc.out.ext Xw27.out) Fa.out Fc.out (alN_trans HD1.out HD2.out)).mono ?_
            rintro e w37 ⟨rfl, x⟩
            have Xw37 := Kp.mk (Xw27.out.trans x)
            clear x
            go_wp2_with fail
            refine (Within_v (Ha.out.ext Xw37.out) (Hb.out.ext Xw37.out) Fa.out Fb.out HV1.out).mono ?_
            rintro e w38 ⟨rfl, x⟩
            have Xw38 := Kp.mk (Xw37.out.trans x)
            clear x
            cases V1 with
            | false =>
              exact absurd HB.out (by simp)
            | true =>
              go_wp2_with fail
              refine (Within_v (Hb.out.ext Xw38.out) (Hc.out.ext Xw38.out) Fb.out Fc.out HV2.out).mono ?_
              rintro e w39 ⟨rfl, x⟩
              have Xw39 := Kp.mk (Xw38.out.trans x)
              clear x
              cases V2 with
              | false =>
                go_wp2_with fail
                refine (Within_v (Ha.out.ext Xw39.out) (Hb.out.ext Xw39.out) Fa.out Fb.out HV1.out).mono ?_
                rintro e w40 ⟨rfl, x⟩
                have Xw40 := Kp.mk (Xw39.out.trans x)
                clear x
                go_wp2_with fail
                refine (Within_v (Hb.out.ext Xw40.out) (Ha.out.ext Xw40.out) Fb.out Fa.out HV4.out).mono ?_
                rintro e w41 ⟨rfl, x⟩
                have Xw41 := Kp.mk (Xw40.out.trans x)
                clear x
                obtain rfl : V4 = true := by simpa using HB.out
                go_wp2_with fail
                refine (Alike_v (Ha.out.ext Xw41.out) (Hb.out.ext Xw41.out) Fa.out Fb.out HD1.out).mono ?_
                rintro e w42 ⟨rfl, x⟩
                have Xw42 := Kp.mk (Xw41.out.trans x)
                clear x
                go_wp2_with fail
                go_ret
                exact ⟨by first | rfl | simp, Xw42.out.b⟩
              | true =>
                go_wp2_with fail
                refine (Within_v (Ha.out.ext Xw39.out) (Hc.out.ext Xw39.out) Fa.out Fc.out (wiN_trans HV1.out HV2.out)).mono ?_
                rintro e w43 ⟨rfl, x⟩
                have Xw43 := Kp.mk (Xw39.out.trans x)
                clear x
                go_wp2_with fail
                refine (Within_v (Ha.out.ext Xw43.out) (Hb.out.ext Xw43.out) Fa.out Fb.out HV1.out).mono ?_
                rintro e w44 ⟨rfl, x⟩
                have Xw44 := Kp.mk (Xw43.out.trans x)
                clear x
                go_wp2_with fail
                refine (Within_v (Hb.out.ext Xw44.out) (Ha.out.ext Xw44.out) Fb.out Fa.out HV4.out).mono ?_
                rintro e w45 ⟨rfl, x⟩
                have Xw45 := Kp.mk (Xw44.out.trans x)
                clear x
                obtain rfl : V4 = true := by simpa using HB.out
                go_wp2_with fail
                refine (Alike_v (Ha.out.ext Xw45.out) (Hb.out.ext Xw45.out) Fa.out Fb.out HD1.out).mono ?_
                rintro e w46 ⟨rfl, x⟩
                have Xw46 := Kp.mk (Xw45.out.trans x)
                clear x
                go_wp2_with fail
                go_ret
                exact ⟨by first | rfl | simp, Xw46.out.b⟩
end Go.Proofs.Ythookcnkmlmgcaa
