/-
  The walk of the law NameAlike.
-/
import Derived.Test.YthookcnkmlmgcaaVIx
namespace Go.Proofs.Ythookcnkmlmgcaa
open Go Go.RowKit
set_option maxRecDepth 4000

set_option maxHeartbeats 16000000 in
theorem NameAlike_any {Aa : Option Addr} {na ca : Nat} {a : List (List Atr)} {Ab : Option Addr} {nb cb : Nat} {b : List (List Atr)} {w : World} (ha : Nam w Aa na ca a) (hb : Nam w Ab nb cb b) :
    Calls Try.prog 4 #[.slice Aa na ca, .slice Ab nb cb] w fun e w' => e = .returned (.bool true) ∧ Below w.heap.size w w' := by
  have HU := Kp.mk up9
  have Ha := Kp.mk ha
  have Hb := Kp.mk hb
  clear ha hb
  obtain ⟨D, hD⟩ : ∃ D, alN a b = D := ⟨_, rfl⟩
  obtain ⟨V, hV⟩ : ∃ V, wiN a b = V := ⟨_, rfl⟩
  have HD := Kp.mk hD
  have HV := Kp.mk hV
  clear hD hV
  go_enter Try.func4, Try.ntmps4
  go_wp2_with fail
  refine (HU.out _).mono ?_
  rintro e w1 ⟨rfl, x⟩
  have Xw1 := Kp.mk x
  clear x
  go_wp2_with fail
  refine (light_any (Ha.out.ext Xw1.out)).mono ?_
  rintro e w2 ⟨lb, rfl, hlb, hw⟩
  subst hw
  cases lb with
  | false =>
    clear hlb
    go_wp2_with fail
    go_ret
    exact ⟨rfl, Xw1.out.b⟩
  | true =>
    have Fa := Kp.mk (hlb rfl).fit
    clear hlb
    go_wp2_with fail
    refine (light_any (Hb.out.ext Xw1.out)).mono ?_
    rintro e w2 ⟨lb, rfl, hlb, hw⟩
    subst hw
    cases lb with
    | false =>
      clear hlb
      go_wp2_with fail
      go_ret
      exact ⟨rfl, Xw1.out.b⟩
    | true =>
      have Fb := Kp.mk (hlb rfl).fit
      clear hlb
      go_wp2_with fail
      refine (Alike_any (Ha.out.ext Xw1.out) (Hb.out.ext Xw1.out) Fa.out Fb.out).mono ?_
      rintro e w3 ⟨rfl, x⟩
      rw [HD.out]
      have Xw3 := Kp.mk (Xw1.out.trans x)
      clear x
      go_wp2_with fail
      refine (refAlike_any (Ha.out.ext Xw3.out) (Hb.out.ext Xw3.out) Fa.out Fb.out).mono ?_
      rintro e w4 ⟨rfl, x⟩
      rw [HD.out]
      have Xw4 := Kp.mk (Xw3.out.trans x)
      clear x
      go_wp2_with fail
      refine (Within_any (Ha.out.ext Xw4.out) (Hb.out.ext Xw4.out) Fa.out Fb.out).mono ?_
      rintro e w5 ⟨rfl, x⟩
      rw [HV.out]
      have Xw5 := Kp.mk (Xw4.out.trans x)
      clear x
      go_wp2_with fail
      refine (refWithin_any (Ha.out.ext Xw5.out) (Hb.out.ext Xw5.out) Fa.out Fb.out).mono ?_
      rintro e w6 ⟨rfl, x⟩
      rw [HV.out]
      have Xw6 := Kp.mk (Xw5.out.trans x)
      clear x
      have d1 : (D == D) = true := beq_self_eq_true _
      have d2 : (V == V) = true := beq_self_eq_true _
      go_wp2_with fail
      go_ret
      exact ⟨by first | rfl | simp, Xw6.out.b⟩
end Go.Proofs.Ythookcnkmlmgcaa
