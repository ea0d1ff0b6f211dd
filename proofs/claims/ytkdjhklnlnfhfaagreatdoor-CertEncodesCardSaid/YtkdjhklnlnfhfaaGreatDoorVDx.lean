/-
  The law CertEncodes.
-/
import Derived.Test.YtkdjhklnlnfhfaaGreatDoorM32
import Derived.Test.YtkdjhklnlnfhfaaGreatDoorM34
import Derived.Test.YtkdjhklnlnfhfaaGreatDoorVDw
namespace Go.Proofs.YtkdjhklnlnfhfaaGreatDoor
open Go Go.RowKit
set_option maxRecDepth 4000

set_option maxHeartbeats 16000000 in
theorem CertEncodes_any {w : World} {A B C : Option Addr} {n c m d k e : Nat} {x s b : List (BitVec 8)} (hx : Bs w A n c x) (hs : Bs w B m d s) (hb : Bs w C k e b) :
    Calls Tryz.prog 4 #[.slice A n c, .slice B m d, .slice C k e] w fun e w' => e = .returned (.bool true) ∧ Ext w w' := by
  have HX := Kp.mk hx
  have HS := Kp.mk hs
  have HB := Kp.mk hb
  have HL := Kp.mk (And.intro hx.len hs.len)
  have U := Kp.mk (up10 w)
  clear hx hs hb
  by_cases hn : n ≤ 3000
  · by_cases hm : m ≤ 3000
    · by_cases hk : k ≤ 6000
      · have b1 : decide ((3000 : Int) < (n : Int)) = false := decide_eq_false (by omega)
        have b2 : decide ((3000 : Int) < (m : Int)) = false := decide_eq_false (by omega)
        have b3 : decide ((6000 : Int) < (k : Int)) = false := decide_eq_false (by omega)
        have HOK : Kp (EncOk x s) := ⟨by
          have h1 := HL.out
          have h2 := kndE_len sgnO_ok
          have h3 := elm_hi 3 (0 :: s)
          rw [List.length_cons] at h3
          refine ⟨by omega, ?_⟩
          unfold encI sgnE
          rw [List.length_append, List.length_append]
          omega⟩
        have E1 := Kp.mk (fun W (hx : Ext w W) => Encode_any (HX.out.ext hx) (HS.out.ext hx) (by omega) (by omega))
        have E2 := Kp.mk (fun W (hx : Ext w W) => rEncode (HX.out.ext hx) (HS.out.ext hx) (by omega) (by omega))
        have S1 := Kp.mk (fun W (hx : Ext w W) => Split_any (HB.out.ext hx) (by omega))
        have S2 := Kp.mk (fun W (hx : Ext w W) => rSplit (HB.out.ext hx) (by omega))
        clear hn hm hk HL
        go_enter Tryz.func4, Tryz.ntmps4
        go_wp2_with fail
        refine U.out.mono ?_
        rintro e w1 ⟨rfl, x1⟩
        have X1 := Kp.mk x1
        clear x1 U
        go_wp2_with fail
        refine (E1.out _ X1.out).mono ?_
        rintro e w2 (⟨_, A2, n2, c2, rfl, o2, x2⟩ | ⟨hno, _⟩)
        rotate_left
        · exact absurd HOK.out hno
        have X2 := Kp.mk (X1.out.trans x2)
        have O2 := Kp.mk o2
        clear x2 o2 E1
        go_wp2_with fail
        refine (E2.out _ X2.out).mono ?_
        rintro e w3 (⟨_, A3, n3, c3, rfl, o3, x3⟩ | ⟨hno, _⟩)
        rotate_left
        · exact absurd HOK.out hno
        have X3 := Kp.mk (X2.out.trans x3)
        have q2 := (O2.out.ext x3).bs.str (Ext.refl _)
        have q3 := o3.bs.str (Ext.refl _)
        have HE := strE_eq (encX x s)
        clear x3 o3 E2 O2 HOK
        go_wp2_with fail
        refine (S1.out _ X3.out).mono ?_
        rintro e w4 (⟨xx, ss, A4, n4, c4, A5, n5, c5, hsp, rfl, o4, o5, x4⟩ | ⟨hsp, rfl, x4⟩)
        · have X4 := Kp.mk (X3.out.trans x4)
          have O4 := Kp.mk o4
          have O5 := Kp.mk o5
          have HSP := Kp.mk hsp
          clear hsp o4 o5 x4 S1 q2 q3
          go_wp2_with fail
          refine (S2.out _ X4.out).mono ?_
          rintro e w5 (⟨xx2, ss2, A6, n6, c6, A7, n7, c7, hsp2, rfl, o6, o7, x5⟩ | ⟨hsp2, rfl, x5⟩)
          · have h2 := HSP.out.symm.trans hsp2
            have h3 := Option.some.inj h2
            obtain ⟨rfl, rfl⟩ := Prod.mk.inj h3
            have X5 := Kp.mk (X4.out.trans x5)
            have q4 := (O4.out.ext x5).bs.str (Ext.refl _)
            have q5 := (O5.out.ext x5).bs.str (Ext.refl _)
            have q6 := o6.str (Ext.refl _)
            have q7 := o7.str (Ext.refl _)
            clear h2 h3 hsp2 o6 o7 x5
            go_wp2_with fail
            go_ret
            exact ⟨rfl, X5.out⟩
          · rw [HSP.out] at hsp2; cases hsp2
        · have X4 := Kp.mk (X3.out.trans x4)
          have HSP := Kp.mk hsp
          have HE2 := code_eq 2 2
          clear hsp x4 S1 q2 q3
          go_wp2_with fail
          refine (S2.out _ X4.out).mono ?_
          rintro e w5 (⟨xx2, ss2, A6, n6, c6, A7, n7, c7, hsp2, rfl, o6, o7, x5⟩ | ⟨hsp2, rfl, x5⟩)
          · rw [HSP.out] at hsp2; cases hsp2
          · have X5 := Kp.mk (X4.out.trans x5)
            clear hsp2 x5
            go_wp2_with fail
            go_ret
            exact ⟨rfl, X5.out⟩
      · have b1 : decide ((3000 : Int) < (n : Int)) = false := decide_eq_false (by omega)
        have b2 : decide ((3000 : Int) < (m : Int)) = false := decide_eq_false (by omega)
        have b3 : decide ((6000 : Int) < (k : Int)) = true := decide_eq_true (by omega)
        clear hn hm hk
        go_enter Tryz.func4, Tryz.ntmps4
        go_wp2_with fail
        refine U.out.mono ?_
        rintro e w1 ⟨rfl, x1⟩
        have X1 := Kp.mk x1
        clear x1
        go_wp2_with fail
        go_ret
        exact ⟨rfl, X1.out⟩
    · have b1 : decide ((3000 : Int) < (n : Int)) = false := decide_eq_false (by omega)
      have b2 : decide ((3000 : Int) < (m : Int)) = true := decide_eq_true (by omega)
      clear hn hm
      go_enter Tryz.func4, Tryz.ntmps4
      go_wp2_with fail
      refine U.out.mono ?_
      rintro e w1 ⟨rfl, x1⟩
      have X1 := Kp.mk x1
      clear x1
      go_wp2_with fail
      go_ret
      exact ⟨rfl, X1.out⟩
  · have b1 : decide ((3000 : Int) < (n : Int)) = true := decide_eq_true (by omega)
    clear hn
    go_enter Tryz.func4, Tryz.ntmps4
    go_wp2_with fail
    refine U.out.mono ?_
    rintro e w1 ⟨rfl, x1⟩
    have X1 := Kp.mk x1
    clear x1
    go_wp2_with fail
    go_ret
    exact ⟨rfl, X1.out⟩
end Go.Proofs.YtkdjhklnlnfhfaaGreatDoor
