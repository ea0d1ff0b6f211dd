/-
  The walk of the law NameWrites.
-/
import Derived.Test.YthookcnkmlmgcaaDoorVYu
import Derived.Test.YthookcnkmlmgcaaDoorVIm
namespace Go.Proofs.YthookcnkmlmgcaaDoor
open Go Go.RowKit
set_option maxRecDepth 4000

set_option maxHeartbeats 8000000 in
theorem NameWrites_any {A : Option Addr} {n c : Nat} {x : List (List Atr)} {w : World} (h : Nam w A n c x) (hT : Tabs8 w) :
    Calls Tryd.prog 3 #[.slice A n c] w fun e w' => e = .returned (.bool true) ∧ Below w.heap.size w w' := by
  have ee := code_eq 1 1
  have H := Kp.mk h
  have HT := Kp.mk hT
  clear h hT
  go_enter Tryd.func3, Tryd.ntmps3
  go_wp2_with fail
  refine (up9 _).mono ?_
  rintro e w1 ⟨rfl, x1⟩
  have X1 := Kp.mk x1
  clear x1
  go_wp2_with fail
  refine (light_any (H.out.ext X1.out)).mono ?_
  rintro e w2 ⟨lb, rfl, hlb, hw⟩
  obtain rfl : w1 = w2 := hw.symm
  cases lb with
  | false =>
    clear hlb
    go_wp2_with fail
    go_ret
    exact ⟨rfl, X1.out.b⟩
  | true =>
    have HLP := Kp.mk (hlb rfl)
    have HF : Kp (∀ s ∈ x, ∀ a ∈ s, a.tx.length ≤ 1000000) := ⟨fun s hs a ha => by
      obtain ⟨i, hi⟩ := List.getElem?_of_mem hs
      obtain ⟨j, hj⟩ := List.getElem?_of_mem ha
      have := ((HLP.out.all i s hi).2 j a hj).1
      omega⟩
    clear hlb
    by_cases hM : MayN textB x
    · have HM := Kp.mk hM
      clear hM
      go_wp2_with fail
      refine (Check_any (H.out.ext X1.out) (tabs_ext HT.out X1.out)).mono ?_
      rintro e w2 ⟨x2, ⟨_, rfl⟩ | ⟨hno, _⟩⟩
      · have X2 := Kp.mk (X1.out.trans x2)
        clear x2
        go_wp2_with fail
        refine (Write_any (H.out.ext X2.out) (tabs_ext HT.out X2.out)).mono ?_
        rintro e w3 (⟨_, A3, c3, rfl, hs3, ho3, x3⟩ | ⟨hno, _⟩)
        · have X3 := Kp.mk (X2.out.trans x3)
          have HS3 := Kp.mk hs3
          clear hs3 ho3 x3
          go_wp2_with fail
          refine (refWrite_any (H.out.ext X3.out) HF.out).mono ?_
          rintro e w4 (⟨_, A4, c4, rfl, hs4, ho4, x4⟩ | ⟨hno, _⟩)
          · have X4 := Kp.mk (X3.out.trans x4)
            have S4 := hs4.str (Ext.refl _)
            have S3 := HS3.out.str x4
            clear hs4 ho4 x4
            go_wp2_with fail
            go_ret
            exact ⟨by first | rfl | simp, X4.out.b⟩
          · exact absurd HM.out hno
        · exact absurd HM.out hno
      · exact absurd HM.out hno
    · have HM := Kp.mk hM
      clear hM
      go_wp2_with fail
      refine (Check_any (H.out.ext X1.out) (tabs_ext HT.out X1.out)).mono ?_
      rintro e w2 ⟨x2, ⟨hyes, _⟩ | ⟨_, rfl⟩⟩
      · exact absurd hyes HM.out
      · have X2 := Kp.mk (X1.out.trans x2)
        clear x2
        go_wp2_with fail
        refine (Write_any (H.out.ext X2.out) (tabs_ext HT.out X2.out)).mono ?_
        rintro e w3 (⟨hyes, _⟩ | ⟨_, rfl, x3⟩)
        · exact absurd hyes HM.out
        · have X3 := Kp.mk (X2.out.trans x3)
          clear x3
          go_wp2_with fail
          refine (refWrite_any (H.out.ext X3.out) HF.out).mono ?_
          rintro e w4 (⟨hyes, _⟩ | ⟨_, rfl, x4⟩)
          · exact absurd hyes HM.out
          · have X4 := Kp.mk (X3.out.trans x4)
            clear x4
            go_wp2_with fail
            go_ret
            exact ⟨by first | rfl | simp, X4.out.b⟩
end Go.Proofs.YthookcnkmlmgcaaDoor
