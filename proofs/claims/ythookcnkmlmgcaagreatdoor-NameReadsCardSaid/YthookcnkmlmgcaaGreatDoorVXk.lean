/-
  The walk of the law NameReads.
-/
import Derived.Test.YthookcnkmlmgcaaGreatDoorVXa
import Derived.Test.YthookcnkmlmgcaaGreatDoorVXb
import Derived.Test.YthookcnkmlmgcaaGreatDoorVXj
import Derived.Test.YthookcnkmlmgcaaGreatDoorVIm
namespace Go.Proofs.YthookcnkmlmgcaaGreatDoor
open Go Go.RowKit
set_option maxRecDepth 4000

theorem MayN.fit9 {T : BitVec 8 → List (BitVec 8) → Bool} {x : List (List Atr)} (h : MayN T x) : FitN x := by
  refine ⟨by have := h.hi; omega, fun s hs => ⟨?_, fun a ha => ?_⟩⟩
  · have := (h.all s hs).hi
    omega
  · have h1 := ((h.all s hs).all a ha)
    have h2 := h1.hi
    obtain ⟨_, _, _, _, h4, _⟩ := h1.oid
    exact ⟨by omega, by omega⟩
set_option maxHeartbeats 16000000 in
theorem NameReads_any {B : Option Addr} {m d : Nat} {b : List (BitVec 8)} {w : World} (hb : Bs w B m d b) (hT : Tabs8 w) :
    Calls Tryz.prog 3 #[.slice B m d] w fun e w' => e = .returned (.bool true) ∧ Below w.heap.size w w' := by
  have ee := code_eq 2 2
  have hbl := hb.len
  have HT := Kp.mk hT
  have HB := Kp.mk hb
  clear hT hb
  go_enter Tryz.func3, Tryz.ntmps3
  go_wp2_with fail
  refine (up9 _).mono ?_
  rintro e w1 ⟨rfl, x1⟩
  have X1 := Kp.mk x1
  clear x1
  by_cases hm4 : 4000 < m
  · have b4 : (4000 : Int) < (m : Int) := by omega
    go_wp2_with fail
    go_ret
    exact ⟨rfl, X1.out.b⟩
  · have b4 : ¬ (4000 : Int) < (m : Int) := by omega
    go_wp2_with fail
    refine (Read_any (HB.out.ext X1.out) (by omega) (tabs_ext HT.out X1.out)).mono ?_
    rintro e w3 (⟨qs, A3, c3, F3, hm3, he3, rfl, ho3, _, x3⟩ | ⟨hno, rfl, x3⟩)
    · have HM := Kp.mk hm3
      have HE := Kp.mk he3
      have HO := Kp.mk (ho3.nam rfl)
      have X3 := Kp.mk (X1.out.trans x3)
      clear hm3 he3 ho3 x3
      have HR := Kp.mk (refRead_any (HB.out.ext X3.out) (by omega))
      go_wp2_with fail
      refine HR.out.mono ?_
      rintro e w4 ⟨x4, (⟨y, A4, c4, hy, hyb, rfl, hn⟩ | ⟨hno, _⟩)⟩
      · obtain rfl : qs.map Prod.snd = y := namW_inj HM.out.w hy.w (HE.out.trans hyb.symm)
        have X4 := Kp.mk (X3.out.trans x4)
        have HS := Kp.mk (Same_any (HO.out.ext x4) hn HM.out.fit9)
        rw [sameN_yes rfl] at HS
        clear hy hyb hn x4
        have hql : (qs.map Prod.snd).length = qs.length := by simp
        rw [hql] at HS ⊢
        clear hql
        go_wp2_with fail
        refine HS.out.mono ?_
        rintro e w5 ⟨rfl, x5⟩
        have X5 := Kp.mk (X4.out.trans x5)
        clear x5
        go_wp2_with fail
        go_ret
        exact ⟨by first | rfl | simp, X5.out.b⟩
      · exact absurd ⟨_, HM.out, HE.out⟩ hno
    · have HN := Kp.mk hno
      have X3 := Kp.mk (X1.out.trans x3)
      clear hno x3
      have HR := Kp.mk (refRead_any (HB.out.ext X3.out) (by omega))
      go_wp2_with fail
      refine HR.out.mono ?_
      rintro e w4 ⟨x4, (⟨y, A4, c4, hy, hyb, _⟩ | ⟨_, rfl⟩)⟩
      · exact absurd ⟨y, hy, hyb⟩ HN.out
      · have X4 := Kp.mk (X3.out.trans x4)
        clear x4
        go_wp2_with fail
        go_ret
        exact ⟨by first | rfl | simp, X4.out.b⟩
end Go.Proofs.YthookcnkmlmgcaaGreatDoor
