/-
  name.Read.
-/
import Derived.Test.YthookcnkmlmgcaaGreatDoorM16
import Derived.Test.YthookcnkmlmgcaaGreatDoorVYs
namespace Go.Proofs.YthookcnkmlmgcaaGreatDoor
open Go Go.RowKit
set_option maxRecDepth 4000

/-- what Read tells -/
def RdB (w : World) (b : List (BitVec 8)) (e : Ending) (w' : World) : Prop :=
  (∃ (qs : List ((Option Addr × Nat × Nat) × List Atr)) (A : Option Addr) (c : Nat) (F : List Nat), MayN textB (qs.map Prod.snd) ∧ namB (qs.map Prod.snd) = b ∧ e = .returned (.tuple #[.slice A qs.length c, .nilIface]) ∧ NmO w' (.slice A qs.length c) F qs ∧ Lo w.heap.size (fpv (.slice A qs.length c) ++ F) ∧ Ext w w') ∨
  ((¬ ∃ x, MayN textB x ∧ namB x = b) ∧ e = .returned (.tuple #[.slice none 0 0, err 2]) ∧ Ext w w')
theorem end_rest {r : List (BitVec 8)} (h : r ≠ []) : errW (endC r []) = err 3 := by
  cases r with
  | nil => exact absurd rfl h
  | cons a t =>
    unfold endC errW
    rw [if_neg (show ¬ 0 < ([] : List (List (BitVec 8))).length by decide), if_pos (show 0 < (a :: t).length by simp), if_neg (by decide)]
    rfl
theorem end_none : errW (endC [] []) = .nilIface := rfl
set_option maxHeartbeats 16000000 in
theorem Read_any {w : World} {b : List (BitVec 8)} {A : Option Addr} {n c : Nat} (h : Bs w A n c b) (hn : n ≤ 1000000000) (hT : Tabs8 w) :
    Calls Tryz.prog 5 #[.slice A n c] w (RdB w b) := by
  have hl := h.len
  have HC := Kp.mk (NewReader_any h (by omega))
  have HT := Kp.mk hT
  clear h hT
  go_enter Tryz.func5, Tryz.ntmps5
  go_wp2_with fail
  refine HC.out.mono ?_
  rintro e w1 ⟨q, rfl, ⟨G, hr1, hlo1⟩, x1⟩
  have HLO := Kp.mk hlo1
  have X1 := Kp.mk x1
  have HC2 := Kp.mk (listS_any hr1 (by omega) (by simp))
  clear hr1 hlo1 x1
  go_wp2_with fail
  refine HC2.out.mono ?_
  rintro e w2 (⟨qs, r, A2, c2, F, G2, hw2, he2, rfl, ho2, hl2, hr2, hm2, ha2⟩ | ⟨hno, ⟨k, rfl⟩, hm2⟩)
  · have HW2 := Kp.mk hw2
    have HE2 := Kp.mk he2
    have HO2 := Kp.mk ho2
    have HL2 := Kp.mk (hl2.mono X1.out.size)
    have X2 : Kp (Ext w w2) := ⟨hm2.ext X1.out HLO.out⟩
    have HCE := Kp.mk (End_any hr2)
    clear hw2 he2 ho2 hl2 hr2 hm2 ha2
    by_cases hr : r = []
    · subst hr
      rw [end_none] at HCE
      have HCK := Kp.mk (Check_any (HO2.out.nam rfl) (tabs_ext HT.out X2.out))
      go_wp2_with fail
      refine HCE.out.mono ?_
      rintro e w3 ⟨rfl, hw⟩
      obtain rfl : w2 = w3 := hw.symm
      go_wp2_with fail
      refine HCK.out.mono ?_
      rintro e w3 ⟨x3, (⟨hm, rfl⟩ | ⟨hm, rfl⟩)⟩
      · have HM := Kp.mk hm
        have X3 := Kp.mk x3
        clear hm x3
        go_wp2_with fail
        go_ret2
        exact .inl ⟨qs, A2, c2, F, HM.out, by rw [HE2.out, List.append_nil], rfl, HO2.out.ext X3.out, HL2.out, X2.out.trans X3.out⟩
      · have HN : Kp (¬ ∃ x, MayN textB x ∧ namB x = b) := ⟨by
          rintro ⟨x, hx, e⟩
          rw [HE2.out, List.append_nil] at e
          rw [namW_inj hx.w HW2.out e] at hx
          exact hm hx⟩
        have X3 := Kp.mk x3
        clear hm x3
        go_wp2_with fail
        go_ret2
        exact .inr ⟨HN.out, rfl, X2.out.trans X3.out⟩
    · have HN : Kp (¬ ∃ x, MayN textB x ∧ namB x = b) := ⟨by
        rintro ⟨x, hx, e⟩
        rw [HE2.out] at e
        have f1 : El (namB x) 48 (x.map stpB).flatten [] := ⟨by decide, hx.w.bd, by rw [List.append_nil]; rfl⟩
        have f2 : El (namB x) 48 ((qs.map Prod.snd).map stpB).flatten r := ⟨by decide, HW2.out.bd, e⟩
        exact hr (el_uniq f1 f2).2.2.symm⟩
      rw [end_rest hr] at HCE
      clear hr
      go_wp2_with fail
      refine HCE.out.mono ?_
      rintro e w3 ⟨rfl, hw⟩
      obtain rfl : w2 = w3 := hw.symm
      go_wp2_with fail
      go_ret2
      exact .inr ⟨HN.out, rfl, X2.out⟩
  · have HN : Kp (¬ ∃ x, MayN textB x ∧ namB x = b) := ⟨by
      rintro ⟨x, hx, e⟩
      exact hno ⟨x, [], hx.w, by rw [List.append_nil]; exact e.symm⟩⟩
    have X2 : Kp (Ext w w2) := ⟨hm2.ext X1.out HLO.out⟩
    clear hno hm2
    go_wp2_with fail
    go_ret2
    exact .inr ⟨HN.out, rfl, X2.out⟩
end Go.Proofs.YthookcnkmlmgcaaGreatDoor
