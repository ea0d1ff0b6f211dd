/-
  prim.Text; the reference's Text; utf8's tables as they are laid.
-/
import Derived.Test.YthookcnkmlmgcaaGreatDoorVZb
import Derived.Test.YthookcnkmlmgcaaGreatDoorVZc
import Derived.Test.YthookcnkmlmgcaaGreatDoorVZd
import Derived.Test.YthookcnkmlmgcaaGreatDoorM4
namespace Go.Proofs.YthookcnkmlmgcaaGreatDoor
open Go Go.RowKit
set_option maxRecDepth 4000

/-- is it a text of the mark? -/
def textB (m : BitVec 8) (l : List (BitVec 8)) : Bool := if m = 12 then Lib.validD (oct l) else if m = 19 then l.all plainB else l.all asciiB
abbrev Tabs8 (w : World) : Prop := Lib.Utf8Tabs 1 2 w
def Tx8R (w : World) (m : BitVec 8) (l : List (BitVec 8)) (e : Ending) (w' : World) : Prop :=
  Ext w w' ∧ ((¬ (m = 12 ∨ m = 19 ∨ m = 22) ∧ e = .returned (err 1)) ∨ ((m = 12 ∨ m = 19 ∨ m = 22) ∧ ((textB m l = true ∧ e = .returned .nilIface) ∨ (textB m l = false ∧ e = .returned (err 2)))))
set_option maxHeartbeats 2000000 in
theorem Text_any (m : BitVec 8) {l : List (BitVec 8)} {A : Option Addr} {n c : Nat} {w : World} (h : Bs w A n c l) (hn : n ≤ 1000000) (hT : Tabs8 w) :
    Calls Tryz.prog 79 #[.int .u8 (ub m), .slice A n c] w (Tx8R w m l) := by
  by_cases h12 : m = 12
  · as_aux_lemma =>
    have hm : m = 12 := h12
    have ht : textB m l = Lib.validD (oct l) := by subst hm; rfl
    have hH := Valid_any h hT
    unfold Tx8R
    rw [ht]
    have HM := Kp.mk hm
    have e12 : (ub m == 12) = true := by rw [hm]; rfl
    clear hm ht h12 h hT
    generalize Lib.validD (oct l) = R at *
    have HC := Kp.mk hH
    clear hH
    generalize ub m = z at *
    cases R with
    | true =>
      go_enter Tryz.func79, Tryz.ntmps79
      go_wp2_with (first | (go_at_call 92; refine HC.out.mono ?_; rintro e w2 ⟨rfl, hx2⟩) | fail)
      go_ret
      exact ⟨hx2, .inr ⟨by rw [HM.out]; decide, .inl ⟨by first | rfl | trivial, rfl⟩⟩⟩
    | false =>
      go_enter Tryz.func79, Tryz.ntmps79
      go_wp2_with (first | (go_at_call 92; refine HC.out.mono ?_; rintro e w2 ⟨rfl, hx2⟩) | fail)
      go_ret
      exact ⟨hx2, .inr ⟨by rw [HM.out]; decide, .inr ⟨by first | rfl | trivial, rfl⟩⟩⟩
  by_cases h19 : m = 19
  · as_aux_lemma =>
    clear h12
    have hm : m = 19 := h19
    have ht : textB m l = l.all plainB := by subst hm; rfl
    have hH := allPlain_any h hn
    unfold Tx8R
    rw [ht]
    have HM := Kp.mk hm
    have e12 : (ub m == 12) = false := beq_eq_false_iff_ne.2 (fun h => by rw [hm] at h; revert h; decide)
    have e19 : (ub m == 19) = true := by rw [hm]; rfl
    clear hm ht h19 h hT
    generalize l.all plainB = R at *
    have HC := Kp.mk hH
    clear hH
    generalize ub m = z at *
    cases R with
    | true =>
      go_enter Tryz.func79, Tryz.ntmps79
      go_wp2_with (first | (go_at_call 93; refine HC.out.mono ?_; rintro e w2 ⟨rfl, hx2⟩) | fail)
      go_ret
      exact ⟨hx2, .inr ⟨by rw [HM.out]; decide, .inl ⟨by first | rfl | trivial, rfl⟩⟩⟩
    | false =>
      go_enter Tryz.func79, Tryz.ntmps79
      go_wp2_with (first | (go_at_call 93; refine HC.out.mono ?_; rintro e w2 ⟨rfl, hx2⟩) | fail)
      go_ret
      exact ⟨hx2, .inr ⟨by rw [HM.out]; decide, .inr ⟨by first | rfl | trivial, rfl⟩⟩⟩
  by_cases h22 : m = 22
  · as_aux_lemma =>
    clear h12 h19
    have hm : m = 22 := h22
    have ht : textB m l = l.all asciiB := by subst hm; rfl
    have hH := allAscii_any h hn
    unfold Tx8R
    rw [ht]
    have HM := Kp.mk hm
    have e12 : (ub m == 12) = false := beq_eq_false_iff_ne.2 (fun h => by rw [hm] at h; revert h; decide)
    have e19 : (ub m == 19) = false := beq_eq_false_iff_ne.2 (fun h => by rw [hm] at h; revert h; decide)
    have e22 : (ub m == 22) = true := by rw [hm]; rfl
    clear hm ht h22 h hT
    generalize l.all asciiB = R at *
    have HC := Kp.mk hH
    clear hH
    generalize ub m = z at *
    cases R with
    | true =>
      go_enter Tryz.func79, Tryz.ntmps79
      go_wp2_with (first | (go_at_call 93; refine HC.out.mono ?_; rintro e w2 ⟨rfl, hx2⟩) | fail)
      go_ret
      exact ⟨hx2, .inr ⟨by rw [HM.out]; decide, .inl ⟨by first | rfl | trivial, rfl⟩⟩⟩
    | false =>
      go_enter Tryz.func79, Tryz.ntmps79
      go_wp2_with (first | (go_at_call 93; refine HC.out.mono ?_; rintro e w2 ⟨rfl, hx2⟩) | fail)
      go_ret
      exact ⟨hx2, .inr ⟨by rw [HM.out]; decide, .inr ⟨by first | rfl | trivial, rfl⟩⟩⟩
  have hno : ¬ (m = 12 ∨ m = 19 ∨ m = 22) := by
    rintro (h | h | h)
    · exact h12 h
    · exact h19 h
    · exact h22 h
  have e : ∀ k : BitVec 8, m ≠ k → (ub m == ub k) = false := fun k hk => beq_eq_false_iff_ne.2 (fun h => hk (by
    apply BitVec.eq_of_toNat_eq
    unfold ub at h
    omega))
  have e12 : (ub m == 12) = false := e 12 h12
  have e19 : (ub m == 19) = false := e 19 h19
  have e22 : (ub m == 22) = false := e 22 h22
  have HN := Kp.mk hno
  unfold Tx8R
  clear e h12 h19 h22 h hT hno
  generalize textB m l = R at *
  have HN2 := Kp.mk HN
  clear HN
  generalize hz : ub m = z at *
  clear hz
  go_enter Tryz.func79, Tryz.ntmps79
  go_wp2_with fail
  go_ret
  exact ⟨Ext.refl _, .inl ⟨HN2.out.out, rfl⟩⟩
end Go.Proofs.YthookcnkmlmgcaaGreatDoor
