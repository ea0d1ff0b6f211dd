/-
  The walk of the law PrimTexts.
-/
import Derived.Test.YtfipgmjaabggjaaDoorVZf
import Derived.Test.YtfipgmjaabggjaaDoorVVg
namespace Go.Proofs.YtfipgmjaabggjaaDoor
open Go Go.RowKit
set_option maxRecDepth 4000

set_option maxHeartbeats 8000000 in
theorem PrimTexts_any (m : BitVec 8) {l : List (BitVec 8)} {A : Option Addr} {n c : Nat} {w : World} (h : Bs w A n c l) (hT : Tabs8 w) :
    Calls Tryd.prog 4 #[.int .u8 (ub m), .slice A n c] w fun e w' => e = .returned (.bool true) ∧ Below w.heap.size w w' := by
  have e11 := code_eq 1 1
  have e22 := code_eq 2 2
  have HB := Kp.mk h
  have HT := Kp.mk hT
  clear h hT
  by_cases h2 : 2000 < n
  · as_aux_lemma =>
    have b1 : decide ((2000 : Int) < (n : Int)) = true := decide_eq_true (by omega)
    generalize ub m = z at *
    clear h2
    go_enter Tryd.func4, Tryd.ntmps4
    go_wp2_with fail
    refine (up8 _).mono ?_
    rintro e w1 ⟨rfl, x1⟩
    have X1 := Kp.mk x1
    clear x1
    go_wp2_with fail
    go_ret
    exact ⟨rfl, X1.out.b⟩
  have b1 : decide ((2000 : Int) < (n : Int)) = false := decide_eq_false (by omega)
  have hn : n ≤ 1000000 := by omega
  clear h2
  have HX := fun (W : World) (hx : Ext w W) => Text_any m (HB.out.ext hx) hn (tabs_ext HT.out hx)
  have HY := fun (W : World) (hm : m = 12 ∨ m = 19 ∨ m = 22) (hx : Ext w W) => refText_any m hm (HB.out.ext hx) hn
  have KX := Kp.mk HX
  have KY := Kp.mk HY
  clear HX HY HB HT
  by_cases hm : m = 12 ∨ m = 19 ∨ m = 22
  · have HM := Kp.mk hm
    have hz : (ub m = 12) ∨ (ub m = 19) ∨ (ub m = 22) := by
      rcases hm with rfl | rfl | rfl
      · exact .inl rfl
      · exact .inr (.inl rfl)
      · exact .inr (.inr rfl)
    have KY2 := Kp.mk (fun W hx => KY.out W HM.out hx)
    clear hm KY
    unfold Tx8R at KX
    generalize textB m l = R at *
    generalize ub m = z at *
    have key : (((z == 12) = true ∧ (z != 12) = false) ∨ ((z == 12) = false ∧ (z != 12) = true ∧ (z == 19) = true ∧ (z != 19) = false) ∨ ((z == 12) = false ∧ (z != 12) = true ∧ (z == 19) = false ∧ (z != 19) = true ∧ (z == 22) = true ∧ (z != 22) = false)) := by
      rcases hz with rfl | rfl | rfl <;> decide
    clear hz
    rcases key with ⟨k1, m1⟩ | ⟨k1, m1, k2, m2⟩ | ⟨k1, m1, k2, m2, k3, m3⟩
    · as_aux_lemma =>
      go_enter Tryd.func4, Tryd.ntmps4
      go_wp2_with fail
      refine (up8 _).mono ?_
      rintro e w1 ⟨rfl, x1⟩
      have X1 := Kp.mk x1
      clear x1
      go_wp2_with fail
      refine (KX.out _ X1.out).mono ?_
      rintro e w2 ⟨x2, ⟨hno, _⟩ | ⟨_, ⟨rfl, rfl⟩ | ⟨rfl, rfl⟩⟩⟩
      · exact absurd HM.out hno
      · have X2 := Kp.mk (X1.out.trans x2)
        clear x2
        go_wp2_with fail
        refine (KY2.out _ X2.out).mono ?_
        rintro e w3 ⟨rfl, x3⟩
        have X3 := Kp.mk (X2.out.trans x3)
        clear x3
        go_wp2_with fail
        go_ret
        exact ⟨rfl, X3.out.b⟩
      · have X2 := Kp.mk (X1.out.trans x2)
        clear x2
        go_wp2_with fail
        refine (KY2.out _ X2.out).mono ?_
        rintro e w3 ⟨rfl, x3⟩
        have X3 := Kp.mk (X2.out.trans x3)
        clear x3
        go_wp2_with fail
        go_ret
        exact ⟨rfl, X3.out.b⟩
    · as_aux_lemma =>
      go_enter Tryd.func4, Tryd.ntmps4
      go_wp2_with fail
      refine (up8 _).mono ?_
      rintro e w1 ⟨rfl, x1⟩
      have X1 := Kp.mk x1
      clear x1
      go_wp2_with fail
      refine (KX.out _ X1.out).mono ?_
      rintro e w2 ⟨x2, ⟨hno, _⟩ | ⟨_, ⟨rfl, rfl⟩ | ⟨rfl, rfl⟩⟩⟩
      · exact absurd HM.out hno
      · have X2 := Kp.mk (X1.out.trans x2)
        clear x2
        go_wp2_with fail
        refine (KY2.out _ X2.out).mono ?_
        rintro e w3 ⟨rfl, x3⟩
        have X3 := Kp.mk (X2.out.trans x3)
        clear x3
        go_wp2_with fail
        go_ret
        exact ⟨rfl, X3.out.b⟩
      · have X2 := Kp.mk (X1.out.trans x2)
        clear x2
        go_wp2_with fail
        refine (KY2.out _ X2.out).mono ?_
        rintro e w3 ⟨rfl, x3⟩
        have X3 := Kp.mk (X2.out.trans x3)
        clear x3
        go_wp2_with fail
        go_ret
        exact ⟨rfl, X3.out.b⟩
    · as_aux_lemma =>
      go_enter Tryd.func4, Tryd.ntmps4
      go_wp2_with fail
      refine (up8 _).mono ?_
      rintro e w1 ⟨rfl, x1⟩
      have X1 := Kp.mk x1
      clear x1
      go_wp2_with fail
      refine (KX.out _ X1.out).mono ?_
      rintro e w2 ⟨x2, ⟨hno, _⟩ | ⟨_, ⟨rfl, rfl⟩ | ⟨rfl, rfl⟩⟩⟩
      · exact absurd HM.out hno
      · have X2 := Kp.mk (X1.out.trans x2)
        clear x2
        go_wp2_with fail
        refine (KY2.out _ X2.out).mono ?_
        rintro e w3 ⟨rfl, x3⟩
        have X3 := Kp.mk (X2.out.trans x3)
        clear x3
        go_wp2_with fail
        go_ret
        exact ⟨rfl, X3.out.b⟩
      · have X2 := Kp.mk (X1.out.trans x2)
        clear x2
        go_wp2_with fail
        refine (KY2.out _ X2.out).mono ?_
        rintro e w3 ⟨rfl, x3⟩
        have X3 := Kp.mk (X2.out.trans x3)
        clear x3
        go_wp2_with fail
        go_ret
        exact ⟨rfl, X3.out.b⟩
  · have HM := Kp.mk hm
    have e : ∀ k : BitVec 8, m ≠ k → (ub m == ub k) = false := fun k hk => beq_eq_false_iff_ne.2 (fun h => hk (by
      apply BitVec.eq_of_toNat_eq
      unfold ub at h
      omega))
    have k1 : (ub m == 12) = false := e 12 (fun h => hm (.inl h))
    have k2 : (ub m == 19) = false := e 19 (fun h => hm (.inr (.inl h)))
    have k3 : (ub m == 22) = false := e 22 (fun h => hm (.inr (.inr h)))
    have m1 : (ub m != 12) = true := by rw [bne, k1]; rfl
    have m2 : (ub m != 19) = true := by rw [bne, k2]; rfl
    have m3 : (ub m != 22) = true := by rw [bne, k3]; rfl
    clear e hm KY
    unfold Tx8R at KX
    generalize ub m = z at *
    go_enter Tryd.func4, Tryd.ntmps4
    go_wp2_with fail
    refine (up8 _).mono ?_
    rintro e w1 ⟨rfl, x1⟩
    have X1 := Kp.mk x1
    clear x1
    go_wp2_with fail
    refine (KX.out _ X1.out).mono ?_
    rintro e w2 ⟨x2, ⟨_, rfl⟩ | ⟨hm, _⟩⟩
    · have X2 := Kp.mk (X1.out.trans x2)
      clear x2
      go_wp2_with fail
      go_ret
      exact ⟨rfl, X2.out.b⟩
    · exact absurd hm HM.out
end Go.Proofs.YtfipgmjaabggjaaDoor
