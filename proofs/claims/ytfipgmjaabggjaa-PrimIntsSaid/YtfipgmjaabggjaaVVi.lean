/-
  PrimInts.
-/
import Derived.Test.YtfipgmjaabggjaaVVh
namespace Go.Proofs.Ytfipgmjaabggjaa
open Go Go.RowKit
set_option maxRecDepth 4000

set_option maxHeartbeats 4000000 in
theorem PrimInts_any (n : Int) (hn : -9223372036854775808 ≤ n ∧ n ≤ 9223372036854775807) {b : List (BitVec 8)} {A : Option Addr} {m c : Nat} {w : World} (hb : Bs w A m c b) :
    Calls Try.prog 3 #[.int .i64 n, .slice A m c] w fun e w' => e = .returned (.bool true) ∧ Below w.heap.size w w' := by
  have ee := code_eq 2 2
  have ef := code_eq 4 4
  have hl := hb.len
  have HB := Kp.mk hb
  have HN := Kp.mk hn
  have HL := Kp.mk hl
  clear hb hn hl
  go_enter Try.func3, Try.ntmps3
  go_wp2_with fail
  refine (up8 _).mono ?_
  rintro e w1 ⟨rfl, x1⟩
  obtain ⟨k, l, hl, hk1, hk8, hb1, hv1, hC⟩ := Int_any n w1 HN.out.1 (by have := HN.out.2; omega)
  have X1 := Kp.mk x1
  have HV := Kp.mk hv1
  have HT := Kp.mk hb1
  clear x1 hl hv1 hb1
  go_wp2_with fail
  refine hC.mono ?_
  rintro e w2 ⟨A2, c2, rfl, hs2, ho2, x2⟩
  have X2 := Kp.mk (X1.out.trans x2)
  have HS := Kp.mk hs2
  clear hC ho2 x2 hs2
  go_wp2_with fail
  refine (refNumber_any HS.out).mono ?_
  rintro e w3 ⟨rfl, x3⟩
  rw [HT.out]
  have X3 := Kp.mk (X2.out.trans x3)
  have HS' := Kp.mk (HS.out.ext x3)
  have d8 : decide ((8 : Int) < (k : Int)) = false := decide_eq_false (by omega)
  clear x3
  go_wp2_with fail
  refine (refValue_any HS'.out hk1 hk8).mono ?_
  rintro e w4 ⟨rfl, x4⟩
  rw [HV.out]
  have X4 := Kp.mk (X3.out.trans x4)
  clear x4
  by_cases hT : tcB b = true
  · by_cases h8 : 8 < m
    · go_wp2_with fail
      refine (ReadInt_any (HB.out.ext X4.out) 0 (err 4) (.inr (.inl ⟨hT, h8, rfl, rfl⟩))).mono ?_
      rintro e w5 ⟨rfl, x5⟩
      have X5 := Kp.mk (X4.out.trans x5)
      clear x5
      go_wp2_with fail
      refine (refNumber_any (HB.out.ext X5.out)).mono ?_
      rintro e w6 ⟨rfl, x6⟩
      rw [hT]
      have X6 := Kp.mk (X5.out.trans x6)
      have d9 : decide ((8 : Int) < (m : Int)) = true := decide_eq_true (by omega)
      clear x6 hT h8
      go_wp2_with fail
      go_ret
      exact ⟨rfl, X6.out.b⟩
    · go_wp2_with fail
      refine (ReadInt_any (HB.out.ext X4.out) (tcV b) .nilIface (.inr (.inr ⟨hT, by omega, rfl, rfl⟩))).mono ?_
      rintro e w5 ⟨rfl, x5⟩
      have X5 := Kp.mk (X4.out.trans x5)
      clear x5
      go_wp2_with fail
      refine (refNumber_any (HB.out.ext X5.out)).mono ?_
      rintro e w6 ⟨rfl, x6⟩
      rw [hT]
      have X6 := Kp.mk (X5.out.trans x6)
      have d9 : decide ((8 : Int) < (m : Int)) = false := decide_eq_false (by omega)
      have hm : 0 < m := by
        rcases Nat.eq_zero_or_pos m with h0 | h0
        · rw [List.eq_nil_of_length_eq_zero (HL.out.trans h0)] at hT
          exact absurd hT (by decide)
        · exact h0
      have HM := Kp.mk hm
      have H8 := Kp.mk h8
      clear x6 hT h8 hm
      go_wp2_with fail
      refine (refValue_any (HB.out.ext X6.out) HM.out (by have := H8.out; omega)).mono ?_
      rintro e w7 ⟨rfl, x7⟩
      have X7 := Kp.mk (X6.out.trans x7)
      clear x7
      go_wp2_with fail
      go_ret
      exact ⟨by simp, X7.out.b⟩
  · have hT' : tcB b = false := by cases h : tcB b <;> simp_all
    go_wp2_with fail
    refine (ReadInt_any (HB.out.ext X4.out) 0 (err 2) (.inl ⟨hT', rfl, rfl⟩)).mono ?_
    rintro e w5 ⟨rfl, x5⟩
    have X5 := Kp.mk (X4.out.trans x5)
    clear x5
    go_wp2_with fail
    refine (refNumber_any (HB.out.ext X5.out)).mono ?_
    rintro e w6 ⟨rfl, x6⟩
    rw [hT']
    have X6 := Kp.mk (X5.out.trans x6)
    clear x6 hT hT'
    go_wp2_with fail
    go_ret
    exact ⟨rfl, X6.out.b⟩
end Go.Proofs.Ytfipgmjaabggjaa
