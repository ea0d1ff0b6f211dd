/-
  The walk of the law TlvBack.
-/
import Derived.Test.YtadndhenfoppiaaVJb
namespace Go.Proofs.Ytadndhenfoppiaa
open Go Go.RowKit
set_option maxRecDepth 4000

set_option maxHeartbeats 8000000 in
theorem TlvBack_any {w : World} {A : Option Addr} {n c : Nat} {l : List (BitVec 8)} (hb : Bs w A n c l) : Calls Try.prog 7 #[.slice A n c] w fun e w' => e = .returned (.bool true) ∧ Below w.heap.size w w' := by
  have HU := Kp.mk (fun u => up7_any u)
  have hl := hb.len
  by_cases hn : 2000 < n
  · have b1 : (2000 : Int) < (n : Int) := by omega
    clear hb hl hn
    go_enter Try.func7, Try.ntmps7
    go_wp2_with fail
    refine (HU.out _).mono ?_
    rintro e w1 ⟨rfl, x1⟩
    go_wp2_with fail
    go_ret
    exact ⟨rfl, x1.b⟩
  · have b1 : decide ((2000 : Int) < (n : Int)) = false := decide_eq_false (by omega)
    have b1' : decide (2000 < n) = false := decide_eq_false (by omega)
    have HL := Kp.mk hl
    have HN : Kp (n ≤ 2000) := ⟨by omega⟩
    have HB := Kp.mk hb
    clear hb hl hn
    go_enter Try.func7, Try.ntmps7
    go_wp2_with fail
    refine (HU.out _).mono ?_
    rintro e w1 ⟨rfl, x1⟩
    have X1 := Kp.mk x1
    clear x1
    go_wp2_with fail
    refine (NewReader_any (HB.out.ext X1.out) (Nat.le_trans HN.out (by decide))).mono ?_
    rintro e w2 ⟨q, rfl, ⟨H, hr, hH⟩, x2⟩
    have HR := Kp.mk hr
    have HH := Kp.mk hH
    have X2 := Kp.mk x2
    clear hr hH x2
    go_wp2_with fail
    refine (NewWriter_any w2).mono ?_
    rintro e w3 ⟨rfl, ⟨G, hw, hG⟩, x3⟩
    have E3 := Kp.mk (X1.out.trans (X2.out.trans x3))
    have P3 : Kp (Pr2 w1.heap.size w3 w2.heap.size q (.ok [] []) l []) := ⟨⟨G, H, hw, HR.out.ext x3, Ap.of_lo hG HR.out.hi, hG.mono X2.out.size, HH.out, Nat.le_trans X2.out.size x3.size⟩⟩
    clear hw hG x3
    have C := again_any w1.heap.size w2.heap.size q 1200 (Nat.le_refl _) w3 [] l [] [] P3.out ⟨rfl, by show 0 + l.length ≤ _; have := HL.out; have := HN.out; omega, ⟨by decide, fun _ h => by cases h⟩⟩
    rw [show ((1200 : Nat) : Int) = 1200 from rfl] at C
    have CC := Kp.mk C
    clear C
    go_wp2_with fail
    refine CC.out.mono ?_
    rintro e w4 ⟨bo, rfl, y4, k4, _⟩
    have E4 := Kp.mk (y4 w E3.out X1.out.size)
    cases bo with
    | false =>
      clear y4 k4
      go_wp2_with fail
      go_ret
      exact ⟨rfl, E4.out.b⟩
    | true =>
      have P4 := Kp.mk (k4 rfl)
      clear y4 k4
      go_wp2_with fail
      refine (P4.out.bytes ⟨by decide, fun _ h => by cases h⟩ (by show (flatT ([] ++ l) []).length ≤ _; show l.length ≤ _; have := HL.out; have := HN.out; omega)).mono ?_
      rintro e w5 ⟨A5, n5, c5, rfl, ho5, x5⟩
      rw [show doneL (.ok ([] ++ l) []) = l from rfl] at ho5
      rw [show errV (doneC (.ok ([] ++ l) [])) = .nilIface from rfl]
      have E5 := E4.out.trans x5
      have P5 := Kp.mk (P4.out.ext x5)
      have S5 := fun (w' : World) (hx : Ext w5 w') => ho5.bs.str hx
      have S0 := fun (w' : World) (hx : Ext w5 w') => HB.out.str (E5.trans hx)
      clear ho5 x5
      go_wp2_with fail
      obtain ⟨H5, r5, _, _⟩ := P5.out.rd
      refine (End_any r5).mono ?_
      rintro e w6 ⟨rfl, rfl⟩
      rw [show errW (endC [] []) = .nilIface from rfl]
      go_wp2_with fail
      go_ret
      exact ⟨rfl, E5.b⟩
end Go.Proofs.Ytadndhenfoppiaa
