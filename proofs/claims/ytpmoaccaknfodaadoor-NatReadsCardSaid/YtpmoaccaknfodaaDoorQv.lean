/-
  The walk of the law NatReads.
-/
import Derived.Test.YtpmoaccaknfodaaDoorQu
import Derived.Test.YtpmoaccaknfodaaDoorQt
namespace Go.Proofs.YtpmoaccaknfodaaDoor
open Go Go.RowKit

theorem pow_room {x n k : Nat} (h : x < 256 ^ n) (hk : n ≤ 4 * k) : x < BB ^ k := by
  have e : BB ^ k = 256 ^ (4 * k) := (Nat.pow_mul 256 4 k).symm
  rw [e]
  exact Nat.lt_of_lt_of_le h (Nat.pow_le_pow_right (by decide) hk)
set_option maxHeartbeats 4000000 in
set_option maxRecDepth 100000 in
theorem NatReads_any {l : List (BitVec 8)} {A : Option Addr} {n c : Nat} {w : World} (h : Sl w A n c l) :
    Calls Tryd.prog 3 #[.slice A n c] w fun e w' => e = .returned (.bool true) ∧ Below w.heap.size w w' := by
  have HU := Kp.mk (up_any w)
  have HR := Kp.mk (Rd.of_sl h)
  have HD := Kp.mk (Dg.of_bytes l)
  clear h
  generalize l.map BitVec.toNat = L at *
  by_cases hn : n ≤ 400
  · have bn : decide ((400 : Int) < (n : Int)) = false := decide_eq_false (by omega)
    have hb := vl_lt (B := 256) (by decide) HD.out.rev
    rw [List.length_reverse, HR.out.len] at hb
    obtain ⟨v, hv⟩ : ∃ v, vl 256 L.reverse = v := ⟨_, rfl⟩
    have hvb : v < BB ^ 100 := by
      rw [← hv]
      exact pow_room hb (by omega)
    have HVB := Kp.mk hvb
    have HV := Kp.mk hv
    clear hb hv hvb
    by_cases hs : v < 256 ^ 256
    · have HS := Kp.mk hs
      have bs : decide ((256 : Int) < (sz (dgs 65536 v) : Int)) = false := decide_eq_false (by have := (sz_iff v).2 hs; omega)
      clear hs
      go_enter Tryd.func3, Tryd.ntmps3
      go_wp2_with fail
      refine HU.out.mono ?_
      rintro e w1 ⟨rfl, x1⟩
      go_wp2_with fail
      refine (Read_any (HR.out.ext x1) HD.out (by omega)).mono ?_
      rw [ReadR_eq, HV.out]
      rintro e w2 (⟨hx, -⟩ | ⟨-, A2, n2, c2, rfl, o2, x2⟩)
      · exact absurd HS.out (Nat.not_lt_of_le hx)
      have R2 := Kp.mk o2.rd
      clear o2
      go_wp2_with fail
      have CB := Bytes_any (HR.out.ext (x1.trans x2)) HD.out (by omega)
      rw [HV.out] at CB
      refine CB.mono ?_
      clear CB
      rintro e w3 ⟨A3, n3, c3, rfl, r3, _, x3⟩
      have I3 := Kp.mk (Ni.of r3 HVB.out (by decide))
      clear r3
      go_wp2_with fail
      refine (Size_any I3.out.r (by have := I3.out.n; omega)).mono ?_
      rintro e w4 ⟨rfl, rfl⟩
      generalize sz (dgs 65536 v) = S at *
      go_wp2_with fail
      refine (SameV (R2.out.ext (by (repeat (first | assumption | exact Ext.refl _ | apply Ext.drew | apply Ext.drewN | apply Ext.alloc | refine Ext.trans ?_ (by assumption))); first | done | fail)) I3.out).mono ?_
      rintro e w5 ⟨rfl, x5⟩
      have HX := Kp.mk (x1.trans (x2.trans (x3.trans x5)))
      clear x1 x2 x3 x5
      go_wp2_with fail
      go_ret
      exact ⟨rfl, HX.out.b⟩
    · have HS := Kp.mk (Nat.le_of_not_lt hs)
      have ee := code_eq 4 4
      have bs : decide ((256 : Int) < (sz (dgs 65536 v) : Int)) = true := decide_eq_true (by
        rcases Nat.lt_or_ge 256 (sz (dgs 65536 v)) with h1 | h1
        · omega
        · exact absurd ((sz_iff v).1 h1) hs)
      clear hs
      go_enter Tryd.func3, Tryd.ntmps3
      go_wp2_with fail
      refine HU.out.mono ?_
      rintro e w1 ⟨rfl, x1⟩
      go_wp2_with fail
      refine (Read_any (HR.out.ext x1) HD.out (by omega)).mono ?_
      rw [ReadR_eq, HV.out]
      rintro e w2 (⟨-, rfl, x2⟩ | ⟨hx, -⟩)
      rotate_left
      · exact absurd hx (Nat.not_lt_of_le HS.out)
      go_wp2_with fail
      have CB := Bytes_any (HR.out.ext (x1.trans x2)) HD.out (by omega)
      rw [HV.out] at CB
      refine CB.mono ?_
      clear CB
      rintro e w3 ⟨A3, n3, c3, rfl, r3, _, x3⟩
      have I3 := Kp.mk (Ni.of r3 HVB.out (by decide))
      clear r3
      go_wp2_with fail
      refine (Size_any I3.out.r (by have := I3.out.n; omega)).mono ?_
      rintro e w4 ⟨rfl, rfl⟩
      generalize sz (dgs 65536 v) = S at *
      have HX := Kp.mk (x1.trans (x2.trans x3))
      clear x1 x2 x3
      go_wp2_with fail
      go_ret
      exact ⟨rfl, HX.out.b⟩
  · have bn : decide ((400 : Int) < (n : Int)) = true := decide_eq_true (by omega)
    clear HR HD
    go_enter Tryd.func3, Tryd.ntmps3
    go_wp2_with fail
    refine HU.out.mono ?_
    rintro e w1 ⟨rfl, x1⟩
    go_wp2_with fail
    go_ret
    exact ⟨rfl, x1.b⟩
end Go.Proofs.YtpmoaccaknfodaaDoor
