/-
  prim: pair, yearOf; a moment parsed.
-/
import Derived.Test.YtfipgmjaabggjaaDoorM21
import Derived.Test.YtfipgmjaabggjaaDoorM17
namespace Go.Proofs.YtfipgmjaabggjaaDoor
open Go Go.RowKit
set_option maxRecDepth 4000

/-- what two bytes tell, digits or not -/
def pr8 (x y : BitVec 8) : Nat := 10 * (x - 48).toNat + (y - 48).toNat
theorem sub48 (x : BitVec 8) : IntKind.u8.wrap (ub x - 48) = ub (x - 48) := by
  revert x
  refine all8 ?_
  decide +kernel
theorem pr8_d2 (n : Nat) (h : n < 100) : pr8 (gb (d2 n) 0) (gb (d2 n) 1) = n := by
  have e0 : gb (d2 n) 0 = BitVec.ofNat 8 (48 + n / 10 % 10) := rfl
  have e1 : gb (d2 n) 1 = BitVec.ofNat 8 (48 + n % 10) := rfl
  rw [e0, e1]
  unfold pr8
  rw [BitVec.toNat_sub, BitVec.toNat_sub, BitVec.toNat_ofNat, BitVec.toNat_ofNat]
  have : (48 : BitVec 8).toNat = 48 := rfl
  rw [this]
  omega
theorem pr8_hi (x y : BitVec 8) : pr8 x y ≤ 2805 := by
  unfold pr8
  have := (x - 48).isLt
  have := (y - 48).isLt
  omega
/-- the moment that a body tells, of which the first k digits are the year y's -/
def uT (y : Nat) (r : List (BitVec 8)) : Tmt := ⟨y, pr8 (gb r 0) (gb r 1), pr8 (gb r 2) (gb r 3), pr8 (gb r 4) (gb r 5), pr8 (gb r 6) (gb r 7), pr8 (gb r 8) (gb r 9)⟩
def yA (b : List (BitVec 8)) : Nat := if 1900 + pr8 (gb b 0) (gb b 1) < 1950 then 1900 + pr8 (gb b 0) (gb b 1) + 100 else 1900 + pr8 (gb b 0) (gb b 1)
def yB (b : List (BitVec 8)) : Nat := 100 * pr8 (gb b 0) (gb b 1) + pr8 (gb b 2) (gb b 3)
theorem uT_R (t : Tmt) (ht : MayT t) (y : Nat) : uT y (tmR t) = ⟨y, t.mo, t.d, t.h, t.mi, t.s⟩ := by
  have a1 := ht.m2
  have a2 := ht.d2
  have a3 := dim_hi t.y t.mo
  have a4 := ht.h2
  have a5 := ht.i2
  have a6 := ht.s2
  have g0 : gb (tmR t) 0 = gb (d2 t.mo) 0 := rfl
  have g1 : gb (tmR t) 1 = gb (d2 t.mo) 1 := rfl
  have g2 : gb (tmR t) 2 = gb (d2 t.d) 0 := rfl
  have g3 : gb (tmR t) 3 = gb (d2 t.d) 1 := rfl
  have g4 : gb (tmR t) 4 = gb (d2 t.h) 0 := rfl
  have g5 : gb (tmR t) 5 = gb (d2 t.h) 1 := rfl
  have g6 : gb (tmR t) 6 = gb (d2 t.mi) 0 := rfl
  have g7 : gb (tmR t) 7 = gb (d2 t.mi) 1 := rfl
  have g8 : gb (tmR t) 8 = gb (d2 t.s) 0 := rfl
  have g9 : gb (tmR t) 9 = gb (d2 t.s) 1 := rfl
  unfold uT
  rw [g0, g1, g2, g3, g4, g5, g6, g7, g8, g9, pr8_d2 _ (by omega), pr8_d2 _ (by omega), pr8_d2 _ (by omega), pr8_d2 _ (by omega), pr8_d2 _ (by omega)]
/-- what was written is parsed as it was -/
theorem uT_A {t : Tmt} (ht : MayT t) (hm : tmM t = 23) : uT (yA (tmB t)) ((tmB t).drop 2) = t ∧ (tmB t).length = 13 := by
  have hy : 1950 ≤ t.y ∧ t.y ≤ 2049 := by
    unfold tmM at hm
    by_cases k : 1950 ≤ t.y ∧ t.y ≤ 2049
    · exact k
    · rw [if_neg k] at hm; exact absurd hm (by decide)
  have e : tmB t = d2 (t.y % 100) ++ tmR t := by unfold tmB; rw [if_pos hy]
  have g0 : gb (tmB t) 0 = gb (d2 (t.y % 100)) 0 := by rw [e]; rfl
  have g1 : gb (tmB t) 1 = gb (d2 (t.y % 100)) 1 := by rw [e]; rfl
  have hd : (tmB t).drop 2 = tmR t := by rw [e]; rfl
  have ha : yA (tmB t) = t.y := by
    unfold yA
    rw [g0, g1, pr8_d2 _ (Nat.mod_lt _ (by decide))]
    split <;> omega
  rw [hd, ha, uT_R t ht]
  exact ⟨rfl, by rw [e]; rfl⟩
theorem uT_B {t : Tmt} (ht : MayT t) (hm : tmM t = 24) : uT (yB (tmB t)) ((tmB t).drop 4) = t ∧ (tmB t).length = 15 := by
  have hy : ¬ (1950 ≤ t.y ∧ t.y ≤ 2049) := by
    intro k
    unfold tmM at hm
    rw [if_pos k] at hm; exact absurd hm (by decide)
  have e : tmB t = d2 (t.y / 100) ++ (d2 (t.y % 100) ++ tmR t) := by unfold tmB; rw [if_neg hy]
  have g0 : gb (tmB t) 0 = gb (d2 (t.y / 100)) 0 := by rw [e]; rfl
  have g1 : gb (tmB t) 1 = gb (d2 (t.y / 100)) 1 := by rw [e]; rfl
  have g2 : gb (tmB t) 2 = gb (d2 (t.y % 100)) 0 := by rw [e]; rfl
  have g3 : gb (tmB t) 3 = gb (d2 (t.y % 100)) 1 := by rw [e]; rfl
  have hd : (tmB t).drop 4 = tmR t := by rw [e]; rfl
  have hy2 := ht.y2
  have ha : yB (tmB t) = t.y := by
    unfold yB
    rw [g0, g1, g2, g3, pr8_d2 _ (by omega), pr8_d2 _ (Nat.mod_lt _ (by decide))]
    omega
  rw [hd, ha, uT_R t ht]
  exact ⟨rfl, by rw [e]; rfl⟩
theorem tmM_two (t : Tmt) : tmM t = 23 ∨ tmM t = 24 := by unfold tmM; split <;> simp
set_option maxHeartbeats 2000000 in
theorem pair_any {b : List (BitVec 8)} {A : Option Addr} {n c : Nat} {w : World} (h : Bs w A n c b) (h2 : 2 ≤ n) : Calls Tryd.prog 54 #[.slice A n c] w fun e w' => e = .returned (.int .i64 (pr8 (gb b 0) (gb b 1) : Int)) ∧ ∃ q, w' = w.drewN q := by
  obtain ⟨g, o, rfl, hc⟩ := h.s.2.2.2 (by omega)
  have c0 := hc 0 (by omega)
  have c1 := hc 1 (by omega)
  rw [Nat.add_zero] at c0
  have d0 : (0 : Int) < (n : Int) := by omega
  have d1 : (1 : Int) < (n : Int) := by omega
  have d2 : 0 < n := by omega
  have d3 : 1 < n := by omega
  have hp : ub (gb b 0 - 48) * 10 + ub (gb b 1 - 48) = (pr8 (gb b 0) (gb b 1) : Int) := by unfold pr8 ub; omega
  have s0 := sub48 (gb b 0)
  have s1 := sub48 (gb b 1)
  have hx := (gb b 0 - 48).isLt
  have hy := (gb b 1 - 48).isLt
  generalize gb b 0 = x at *
  generalize gb b 1 = y at *
  generalize x - 48 = x' at *
  generalize y - 48 = y' at *
  have w0 : IntKind.i64.wrap (ub x') = ub x' := by unfold ub; rw [IntKind.wrap_i64]; omega
  have w1 : IntKind.i64.wrap (ub y') = ub y' := by unfold ub; rw [IntKind.wrap_i64]; omega
  have w2 : IntKind.i64.wrap (10 * ub x') = 10 * ub x' := by unfold ub; rw [IntKind.wrap_i64]; omega
  have w3 : IntKind.i64.wrap (10 * ub x' + ub y') = (pr8 x y : Int) := by rw [← hp, IntKind.wrap_i64]; unfold ub; omega
  generalize pr8 x y = p at *
  clear hc h hp hx hy
  go_enter Tryd.func54, Tryd.ntmps54
  go_wp2_with fail
  go_quiet (fail)
  go_wp2_with fail
  go_ret
  exact ⟨rfl, nq, rfl⟩
end Go.Proofs.YtfipgmjaabggjaaDoor
