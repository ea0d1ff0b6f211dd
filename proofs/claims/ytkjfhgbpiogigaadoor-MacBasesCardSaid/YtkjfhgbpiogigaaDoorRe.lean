/-
  The walk of the reference's cube.
-/
import Derived.Test.YtkjfhgbpiogigaaDoorRd
namespace Go.Proofs.YtkjfhgbpiogigaaDoor
open Go Go.RowKit

theorem sizeQ5 : (Tryd.prog.info? 82).map (·.size) = some 5 := by kernel_rfl
theorem cubS_lt (x k c : Nat) : cubS x k c < c + 8589934592 := by
  unfold cubS
  have h1 : (if k < 4 then gn (sq4 x) k * (x % 4294967296) % 4294967296 else 0) < 4294967296 := by split <;> omega
  have h2 : (if 0 < k then gn (sq4 x) (k - 1) * (x / 4294967296) % 4294967296 else 0) < 4294967296 := by split <;> omega
  omega
theorem sq4_le (x k : Nat) (hx : x < 137438953472) : gn (sq4 x) k < 4294967296 := by
  obtain ⟨h0, h1, h2, h3⟩ := sq4_lt x hx
  match k with
  | 0 => exact h0
  | 1 => exact h1
  | 2 => exact h2
  | 3 => exact h3
  | _ + 4 => exact (by decide : 0 < 4294967296)
theorem cubc_lt (x k : Nat) (hx : x < 137438953472) : cubc x k < 12884901888 := by
  induction k with
  | zero => exact (by decide : 0 < 12884901888)
  | succ k ih =>
    have hs := cubS_lt x k (cubc x k)
    have la : x % 4294967296 < 4294967296 := by omega
    have lb : x / 4294967296 < 4294967296 := by omega
    have m1 := mul_hi _ _ (sq4_le x k hx) la
    have m2 := mul_hi _ _ (sq4_le x (k - 1) hx) lb
    rw [cubc]
    unfold cubC
    have h1 : (if k < 4 then gn (sq4 x) k * (x % 4294967296) / 4294967296 else 0) ≤ 4294967295 := by split <;> omega
    have h2 : (if 0 < k then gn (sq4 x) (k - 1) * (x / 4294967296) / 4294967296 else 0) ≤ 4294967295 := by split <;> omega
    omega
theorem cubv_lt (x i j : Nat) : gn (cubv x i) j < 4294967296 := by
  induction i with
  | zero =>
    match j with
    | 0 => exact (by decide : 0 < 4294967296)
    | 1 => exact (by decide : 0 < 4294967296)
    | 2 => exact (by decide : 0 < 4294967296)
    | 3 => exact (by decide : 0 < 4294967296)
    | 4 => exact (by decide : 0 < 4294967296)
    | _ + 5 => exact (by decide : 0 < 4294967296)
  | succ i ih =>
    rw [cubv]
    unfold gn at ih ⊢
    rw [List.getD_eq_getElem?_getD] at ih ⊢
    by_cases h : j = i
    · subst h
      by_cases hl : j < (cubv x j).length
      · rw [List.getElem?_set_self hl]; exact Nat.mod_lt _ (by decide)
      · rw [List.getElem?_eq_none (by rw [List.length_set]; omega)]; exact (by decide : 0 < 4294967296)
    · rw [List.getElem?_set_ne (fun e => h e.symm)]; exact ih
/-- what the loop of cube keeps -/
def KI (x : Nat) (w : World) (g k : Nat) (wr : World) : Prop :=
  Has wr g 80 (nv (sq4 x)) ∧ Has wr (g + 1) 82 (nv (cubv x k)) ∧ Below w.heap.size w wr ∧ w.heap.size ≤ g
abbrev zq5 : Array Value := #[.int .u64 0, .int .u64 0, .int .u64 0, .int .u64 0, .int .u64 0]
theorem KI.set {x : Nat} {w wr : World} {g k : Nat} (h : KI x w g k wr) : KI x w g (k + 1) (wr.setCell ⟨g + 1, k, none⟩ (.int .u64 ((cubS x k (cubc x k) % 4294967296 : Nat) : Int))) :=
  ⟨h.1.far (by simp) _, by have := h.2.1.set k (.int .u64 ((cubS x k (cubc x k) % 4294967296 : Nat) : Int)); rw [nv_set] at this; exact this, h.2.2.1.setCell (by have := h.2.2.2; simp; omega) _, h.2.2.2⟩

set_option maxHeartbeats 2000000 in
theorem cube_any (x p : Nat) (w : World) (hx : x < 137438953472) (_hp : p < 4294967296) :
    Calls Tryd.prog 58 #[.int .u64 (x : Int), .int .u64 (p : Int)] w fun e w' => e = .returned (.bool (cubeN x p)) ∧ Below w.heap.size w w' := by
  obtain ⟨q0, q1, q2, q3, hq⟩ := sq4_form x
  have HQ := Lib.hid hq
  have HX := Lib.hid hx
  obtain ⟨a, ha⟩ : ∃ a, a = x % 4294967296 := ⟨_, rfl⟩
  obtain ⟨b, hb⟩ : ∃ b, b = x / 4294967296 := ⟨_, rfl⟩
  have e1 : (x : Int) % 4294967296 = (a : Int) := by omega
  have e2 : (x : Int) / 4294967296 = (b : Int) := by omega
  have la : a < 4294967296 := by omega
  have lb : b < 32 := by omega
  have HA := Lib.hid ha
  have HB := Lib.hid hb
  clear hq ha hb
  go_enter Tryd.func58, Tryd.ntmps58
  go_wp2_with fail
  refine (product_lit x q0 q1 q2 q3 _ HX.out HQ.out).mono ?_
  rintro e w1 ⟨rfl, hb1⟩
  go_wp2
  go_loopw [9, 10] (fun c i wr => ∃ k : Nat, k ≤ 5 ∧ i = .int .i64 k ∧ c = .int .u64 ((cubc x k : Nat) : Int) ∧ KI x w w1.heap.size k wr) (fun _ i _ => 5 - (intOf i).toNat)
  case atStart =>
    refine ⟨0, by omega, rfl, rfl, ?_, Has.new _ _ _ _ (by simp), (hb1.alloc hb1.size _).alloc (Nat.le_trans hb1.size (by simp)) _, hb1.size⟩
    rw [HQ.out]
    exact (Has.new _ _ _ _ rfl).alloc _
  case round =>
    clear hb1
    obtain ⟨k, hk, rfl, rfl, hs⟩ := hrel
    by_cases hlt : k < 5
    · have hc3 := cubc_lt x k HX.out
      have hcS : cubS x k (cubc x k) = cubc x k + (if k < 4 then gn (sq4 x) k * (x % 4294967296) % 4294967296 else 0) + (if 0 < k then gn (sq4 x) (k - 1) * (x / 4294967296) % 4294967296 else 0) := rfl
      have hcC : cubc x (k + 1) = (if k < 4 then gn (sq4 x) k * (x % 4294967296) / 4294967296 else 0) + (if 0 < k then gn (sq4 x) (k - 1) * (x / 4294967296) / 4294967296 else 0) + cubS x k (cubc x k) / 4294967296 := rfl
      rw [← HA.out, ← HB.out] at hcS hcC
      have hst := hs.set
      have hcell := (hs.2.1.cell k).trans (nv_at _ k (by rw [cubv_len]; exact hlt))
      have hfree := hs.2.1.frozen k
      have g1 := sq4_le x k HX.out
      have g2 := sq4_le x (k - 1) HX.out
      have m1 := mul_in _ _ g1 la
      have m2 := mul_in _ _ g2 (show b < 4294967296 by omega)
      have k1 := mul_hi _ _ g1 la
      have k2 := mul_hi _ _ g2 (show b < 4294967296 by omega)
      by_cases h4 : k < 4
      · have l1 := (hs.1.cell k).trans (nv_at (sq4 x) k h4)
        by_cases h0 : 0 < k
        · have l2 := (hs.1.cell (k - 1)).trans (nv_at (sq4 x) (k - 1) (show k - 1 < 4 by omega))
          rw [if_pos h4, if_pos h0] at hcS hcC
          rw [hcS] at hst hcC
          have HST := Lib.hid hst
          have HC := Lib.hid hcC
          clear hst hcC hcS g1 g2
          generalize gn (sq4 x) k * a = P at *
          generalize gn (sq4 x) (k - 1) * b = R at *
          generalize cubc x k = C at *
          go_wp2
          go_roundw
          case rel =>
            refine ⟨k + 1, by omega, by go_num, congrArg (Value.int .u64) (by rw [HC.out]; omega), ?_⟩
            have h := HST.out
            rw [show (((C + P % 4294967296 + R % 4294967296) % 4294967296 : Nat) : Int) = ((C : Int) + (P : Int) % 4294967296 + (R : Int)) % 4294967296 by omega] at h
            exact h
          case measure => simp [intOf]; omega
        · obtain rfl : k = 0 := by omega
          rw [if_pos (by decide), if_neg (by decide)] at hcS hcC
          rw [hcS] at hst hcC
          have HST := Lib.hid hst
          have HC := Lib.hid hcC
          clear hst hcC hcS g1 g2 h0 m2 k2
          generalize gn (sq4 x) 0 * a = P at *
          have HC2 := Lib.hid (show cubc x 1 = P / 4294967296 + 0 + (cubc x 0 + P % 4294967296 + 0) / 4294967296 from HC.out)
          clear HC
          generalize cubc x 0 = C at *
          go_wp2
          go_roundw
          case rel =>
            refine ⟨1, by omega, rfl, congrArg (Value.int .u64) (by rw [HC2.out]; omega), ?_⟩
            have h := HST.out
            rw [show (((C + P % 4294967296 + 0) % 4294967296 : Nat) : Int) = ((C : Int) + (P : Int)) % 4294967296 by omega] at h
            exact h
          case measure => simp [intOf]
      · obtain rfl : k = 4 := by omega
        have l2 := (hs.1.cell 3).trans (nv_at (sq4 x) 3 (show 3 < 4 by omega))
        rw [if_neg (by decide), if_pos (by decide)] at hcS hcC
        rw [hcS] at hst hcC
        have HST := Lib.hid hst
        have HC := Lib.hid hcC
        clear hst hcC hcS g1 g2 h4 m1 k1
        have m3 : IntKind.u64.wrap ((gn (sq4 x) 3 : Int) * (b : Int)) = ((gn (sq4 x) 3 * b : Nat) : Int) := m2
        have HM := Lib.hid m2
        clear m2
        change gn (sq4 x) 3 * b ≤ _ at k2
        have HST2 := Lib.hid (show KI x w w1.heap.size (4 + 1) (wr.setCell ⟨w1.heap.size + 1, 4, none⟩ (.int .u64 (((cubc x 4 + 0 + gn (sq4 x) 3 * b % 4294967296) % 4294967296 : Nat) : Int))) from HST.out)
        have HC2 := Lib.hid (show cubc x 5 = 0 + gn (sq4 x) 3 * b / 4294967296 + (cubc x 4 + 0 + gn (sq4 x) 3 * b % 4294967296) / 4294967296 from HC.out)
        clear HST HC HM
        generalize gn (sq4 x) 3 * b = R at *
        generalize cubc x 4 = C at *
        go_wp2
        go_roundw
        case rel =>
          refine ⟨5, by omega, rfl, congrArg (Value.int .u64) (by rw [HC2.out]; omega), ?_⟩
          have h := HST2.out
          rw [show (((C + 0 + R % 4294967296) % 4294967296 : Nat) : Int) = ((C : Int) + (R : Int)) % 4294967296 by omega] at h
          exact h
        case measure => simp [intOf]
    · obtain rfl : k = 5 := by omega
      have c0 := (hs.2.1.cell 0).trans (nv_at _ 0 (by rw [cubv_len]; decide))
      have c1 := (hs.2.1.cell 1).trans (nv_at _ 1 (by rw [cubv_len]; decide))
      have c2 := (hs.2.1.cell 2).trans (nv_at _ 2 (by rw [cubv_len]; decide))
      have c3 := (hs.2.1.cell 3).trans (nv_at _ 3 (by rw [cubv_len]; decide))
      have c4 := (hs.2.1.cell 4).trans (nv_at _ 4 (by rw [cubv_len]; decide))
      have b0 := cubv_lt x 5 0
      have b1 := cubv_lt x 5 1
      have b2 := cubv_lt x 5 2
      have b3 := cubv_lt x 5 3
      have b4 := cubv_lt x 5 4
      have HBW := Lib.hid hs.2.2.1
      have hres : cubeN x p = le2 (two (gn (cubv x 5) 4) (gn (cubv x 5) 3)) p (isZ (gn (cubv x 5) 0) && isZ (gn (cubv x 5) 1) && isZ (gn (cubv x 5) 2)) := rfl
      have HR := Lib.hid hres
      clear hres hs hk hlt
      generalize gn (cubv x 5) 0 = v0 at *
      generalize gn (cubv x 5) 1 = v1 at *
      generalize gn (cubv x 5) 2 = v2 at *
      generalize gn (cubv x 5) 3 = v3 at *
      generalize gn (cubv x 5) 4 = v4 at *
      have et : two v4 v3 = v4 * 4294967296 + v3 := by unfold two; rw [Nat.mul_comm]
      rcases Nat.lt_trichotomy (two v4 v3) p with hc | hc | hc
      · have hres2 := HR.out.trans (le2_lt _ _ _ hc)
        rw [et] at hc
        have hd : decide ((v4 : Int) * 4294967296 + (v3 : Int) < (p : Int)) = true := decide_eq_true (by omega)
        have HR2 := Lib.hid hres2
        clear et hc hres2
        go_wp2
        go_ret
        exact ⟨congrArg (fun z => Ending.returned (.bool z)) HR2.out.symm, HBW.out⟩
      · have hres2 := HR.out.trans (le2_eq _ _ _ hc)
        rw [et] at hc
        have hd : decide ((v4 : Int) * 4294967296 + (v3 : Int) < (p : Int)) = false := decide_eq_false (by omega)
        have hn : ((v4 : Int) * 4294967296 + (v3 : Int) == (p : Int)) = true := by rw [beq_iff_eq]; omega
        have HR2 := Lib.hid hres2
        clear et hc hres2
        by_cases z0 : v0 = 0
        · have n0 : ((v0 : Int) == 0) = true := by rw [beq_iff_eq]; omega
          have i0 : isZ v0 = true := beq_iff_eq.2 z0
          have HI0 := Lib.hid i0
          clear z0 i0
          by_cases z1 : v1 = 0
          · have n1 : ((v1 : Int) == 0) = true := by rw [beq_iff_eq]; omega
            have i1 : isZ v1 = true := beq_iff_eq.2 z1
            have HI1 := Lib.hid i1
            clear z1 i1
            by_cases z2 : v2 = 0
            · have n2 : ((v2 : Int) == 0) = true := by rw [beq_iff_eq]; omega
              have i2 : isZ v2 = true := beq_iff_eq.2 z2
              have HI2 := Lib.hid i2
              clear z2 i2
              go_wp2
              go_ret
              refine ⟨congrArg (fun z => Ending.returned (.bool z)) ?_, HBW.out⟩
              rw [HR2.out, HI0.out, HI1.out, HI2.out]; rfl
            · have n2 : ((v2 : Int) == 0) = false := by rw [beq_eq_false_iff_ne]; omega
              have HI2 := Lib.hid (show isZ v2 = false from beq_eq_false_iff_ne.2 z2)
              clear z2
              go_wp2
              go_ret
              refine ⟨congrArg (fun z => Ending.returned (.bool z)) ?_, HBW.out⟩
              rw [HR2.out, HI0.out, HI1.out, HI2.out]; rfl
          · have n1 : ((v1 : Int) == 0) = false := by rw [beq_eq_false_iff_ne]; omega
            have HI1 := Lib.hid (show isZ v1 = false from beq_eq_false_iff_ne.2 z1)
            clear z1
            go_wp2
            go_ret
            refine ⟨congrArg (fun z => Ending.returned (.bool z)) ?_, HBW.out⟩
            rw [HR2.out, HI0.out, HI1.out]; rfl
        · have n0 : ((v0 : Int) == 0) = false := by rw [beq_eq_false_iff_ne]; omega
          have HZ := Lib.hid z0
          clear z0
          go_wp2
          go_ret
          refine ⟨congrArg (fun z => Ending.returned (.bool z)) ?_, HBW.out⟩
          rw [HR2.out, show isZ v0 = false from beq_eq_false_iff_ne.2 HZ.out]; rfl
      · have hres2 := HR.out.trans (le2_gt _ _ _ hc)
        rw [et] at hc
        have hd : decide ((v4 : Int) * 4294967296 + (v3 : Int) < (p : Int)) = false := decide_eq_false (by omega)
        have hn : ((v4 : Int) * 4294967296 + (v3 : Int) == (p : Int)) = false := by rw [beq_eq_false_iff_ne]; omega
        have HR2 := Lib.hid hres2
        clear et hc hres2
        go_wp2
        go_ret
        exact ⟨congrArg (fun z => Ending.returned (.bool z)) HR2.out.symm, HBW.out⟩
end Go.Proofs.YtkjfhgbpiogigaaDoor
