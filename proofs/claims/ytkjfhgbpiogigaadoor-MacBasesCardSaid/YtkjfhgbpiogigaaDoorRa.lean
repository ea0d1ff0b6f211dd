/-
  The walks of the reference's small functions: bit, mixed, choice, majority.
-/
import Derived.Test.YtkjfhgbpiogigaaDoorWa
import Derived.Test.YtkjfhgbpiogigaaDoorPurec
import Derived.Deep.LoopGhost
namespace Go.Proofs.YtkjfhgbpiogigaaDoor
open Go Go.RowKit

theorem bit_eq (x : BitVec 32) (i : Nat) (h : i < 32) : bits .and .u32 (un x / 2 ^ (31 - i)) 1 = bI (x.getMsbD i) := by
  rw [b_shr, show (1 : Int) = un 1 from rfl, b_and]
  have e1 : x.getMsbD i = x.toNat.testBit (31 - i) := by simp [BitVec.getMsbD, BitVec.getLsbD, h]
  rw [e1, Nat.testBit_eq_decide_div_mod_eq]
  unfold un
  rw [BitVec.toNat_and, BitVec.toNat_ushiftRight, Nat.shiftRight_eq_div_pow, show ((1 : BitVec 32).toNat) = 2 ^ 1 - 1 from rfl, Nat.and_two_pow_sub_one_eq_mod]
  generalize x.toNat / 2 ^ (31 - i) = q
  by_cases hq : q % 2 ^ 1 = 1
  · rw [hq]; simp at hq; simp [bI]
  · have h0 : q % 2 ^ 1 = 0 := by omega
    rw [h0]; simp at h0; simp [bI]

set_option maxHeartbeats 400000 in
theorem bit_any (x : BitVec 32) (i : Int) (w : World) (h0 : 0 ≤ i) (h1 : i < 32) :
    Calls Tryd.prog 57 #[.int .u32 (un x), .int .i64 i] w fun e w' => e = .returned (.int .u32 (bI (x.getMsbD i.toNat))) ∧ w = w' := by
  obtain ⟨i, rfl⟩ := Int.eq_ofNat_of_zero_le h0
  have hb := bit_eq x i (by omega)
  have HB := Lib.hid hb
  clear hb
  go_enter Tryd.func57, Tryd.ntmps57
  go_wp2
  go_ret
  exact ⟨congrArg (fun z => Ending.returned (.int .u32 z)) HB.out, rfl⟩
set_option maxHeartbeats 400000 in
theorem bit_neg (x : BitVec 32) (i : Int) (w : World) (h0 : i < 0) :
    Calls Tryd.prog 57 #[.int .u32 (un x), .int .i64 i] w fun e w' => e = .returned (.int .u32 0) ∧ w = w' := by
  go_enter Tryd.func57, Tryd.ntmps57
  go_wp2
  go_ret
  exact ⟨rfl, rfl⟩
/-- a bit at any place, 0 ahead of the highest -/
def msbZ (x : BitVec 32) (i : Int) : Bool := if i < 0 then false else x.getMsbD i.toNat
theorem bit_all (x : BitVec 32) (i : Int) (w : World) (h1 : i < 32) :
    Calls Tryd.prog 57 #[.int .u32 (un x), .int .i64 i] w fun e w' => e = .returned (.int .u32 (bI (msbZ x i))) ∧ w = w' := by
  by_cases h : i < 0
  · refine (bit_neg x i w h).mono ?_
    rintro e w' ⟨rfl, rfl⟩
    rw [msbZ, if_pos h]
    exact ⟨rfl, rfl⟩
  · refine (bit_any x i w (by omega) h1).mono ?_
    rintro e w' ⟨rfl, rfl⟩
    rw [msbZ, if_neg h]
    exact ⟨rfl, rfl⟩
theorem msbZ_roll (x : BitVec 32) (k a : Nat) (ha : a < 32) : msbZ x (((k : Int) - (a : Int)) % 32) = x.getMsbD ((k + 32 - a) % 32) := by
  rw [msbZ, if_neg (by omega)]
  congr 1; omega
theorem msbZ_push (x : BitVec 32) (k c : Nat) : msbZ x ((k : Int) - (c : Int)) = (if k < c then false else x.getMsbD (k - c)) := by
  by_cases h : k < c
  · rw [msbZ, if_pos (by omega), if_pos h]
  · rw [msbZ, if_neg (by omega), if_neg h]
    congr 1; omega
theorem acc_step (f : Nat → Bool) (k : Nat) (z : Int) (h : z = bI (f k)) : ((acc f k : Nat) : Int) * 2 + z = ((acc f (k + 1) : Nat) : Int) := by
  rw [h, bI_toNat, acc]; simp

/-- what a loop over bits keeps -/
def BI (f : Nat → Bool) (o i : Value) : Prop := ∃ k : Nat, k ≤ 32 ∧ i = .int .i64 k ∧ o = .int .u32 ((acc f k : Nat) : Int)

set_option maxHeartbeats 1000000 in
theorem mixed_any (x : BitVec 32) (a b c : Nat) (a' b' c' : Int) (push : Bool) (w : World) (ha' : a' = (a : Int)) (hb' : b' = (b : Int)) (hc' : c' = (c : Int)) (ha : a < 32) (hb : b < 32) (hc : c < 32) :
    Calls Tryd.prog 42 #[.int .u32 (un x), .int .i64 a', .int .i64 b', .int .i64 c', .bool push] w fun e w' => e = .returned (.int .u32 ((acc (mixB x a b c push) 32 : Nat) : Int)) ∧ w = w' := by
  subst ha' hb' hc'
  cases push
  · go_enter Tryd.func42, Tryd.ntmps42
    go_wp2
    go_loop [11, 12] (fun o i => BI (mixB x a b c false) o i) (fun _ i => 32 - (intOf i).toNat)
    case atStart => exact ⟨0, by omega, rfl, rfl⟩
    case round =>
      obtain ⟨k, hk, rfl, rfl⟩ := hrel
      by_cases hlt : k < 32
      · have ho := acc_lt31 (mixB x a b c false) k hlt
        have hfin := acc_step (mixB x a b c false) k ((bI (msbZ x (((k : Int) - (a : Int)) % 32)) + bI (msbZ x (((k : Int) - (b : Int)) % 32)) + bI (msbZ x (((k : Int) - (c : Int)) % 32))) % 2) (by
          rw [bI_xor, msbZ_roll _ _ _ ha, msbZ_roll _ _ _ hb, msbZ_roll _ _ _ hc]; rfl)
        have HF := Lib.hid hfin
        clear hfin
        obtain ⟨o, hoe⟩ : ∃ o, acc (mixB x a b c false) k = o := ⟨_, rfl⟩
        rw [hoe] at ho HF ⊢
        clear hoe
        have b1 := bI_lo (msbZ x (((k : Int) - (a : Int)) % 32))
        have b2 := bI_hi (msbZ x (((k : Int) - (a : Int)) % 32))
        have b3 := bI_lo (msbZ x (((k : Int) - (b : Int)) % 32))
        have b4 := bI_hi (msbZ x (((k : Int) - (b : Int)) % 32))
        have b5 := bI_lo (msbZ x (((k : Int) - (c : Int)) % 32))
        have b6 := bI_hi (msbZ x (((k : Int) - (c : Int)) % 32))
        go_wp2_with (go_at_call 57; refine (bit_all _ _ _ (by omega)).mono ?_; rintro e w' ⟨rfl, rfl⟩)
        go_round
        case rel => exact ⟨k + 1, by omega, by go_num, congrArg (Value.int .u32) HF.out⟩
        case measure => simp [intOf]; omega
      · obtain rfl : k = 32 := by omega
        go_wp2
        go_ret
        exact ⟨rfl, rfl⟩
  · go_enter Tryd.func42, Tryd.ntmps42
    go_wp2
    go_loop [11, 12] (fun o i => BI (mixB x a b c true) o i) (fun _ i => 32 - (intOf i).toNat)
    case atStart => exact ⟨0, by omega, rfl, rfl⟩
    case round =>
      obtain ⟨k, hk, rfl, rfl⟩ := hrel
      by_cases hlt : k < 32
      · have ho := acc_lt31 (mixB x a b c true) k hlt
        have hfin := acc_step (mixB x a b c true) k ((bI (msbZ x (((k : Int) - (a : Int)) % 32)) + bI (msbZ x (((k : Int) - (b : Int)) % 32)) + bI (msbZ x ((k : Int) - (c : Int)))) % 2) (by
          rw [bI_xor, msbZ_roll _ _ _ ha, msbZ_roll _ _ _ hb, msbZ_push]; rfl)
        have HF := Lib.hid hfin
        clear hfin
        obtain ⟨o, hoe⟩ : ∃ o, acc (mixB x a b c true) k = o := ⟨_, rfl⟩
        rw [hoe] at ho HF ⊢
        clear hoe
        have b1 := bI_lo (msbZ x (((k : Int) - (a : Int)) % 32))
        have b2 := bI_hi (msbZ x (((k : Int) - (a : Int)) % 32))
        have b3 := bI_lo (msbZ x (((k : Int) - (b : Int)) % 32))
        have b4 := bI_hi (msbZ x (((k : Int) - (b : Int)) % 32))
        have b5 := bI_lo (msbZ x ((k : Int) - (c : Int)))
        have b6 := bI_hi (msbZ x ((k : Int) - (c : Int)))
        go_wp2_with (go_at_call 57; refine (bit_all _ _ _ (by omega)).mono ?_; rintro e w' ⟨rfl, rfl⟩)
        go_round
        case rel => exact ⟨k + 1, by omega, by go_num, congrArg (Value.int .u32) HF.out⟩
        case measure => simp [intOf]; omega
      · obtain rfl : k = 32 := by omega
        go_wp2
        go_ret
        exact ⟨rfl, rfl⟩

set_option maxHeartbeats 1000000 in
theorem majority_any (x y z : BitVec 32) (w : World) :
    Calls Tryd.prog 45 #[.int .u32 (un x), .int .u32 (un y), .int .u32 (un z)] w fun e w' => e = .returned (.int .u32 ((acc (majB x y z) 32 : Nat) : Int)) ∧ w = w' := by
  go_enter Tryd.func45, Tryd.ntmps45
  go_wp2
  go_loop [7, 8] (fun o i => BI (majB x y z) o i) (fun _ i => 32 - (intOf i).toNat)
  case atStart => exact ⟨0, by omega, rfl, rfl⟩
  case round =>
    obtain ⟨k, hk, rfl, rfl⟩ := hrel
    by_cases hlt : k < 32
    · have ho := acc_lt31 (majB x y z) k hlt
      have hfin := acc_step (majB x y z) k ((bI (x.getMsbD k) + bI (y.getMsbD k) + bI (z.getMsbD k)) / 2) (by rw [bI_maj]; rfl)
      have HF := Lib.hid hfin
      clear hfin
      obtain ⟨o, hoe⟩ : ∃ o, acc (majB x y z) k = o := ⟨_, rfl⟩
      rw [hoe] at ho HF ⊢
      clear hoe
      have b1 := bI_lo (x.getMsbD k)
      have b2 := bI_hi (x.getMsbD k)
      have b3 := bI_lo (y.getMsbD k)
      have b4 := bI_hi (y.getMsbD k)
      have b5 := bI_lo (z.getMsbD k)
      have b6 := bI_hi (z.getMsbD k)
      go_wp2_with (go_at_call 57; refine (bit_any _ _ _ (by omega) (by omega)).mono ?_; rintro e w' ⟨rfl, rfl⟩; rw [Int.toNat_natCast])
      go_round
      case rel => exact ⟨k + 1, by omega, by go_num, congrArg (Value.int .u32) HF.out⟩
      case measure => simp [intOf]; omega
    · obtain rfl : k = 32 := by omega
      go_wp2
      go_ret
      exact ⟨rfl, rfl⟩
set_option maxHeartbeats 1000000 in
theorem choice_any (x y z : BitVec 32) (w : World) :
    Calls Tryd.prog 44 #[.int .u32 (un x), .int .u32 (un y), .int .u32 (un z)] w fun e w' => e = .returned (.int .u32 ((acc (chB x y z) 32 : Nat) : Int)) ∧ w = w' := by
  go_enter Tryd.func44, Tryd.ntmps44
  go_wp2
  go_loop [7, 8] (fun o i => BI (chB x y z) o i) (fun _ i => 32 - (intOf i).toNat)
  case atStart => exact ⟨0, by omega, rfl, rfl⟩
  case round =>
    obtain ⟨k, hk, rfl, rfl⟩ := hrel
    by_cases hlt : k < 32
    · have ho := acc_lt31 (chB x y z) k hlt
      have b3 := bI_lo (y.getMsbD k)
      have b4 := bI_hi (y.getMsbD k)
      have b5 := bI_lo (z.getMsbD k)
      have b6 := bI_hi (z.getMsbD k)
      by_cases hc : x.getMsbD k = true
      · have hfin := acc_step (chB x y z) k (bI (y.getMsbD k)) (by rw [chB, if_pos hc])
        have hone : bI (x.getMsbD k) = 1 := by rw [hc]; rfl
        have HF := Lib.hid hfin
        have HX := Lib.hid hone
        clear hfin hc hone
        obtain ⟨o, hoe⟩ : ∃ o, acc (chB x y z) k = o := ⟨_, rfl⟩
        rw [hoe] at ho HF ⊢
        clear hoe
        go_wp2_with (go_at_call 57; refine (bit_any _ _ _ (by omega) (by omega)).mono ?_; rintro e w' ⟨rfl, rfl⟩; rw [Int.toNat_natCast]; try rw [HX.out])
        go_round
        case rel => exact ⟨k + 1, by omega, by go_num, congrArg (Value.int .u32) HF.out⟩
        case measure => simp [intOf]; omega
      · have hfin := acc_step (chB x y z) k (bI (z.getMsbD k)) (by rw [chB, if_neg hc])
        have hone : bI (x.getMsbD k) = 0 := by rw [show x.getMsbD k = false by simpa using hc]; rfl
        have HF := Lib.hid hfin
        have HX := Lib.hid hone
        clear hfin hc hone
        obtain ⟨o, hoe⟩ : ∃ o, acc (chB x y z) k = o := ⟨_, rfl⟩
        rw [hoe] at ho HF ⊢
        clear hoe
        go_wp2_with (go_at_call 57; refine (bit_any _ _ _ (by omega) (by omega)).mono ?_; rintro e w' ⟨rfl, rfl⟩; rw [Int.toNat_natCast]; try rw [HX.out])
        go_round
        case rel => exact ⟨k + 1, by omega, by go_num, congrArg (Value.int .u32) HF.out⟩
        case measure => simp [intOf]; omega
    · obtain rfl : k = 32 := by omega
      go_wp2
      go_ret
      exact ⟨rfl, rfl⟩
end Go.Proofs.YtkjfhgbpiogigaaDoor
