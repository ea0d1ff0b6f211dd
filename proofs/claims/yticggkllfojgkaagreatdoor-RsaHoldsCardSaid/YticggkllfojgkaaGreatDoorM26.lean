/-
  Words as lists of bits, the highest first: what the reference reckons bit by bit.
  The walks of the reference's small functions: bit, mixed, choice, majority.
  A word out of four bytes, one behind the other.
  The walks of the reference's Round and Schedule.
-/
import Derived.Test.YticggkllfojgkaaGreatDoorM21
import Derived.Test.YticggkllfojgkaaGreatDoorM20
import Derived.Deep.LoopGhost
namespace Go.Proofs.YticggkllfojgkaaGreatDoor
open Go
set_option maxRecDepth 4000

/-- a bit as the model's number (no abbreviation) -/
def bI (b : Bool) : Int := if b then 1 else 0
theorem bI_lo (b : Bool) : 0 ≤ bI b := by cases b <;> decide
theorem bI_hi (b : Bool) : bI b ≤ 1 := by cases b <;> decide
theorem bI_xor (p q r : Bool) : (bI p + bI q + bI r) % 2 = bI (p ^^ q ^^ r) := by cases p <;> cases q <;> cases r <;> decide
theorem bI_maj (p q r : Bool) : (bI p + bI q + bI r) / 2 = bI (p && q || p && r || q && r) := by cases p <;> cases q <;> cases r <;> decide

/-- a number out of bits, the highest first -/
def acc (f : Nat → Bool) : Nat → Nat
  | 0 => 0
  | i + 1 => acc f i * 2 + (f i).toNat
theorem bI_toNat (b : Bool) : bI b = (b.toNat : Int) := by cases b <;> rfl
theorem acc_lt (f : Nat → Bool) (i : Nat) : acc f i < 2 ^ i := by
  induction i with
  | zero => simp [acc]
  | succ i ih =>
    have : (f i).toNat ≤ 1 := Bool.toNat_le _
    rw [acc, Nat.pow_succ]; omega
theorem acc_lt31 (f : Nat → Bool) (i : Nat) (h : i < 32) : acc f i < 2147483648 :=
  Nat.lt_of_lt_of_le (acc_lt f i) (by have : 2 ^ i ≤ 2 ^ 31 := Nat.pow_le_pow_right (by decide) (by omega); simpa using this)
theorem acc_congr (f g : Nat → Bool) (n : Nat) (h : ∀ i, i < n → f i = g i) : acc f n = acc g n := by
  induction n with
  | zero => rfl
  | succ n ih => rw [acc, acc, ih (fun i hi => h i (by omega)), h n (by omega)]
theorem acc_msb (x : BitVec 32) (i : Nat) (h : i ≤ 32) : acc (fun j => x.getMsbD j) i = x.toNat / 2 ^ (32 - i) := by
  induction i with
  | zero =>
    have := x.isLt
    rw [acc, Nat.div_eq_of_lt (by simpa using this)]
  | succ i ih =>
    rw [acc, ih (by omega)]
    have e1 : x.getMsbD i = x.toNat.testBit (31 - i) := by
      simp [BitVec.getMsbD, BitVec.getLsbD, show i < 32 by omega]
    rw [e1, Nat.testBit_eq_decide_div_mod_eq, show 32 - i = (31 - i) + 1 by omega, show 32 - (i + 1) = 31 - i by omega, Nat.pow_succ, ← Nat.div_div_eq_div_mul]
    generalize x.toNat / 2 ^ (31 - i) = q
    by_cases hq : q % 2 = 1
    · rw [decide_eq_true hq]; simp; omega
    · rw [decide_eq_false hq]; simp; omega
theorem acc_all (x : BitVec 32) : acc (fun j => x.getMsbD j) 32 = x.toNat := by
  rw [acc_msb x 32 (Nat.le_refl _)]; simp

theorem msb_rr (x : BitVec 32) (k i : Nat) (h0 : 0 < k) (hk : k < 32) (hi : i < 32) : (rr x k).getMsbD i = x.getMsbD ((i + 32 - k) % 32) := by
  unfold rr
  rw [BitVec.getMsbD_or, BitVec.getMsbD_shiftLeft, BitVec.getMsbD_ushiftRight]
  by_cases h : i < k
  · rw [show (i + 32 - k) % 32 = i + (32 - k) by omega]
    simp [h]
  · rw [show (i + 32 - k) % 32 = i - k by omega, BitVec.getMsbD_of_ge _ _ (show 32 ≤ i + (32 - k) by omega)]
    simp [h, hi]
theorem msb_shr (x : BitVec 32) (k i : Nat) (hi : i < 32) : (x >>> k).getMsbD i = (if i < k then false else x.getMsbD (i - k)) := by
  rw [BitVec.getMsbD_ushiftRight]
  by_cases h : i < k <;> simp [h, hi]

/-- the reference's bits -/
def mixB (x : BitVec 32) (a b c : Nat) (push : Bool) (i : Nat) : Bool :=
  (x.getMsbD ((i + 32 - a) % 32) ^^ x.getMsbD ((i + 32 - b) % 32)) ^^ (if push then (if i < c then false else x.getMsbD (i - c)) else x.getMsbD ((i + 32 - c) % 32))
def chB (e f g : BitVec 32) (i : Nat) : Bool := if e.getMsbD i then f.getMsbD i else g.getMsbD i
def majB (a b c : BitVec 32) (i : Nat) : Bool := a.getMsbD i && b.getMsbD i || a.getMsbD i && c.getMsbD i || b.getMsbD i && c.getMsbD i
theorem mix_push (x : BitVec 32) (a b c : Nat) (ha : 0 < a ∧ a < 32) (hb : 0 < b ∧ b < 32) : acc (mixB x a b c true) 32 = (rr x a ^^^ rr x b ^^^ x >>> c).toNat := by
  rw [← acc_all]
  refine acc_congr _ _ _ fun i hi => ?_
  simp only [BitVec.getMsbD_xor, msb_rr x a i ha.1 ha.2 hi, msb_rr x b i hb.1 hb.2 hi, msb_shr x c i hi, mixB, if_true]
theorem mix_roll (x : BitVec 32) (a b c : Nat) (ha : 0 < a ∧ a < 32) (hb : 0 < b ∧ b < 32) (hc : 0 < c ∧ c < 32) : acc (mixB x a b c false) 32 = (rr x a ^^^ rr x b ^^^ rr x c).toNat := by
  rw [← acc_all]
  refine acc_congr _ _ _ fun i hi => ?_
  simp only [BitVec.getMsbD_xor, msb_rr x a i ha.1 ha.2 hi, msb_rr x b i hb.1 hb.2 hi, msb_rr x c i hc.1 hc.2 hi, mixB, Bool.false_eq_true, if_false]
theorem ch_acc (e f g : BitVec 32) : acc (chB e f g) 32 = (ch e f g).toNat := by
  rw [← acc_all]
  refine acc_congr _ _ _ fun i hi => ?_
  simp only [ch, BitVec.getMsbD_or, BitVec.getMsbD_and, BitVec.getMsbD_not, chB, hi, decide_true, Bool.true_and]
  cases e.getMsbD i <;> simp
theorem maj_acc (a b c : BitVec 32) : acc (majB a b c) 32 = (maj a b c).toNat := by
  rw [← acc_all]
  refine acc_congr _ _ _ fun i _ => ?_
  simp only [maj, BitVec.getMsbD_or, BitVec.getMsbD_and, majB]
end Go.Proofs.YticggkllfojgkaaGreatDoor
namespace Go.Proofs.YticggkllfojgkaaGreatDoor
open Go Go.RowKit
set_option maxRecDepth 4000

theorem bit_eq (x : BitVec 32) (i : Nat) (h : i < 32) : bits .and .u32 (un x / 2 ^ (31 - i)) 1 = bI (x.getMsbD i) := by
  rw [b_shr, show (1 : Int) = un 1 from rfl, b_and]
  have e1 : x.getMsbD i = x.toNat.testBit (31 - i) := by simp [BitVec.getMsbD, BitVec.getLsbD, h]
  rw [e1, Nat.testBit_eq_decide_div_mod_eq]
  unfold un
  rw [BitVec.toNat_and, BitVec.toNat_ushiftRight, Nat.shiftRight_eq_div_pow, show ((1 : BitVec 32).toNat) = 2 ^ 1 - 1 from rfl, Nat.and_two_pow_sub_one_eq_mod]
  generalize x.toNat / 2 ^ (31 - i) = q
  by_cases hq : q % 2 ^ 1 = 1
  · rw [hq]; simp at hq; simp [bI]
  · have h0 : q % 2 ^ 1 = 0 := by omega
    rw [h0]; simp at h0; simp [bI]

set_option maxHeartbeats 400000 in
theorem bit_any (x : BitVec 32) (i : Int) (w : World) (h0 : 0 ≤ i) (h1 : i < 32) :
    Calls Tryz.prog 126 #[.int .u32 (un x), .int .i64 i] w fun e w' => e = .returned (.int .u32 (bI (x.getMsbD i.toNat))) ∧ w = w' := by
  obtain ⟨i, rfl⟩ := Int.eq_ofNat_of_zero_le h0
  have hb := bit_eq x i (by omega)
  have HB := Lib.hid hb
  clear hb
  go_enter Tryz.func126, Tryz.ntmps126
  go_wp2
  go_ret
  exact ⟨congrArg (fun z => Ending.returned (.int .u32 z)) HB.out, rfl⟩
set_option maxHeartbeats 400000 in
theorem bit_neg (x : BitVec 32) (i : Int) (w : World) (h0 : i < 0) :
    Calls Tryz.prog 126 #[.int .u32 (un x), .int .i64 i] w fun e w' => e = .returned (.int .u32 0) ∧ w = w' := by
  go_enter Tryz.func126, Tryz.ntmps126
  go_wp2
  go_ret
  exact ⟨rfl, rfl⟩
/-- a bit at any place, 0 ahead of the highest -/
def msbZ (x : BitVec 32) (i : Int) : Bool := if i < 0 then false else x.getMsbD i.toNat
theorem bit_all (x : BitVec 32) (i : Int) (w : World) (h1 : i < 32) :
    Calls Tryz.prog 126 #[.int .u32 (un x), .int .i64 i] w fun e w' => e = .returned (.int .u32 (bI (msbZ x i))) ∧ w = w' := by
  by_cases h : i < 0
  · refine (bit_neg x i w h).mono ?_
    rintro e w' ⟨rfl, rfl⟩
    rw [msbZ, if_pos h]
    exact ⟨rfl, rfl⟩
  · refine (bit_any x i w (by omega) h1).mono ?_
    rintro e w' ⟨rfl, rfl⟩
    rw [msbZ, if_neg h]
    exact ⟨rfl, rfl⟩
theorem msbZ_roll (x : BitVec 32) (k a : Nat) (ha : a < 32) : msbZ x (((k : Int) - (a : Int)) % 32) = x.getMsbD ((k + 32 - a) % 32) := by
  rw [msbZ, if_neg (by omega)]
  congr 1; omega
theorem msbZ_push (x : BitVec 32) (k c : Nat) : msbZ x ((k : Int) - (c : Int)) = (if k < c then false else x.getMsbD (k - c)) := by
  by_cases h : k < c
  · rw [msbZ, if_pos (by omega), if_pos h]
  · rw [msbZ, if_neg (by omega), if_neg h]
    congr 1; omega
theorem acc_step (f : Nat → Bool) (k : Nat) (z : Int) (h : z = bI (f k)) : ((acc f k : Nat) : Int) * 2 + z = ((acc f (k + 1) : Nat) : Int) := by
  rw [h, bI_toNat, acc]; simp

/-- what a loop over bits keeps -/
def BI (f : Nat → Bool) (o i : Value) : Prop := ∃ k : Nat, k ≤ 32 ∧ i = .int .i64 k ∧ o = .int .u32 ((acc f k : Nat) : Int)

set_option maxHeartbeats 1000000 in
theorem mixed_any (x : BitVec 32) (a b c : Nat) (a' b' c' : Int) (push : Bool) (w : World) (ha' : a' = (a : Int)) (hb' : b' = (b : Int)) (hc' : c' = (c : Int)) (ha : a < 32) (hb : b < 32) (hc : c < 32) :
    Calls Tryz.prog 109 #[.int .u32 (un x), .int .i64 a', .int .i64 b', .int .i64 c', .bool push] w fun e w' => e = .returned (.int .u32 ((acc (mixB x a b c push) 32 : Nat) : Int)) ∧ w = w' := by
  subst ha' hb' hc'
  cases push
  · go_enter Tryz.func109, Tryz.ntmps109
    go_wp2
    go_loop [11, 12] (fun o i => BI (mixB x a b c false) o i) (fun _ i => 32 - (intOf i).toNat)
    case atStart => exact ⟨0, by omega, rfl, rfl⟩
    case round =>
      obtain ⟨k, hk, rfl, rfl⟩ := hrel
      by_cases hlt : k < 32
      · have ho := acc_lt31 (mixB x a b c false) k hlt
        have hfin := acc_step (mixB x a b c false) k ((bI (msbZ x (((k : Int) - (a : Int)) % 32)) + bI (msbZ x (((k : Int) - (b : Int)) % 32)) + bI (msbZ x (((k : Int) - (c : Int)) % 32))) % 2) (by
          rw [bI_xor, msbZ_roll _ _ _ ha, msbZ_roll _ _ _ hb, msbZ_roll _ _ _ hc]; rfl)
        have HF := Lib.hid hfin
        clear hfin
        obtain ⟨o, hoe⟩ : ∃ o, acc (mixB x a b c false) k = o := ⟨_, rfl⟩
        rw [hoe] at ho HF ⊢
        clear hoe
        have b1 := bI_lo (msbZ x (((k : Int) - (a : Int)) % 32))
        have b2 := bI_hi (msbZ x (((k : Int) - (a : Int)) % 32))
        have b3 := bI_lo (msbZ x (((k : Int) - (b : Int)) % 32))
        have b4 := bI_hi (msbZ x (((k : Int) - (b : Int)) % 32))
        have b5 := bI_lo (msbZ x (((k : Int) - (c : Int)) % 32))
        have b6 := bI_hi (msbZ x (((k : Int) - (c : Int)) % 32))
        go_wp2_with (go_at_call 126; refine (bit_all _ _ _ (by omega)).mono ?_; rintro e w' ⟨rfl, rfl⟩)
        go_round
        case rel => exact ⟨k + 1, by omega, by go_num, congrArg (Value.int .u32) HF.out⟩
        case measure => simp [intOf]; omega
      · obtain rfl : k = 32 := by omega
        go_wp2
        go_ret
        exact ⟨rfl, rfl⟩
  · go_enter Tryz.func109, Tryz.ntmps109
    go_wp2
    go_loop [11, 12] (fun o i => BI (mixB x a b c true) o i) (fun _ i => 32 - (intOf i).toNat)
    case atStart => exact ⟨0, by omega, rfl, rfl⟩
    case round =>
      obtain ⟨k, hk, rfl, rfl⟩ := hrel
      by_cases hlt : k < 32
      · have ho := acc_lt31 (mixB x a b c true) k hlt
        have hfin := acc_step (mixB x a b c true) k ((bI (msbZ x (((k : Int) - (a : Int)) % 32)) + bI (msbZ x (((k : Int) - (b : Int)) % 32)) + bI (msbZ x ((k : Int) - (c : Int)))) % 2) (by
          rw [bI_xor, msbZ_roll _ _ _ ha, msbZ_roll _ _ _ hb, msbZ_push]; rfl)
        have HF := Lib.hid hfin
        clear hfin
        obtain ⟨o, hoe⟩ : ∃ o, acc (mixB x a b c true) k = o := ⟨_, rfl⟩
        rw [hoe] at ho HF ⊢
        clear hoe
        have b1 := bI_lo (msbZ x (((k : Int) - (a : Int)) % 32))
        have b2 := bI_hi (msbZ x (((k : Int) - (a : Int)) % 32))
        have b3 := bI_lo (msbZ x (((k : Int) - (b : Int)) % 32))
        have b4 := bI_hi (msbZ x (((k : Int) - (b : Int)) % 32))
        have b5 := bI_lo (msbZ x ((k : Int) - (c : Int)))
        have b6 := bI_hi (msbZ x ((k : Int) - (c : Int)))
        go_wp2_with (go_at_call 126; refine (bit_all _ _ _ (by omega)).mono ?_; rintro e w' ⟨rfl, rfl⟩)
        go_round
        case rel => exact ⟨k + 1, by omega, by go_num, congrArg (Value.int .u32) HF.out⟩
        case measure => simp [intOf]; omega
      · obtain rfl : k = 32 := by omega
        go_wp2
        go_ret
        exact ⟨rfl, rfl⟩

set_option maxHeartbeats 1000000 in
theorem majority_any (x y z : BitVec 32) (w : World) :
    Calls Tryz.prog 111 #[.int .u32 (un x), .int .u32 (un y), .int .u32 (un z)] w fun e w' => e = .returned (.int .u32 ((acc (majB x y z) 32 : Nat) : Int)) ∧ w = w' := by
  go_enter Tryz.func111, Tryz.ntmps111
  go_wp2
  go_loop [7, 8] (fun o i => BI (majB x y z) o i) (fun _ i => 32 - (intOf i).toNat)
  case atStart => exact ⟨0, by omega, rfl, rfl⟩
  case round =>
    obtain ⟨k, hk, rfl, rfl⟩ := hrel
    by_cases hlt : k < 32
    · have ho := acc_lt31 (majB x y z) k hlt
      have hfin := acc_step (majB x y z) k ((bI (x.getMsbD k) + bI (y.getMsbD k) + bI (z.getMsbD k)) / 2) (by rw [bI_maj]; rfl)
      have HF := Lib.hid hfin
      clear hfin
      obtain ⟨o, hoe⟩ : ∃ o, acc (majB x y z) k = o := ⟨_, rfl⟩
      rw [hoe] at ho HF ⊢
      clear hoe
      have b1 := bI_lo (x.getMsbD k)
      have b2 := bI_hi (x.getMsbD k)
      have b3 := bI_lo (y.getMsbD k)
      have b4 := bI_hi (y.getMsbD k)
      have b5 := bI_lo (z.getMsbD k)
      have b6 := bI_hi (z.getMsbD k)
      go_wp2_with (go_at_call 126; refine (bit_any _ _ _ (by omega) (by omega)).mono ?_; rintro e w' ⟨rfl, rfl⟩; rw [Int.toNat_natCast])
      go_round
      case rel => exact ⟨k + 1, by omega, by go_num, congrArg (Value.int .u32) HF.out⟩
      case measure => simp [intOf]; omega
    · obtain rfl : k = 32 := by omega
      go_wp2
      go_ret
      exact ⟨rfl, rfl⟩
set_option maxHeartbeats 1000000 in
theorem choice_any (x y z : BitVec 32) (w : World) :
    Calls Tryz.prog 110 #[.int .u32 (un x), .int .u32 (un y), .int .u32 (un z)] w fun e w' => e = .returned (.int .u32 ((acc (chB x y z) 32 : Nat) : Int)) ∧ w = w' := by
  go_enter Tryz.func110, Tryz.ntmps110
  go_wp2
  go_loop [7, 8] (fun o i => BI (chB x y z) o i) (fun _ i => 32 - (intOf i).toNat)
  case atStart => exact ⟨0, by omega, rfl, rfl⟩
  case round =>
    obtain ⟨k, hk, rfl, rfl⟩ := hrel
    by_cases hlt : k < 32
    · have ho := acc_lt31 (chB x y z) k hlt
      have b3 := bI_lo (y.getMsbD k)
      have b4 := bI_hi (y.getMsbD k)
      have b5 := bI_lo (z.getMsbD k)
      have b6 := bI_hi (z.getMsbD k)
      by_cases hc : x.getMsbD k = true
      · have hfin := acc_step (chB x y z) k (bI (y.getMsbD k)) (by rw [chB, if_pos hc])
        have hone : bI (x.getMsbD k) = 1 := by rw [hc]; rfl
        have HF := Lib.hid hfin
        have HX := Lib.hid hone
        clear hfin hc hone
        obtain ⟨o, hoe⟩ : ∃ o, acc (chB x y z) k = o := ⟨_, rfl⟩
        rw [hoe] at ho HF ⊢
        clear hoe
        go_wp2_with (go_at_call 126; refine (bit_any _ _ _ (by omega) (by omega)).mono ?_; rintro e w' ⟨rfl, rfl⟩; rw [Int.toNat_natCast]; try rw [HX.out])
        go_round
        case rel => exact ⟨k + 1, by omega, by go_num, congrArg (Value.int .u32) HF.out⟩
        case measure => simp [intOf]; omega
      · have hfin := acc_step (chB x y z) k (bI (z.getMsbD k)) (by rw [chB, if_neg hc])
        have hone : bI (x.getMsbD k) = 0 := by rw [show x.getMsbD k = false by simpa using hc]; rfl
        have HF := Lib.hid hfin
        have HX := Lib.hid hone
        clear hfin hc hone
        obtain ⟨o, hoe⟩ : ∃ o, acc (chB x y z) k = o := ⟨_, rfl⟩
        rw [hoe] at ho HF ⊢
        clear hoe
        go_wp2_with (go_at_call 126; refine (bit_any _ _ _ (by omega) (by omega)).mono ?_; rintro e w' ⟨rfl, rfl⟩; rw [Int.toNat_natCast]; try rw [HX.out])
        go_round
        case rel => exact ⟨k + 1, by omega, by go_num, congrArg (Value.int .u32) HF.out⟩
        case measure => simp [intOf]; omega
    · obtain rfl : k = 32 := by omega
      go_wp2
      go_ret
      exact ⟨rfl, rfl⟩
end Go.Proofs.YticggkllfojgkaaGreatDoor
namespace Go.Proofs.YticggkllfojgkaaGreatDoor
open Go
set_option maxRecDepth 4000

def part (l : List (BitVec 8)) (k : Nat) : Nat → BitVec 32
  | 0 => 0
  | j + 1 => part l k j <<< 8 + e8 (gb l (4 * k + j))
theorem e8_toNat (x : BitVec 8) : (e8 x).toNat = x.toNat := by
  have := x.isLt
  unfold e8; rw [BitVec.toNat_setWidth]; omega
theorem shl_toNat (x : BitVec 32) (k : Nat) : (x <<< k).toNat = x.toNat * 2 ^ k % 4294967296 := by
  rw [BitVec.toNat_shiftLeft, Nat.shiftLeft_eq]
theorem wd_toNat (a b c d : BitVec 8) : (wd a b c d).toNat = a.toNat * 16777216 + b.toNat * 65536 + c.toNat * 256 + d.toNat := by
  have ha := a.isLt
  have hb := b.isLt
  have hc := c.isLt
  have hd := d.isLt
  unfold wd
  rw [BitVec.toNat_or, BitVec.toNat_or, BitVec.toNat_or, shl_toNat, shl_toNat, shl_toNat, e8_toNat, e8_toNat, e8_toNat, e8_toNat]
  rw [show a.toNat * 2 ^ 24 % 4294967296 = a.toNat * 16777216 by omega, show b.toNat * 2 ^ 16 % 4294967296 = b.toNat * 65536 by omega, show c.toNat * 2 ^ 8 % 4294967296 = c.toNat * 256 by omega]
  rw [nat_join 24 (a.toNat * 16777216) (b.toNat * 65536) (by omega) (by omega), nat_join 16 _ (c.toNat * 256) (by omega) (by omega), nat_join 8 _ d.toNat (by omega) (by omega)]
theorem part_word (l : List (BitVec 8)) (k : Nat) : part l k 4 = word l (4 * k) := by
  apply BitVec.eq_of_toNat_eq
  unfold word
  rw [wd_toNat]
  simp only [part, BitVec.toNat_add, shl_toNat, e8_toNat, Nat.add_zero]
  have ha := (gb l (4 * k)).isLt
  have hb := (gb l (4 * k + 1)).isLt
  have hc := (gb l (4 * k + 2)).isLt
  have hd := (gb l (4 * k + 3)).isLt
  have h0 : (0 : BitVec 32).toNat = 0 := rfl
  rw [h0]
  omega
theorem gw_rep (n j : Nat) : gw (List.replicate n 0) j = 0 := by
  unfold gw
  rw [List.getD_eq_getElem?_getD, List.getElem?_replicate]
  split <;> rfl
theorem sched_zero (l : List (BitVec 8)) (k : Nat) : ∀ j, k ≤ j → gw (sched l k) j = 0 := by
  induction k with
  | zero =>
    intro j _
    rw [sched]
    exact gw_rep 64 j
  | succ k ih =>
    intro j hj
    have := ih j (by omega)
    simp only [gw, List.getD_eq_getElem?_getD] at this ⊢
    rw [sched, List.getElem?_set_ne (by omega)]
    exact this
theorem set_same (s : List (BitVec 32)) (k : Nat) (x : BitVec 32) (h : gw s k = x) : s.set k x = s := by
  by_cases hk : k < s.length
  · have e : x = s[k] := by rw [← h]; simp [gw, hk]
    rw [e, List.set_getElem_self]
  · rw [List.set_eq_of_length_le (by omega)]
theorem set_gw (s : List (BitVec 32)) (k : Nat) (x : BitVec 32) (hk : k < s.length) : gw (s.set k x) k = x := by
  simp [gw, hk]
end Go.Proofs.YticggkllfojgkaaGreatDoor
namespace Go.Proofs.YticggkllfojgkaaGreatDoor
open Go Go.RowKit
set_option maxRecDepth 4000

theorem acc_un (f : Nat → Bool) (y : BitVec 32) (h : acc f 32 = y.toNat) : ((acc f 32 : Nat) : Int) = un y := by rw [h]; rfl
/-- the reference's calls, as the code's own words say them -/
theorem ref_S1 (x : BitVec 32) (w : World) : Calls Tryz.prog 109 #[.int .u32 (un x), .int .i64 6, .int .i64 11, .int .i64 25, .bool false] w fun e w' => e = .returned (.int .u32 (un (S1 x))) ∧ w' = w :=
  (mixed_any x 6 11 25 6 11 25 false w rfl rfl rfl (by decide) (by decide) (by decide)).mono fun _ _ ⟨he, hw⟩ => ⟨by rw [he, acc_un _ (S1 x) (mix_roll x 6 11 25 (by decide) (by decide) (by decide))], hw.symm⟩
theorem ref_S0 (x : BitVec 32) (w : World) : Calls Tryz.prog 109 #[.int .u32 (un x), .int .i64 2, .int .i64 13, .int .i64 22, .bool false] w fun e w' => e = .returned (.int .u32 (un (S0 x))) ∧ w' = w :=
  (mixed_any x 2 13 22 2 13 22 false w rfl rfl rfl (by decide) (by decide) (by decide)).mono fun _ _ ⟨he, hw⟩ => ⟨by rw [he, acc_un _ (S0 x) (mix_roll x 2 13 22 (by decide) (by decide) (by decide))], hw.symm⟩
theorem ref_s0 (x : BitVec 32) (w : World) : Calls Tryz.prog 109 #[.int .u32 (un x), .int .i64 7, .int .i64 18, .int .i64 3, .bool true] w fun e w' => e = .returned (.int .u32 (un (s0 x))) ∧ w' = w :=
  (mixed_any x 7 18 3 7 18 3 true w rfl rfl rfl (by decide) (by decide) (by decide)).mono fun _ _ ⟨he, hw⟩ => ⟨by rw [he, acc_un _ (s0 x) (mix_push x 7 18 3 (by decide) (by decide))], hw.symm⟩
theorem ref_s1 (x : BitVec 32) (w : World) : Calls Tryz.prog 109 #[.int .u32 (un x), .int .i64 17, .int .i64 19, .int .i64 10, .bool true] w fun e w' => e = .returned (.int .u32 (un (s1 x))) ∧ w' = w :=
  (mixed_any x 17 19 10 17 19 10 true w rfl rfl rfl (by decide) (by decide) (by decide)).mono fun _ _ ⟨he, hw⟩ => ⟨by rw [he, acc_un _ (s1 x) (mix_push x 17 19 10 (by decide) (by decide))], hw.symm⟩
theorem ref_ch (x y z : BitVec 32) (w : World) : Calls Tryz.prog 110 #[.int .u32 (un x), .int .u32 (un y), .int .u32 (un z)] w fun e w' => e = .returned (.int .u32 (un (ch x y z))) ∧ w' = w :=
  (choice_any x y z w).mono fun _ _ ⟨he, hw⟩ => ⟨by rw [he, acc_un _ (ch x y z) (ch_acc x y z)], hw.symm⟩
theorem ref_maj (x y z : BitVec 32) (w : World) : Calls Tryz.prog 111 #[.int .u32 (un x), .int .u32 (un y), .int .u32 (un z)] w fun e w' => e = .returned (.int .u32 (un (maj x y z))) ∧ w' = w :=
  (majority_any x y z w).mono fun _ _ ⟨he, hw⟩ => ⟨by rw [he, acc_un _ (maj x y z) (maj_acc x y z)], hw.symm⟩

/-- the reference's order of the sums -/
theorem rT_ref (l : List (BitVec 32)) (n : BitVec 32) : gw l 7 + S1 (gw l 4) + ch (gw l 4) (gw l 5) (gw l 6) + n = rT l n := rfl
theorem rA_ref (l : List (BitVec 32)) (n : BitVec 32) : rT l n + S0 (gw l 0) + maj (gw l 0) (gw l 1) (gw l 2) = rA l n := rfl

set_option maxHeartbeats 1000000 in
theorem refRound_any (l : List (BitVec 32)) (n : BitVec 32) (w : World) (hl : l.length = 8) :
    Calls Tryz.prog 81 #[.agg (wv l), .int .u32 (un n)] w fun e w' => e = .returned (.agg (wv (round l n))) ∧ Below w.heap.size w w' := by
  have H := Lib.hid hl
  clear hl
  go_enter Tryz.func81, Tryz.ntmps81
  go_wp2_with fail
  refine wp_region_still_lit (by kernel_rfl) (by kernel_rfl) ?_
  have hb : Below w.heap.size w (((w.alloc (.cells (wv l) 63)).alloc (.cells (wv (List.replicate 8 0)) 63)).drew) := (((Below.refl _ _).alloc (Nat.le_refl _) _).alloc (by simp) _).drew
  have h1 : Has (((w.alloc (.cells (wv l) 63)).alloc (.cells (wv (List.replicate 8 0)) 63)).drew) w.heap.size 63 (wv l) := ((Has.new _ _ _ _ rfl).alloc _).drew
  have h2 : Has (((w.alloc (.cells (wv l) 63)).alloc (.cells (wv (List.replicate 8 0)) 63)).drew) (w.heap.size + 1) 63 (wv (List.replicate 8 0)) := (Has.new _ _ _ _ (by simp)).drew
  change wpStill _ _ (((w.alloc (.cells (wv l) 63)).alloc (.cells (wv (List.replicate 8 0)) 63)).drew) (fun a' => Exit.then _ _ .normal a' (((w.alloc (.cells (wv l) 63)).alloc (.cells (wv (List.replicate 8 0)) 63)).drew)) _ _
  generalize (((w.alloc (.cells (wv l) 63)).alloc (.cells (wv (List.replicate 8 0)) 63)).drew) = w1 at *
  have c0 := (h1.cell 0).trans (wv_at l 0 (by rw [H.out]; decide))
  have c1 := (h1.cell 1).trans (wv_at l 1 (by rw [H.out]; decide))
  have c2 := (h1.cell 2).trans (wv_at l 2 (by rw [H.out]; decide))
  have c3 := (h1.cell 3).trans (wv_at l 3 (by rw [H.out]; decide))
  have c4 := (h1.cell 4).trans (wv_at l 4 (by rw [H.out]; decide))
  have c5 := (h1.cell 5).trans (wv_at l 5 (by rw [H.out]; decide))
  have c6 := (h1.cell 6).trans (wv_at l 6 (by rw [H.out]; decide))
  have c7 := (h1.cell 7).trans (wv_at l 7 (by rw [H.out]; decide))
  have HB := Lib.hid hb
  have H1 := Lib.hid h1
  have H2 := Lib.hid h2
  clear hb h1 h2
  iterate 4 still_step
  still_call (ref_S1 _ _)
  iterate 7 still_step
  still_call (ref_ch _ _ _ _)
  repeat still_step
  refine wpStill_nil ?_
  rw [rT_ref]
  go_wp2_with fail
  refine wp_region_still_lit (by kernel_rfl) (by kernel_rfl) ?_
  have hb : Below w.heap.size w w1.drew := HB.out.drew
  have h1 : Has w1.drew w.heap.size 63 (wv l) := H1.out
  have h2 : Has w1.drew (w.heap.size + 1) 63 (wv (List.replicate 8 0)) := H2.out
  change wpStill _ _ w1.drew (fun a' => Exit.then _ _ .normal a' w1.drew) _ _
  clear c0 c1 c2 c3 c4 c5 c6 c7 HB H1 H2
  generalize w1.drew = w2 at *
  have c0 := (h1.cell 0).trans (wv_at l 0 (by rw [H.out]; decide))
  have c1 := (h1.cell 1).trans (wv_at l 1 (by rw [H.out]; decide))
  have c2 := (h1.cell 2).trans (wv_at l 2 (by rw [H.out]; decide))
  have c3 := (h1.cell 3).trans (wv_at l 3 (by rw [H.out]; decide))
  have c4 := (h1.cell 4).trans (wv_at l 4 (by rw [H.out]; decide))
  have c5 := (h1.cell 5).trans (wv_at l 5 (by rw [H.out]; decide))
  have c6 := (h1.cell 6).trans (wv_at l 6 (by rw [H.out]; decide))
  have HB := Lib.hid hb
  have H2 := Lib.hid h2
  clear hb h1 h2
  iterate 3 still_step
  still_call (ref_S0 _ _)
  iterate 7 still_step
  still_call (ref_maj _ _ _ _)
  repeat still_step
  refine wpStill_nil ?_
  rw [rA_ref]
  go_wp2_with (refine wpList_store_row rfl 63 _ _ rfl (w.heap.size + 1) (wv (round l n)) rfl rfl 63 _ H2.out (szW8 _ (round_len _ _)) rfl (wv_one _) ?_)
  refine bodyPost_ret (v := .agg (wv (round l n))) ?_ rfl ⟨rfl, ?_⟩
  · exact results_cell_row rfl _ _ (w.heap.size + 1) 63 _ (0, 0) _ rfl (H2.out.row _) Tryz.underlying63 rfl (szW8 _ (round_len _ _))
  · exact below_row HB.out (by omega) _

/-- a word of the schedule, as it grows byte by byte -/
def SJ (l : List (BitVec 8)) (w : World) (k j : Nat) (wr : World) : Prop :=
  Has wr w.heap.size 88 (bv l) ∧ Has wr (w.heap.size + 1) 109 (wv (List.replicate 64 0)) ∧ Has wr (w.heap.size + 2) 109 (wv ((sched l k).set k (part l k j))) ∧ Below w.heap.size w wr
theorem SJ.start {l : List (BitVec 8)} {w wr : World} {k : Nat} (h : SI l w k wr) : SJ l w k 0 wr :=
  ⟨h.1, h.2.1, by rw [set_same _ _ _ (by rw [sched_zero l k k (Nat.le_refl _)]; rfl)]; exact h.2.2.1, h.2.2.2⟩
theorem SJ.stop {l : List (BitVec 8)} {w wr : World} {k : Nat} (h : SJ l w k 4 wr) (hk : k < 16) : SI l w (k + 1) wr :=
  ⟨h.1, h.2.1, by have := h.2.2.1; rw [part_word, ← nextW_lo l (sched l k) k hk] at this; exact this, h.2.2.2⟩
theorem SJ.keep {l : List (BitVec 8)} {w wr w1 : World} {k j : Nat} (h : SJ l w k j wr) (hb : Below wr.heap.size wr w1) : SJ l w k j w1 :=
  ⟨h.1.below hb h.1.lt, h.2.1.below hb h.2.1.lt, h.2.2.1.below hb h.2.2.1.lt, h.2.2.2.trans (hb.mono h.2.2.2.size)⟩
theorem SJ.step {l : List (BitVec 8)} {w wr : World} {k j : Nat} (h : SJ l w k j wr) : SJ l w k (j + 1) (wr.setCell ⟨w.heap.size + 2, k, none⟩ (.int .u32 (un (part l k j <<< 8 + e8 (gb l (4 * k + j)))))) :=
  ⟨h.1.far (by simp) _, h.2.1.far (by simp) _, by have := h.2.2.1.set k (.int .u32 (un (part l k j <<< 8 + e8 (gb l (4 * k + j))))); rw [wv_set, List.set_set] at this; exact this, h.2.2.2.setCell (by simp) _⟩

set_option maxHeartbeats 2000000 in
theorem refSchedule_any (l : List (BitVec 8)) (w : World) (hl : l.length = 64) :
    Calls Tryz.prog 80 #[.agg (bv l)] w fun e w' => e = .returned (.agg (wv (sched l 64))) ∧ Below w.heap.size w w' := by
  have H := Lib.hid hl
  clear hl
  go_enter Tryz.func80, Tryz.ntmps80
  go_wp2
  go_loopw [4] (fun i wr => ∃ k : Nat, k ≤ 64 ∧ i = .int .i64 k ∧ SI l w k wr) (fun i _ => 64 - (intOf i).toNat)
  case atStart =>
    exact ⟨0, by omega, rfl, (((Has.new _ _ _ _ rfl).alloc _).alloc _), ((Has.new _ _ _ _ (by simp)).alloc _), Has.new _ _ _ _ (by simp), (((Below.refl _ _).alloc (Nat.le_refl _) _).alloc (by simp) _).alloc (by simp; omega) _⟩
  case round =>
    obtain ⟨k, hk, rfl, hs⟩ := hrel
    by_cases hlt : k < 64
    · by_cases h16 : k < 16
      · go_wp2
        rw [show decide ((k : Int) < 64) = true from decide_eq_true (by omega), show decide ((k : Int) < 16) = true from decide_eq_true (by omega)]
        obtain ⟨wo, rfl⟩ : ∃ wo : World, wo = wr := ⟨_, rfl⟩
        go_loopw [5] (fun i wr => ∃ j : Nat, j ≤ 4 ∧ i = .int .i64 j ∧ SJ l w k j wr) (fun i _ => 4 - (intOf i).toNat)
        case atStart => exact ⟨0, by omega, rfl, SJ.start hs⟩
        case round =>
          clear hs
          obtain ⟨j, hj, rfl, hs⟩ := hrel
          by_cases hlj : j < 4
          · go_wp2
            refine wp_region_still_tail 14 (by kernel_rfl) (by kernel_rfl) ?_
            simp only [List.take_succ_cons, List.take_zero, List.drop_succ_cons, List.drop_zero]
            have hs2 : SJ l w k j wr.drew := SJ.keep hs (Below.refl _ _).drew
            change wpStill _ _ wr.drew (fun a' => wpList _ _ _ _ a' wr.drew) _ _
            clear hs
            generalize wr.drew = wz at *
            have hc := (hs2.2.2.1.cell k).trans (wv_at _ k (by rw [List.length_set, sched_len]; exact hlt))
            rw [set_gw _ _ _ (by rw [sched_len]; exact hlt)] at hc
            have hf := hs2.2.2.1.frozen k
            have hbl := (hs2.1.cell (4 * k + j)).trans (bv_at l (4 * k + j) (by rw [H.out]; omega))
            have hmul : IntKind.i64.wrap (4 * (k : Int)) = 4 * (k : Int) := IntWalk.i64_in _ (by omega)
            have hsum : IntKind.i64.wrap (4 * (k : Int) + (j : Int)) = 4 * (k : Int) + (j : Int) := IntWalk.i64_in _ (by omega)
            have b0 : 0 ≤ 4 * (k : Int) + (j : Int) := by omega
            have b1 : 4 * (k : Int) + (j : Int) < 64 := by omega
            have b2 : (4 * (k : Int) + (j : Int)).toNat = 4 * k + j := by omega
            have bk : (k : Int) < 64 := by omega
            have h8 : IntKind.u32.wrap (un (part l k j) * 256) = un (part l k j <<< 8) := by rw [IntKind.wrap_u32, un_shl8]
            repeat still_step
            refine wpStill_nil ?_
            clear b2 h8 hmul hsum
            go_wp2
            go_roundw
            case rel => exact ⟨j + 1, by omega, by go_num, SJ.step hs2⟩
            case measure => simp [intOf]; omega
          · obtain rfl : j = 4 := by omega
            have hs4 := SJ.stop hs h16
            clear hs
            go_wp2
            go_roundw
            case rel => exact ⟨k + 1, by omega, by go_num, hs4⟩
            case measure => simp [intOf]; omega
      · go_wp2
        refine wp_region_still_tail 23 (by kernel_rfl) (by kernel_rfl) ?_
        simp only [List.take_succ_cons, List.take_zero, List.drop_succ_cons, List.drop_zero]
        have hs2 : SI l w k wr.drew := SI.keep hs (Below.refl _ _).drew
        change wpStill _ _ wr.drew (fun a' => wpList _ _ _ _ a' wr.drew) _ _
        clear hs
        generalize wr.drew = wz at *
        have r2 := hs2.cell (k - 2) (by omega)
        have r7 := hs2.cell (k - 7) (by omega)
        have r15 := hs2.cell (k - 15) (by omega)
        have r16 := hs2.cell (k - 16) (by omega)
        have hc := hs2.cell k hlt
        have hf := hs2.free k
        have w16 : IntKind.i64.wrap ((k : Int) - 16) = ((k - 16 : Nat) : Int) := by rw [IntWalk.i64_in _ (by omega)]; omega
        have w15 : IntKind.i64.wrap ((k : Int) - 15) = ((k - 15 : Nat) : Int) := by rw [IntWalk.i64_in _ (by omega)]; omega
        have w7 : IntKind.i64.wrap ((k : Int) - 7) = ((k - 7 : Nat) : Int) := by rw [IntWalk.i64_in _ (by omega)]; omega
        have w2 : IntKind.i64.wrap ((k : Int) - 2) = ((k - 2 : Nat) : Int) := by rw [IntWalk.i64_in _ (by omega)]; omega
        have b16 : ((k - 16 : Nat) : Int) < 64 := by omega
        have b15 : ((k - 15 : Nat) : Int) < 64 := by omega
        have b7 : ((k - 7 : Nat) : Int) < 64 := by omega
        have b2 : ((k - 2 : Nat) : Int) < 64 := by omega
        have bk : (k : Int) < 64 := by omega
        iterate 9 still_step
        still_call (ref_s0 _ _)
        iterate 10 still_step
        still_call (ref_s1 _ _)
        repeat still_step
        refine wpStill_nil ?_
        clear w16 w15 w7 w2 b16 b15 b7 b2
        go_wp2
        go_roundw
        case rel =>
          refine ⟨k + 1, by omega, by go_num, ?_⟩
          have hs3 := hs2.step
          rw [nextW_hi _ _ _ (by omega)] at hs3
          exact hs3
        case measure => simp [intOf]; omega
    · obtain rfl : k = 64 := by omega
      go_wp2_with (first | (refine wpList_load_row rfl 109 _ rfl (w.heap.size + 2) rfl 109 (wv (sched l 64)) (0, 0) _ hs.2.2.1 Tryz.underlying109 rfl (szW64 _ (sched_len _ _)) ?_) | (refine wpList_store_row rfl 109 _ _ rfl (w.heap.size + 1) (wv (sched l 64)) rfl rfl 109 _ hs.2.1 (szW64 _ (sched_len _ _)) (by rw [wv_size, wv_size, sched_len]; rfl) (wv_one _) ?_) | fail)
      refine bodyPost_ret (v := .agg (wv (sched l 64))) ?_ rfl ⟨rfl, ?_⟩
      · exact results_cell_row rfl _ _ (w.heap.size + 1) 109 _ (0, 0) _ rfl (hs.2.1.row _) Tryz.underlying109 rfl (szW64 _ (sched_len _ _))
      · exact below_row hs.2.2.2 (by omega) _
end Go.Proofs.YticggkllfojgkaaGreatDoor
