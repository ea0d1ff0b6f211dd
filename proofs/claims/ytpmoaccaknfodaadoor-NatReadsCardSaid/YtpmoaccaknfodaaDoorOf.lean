/-
  nat: bitsOf, hasBit; power.
-/
import Derived.Test.YtpmoaccaknfodaaDoorOe
import Derived.Test.YtpmoaccaknfodaaDoorOc
namespace Go.Proofs.YtpmoaccaknfodaaDoor
open Go Go.RowKit

theorem bitLen_hi (x : Nat) (hx : x < 4294967296) : x < 2 ^ Lib.bitLen x ∧ Lib.bitLen x ≤ 32 := by
  unfold Lib.bitLen
  by_cases h0 : x = 0
  · subst h0
    exact ⟨Nat.pow_pos (by decide), Lib.bitLenAux_le 64 0 32 (by decide)⟩
  · exact ⟨(Lib.bitLenAux_bounds 64 x (by omega) h0).2.2, Lib.bitLenAux_le 64 x 32 (by omega)⟩
theorem bitsOf_any {l : List Nat} {A : Option Addr} {n c : Nat} {w : World} (h : Rd vL w A n c l) (hd : Dg BB l) (hn : n ≤ 1000000) :
    Calls Tryd.prog 25 #[.slice A n c] w fun e w' => ∃ k : Nat, e = .returned (.int .i64 (k : Int)) ∧ vl BB l < 2 ^ k ∧ k ≤ 32 * n ∧ w' = w := by
  have hl := h.len
  by_cases h0 : n = 0
  · subst h0
    have e : l = [] := List.eq_nil_of_length_eq_zero hl
    subst e
    clear h hd
    go_enter Tryd.func25, Tryd.ntmps25
    go_wp2_with fail
    go_ret
    exact ⟨0, rfl, by decide, by omega, rfl⟩
  · obtain ⟨q, rfl⟩ : ∃ q, n = q + 1 := ⟨n - 1, by omega⟩
    obtain ⟨g, o, rfl⟩ := h.some_ (by omega)
    have k1 := h.dig q (by omega)
    unfold vL at k1
    have h1 := hd.at32 q
    have hb := bitLen_hi (dg l q) h1
    have hv : vl BB l < 2 ^ (32 * q + Lib.bitLen (dg l q)) := by
      have h2 := vl_split BB l q (by omega)
      rw [List.drop_eq_nil_of_le (by omega)] at h2
      simp only [vl, Nat.mul_zero, Nat.add_zero] at h2
      have h3 := vl_lt (by decide) (hd.take q)
      rw [List.length_take, Nat.min_eq_left (by omega)] at h3
      have h4 : BB ^ q * (dg l q + 1) ≤ BB ^ q * 2 ^ Lib.bitLen (dg l q) := Nat.mul_le_mul_left _ hb.1
      rw [Nat.mul_succ] at h4
      rw [Nat.pow_add, Nat.pow_mul, show (2 : Nat) ^ 32 = BB from rfl]
      omega
    have hL := Len32_any (dg l q) h1
    have e1 : ((q + 1 : Nat) : Int) - 1 = (q : Int) := by omega
    have b1 : (q : Int) < ((q + 1 : Nat) : Int) := by omega
    have b2 : ¬ ((q + 1 : Nat) : Int) = 0 := by omega
    have hb2 := hb.2
    have HV := Kp.mk hv
    clear h hd hv hb
    generalize dg l q = y at *
    generalize Lib.bitLen y = B at *
    go_enter Tryd.func25, Tryd.ntmps25
    go_wp2_with fail
    refine (hL _).mono ?_
    rintro e w1 ⟨rfl, rfl⟩
    go_wp2_with fail
    go_ret
    exact ⟨32 * q + B, by first | rfl | go_num, HV.out, by omega, rfl⟩
theorem and1 (y : Nat) (hy : y < 4294967296) : bits .and .u32 (y : Int) 1 = ((y % 2 : Nat) : Int) := by
  show IntKind.u32.wrap ((BitVec.ofInt 32 (y : Int) &&& BitVec.ofInt 32 1).toNat : Int) = _
  rw [BitVec.ofInt_natCast, show BitVec.ofInt 32 1 = BitVec.ofNat 32 1 by decide, BitVec.toNat_and, BitVec.toNat_ofNat, BitVec.toNat_ofNat, Nat.mod_eq_of_lt (by omega), show 1 % 2 ^ 32 = 1 by decide, Nat.and_one_is_mod, IntKind.wrap_u32]
  omega
theorem hasBit_any {l : List Nat} {A : Option Addr} {n c i : Nat} {w : World} (h : Rd vL w A n c l) (hd : Dg BB l) (hn : n ≤ 1000000) (hi : i < 32 * n) :
    Calls Tryd.prog 39 #[.slice A n c, .int .i64 (i : Int)] w fun e w' => e = .returned (.bool (decide (vl BB l / 2 ^ i % 2 = 1))) ∧ w' = w := by
  have hq : i / 32 < n := by omega
  rw [show vl BB l / 2 ^ i % 2 = dg l (i / 32) / 2 ^ (i % 32) % 2 from bit_dg 32 l hd i (by decide)]
  obtain ⟨g, o, rfl⟩ := h.some_ (by omega)
  have k1 := h.dig (i / 32) (by omega)
  unfold vL at k1
  have h1 := hd.at32 (i / 32)
  have q1 : (i : Int) / 32 = ((i / 32 : Nat) : Int) := by omega
  have q2 : (i : Int) % 32 = ((i % 32 : Nat) : Int) := by omega
  have hr : i % 32 < 32 := by omega
  have hib : (i : Int) < 32000000 := by omega
  clear h hd
  generalize dg l (i / 32) = y at *
  obtain ⟨q, hqq⟩ : ∃ q, i / 32 = q := ⟨_, rfl⟩
  obtain ⟨r, hrr⟩ : ∃ r, i % 32 = r := ⟨_, rfl⟩
  rw [hqq] at q1 hq k1
  rw [hrr] at q2 hr ⊢
  have hy : y / 2 ^ r < 4294967296 := Nat.lt_of_le_of_lt (Nat.div_le_self _ _) h1
  have e1 : (y : Int) / 2 ^ r = ((y / 2 ^ r : Nat) : Int) := by simp
  have e2 := and1 (y / 2 ^ r) hy
  generalize y / 2 ^ r = z at *
  have b1 : (q : Int) < (n : Int) := by omega
  clear hqq hrr
  go_enter Tryd.func39, Tryd.ntmps39
  go_wp2_with fail
  go_ret
  refine ⟨?_, rfl⟩
  have e3 : ((z : Int) % 2 == 1) = decide (z % 2 = 1) := by
    rw [Bool.eq_iff_iff, beq_iff_eq, decide_eq_true_iff]
    omega
  rw [← e3]
  rfl
end Go.Proofs.YtpmoaccaknfodaaDoor
