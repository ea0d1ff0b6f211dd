/-
  nat: counted, anyLong (by slices.ContainsFunc), cmp.Compare, Cmp, bits.Len32 and LeadingZeros32.
-/
import Derived.Test.YtpmoaccaknfodaaNh
import Derived.Shelf.Small.Bits
import Derived.Lib.ItoaNum
namespace Go.Proofs.Ytpmoaccaknfodaa
open Go Go.RowKit Go.Shelf

def lenOf : Value → Nat | .slice _ n _ => n | _ => 0
theorem counted_any {l : List Nat} {A : Option Addr} {n c : Nat} {w : World} (h : Rd vL w A n c l) (hd : Dg BB l) (hn : n ≤ 4611686018427387904) :
    Calls Try.prog 35 #[.slice A n c] w fun e w' => ∃ m, m ≤ n ∧ e = .returned (.slice A m c) ∧ l.take m = dgs BB (vl BB l) ∧ w' = w := by
  have HR := Kp.mk h
  have hlen := h.len
  have hcap := h.cap
  clear h
  go_enter Try.func35, Try.ntmps35
  go_wp2_with fail
  go_loopw [0] (fun iv wr => ∃ j : Nat, j ≤ n ∧ iv = .slice A j c ∧ (∀ i, j ≤ i → dg l i = 0) ∧ wr = w) (fun iv _ => lenOf iv)
  case atStart => exact ⟨n, by omega, rfl, fun i hi => dg_out l i (by omega), rfl⟩
  case round =>
    obtain ⟨j, hj, rfl, hz, rfl⟩ := hrel
    have hfin : ∀ m, m = j → (j = 0 ∨ dg l (j - 1) ≠ 0) → l.take m = dgs BB (vl BB l) := fun m hm ht => by
      subst hm
      exact cut_cn (by decide) hd m (by omega) hz ht
    have HF := Kp.mk hfin
    have HZ := Kp.mk hz
    clear hfin hz
    by_cases h0 : j = 0
    · subst h0
      go_wp2_with fail
      go_ret
      exact ⟨0, by omega, rfl, HF.out 0 rfl (by simp), rfl⟩
    · obtain ⟨g, o, rfl⟩ := HR.out.some_ (by omega)
      obtain ⟨k, rfl⟩ : ∃ k, j = k + 1 := ⟨j - 1, by omega⟩
      have c1 := HR.out.dig k (by omega)
      unfold vL at c1
      have e1 : ((k + 1 : Nat) : Int) - 1 = (k : Int) := by omega
      have b0 : (0 : Int) < ((k + 1 : Nat) : Int) := by omega
      have b1 : (k : Int) < (n : Int) := by omega
      have e2 : IntKind.i64.wrap (k : Int) = (k : Int) := by rw [IntKind.wrap_i64]; omega
      have hs := fun W => run_upto (P := Try.prog) (some ⟨g, o, none⟩) (k + 1) c nt ut Try.underlying23 szL k (k : Int) rfl (by omega) W
      by_cases hq : dg l k = 0
      · rw [hq] at c1
        have HQ := Kp.mk hq
        clear hq
        go_wp2_with fail
        go_roundw
        case rel => exact ⟨k, by omega, rfl, (fun i hi => by
          by_cases he : i = k
          · rw [he]; exact HQ.out
          · exact HZ.out i (by omega)), by trivial⟩
        case measure => simp [lenOf]
      · have hq2 : ¬ (dg l k : Int) = 0 := by omega
        have HQ := Kp.mk hq
        clear hq
        go_wp2_with fail
        go_ret
        exact ⟨k + 1, by omega, rfl, HF.out (k + 1) rfl (.inr HQ.out), rfl⟩
/-- how many limbs count -/
def nl (v : Nat) : Nat := (dgs BB v).length
/-- the limbs that count -/
theorem counted_rd {l : List Nat} {A : Option Addr} {n c : Nat} {w : World} (h : Rd vL w A n c l) (hd : Dg BB l) (hn : n ≤ 4611686018427387904) :
    Calls Try.prog 35 #[.slice A n c] w fun e w' => e = .returned (.slice A (nl (vl BB l)) c) ∧ nl (vl BB l) ≤ n ∧ Rl w A (nl (vl BB l)) c (vl BB l) ∧ w' = w := by
  refine (counted_any h hd hn).mono ?_
  rintro e w' ⟨m, hm, rfl, hr, rfl⟩
  have hl := h.len
  have e1 : nl (vl BB l) = m := by
    unfold nl
    rw [← hr, List.length_take]
    omega
  rw [e1]
  refine ⟨rfl, hm, ?_, rfl⟩
  have h2 := h.take m hm
  rw [hr] at h2
  exact h2
theorem counted_own {l : List Nat} {A : Option Addr} {n c B : Nat} {w : World} (h : Rw ut vL w B (.slice A n c) n l) (hd : Dg BB l) (hn : n ≤ 4611686018427387904) :
    Calls Try.prog 35 #[.slice A n c] w fun e w' => e = .returned (.slice A (nl (vl BB l)) c) ∧ nl (vl BB l) ≤ n ∧ Rw ut vL w B (.slice A (nl (vl BB l)) c) (nl (vl BB l)) (dgs BB (vl BB l)) ∧ w' = w := by
  refine (counted_any h.rd hd hn).mono ?_
  rintro e w' ⟨m, hm, rfl, hr, rfl⟩
  have hl := h.len
  have e1 : nl (vl BB l) = m := by
    unfold nl
    rw [← hr, List.length_take]
    omega
  rw [e1]
  refine ⟨rfl, hm, ?_, rfl⟩
  rw [← hr]
  exact h.take hm
def Len32Laid_ren : Go.Shelf.Ren := ⟨fun | 128 => 65 | n => n, fun | 51 => 47 | 3 => 3 | 4 => 4 | 46 => 81 | 5 => 5 | 9 => 9 | n => n, fun | n => n⟩
theorem Len32Laid : Go.Proofs.Lays.n128 Try.prog Len32Laid_ren := {
  mixed := by kernel_rfl
  f128 := Try.func65.trans (congrArg some (by kernel_rfl))
  t3 := Try.underlying3
  a3 := Try.isAgg3
  z3 := Try.sizeOf3
  v3 := Try.zeroValue3
  t4 := Try.underlying4
  a4 := Try.isAgg4
  z4 := Try.sizeOf4
  v4 := Try.zeroValue4
  t5 := Try.underlying5
  a5 := Try.isAgg5
  z5 := Try.sizeOf5
  v5 := Try.zeroValue5
  t9 := Try.underlying9
  a9 := Try.isAgg9
  z9 := Try.sizeOf9
  v9 := Try.zeroValue9
  t46 := Try.underlying81
  a46 := Try.isAgg81
  z46 := Try.sizeOf81
  v46 := Try.zeroValue81
  t51 := Try.underlying47
  a51 := Try.isAgg47
  z51 := Try.sizeOf47
  v51 := Try.zeroValue47 }
theorem Len32_any (x : Nat) (hx : x < 4294967296) (w : World) : Calls Try.prog 65 #[.int .u32 (x : Int)] w fun e w' => e = .returned (.int .i64 (Lib.bitLen x : Int)) ∧ w' = w := by
  have h := Any.bits_Len32 Len32Laid (x : Int) w (by omega) (by omega)
  rw [Int.toNat_natCast] at h
  exact h
theorem Dg.at32 {l : List Nat} (h : Dg BB l) (i : Nat) : dg l i < 4294967296 := h.at (by decide) i
theorem LeadingZeros32_any (x : Nat) (hx : x < 4294967296) (h0 : x ≠ 0) (w : World) : Calls Try.prog 67 #[.int .u32 (x : Int)] w fun e w' => ∃ k : Nat, k ≤ 31 ∧ x * 2 ^ k < 4294967296 ∧ e = .returned (.int .i64 (k : Int)) ∧ w' = w := by
  obtain ⟨h1, h2, h3⟩ := Lib.bitLenAux_bounds 64 x (by omega) h0
  have h4 : Lib.bitLenAux 64 x ≤ 32 := Lib.bitLenAux_le 64 x 32 (by omega)
  have hL := Len32_any x hx
  unfold Lib.bitLen at hL
  generalize Lib.bitLenAux 64 x = B at *
  have e1 : ((32 : Int) - (B : Int)) = ((32 - B : Nat) : Int) := by omega
  have e2 : IntKind.i64.wrap ((32 - B : Nat) : Int) = ((32 - B : Nat) : Int) := by rw [IntKind.wrap_i64]; omega
  have hp : x * 2 ^ (32 - B) < 4294967296 := by
    have h5 : x * 2 ^ (32 - B) < 2 ^ B * 2 ^ (32 - B) := Nat.mul_lt_mul_of_pos_right h3 (Nat.pow_pos (by decide))
    rw [← Nat.pow_add, show B + (32 - B) = 32 by omega] at h5
    exact h5
  have hk : 32 - B ≤ 31 := by omega
  generalize 32 - B = k at *
  have HK := Kp.mk (And.intro hk hp)
  clear h1 h2 h3 h4 hk hp hx h0
  go_enter Try.func67, Try.ntmps67
  go_wp2_with (go_at_call 65; refine (hL _).mono ?_; rintro e w1 ⟨rfl, rfl⟩)
  go_ret
  exact ⟨k, HK.out.1, HK.out.2, by first | rfl | go_num, rfl⟩
/-- cmp.Compare of ints and limbs -/
theorem isNaN_any (x : Int) (w : World) : Calls Try.prog 50 #[.int .i64 x] w fun e w' => e = .returned (.bool false) ∧ w' = w := by
  go_enter Try.func50, Try.ntmps50
  go_wp2_with fail
  go_ret
  exact ⟨by simp, rfl⟩
theorem isNaNu_any (x : Int) (w : World) : Calls Try.prog 51 #[.int .u32 x] w fun e w' => e = .returned (.bool false) ∧ w' = w := by
  go_enter Try.func51, Try.ntmps51
  go_wp2_with fail
  go_ret
  exact ⟨by simp, rfl⟩
theorem Compare_any (x y : Nat) (w : World) : Calls Try.prog 36 #[.int .i64 (x : Int), .int .i64 (y : Int)] w fun e w' => e = .returned (.int .i64 (cmpI x y)) ∧ w' = w := by
  rcases Nat.lt_trichotomy x y with h | h | h
  · rw [cmpI_lt h]
    have h1 : (x : Int) < (y : Int) := by omega
    go_enter Try.func36, Try.ntmps36
    go_wp2_with (go_at_call 50; refine (isNaN_any _ _).mono ?_; rintro e w1 ⟨rfl, rfl⟩)
    go_ret
    exact ⟨rfl, rfl⟩
  · subst h
    rw [cmpI_eq]
    go_enter Try.func36, Try.ntmps36
    go_wp2_with (go_at_call 50; refine (isNaN_any _ _).mono ?_; rintro e w1 ⟨rfl, rfl⟩)
    go_ret
    exact ⟨rfl, rfl⟩
  · rw [cmpI_gt h]
    have h1 : (y : Int) < (x : Int) := by omega
    have h2 : ¬ (x : Int) < (y : Int) := by omega
    go_enter Try.func36, Try.ntmps36
    go_wp2_with (go_at_call 50; refine (isNaN_any _ _).mono ?_; rintro e w1 ⟨rfl, rfl⟩)
    go_ret
    exact ⟨rfl, rfl⟩
theorem Compareu_any (x y : Nat) (w : World) : Calls Try.prog 37 #[.int .u32 (x : Int), .int .u32 (y : Int)] w fun e w' => e = .returned (.int .i64 (cmpI x y)) ∧ w' = w := by
  rcases Nat.lt_trichotomy x y with h | h | h
  · rw [cmpI_lt h]
    have h1 : (x : Int) < (y : Int) := by omega
    go_enter Try.func37, Try.ntmps37
    go_wp2_with (go_at_call 51; refine (isNaNu_any _ _).mono ?_; rintro e w1 ⟨rfl, rfl⟩)
    go_ret
    exact ⟨rfl, rfl⟩
  · subst h
    rw [cmpI_eq]
    go_enter Try.func37, Try.ntmps37
    go_wp2_with (go_at_call 51; refine (isNaNu_any _ _).mono ?_; rintro e w1 ⟨rfl, rfl⟩)
    go_ret
    exact ⟨rfl, rfl⟩
  · rw [cmpI_gt h]
    have h1 : (y : Int) < (x : Int) := by omega
    have h2 : ¬ (x : Int) < (y : Int) := by omega
    go_enter Try.func37, Try.ntmps37
    go_wp2_with (go_at_call 51; refine (isNaNu_any _ _).mono ?_; rintro e w1 ⟨rfl, rfl⟩)
    go_ret
    exact ⟨rfl, rfl⟩
end Go.Proofs.Ytpmoaccaknfodaa
