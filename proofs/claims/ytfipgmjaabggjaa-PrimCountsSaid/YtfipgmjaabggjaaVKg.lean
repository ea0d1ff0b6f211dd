/-
  prim: Int.
-/
import Derived.Test.YtfipgmjaabggjaaVKf
import Derived.Shelf.Strconv.Itoa0
namespace Go.Proofs.Ytfipgmjaabggjaa
open Go Go.RowKit Go.Shelf
set_option maxRecDepth 4000

def Len64Laid_ren : Go.Shelf.Ren := ⟨fun | 129 => 33 | n => n, fun | 53 => 73 | 3 => 3 | 4 => 4 | 46 => 74 | 5 => 5 | 9 => 9 | n => n, fun | n => n⟩
theorem Len64Laid : Go.Proofs.Lays.n129 Try.prog Len64Laid_ren := {
  mixed := by kernel_rfl
  f129 := Try.func33.trans (congrArg some (by kernel_rfl))
  t3 := Try.underlying3
  a3 := Try.isAgg3
  z3 := Try.sizeOf3
  v3 := Try.zeroValue3
  t4 := Try.underlying4
  a4 := Try.isAgg4
  z4 := Try.sizeOf4
  v4 := Try.zeroValue4
  t5 := Try.underlying5
  a5 := Try.isAgg5
  z5 := Try.sizeOf5
  v5 := Try.zeroValue5
  t9 := Try.underlying9
  a9 := Try.isAgg9
  z9 := Try.sizeOf9
  v9 := Try.zeroValue9
  t46 := Try.underlying74
  a46 := Try.isAgg74
  z46 := Try.sizeOf74
  v46 := Try.zeroValue74
  t53 := Try.underlying73
  a53 := Try.isAgg73
  z53 := Try.sizeOf73
  v53 := Try.zeroValue73 }
theorem Len64_any (x : Nat) (hx : x < 18446744073709551616) (w : World) : Calls Try.prog 33 #[.int .u64 (x : Int)] w fun e w' => e = .returned (.int .i64 (Lib.bitLen x : Int)) ∧ w' = w := by
  have h := Any.bits_Len64 Len64Laid (x : Int) w (by omega) (by omega)
  rw [Int.toNat_natCast] at h
  exact h
/-- the row that Int builds: zeros, then the lowest bytes -/
theorem intL_row (n : Int) (k j : Nat) (h : j < k) : (zb (k - j) ++ intL n j).set (k - 1 - j) (BitVec.ofNat 8 ((n / ((256 ^ j : Nat) : Int)) % 256).toNat) = zb (k - (j + 1)) ++ intL n (j + 1) := by
  obtain ⟨d, rfl⟩ : ∃ d, k = j + (d + 1) := ⟨k - j - 1, by omega⟩
  rw [show j + (d + 1) - j = d + 1 by omega, show j + (d + 1) - 1 - j = d by omega, show j + (d + 1) - (j + 1) = d by omega]
  rw [List.set_append_left _ _ (by rw [zb_len]; omega), intL]
  have e : zb (d + 1) = zb d ++ [0] := by unfold zb; rw [List.replicate_succ']
  rw [e, List.set_append_right _ _ (by rw [zb_len]; exact Nat.le_refl _), zb_len, Nat.sub_self]
  simp
theorem byte_shr (n : Int) (j : Nat) : IntKind.u8.wrap (n / ((256 ^ j : Nat) : Int)) = ub (BitVec.ofNat 8 ((n / ((256 ^ j : Nat) : Int)) % 256).toNat) := by
  unfold ub
  rw [byt_nat, IntKind.wrap_u8]
  omega
theorem pow_shr (j : Nat) : ((2 : Int) ^ (8 * j)) = ((256 ^ j : Nat) : Int) := by
  rw [Nat.pow_mul' 2 8 j |> fun h => (by rw [Nat.pow_mul] : (256 ^ j : Nat) = 2 ^ (8 * j))]
  exact (Int.natCast_pow 2 (8 * j)).symm
set_option maxHeartbeats 2000000 in
theorem Int_any (n : Int) (w : World) (h0 : -9223372036854775808 ≤ n) (h1 : n < 9223372036854775808) :
    ∃ k l, l.length = k ∧ 1 ≤ k ∧ k ≤ 8 ∧ tcB l = true ∧ tcV l = n ∧ Calls Try.prog 11 #[.int .i64 n] w fun e w' => Fresh w k l e w' := by
  have hm : magN n < 9223372036854775808 := by unfold magN; split <;> omega
  obtain ⟨k, hk, hk7, hb63, hk1, hk2⟩ := kN_ok (magN n) hm
  obtain ⟨ht1, ht2⟩ := intL_ok n k hk1 hk2
  refine ⟨k + 1, intL n (k + 1), intL_len _ _, by omega, by omega, ht1, ht2, ?_⟩
  have hs : ∃ z, n / 9223372036854775808 = z ∧ bits .xor .i64 n z = (magN n : Int) := by
    rcases Int.lt_or_le n 0 with hn | hn
    · exact ⟨-1, sign_neg n hn h0⟩
    · exact ⟨0, sign_pos n hn h1⟩
  obtain ⟨z, z1, z2⟩ := hs
  have hL := Len64_any (magN n) (by omega)
  have v1 : IntKind.u64.wrap (magN n : Int) = (magN n : Int) := by rw [IntKind.wrap_u64]; omega
  unfold kN at hk
  generalize Lib.bitLen (magN n) = B at *
  generalize magN n = M at *
  have e0 : IntKind.i64.wrap ((B : Int) + 1) = (B : Int) + 1 := by rw [IntKind.wrap_i64]; omega
  have e1 : IntKind.i64.wrap ((B : Int) + 1 + 7) = (B : Int) + 8 := by rw [IntKind.wrap_i64]; omega
  have e2 : ((B : Int) + 8).tdiv 8 = ((k + 1 : Nat) : Int) := by rw [Int.tdiv_eq_ediv_of_nonneg (by omega)]; omega
  have hrow := fun j => intL_row n (k + 1) j
  have hlen := intL_len n (k + 1)
  obtain ⟨K, hKe⟩ : ∃ K, K = k + 1 := ⟨_, rfl⟩
  rw [← hKe] at e2 hrow hlen ⊢
  have hK8 : K ≤ 8 := by omega
  have hK1 : 1 ≤ K := by omega
  clear hKe hk hk1 hk2 ht1 ht2 hm hb63 hk7
  have e3 : IntKind.i64.wrap (K : Int) = (K : Int) := by rw [IntKind.wrap_i64]; omega
  have hmk := fun W => run_makeN K (K : Int) rfl (by omega) W
  have HR := Kp.mk hrow
  have HB := Kp.mk (byte_shr n)
  clear hrow
  go_enter Try.func11, Try.ntmps11
  go_wp2_with (go_at_call 33; refine (hL _).mono ?_; rintro e w1 ⟨rfl, rfl⟩)
  clear z1 z2 hL v1 e0 e1 e2 e3 hmk
  obtain ⟨g, hg⟩ : ∃ g, g = w1.heap.size := ⟨_, rfl⟩
  rw [← hg]
  have ho : Own (w1.alloc (.cells (bv (zb K)) 5)) w1.heap.size (.slice (some ⟨w1.heap.size, 0, none⟩) K K) K (zb K) := Own.new w1 _ K (zb K) (zb_len K) (Nat.le_refl _) (by unfold maxLen; omega)
  rw [← hg] at ho
  have HG := Kp.mk hg
  have HX := Kp.mk (show Ext w1 (w1.alloc (.cells (bv (zb K)) 5)) from (by (repeat (first | assumption | exact Ext.refl _ | apply Ext.drew | apply Ext.drewN | apply Ext.alloc | refine Ext.trans ?_ (by assumption))); first | done | fail))
  clear hg
  go_loopw [19] (fun i wr => ∃ j : Nat, j ≤ K ∧ i = .int .i64 (j : Int) ∧ Own wr g (.slice (some ⟨g, 0, none⟩) K K) K (zb (K - j) ++ intL n j) ∧ Ext w1 wr) (fun i _ => K - (intOf i).toNat)
  case atStart => exact ⟨0, by omega, rfl, by simpa [intL] using ho, HX.out⟩
  case round =>
    clear ho HX
    obtain ⟨j, hj, rfl, ho, hx⟩ := hrel
    by_cases hlt : j < K
    · have hcell := fun i hi => ho.cell (g := g) i hi
      obtain ⟨q, hq⟩ : ∃ q, q = K - 1 - j := ⟨_, rfl⟩
      have c1 := hcell q (by omega)
      have c2 := ho.free q
      have s1 : IntKind.i64.wrap ((K : Int) - 1) = (K : Int) - 1 := by rw [IntKind.wrap_i64]; omega
      have s2 : IntKind.i64.wrap ((K : Int) - 1 - (j : Int)) = (q : Int) := by rw [IntKind.wrap_i64]; omega
      have s3 : IntKind.i64.wrap (8 * (j : Int)) = ((8 * j : Nat) : Int) := by rw [IntKind.wrap_i64]; omega
      have b1 : (j : Int) < (K : Int) := by omega
      have b2 : (q : Int) < (K : Int) := by omega
      have HO := Kp.mk ho
      have HX := Kp.mk hx
      have HQ := Kp.mk hq
      clear ho hx hcell hq
      go_wp2_with fail
      refine ⟨⟨j + 1, by omega, by go_num, ?_, HX.out.setCell (HG.out ▸ Nat.le_refl _) _⟩, by simp [intOf]; omega⟩
      have e4 := HB.out j
      rw [IntKind.wrap_u8] at e4
      rw [pow_shr, e4, ← HR.out j hlt, ← HQ.out]
      exact HO.out.set q _
    · obtain rfl : j = K := by omega
      have b1 : ¬ (j : Int) < (j : Int) := by omega
      rw [show j - j = 0 by omega, show zb 0 ++ intL n j = intL n j by rfl] at ho
      go_wp2_with fail
      go_ret
      exact ⟨_, _, rfl, ho.bs, HG.out ▸ ho, hx⟩
end Go.Proofs.Ytfipgmjaabggjaa
