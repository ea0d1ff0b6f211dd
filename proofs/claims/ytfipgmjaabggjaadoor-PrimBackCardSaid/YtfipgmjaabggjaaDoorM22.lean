/-
  prim: isOid; the reference's Oid.
  prim: Int.
  prim: withGroups; the reference's group.
  prim: Oid; the reference's OidBody.
-/
import Derived.Test.YtfipgmjaabggjaaDoorM21
import Derived.Test.YtfipgmjaabggjaaDoorM2
import Derived.Test.YtfipgmjaabggjaaDoorM17
import Derived.Shelf.Strconv.Itoa0
import Derived.Shelf.Small.Bits
namespace Go.Proofs.YtfipgmjaabggjaaDoor
open Go Go.RowKit
set_option maxRecDepth 4000

/-- is a list an identifier? -/
def oidK (l : List Nat) : Bool := decide (2 ≤ l.length) && (decide (l.length ≤ 16) && (decide (dg l 0 ≤ 2) && (if dg l 0 < 2 then decide (dg l 1 < 40) else decide (dg l 1 ≤ 4294967215))))
theorem oidK_iff {l : List Nat} (h : Dg 4294967296 l) : oidK l = true ↔ OidP l := by
  unfold oidK OidP
  constructor
  · intro h1
    simp only [Bool.and_eq_true, decide_eq_true_eq] at h1
    obtain ⟨h2, h3, h4, h5⟩ := h1
    match l, h2 with
    | a :: b :: r, _ =>
      refine ⟨a, b, r, rfl, h3, h4, ?_, ?_, fun n hn => h n (by simp [hn])⟩
      · intro ha
        rw [if_pos (show dg (a :: b :: r) 0 < 2 from ha), decide_eq_true_eq] at h5
        exact h5
      · by_cases ha : a < 2
        · rw [if_pos (show dg (a :: b :: r) 0 < 2 from ha), decide_eq_true_eq] at h5
          have : b < 40 := h5
          omega
        · rw [if_neg (show ¬ dg (a :: b :: r) 0 < 2 from ha), decide_eq_true_eq] at h5
          exact h5
  · rintro ⟨a, b, r, rfl, h3, h4, h5, h6, h7⟩
    have e0 : dg (a :: b :: r) 0 = a := rfl
    have e1 : dg (a :: b :: r) 1 = b := rfl
    rw [e0, e1]
    simp only [Bool.and_eq_true, decide_eq_true_eq]
    refine ⟨by simp, h3, h4, ?_⟩
    split
    · rename_i ha; exact decide_eq_true (h5 ha)
    · exact decide_eq_true h6
set_option maxHeartbeats 2000000 in
theorem isOid_any {l : List Nat} {A : Option Addr} {n c : Nat} {w : World} (h : Rd vL w A n c l) : Calls Tryd.prog 47 #[.slice A n c] w fun e w' => e = .returned (.bool (oidK l)) ∧ w' = w := by
  have hl := h.len
  by_cases h2 : n < 2
  · have e : oidK l = false := by unfold oidK; rw [decide_eq_false (by omega), Bool.false_and]
    rw [e]
    have b1 : decide ((n : Int) < 2) = true := decide_eq_true (by omega)
    clear h hl e h2
    go_enter Tryd.func47, Tryd.ntmps47
    go_wp2
    go_ret
    exact ⟨rfl, rfl⟩
  · have b1 : decide ((n : Int) < 2) = false := decide_eq_false (by omega)
    by_cases h3 : 16 < n
    · have e : oidK l = false := by unfold oidK; rw [decide_eq_false (p := l.length ≤ 16) (by omega), Bool.false_and, Bool.and_false]
      rw [e]
      have b2 : decide ((16 : Int) < (n : Int)) = true := decide_eq_true (by omega)
      clear h hl e h2 h3
      go_enter Tryd.func47, Tryd.ntmps47
      go_wp2
      go_ret
      exact ⟨rfl, rfl⟩
    · have b2 : decide ((16 : Int) < (n : Int)) = false := decide_eq_false (by omega)
      have b0 : (0 : Int) < (n : Int) := by omega
      have b4 : (1 : Int) < (n : Int) := by omega
      obtain ⟨g, o, rfl⟩ := h.some_ (by omega)
      have c0 := h.dig 0 (by omega)
      have c1 := h.dig 1 (by omega)
      unfold vL at c0 c1
      rw [Nat.add_zero] at c0
      have e : oidK l = (decide (dg l 0 ≤ 2) && (if dg l 0 < 2 then decide (dg l 1 < 40) else decide (dg l 1 ≤ 4294967215))) := by
        unfold oidK
        rw [decide_eq_true (p := 2 ≤ l.length) (by omega), decide_eq_true (p := l.length ≤ 16) (by omega), Bool.true_and, Bool.true_and]
      rw [e]
      clear h hl e h2 h3
      generalize dg l 0 = x at *
      generalize dg l 1 = y at *
      by_cases hx : 2 < x
      · rw [decide_eq_false (p := x ≤ 2) (by omega), Bool.false_and]
        have b3 : decide ((2 : Int) < (x : Int)) = true := decide_eq_true (by omega)
        clear hx
        go_enter Tryd.func47, Tryd.ntmps47
        go_wp2
        go_ret
        exact ⟨rfl, rfl⟩
      · rw [decide_eq_true (p := x ≤ 2) (by omega), Bool.true_and]
        have b3 : decide ((2 : Int) < (x : Int)) = false := decide_eq_false (by omega)
        by_cases hx2 : x < 2
        · have b5 : decide ((x : Int) < 2) = true := decide_eq_true (by omega)
          rw [if_pos hx2]
          have b6 : decide (y < 40) = decide ((y : Int) < 40) := by rw [Bool.eq_iff_iff]; simp; omega
          rw [b6]
          clear hx hx2 b6
          go_enter Tryd.func47, Tryd.ntmps47
          go_wp2
          go_ret
          exact ⟨rfl, rfl⟩
        · have b5 : decide ((x : Int) < 2) = false := decide_eq_false (by omega)
          rw [if_neg hx2]
          have b6 : decide (y ≤ 4294967215) = decide ((y : Int) ≤ 4294967215) := by rw [Bool.eq_iff_iff]; simp; omega
          rw [b6]
          clear hx hx2 b6
          go_enter Tryd.func47, Tryd.ntmps47
          go_wp2
          go_ret
          exact ⟨rfl, rfl⟩
end Go.Proofs.YtfipgmjaabggjaaDoor
namespace Go.Proofs.YtfipgmjaabggjaaDoor
open Go Go.RowKit Go.Shelf
set_option maxRecDepth 4000

def Len64Laid_ren : Go.Shelf.Ren := ⟨fun | 129 => 46 | n => n, fun | 53 => 83 | 3 => 3 | 4 => 4 | 46 => 81 | 5 => 5 | 9 => 9 | n => n, fun | n => n⟩
theorem Len64Laid : Go.Proofs.Lays.n129 Tryd.prog Len64Laid_ren := {
  mixed := by kernel_rfl
  f129 := Tryd.func46.trans (congrArg some (by kernel_rfl))
  t3 := Tryd.underlying3
  a3 := Tryd.isAgg3
  z3 := Tryd.sizeOf3
  v3 := Tryd.zeroValue3
  t4 := Tryd.underlying4
  a4 := Tryd.isAgg4
  z4 := Tryd.sizeOf4
  v4 := Tryd.zeroValue4
  t5 := Tryd.underlying5
  a5 := Tryd.isAgg5
  z5 := Tryd.sizeOf5
  v5 := Tryd.zeroValue5
  t9 := Tryd.underlying9
  a9 := Tryd.isAgg9
  z9 := Tryd.sizeOf9
  v9 := Tryd.zeroValue9
  t46 := Tryd.underlying81
  a46 := Tryd.isAgg81
  z46 := Tryd.sizeOf81
  v46 := Tryd.zeroValue81
  t53 := Tryd.underlying83
  a53 := Tryd.isAgg83
  z53 := Tryd.sizeOf83
  v53 := Tryd.zeroValue83 }
theorem Len64_any (x : Nat) (hx : x < 18446744073709551616) (w : World) : Calls Tryd.prog 46 #[.int .u64 (x : Int)] w fun e w' => e = .returned (.int .i64 (Lib.bitLen x : Int)) ∧ w' = w := by
  have h := Any.bits_Len64 Len64Laid (x : Int) w (by omega) (by omega)
  rw [Int.toNat_natCast] at h
  exact h
/-- the row that Int builds: zeros, then the lowest bytes -/
theorem intL_row (n : Int) (k j : Nat) (h : j < k) : (zb (k - j) ++ intL n j).set (k - 1 - j) (BitVec.ofNat 8 ((n / ((256 ^ j : Nat) : Int)) % 256).toNat) = zb (k - (j + 1)) ++ intL n (j + 1) := by
  obtain ⟨d, rfl⟩ : ∃ d, k = j + (d + 1) := ⟨k - j - 1, by omega⟩
  rw [show j + (d + 1) - j = d + 1 by omega, show j + (d + 1) - 1 - j = d by omega, show j + (d + 1) - (j + 1) = d by omega]
  rw [List.set_append_left _ _ (by rw [zb_len]; omega), intL]
  have e : zb (d + 1) = zb d ++ [0] := by unfold zb; rw [List.replicate_succ']
  rw [e, List.set_append_right _ _ (by rw [zb_len]; exact Nat.le_refl _), zb_len, Nat.sub_self]
  simp
theorem byte_shr (n : Int) (j : Nat) : IntKind.u8.wrap (n / ((256 ^ j : Nat) : Int)) = ub (BitVec.ofNat 8 ((n / ((256 ^ j : Nat) : Int)) % 256).toNat) := by
  unfold ub
  rw [byt_nat, IntKind.wrap_u8]
  omega
theorem pow_shr (j : Nat) : ((2 : Int) ^ (8 * j)) = ((256 ^ j : Nat) : Int) := by
  rw [Nat.pow_mul' 2 8 j |> fun h => (by rw [Nat.pow_mul] : (256 ^ j : Nat) = 2 ^ (8 * j))]
  exact (Int.natCast_pow 2 (8 * j)).symm
set_option maxHeartbeats 2000000 in
theorem Int_any (n : Int) (w : World) (h0 : -9223372036854775808 ≤ n) (h1 : n < 9223372036854775808) :
    ∃ k l, l.length = k ∧ 1 ≤ k ∧ k ≤ 8 ∧ tcB l = true ∧ tcV l = n ∧ Calls Tryd.prog 19 #[.int .i64 n] w fun e w' => Fresh w k l e w' := by
  have hm : magN n < 9223372036854775808 := by unfold magN; split <;> omega
  obtain ⟨k, hk, hk7, hb63, hk1, hk2⟩ := kN_ok (magN n) hm
  obtain ⟨ht1, ht2⟩ := intL_ok n k hk1 hk2
  refine ⟨k + 1, intL n (k + 1), intL_len _ _, by omega, by omega, ht1, ht2, ?_⟩
  have hs : ∃ z, n / 9223372036854775808 = z ∧ bits .xor .i64 n z = (magN n : Int) := by
    rcases Int.lt_or_le n 0 with hn | hn
    · exact ⟨-1, sign_neg n hn h0⟩
    · exact ⟨0, sign_pos n hn h1⟩
  obtain ⟨z, z1, z2⟩ := hs
  have hL := Len64_any (magN n) (by omega)
  have v1 : IntKind.u64.wrap (magN n : Int) = (magN n : Int) := by rw [IntKind.wrap_u64]; omega
  unfold kN at hk
  generalize Lib.bitLen (magN n) = B at *
  generalize magN n = M at *
  have e0 : IntKind.i64.wrap ((B : Int) + 1) = (B : Int) + 1 := by rw [IntKind.wrap_i64]; omega
  have e1 : IntKind.i64.wrap ((B : Int) + 1 + 7) = (B : Int) + 8 := by rw [IntKind.wrap_i64]; omega
  have e2 : ((B : Int) + 8).tdiv 8 = ((k + 1 : Nat) : Int) := by rw [Int.tdiv_eq_ediv_of_nonneg (by omega)]; omega
  have hrow := fun j => intL_row n (k + 1) j
  have hlen := intL_len n (k + 1)
  obtain ⟨K, hKe⟩ : ∃ K, K = k + 1 := ⟨_, rfl⟩
  rw [← hKe] at e2 hrow hlen ⊢
  have hK8 : K ≤ 8 := by omega
  have hK1 : 1 ≤ K := by omega
  clear hKe hk hk1 hk2 ht1 ht2 hm hb63 hk7
  have e3 : IntKind.i64.wrap (K : Int) = (K : Int) := by rw [IntKind.wrap_i64]; omega
  have hmk := fun W => run_makeN K (K : Int) rfl (by omega) W
  have HR := Kp.mk hrow
  have HB := Kp.mk (byte_shr n)
  clear hrow
  go_enter Tryd.func19, Tryd.ntmps19
  go_wp2_with (go_at_call 46; refine (hL _).mono ?_; rintro e w1 ⟨rfl, rfl⟩)
  clear z1 z2 hL v1 e0 e1 e2 e3 hmk
  obtain ⟨g, hg⟩ : ∃ g, g = w1.heap.size := ⟨_, rfl⟩
  rw [← hg]
  have ho : Own (w1.alloc (.cells (bv (zb K)) 5)) w1.heap.size (.slice (some ⟨w1.heap.size, 0, none⟩) K K) K (zb K) := Own.new w1 _ K (zb K) (zb_len K) (Nat.le_refl _) (by unfold maxLen; omega)
  rw [← hg] at ho
  have HG := Kp.mk hg
  have HX := Kp.mk (show Ext w1 (w1.alloc (.cells (bv (zb K)) 5)) from (by (repeat (first | assumption | exact Ext.refl _ | apply Ext.drew | apply Ext.drewN | apply Ext.alloc | refine Ext.trans ?_ (by assumption))); first | done | fail))
  clear hg
  go_loopw [19] (fun i wr => ∃ j : Nat, j ≤ K ∧ i = .int .i64 (j : Int) ∧ Own wr g (.slice (some ⟨g, 0, none⟩) K K) K (zb (K - j) ++ intL n j) ∧ Ext w1 wr) (fun i _ => K - (intOf i).toNat)
  case atStart => exact ⟨0, by omega, rfl, by simpa [intL] using ho, HX.out⟩
  case round =>
    clear ho HX
    obtain ⟨j, hj, rfl, ho, hx⟩ := hrel
    by_cases hlt : j < K
    · have hcell := fun i hi => ho.cell (g := g) i hi
      obtain ⟨q, hq⟩ : ∃ q, q = K - 1 - j := ⟨_, rfl⟩
      have c1 := hcell q (by omega)
      have c2 := ho.free q
      have s1 : IntKind.i64.wrap ((K : Int) - 1) = (K : Int) - 1 := by rw [IntKind.wrap_i64]; omega
      have s2 : IntKind.i64.wrap ((K : Int) - 1 - (j : Int)) = (q : Int) := by rw [IntKind.wrap_i64]; omega
      have s3 : IntKind.i64.wrap (8 * (j : Int)) = ((8 * j : Nat) : Int) := by rw [IntKind.wrap_i64]; omega
      have b1 : (j : Int) < (K : Int) := by omega
      have b2 : (q : Int) < (K : Int) := by omega
      have HO := Kp.mk ho
      have HX := Kp.mk hx
      have HQ := Kp.mk hq
      clear ho hx hcell hq
      go_wp2_with fail
      refine ⟨⟨j + 1, by omega, by go_num, ?_, HX.out.setCell (HG.out ▸ Nat.le_refl _) _⟩, by simp [intOf]; omega⟩
      have e4 := HB.out j
      rw [IntKind.wrap_u8] at e4
      rw [pow_shr, e4, ← HR.out j hlt, ← HQ.out]
      exact HO.out.set q _
    · obtain rfl : j = K := by omega
      have b1 : ¬ (j : Int) < (j : Int) := by omega
      rw [show j - j = 0 by omega, show zb 0 ++ intL n j = intL n j by rfl] at ho
      go_wp2_with fail
      go_ret
      exact ⟨_, _, rfl, ho.bs, HG.out ▸ ho, hx⟩
end Go.Proofs.YtfipgmjaabggjaaDoor
namespace Go.Proofs.YtfipgmjaabggjaaDoor
open Go Go.RowKit Go.Shelf
set_option maxRecDepth 4000

def Len32LaidK_ren : Go.Shelf.Ren := ⟨fun | 128 => 75 | n => n, fun | 51 => 70 | 3 => 3 | 4 => 4 | 46 => 81 | 5 => 5 | 9 => 9 | n => n, fun | n => n⟩
theorem Len32LaidK : Go.Proofs.Lays.n128 Tryd.prog Len32LaidK_ren := {
  mixed := by kernel_rfl
  f128 := Tryd.func75.trans (congrArg some (by kernel_rfl))
  t3 := Tryd.underlying3
  a3 := Tryd.isAgg3
  z3 := Tryd.sizeOf3
  v3 := Tryd.zeroValue3
  t4 := Tryd.underlying4
  a4 := Tryd.isAgg4
  z4 := Tryd.sizeOf4
  v4 := Tryd.zeroValue4
  t5 := Tryd.underlying5
  a5 := Tryd.isAgg5
  z5 := Tryd.sizeOf5
  v5 := Tryd.zeroValue5
  t9 := Tryd.underlying9
  a9 := Tryd.isAgg9
  z9 := Tryd.sizeOf9
  v9 := Tryd.zeroValue9
  t46 := Tryd.underlying81
  a46 := Tryd.isAgg81
  z46 := Tryd.sizeOf81
  v46 := Tryd.zeroValue81
  t51 := Tryd.underlying70
  a51 := Tryd.isAgg70
  z51 := Tryd.sizeOf70
  v51 := Tryd.zeroValue70 }
theorem Len32_anyK (x : Nat) (hx : x < 4294967296) (w : World) : Calls Tryd.prog 75 #[.int .u32 (x : Int)] w fun e w' => e = .returned (.int .i64 (Lib.bitLen x : Int)) ∧ w' = w := by
  have h := Any.bits_Len32 Len32LaidK (x : Int) w (by omega) (by omega)
  rw [Int.toNat_natCast] at h
  exact h
/-- how many groups are ahead of the last one -/
theorem ahead_of (n : Nat) (h : n < 4294967296) : ∃ a, (max (Lib.bitLen n) 1 - 1) / 7 = a ∧ a ≤ 4 ∧ n / 128 ^ (a + 1) = 0 ∧ ∀ j, j < a → n / 128 ^ (a - j) ≠ 0 := by
  obtain ⟨h1, h2⟩ := bitLen_pow n (by omega)
  have h3 := Lib.bitLen_le n 32 (by decide) (by omega)
  refine ⟨_, rfl, by omega, ?_, fun j hj => ?_⟩
  · refine Nat.div_eq_of_lt (Nat.lt_of_lt_of_le h1 ?_)
    rw [show (128 : Nat) = 2 ^ 7 from rfl, ← Nat.pow_mul]
    exact Nat.pow_le_pow_right (by decide) (by omega)
  · have hn : n ≠ 0 := by
      rintro rfl
      have : Lib.bitLen 0 = 0 := by unfold Lib.bitLen; exact Lib.bitLenAux_zero _
      omega
    have h4 : 128 ^ ((max (Lib.bitLen n) 1 - 1) / 7 - j) ≤ n := by
      refine Nat.le_trans ?_ (h2 hn)
      rw [show (128 : Nat) = 2 ^ 7 from rfl, ← Nat.pow_mul]
      exact Nat.pow_le_pow_right (by decide) (by omega)
    have := Nat.div_pos h4 (Nat.pow_pos (by decide))
    omega
theorem or128u (x : BitVec 8) : bits .or .u8 (ub x) 128 = ub (BitVec.ofNat 8 (x.toNat % 128 + 128)) := by
  revert x
  refine all8 ?_
  decide +kernel
theorem andnot128 (x : BitVec 8) : bits .andNot .u8 (ub x) 128 = ub (BitVec.ofNat 8 (x.toNat % 128)) := by
  revert x
  refine all8 ?_
  decide +kernel
theorem byt_of (m : Nat) : ((m : Int) % 256) = ub (BitVec.ofNat 8 m) := by
  unfold ub
  rw [BitVec.toNat_ofNat]
  omega
theorem grp_hi (m : Nat) : bits .or .u8 ((m : Int) % 256) 128 = ub (BitVec.ofNat 8 (m % 128 + 128)) := by
  rw [byt_of, or128u, BitVec.toNat_ofNat, Nat.mod_mod_of_dvd m (by decide : 128 ∣ 2 ^ 8)]
theorem grp_lo (m : Nat) : bits .andNot .u8 ((m : Int) % 256) 128 = ub (BitVec.ofNat 8 (m % 128)) := by
  rw [byt_of, andnot128, BitVec.toNat_ofNat, Nat.mod_mod_of_dvd m (by decide : 128 ∣ 2 ^ 8)]
/-- the groups ahead of the last one, from the highest on -/
theorem groups_up (n a : Nat) (hz : n / 128 ^ (a + 1) = 0) (hj : ∀ j, j < a → n / 128 ^ (a - j) ≠ 0) : ∃ f : Nat → List (BitVec 8), f 0 = [] ∧ f a ++ [BitVec.ofNat 8 (n % 128)] = g7 n ∧ (∀ j, (f j).length ≤ 5 + j) ∧ ∀ j, j < a → f (j + 1) = f j ++ [BitVec.ofNat 8 (n / 128 ^ (a - j) % 128 + 128)] ∧ (f (j + 1)).length = (f j).length + 1 := by
  have hs : ∀ j, j < a → g7hi (n / 128 ^ (a - (j + 1) + 1)) = g7hi (n / 128 ^ (a - j + 1)) ++ [BitVec.ofNat 8 (n / 128 ^ (a - j) % 128 + 128)] := by
    intro j h
    rw [show a - (j + 1) + 1 = a - j by omega, g7hi_pos _ (hj j h), Nat.div_div_eq_div_mul, Nat.pow_succ]
  have hf : ∀ j, (g7hi (n / 128 ^ (a - j + 1))).length ≤ 5 + j ∨ a < j := by
    intro j
    induction j with
    | zero => rw [Nat.sub_zero, hz, g7hi_zero]; exact .inl (Nat.zero_le _)
    | succ j ih =>
      rcases Nat.lt_or_ge a (j + 1) with h | h
      · exact .inr h
      · rcases ih with ih | ih
        · rw [hs j (by omega), List.length_append, List.length_singleton]
          exact .inl (by omega)
        · omega
  refine ⟨fun j => if a < j then [] else g7hi (n / 128 ^ (a - j + 1)), ?_, ?_, ?_, ?_⟩
  · show (if a < 0 then [] else _) = _
    rw [if_neg (Nat.not_lt_zero _), Nat.sub_zero, hz, g7hi_zero]
  · show (if a < a then [] else _) ++ _ = _
    rw [if_neg (Nat.lt_irrefl _), Nat.sub_self]
    unfold g7
    rw [Nat.zero_add, Nat.pow_one]
  · intro j
    show (if a < j then [] else _).length ≤ _
    split
    · exact Nat.zero_le _
    · rcases hf j with h | h
      · exact h
      · omega
  · intro j h
    have e : (if a < j + 1 then [] else g7hi (n / 128 ^ (a - (j + 1) + 1))) = (if a < j then [] else g7hi (n / 128 ^ (a - j + 1))) ++ [BitVec.ofNat 8 (n / 128 ^ (a - j) % 128 + 128)] := by
      rw [if_neg (by omega), if_neg (by omega), hs j h]
    refine ⟨e, ?_⟩
    show (if a < j + 1 then [] else _).length = _
    rw [e, List.length_append, List.length_singleton]
theorem shr7 (n d : Nat) : (n : Int) / 2 ^ (7 * d) = ((n / 128 ^ d : Nat) : Int) := by
  rw [show (128 : Nat) = 2 ^ 7 from rfl, ← Nat.pow_mul, Int.natCast_ediv, Int.natCast_pow]
  rfl
set_option maxHeartbeats 4000000 in
theorem withGroups_any {w0 w : World} {B : Nat} {v : Value} {m : Nat} {l : List (BitVec 8)} (ho : Own w B v m l) (hx0 : Ext w0 w) (hB0 : w0.heap.size ≤ B) (hBw : B ≤ w.heap.size) (hm : m ≤ 1000000) (n : Nat) (hn : n < 4294967296) (M : Nat) (hM : m + (g7 n).length = M) :
    Calls Tryd.prog 48 #[v, .int .u32 (n : Int)] w fun e w' => ∃ A c, e = .returned (.slice A M c) ∧ Own w' B (.slice A M c) M (l ++ g7 n) ∧ Ext w0 w' ∧ w.heap.size ≤ w'.heap.size := by
  obtain ⟨A, c, rfl⟩ := ho.form
  obtain ⟨a, ha, ha4, hz, hj⟩ := ahead_of n hn
  obtain ⟨f, f0, fa, fl, fs⟩ := groups_up n a hz hj
  have hL := Len32_anyK n hn
  have hl := ho.len
  have e1 : IntKind.i64.wrap (max (Lib.bitLen n : Int) 1 - 1) = ((max (Lib.bitLen n) 1 - 1 : Nat) : Int) := by
    have := Lib.bitLen_le n 32 (by decide) (by omega)
    rw [IntKind.wrap_i64]; omega
  have e2 : ((max (Lib.bitLen n) 1 - 1 : Nat) : Int).tdiv 7 = (a : Int) := by rw [Int.tdiv_eq_ediv_of_nonneg (by omega)]; omega
  have e3 : IntKind.i64.wrap (a : Int) = (a : Int) := by rw [IntKind.wrap_i64]; omega
  generalize Lib.bitLen n = L at *
  clear ha
  have HF := Kp.mk fs
  have HL := Kp.mk fl
  have HA := Kp.mk fa
  have HZ := Kp.mk f0
  have HO := Kp.mk ho
  have HX := Kp.mk hx0
  have HM := Kp.mk hM
  clear hM
  have e5 := grp_lo n
  have HD : ∀ d : Nat, bits .or .u8 ((n : Int) / 2 ^ (7 * d) % 256) 128 = ub (BitVec.ofNat 8 (n / 128 ^ d % 128 + 128)) := fun d => by rw [shr7, grp_hi]
  have HD' := Kp.mk HD
  clear hj hz ho hx0 fs fl fa f0 HD
  go_enter Tryd.func48, Tryd.ntmps48
  go_wp2_with (go_at_call 75; refine (hL _).mono ?_; rintro e w1 ⟨rfl, hw⟩; obtain rfl : w = w1 := hw.symm)
  clear hL e1 e2 e3
  go_loopw [0, 13] (fun v i wr => ∃ j N : Nat, ∃ A' c', j ≤ a ∧ N = m + (f j).length ∧ i = .int .i64 (j : Int) ∧ v = .slice A' N c' ∧ Own wr B (.slice A' N c') N (l ++ f j) ∧ Ext w0 wr ∧ w.heap.size ≤ wr.heap.size) (fun _ i _ => a - (intOf i).toNat)
  case atStart => exact ⟨0, m, A, c, Nat.zero_le _, by rw [HZ.out]; rfl, rfl, rfl, by rw [HZ.out, List.append_nil]; exact HO.out, HX.out, Nat.le_refl _⟩
  case round =>
    obtain ⟨j, N, A', c', hj, hN, rfl, rfl, ho, hx, hsz⟩ := hrel
    have hNm : N ≤ 2000000 := by have := HL.out j; omega
    have hBr : B ≤ wr.heap.size := Nat.le_trans hBw hsz
    by_cases hlt : j < a
    · obtain ⟨d, hd⟩ : ∃ d, d = a - j := ⟨_, rfl⟩
      have s1 : IntKind.i64.wrap ((a : Int) - (j : Int)) = (d : Int) := by rw [IntKind.wrap_i64]; omega
      have s2 : IntKind.i64.wrap (7 * (d : Int)) = ((7 * d : Nat) : Int) := by rw [IntKind.wrap_i64]; omega
      have b1 : (j : Int) < (a : Int) := by omega
      have hd4 : d ≤ 4 := by omega
      obtain ⟨g1, g2⟩ := HF.out j hlt
      rw [← hd] at g1
      have e4 := HD'.out d
      generalize BitVec.ofNat 8 (n / 128 ^ d % 128 + 128) = y at *
      have HN := Kp.mk (And.intro hN (And.intro g1 g2))
      have H1 := Kp.mk ho
      have H2 := Kp.mk hx
      have H3 := Kp.mk hsz
      clear hN g1 g2 ho hx hsz hd e5
      go_wp2_with (first | (at_builtin; refine wpList_append_bs rfl (.tmp 16) (.tmp 25) rfl B _ N (l ++ f j) rfl (H1.out.ext (by (repeat (first | assumption | exact Ext.refl _ | apply Ext.drew | apply Ext.drewN | apply Ext.alloc | refine Ext.trans ?_ (by assumption))); first | done | fail)) _ 1 1 [y] rfl (const_bs wr _ [y] 1 1 (0, 0) rfl rfl (by decide)) (by omega) (N + 1) rfl (l ++ f j ++ [y]) rfl w0 (H2.out.trans (by (repeat (first | assumption | exact Ext.refl _ | apply Ext.drew | apply Ext.drewN | apply Ext.alloc | refine Ext.trans ?_ (by assumption))); first | done | fail)) hB0 (Nat.le_trans hBr (by simp)) ?_; intro A4 c4 w4 ho4 hx4 hap4) | fail)
      go_roundw
      case rel =>
        obtain ⟨hN, g1, g2⟩ := HN.out
        refine ⟨j + 1, N + 1, A4, c4, by omega, by omega, by go_num, by first | rfl | (congr 1; omega), ?_, hx4, ?_⟩
        · rw [g1, ← List.append_assoc]; exact ho4
        · exact Nat.le_trans H3.out (Nat.le_trans (by simp) hap4.grown.size)
      case measure => simp [intOf]; omega
    · obtain rfl : j = a := by omega
      have b1 : ¬ (j : Int) < (j : Int) := by omega
      have hNl : N + 1 = m + (g7 n).length := by rw [← HA.out, List.length_append, List.length_singleton]; omega
      generalize hy : BitVec.ofNat 8 (n % 128) = y at *
      obtain rfl : N + 1 = M := by rw [← HM.out]; exact hNl
      have H1 := Kp.mk ho
      have H2 := Kp.mk hx
      have H3 := Kp.mk hsz
      clear hN ho hx hsz hNl
      go_wp2_with (first | (at_builtin; refine wpList_append_bs rfl (.tmp 28) (.tmp 32) rfl B _ N (l ++ f j) rfl (H1.out.ext (by (repeat (first | assumption | exact Ext.refl _ | apply Ext.drew | apply Ext.drewN | apply Ext.alloc | refine Ext.trans ?_ (by assumption))); first | done | fail)) _ 1 1 [y] rfl (const_bs wr _ [y] 1 1 (0, 0) rfl rfl (by decide)) (by omega) (N + 1) rfl (l ++ f j ++ [y]) rfl w0 (H2.out.trans (by (repeat (first | assumption | exact Ext.refl _ | apply Ext.drew | apply Ext.drewN | apply Ext.alloc | refine Ext.trans ?_ (by assumption))); first | done | fail)) hB0 (Nat.le_trans hBr (by simp)) ?_; intro A4 c4 w4 ho4 hx4 hap4) | fail)
      go_ret
      refine ⟨A4, c4, rfl, ?_, hx4, Nat.le_trans H3.out (Nat.le_trans (by simp) hap4.grown.size)⟩
      rw [← HA.out, ← List.append_assoc]
      exact ho4
end Go.Proofs.YtfipgmjaabggjaaDoor
namespace Go.Proofs.YtfipgmjaabggjaaDoor
open Go Go.RowKit
set_option maxRecDepth 4000

theorem szU : (Tryd.prog.info? 70).map (·.size) = some 1 := by kernel_rfl
theorem Rd.cut {α : Type} {e : α → Value} {w : World} {A : Option Addr} {n c : Nat} {l : List α} (h : Rd e w A n c l) (k : Nat) (hk : k ≤ n) : ∃ A', (if c = k then A else A.map (·.add k)) = A' ∧ Rd e w A' (n - k) (c - k) (l.drop k) := by
  have hl := h.len
  have hcap := h.cap
  refine ⟨_, rfl, by rw [List.length_drop, hl], by omega, fun e => ?_, fun hn => ?_⟩
  · have hA : A = none := by
      cases A with
      | none => rfl
      | some a => split at e <;> simp at e
    have := h.nul hA
    omega
  · obtain ⟨g, o, rfl, hc⟩ := h.at_ (by omega)
    rw [if_neg (by omega)]
    have hadd : (⟨g, o, none⟩ : Addr).add k = ⟨g, o + k, none⟩ := by unfold Addr.add; split <;> simp_all
    refine ⟨g, o + k, by simp [hadd], fun j x hj => ?_⟩
    rw [Nat.add_assoc]
    rw [List.getElem?_drop] at hj
    exact hc (k + j) x hj
theorem dg_dropK (l : List Nat) (k j : Nat) : dg (l.drop k) j = dg l (k + j) := by unfold dg; rw [List.getD_eq_getElem?_getD, List.getElem?_drop, ← List.getD_eq_getElem?_getD]
theorem g7s_app (a b : List Nat) : g7s (a ++ b) = g7s a ++ g7s b := by unfold g7s; rw [List.flatMap_append]
/-- an identifier's body, number by number -/
theorem oid_up {l : List Nat} (h : OidP l) : ∃ f : Nat → List (BitVec 8), f 0 = g7 (40 * dg l 0 + dg l 1) ∧ f (l.length - 2) = oidB l ∧ (∀ j, j ≤ l.length - 2 → (f j).length ≤ 5 * (j + 1)) ∧ ∀ j, j < l.length - 2 → f (j + 1) = f j ++ g7 (dg l (j + 2)) := by
  obtain ⟨a, b, r, rfl, h1, ha, hb, hc, hr⟩ := h
  have hf : ∀ j, ((a * 40 + b) :: r).take (j + 1) = (a * 40 + b) :: r.take j := fun j => by simp
  refine ⟨fun j => g7s ((40 * a + b) :: r.take j), ?_, ?_, ?_, ?_⟩
  · show g7 (40 * a + b) ++ g7s [] = g7 (40 * a + b)
    exact List.append_nil _
  · show g7s ((40 * a + b) :: r.take (r.length + 1 + 1 - 2)) = g7s ((40 * a + b) :: r)
    rw [show r.length + 1 + 1 - 2 = r.length by omega, List.take_length]
  · intro j hj
    have := (g7s_len ((40 * a + b) :: r.take j) fun n hn => by
      rcases List.mem_cons.1 hn with rfl | hn
      · omega
      · exact hr n (List.mem_of_mem_take hn)).2
    rw [List.length_cons, List.length_take] at this
    show (g7s ((40 * a + b) :: r.take j)).length ≤ _
    omega
  · intro j hj
    have hj' : j < r.length := by
      have : (a :: b :: r).length = r.length + 2 := rfl
      omega
    show g7s ((40 * a + b) :: r.take (j + 1)) = g7s ((40 * a + b) :: r.take j) ++ g7 (dg (a :: b :: r) (j + 2))
    have e1 : r.take (j + 1) = r.take j ++ [dg r j] := by
      rw [List.take_succ_eq_append_getElem hj']
      simp [dg, List.getD_eq_getElem?_getD, hj']
    have e2 : dg (a :: b :: r) (j + 2) = dg r j := rfl
    rw [e1, e2, ← List.cons_append, g7s_app]
    show _ ++ (g7 (dg r j) ++ []) = _
    rw [List.append_nil]
theorem oid_lt {l : List Nat} (h : OidP l) : 2 ≤ l.length ∧ l.length ≤ 16 ∧ 40 * dg l 0 + dg l 1 < 4294967296 ∧ ∀ j, j < l.length - 2 → dg l (j + 2) < 4294967296 := by
  obtain ⟨a, b, r, rfl, h1, ha, hb, hc, hr⟩ := h
  refine ⟨by simp, h1, ?_, fun j hj => ?_⟩
  · show 40 * a + b < _
    omega
  · have hj' : j < r.length := by
      have : (a :: b :: r).length = r.length + 2 := rfl
      omega
    have e2 : dg (a :: b :: r) (j + 2) = r[j] := by
      show dg r j = _
      simp [dg, List.getD_eq_getElem?_getD, hj']
    rw [e2]
    exact hr _ (List.getElem_mem hj')
set_option maxHeartbeats 4000000 in
theorem Oid_any {l : List Nat} {A : Option Addr} {n c : Nat} {w : World} (h : Rd vL w A n c l) (hd : Dg 4294967296 l) :
    Calls Tryd.prog 22 #[.slice A n c] w fun e w' => (¬ OidP l ∧ e = .returned (.tuple #[.slice none 0 0, err 1]) ∧ Ext w w') ∨ (OidP l ∧ FreshE w (oidB l).length (oidB l) e w') := by
  have hK := isOid_any h
  by_cases hP : OidP l
  · rw [(oidK_iff hd).2 hP] at hK
    refine Calls.mono (R := fun e w' => FreshE w (oidB l).length (oidB l) e w') ?_ fun _ _ h => .inr ⟨hP, h⟩
    obtain ⟨f, f0, fa, fl, fs⟩ := oid_up hP
    obtain ⟨n2, n16, n0, nr⟩ := oid_lt hP
    have hl := h.len
    rw [hl] at fa fl fs n2 n16 nr
    obtain ⟨A', hA', hD⟩ := h.cut 2 n2
    have hcut := run_from (P := Tryd.prog) A n c 22 70 Tryd.underlying22 szU 2 2 rfl n2
    rw [hA'] at hcut
    obtain ⟨g, o, rfl⟩ := h.some_ (by omega)
    have c0 : ∀ w', Ext w w' → w'.cell? ⟨g, o, none⟩ = some (.int .u32 (dg l 0 : Int)) := fun w' hx => by
      have := (h.ext hx).dig 0 (by omega)
      rwa [Nat.add_zero] at this
    have c1 : ∀ w', Ext w w' → w'.cell? ⟨g, o + 1, none⟩ = some (.int .u32 (dg l 1 : Int)) := fun w' hx => (h.ext hx).dig 1 (by omega)
    have b0 : (0 : Int) < (n : Int) := by omega
    have b1 : (1 : Int) < (n : Int) := by omega
    have b2 : 0 < n := by omega
    have b3 : 1 < n := by omega
    have e1 : IntKind.u32.wrap (40 * (dg l 0 : Int)) = ((40 * dg l 0 : Nat) : Int) := by rw [IntKind.wrap_u32]; omega
    have e2 : IntKind.u32.wrap (((40 * dg l 0 : Nat) : Int) + (dg l 1 : Int)) = ((40 * dg l 0 + dg l 1 : Nat) : Int) := by rw [IntKind.wrap_u32]; omega
    have hl0 := fl 0 (Nat.zero_le _)
    rw [f0] at hl0
    generalize dg l 0 = x at *
    generalize dg l 1 = y at *
    generalize hz : 40 * x = x40 at *
    generalize x40 + y = z at *
    have HF := Kp.mk fs
    have HL := Kp.mk fl
    have HA := Kp.mk fa
    have HZ := Kp.mk f0
    have HR := Kp.mk nr
    have HD := Kp.mk hD
    generalize hB : oidB l = ob at *
    have HG := Kp.mk (fun j => dg_dropK l 2 j)
    clear fs fl fa f0 nr hD h hd hP hA' hl hz hB
    go_enter Tryd.func22, Tryd.ntmps22
    go_wp2_with (go_at_call 47; refine hK.mono ?_; rintro e w1 ⟨rfl, hw⟩; obtain rfl : w = w1 := hw.symm)
    refine wp_region_held_drew (S := fun w' => Ext w w') (by kernel_rfl) (Ext.refl w).drew (fun hHeld => ?_)
    refine wpAnyH_take (i := 0) (oi := ⟨some 11, _, _, _, _, _⟩) (v := ?_) rfl (by kernel_rfl) (by kernel_rfl) (by kernel_rfl) (fun _ _ _ h => h) (Or.inl ⟨by rfl, ?_⟩) (by assumption) ?_
    rotate_left
    · (intro w hSw; (try dsimp only at hSw); go_simp; try with_reducible rfl)
    try simp only [Act.put, List.setIfInBounds_toArray, List.set_cons_zero, List.set_cons_succ]
    refine wpAnyH_take (i := 1) (oi := ⟨some 12, _, _, _, _, _⟩) (v := ?_) rfl (by kernel_rfl) (by kernel_rfl) (by kernel_rfl) (fun _ _ _ h => h) (Or.inl ⟨by rfl, ?_⟩) (by assumption) ?_
    rotate_left
    · (intro w hSw; (try dsimp only at hSw); go_simp; try with_reducible rfl)
    try simp only [Act.put, List.setIfInBounds_toArray, List.set_cons_zero, List.set_cons_succ]
    refine wpAnyH_take (i := 2) (oi := ⟨some 13, _, _, _, _, _⟩) (v := ?_) rfl (by kernel_rfl) (by kernel_rfl) (by kernel_rfl) (fun _ _ _ h => h) (Or.inl ⟨by rfl, ?_⟩) (by assumption) ?_
    rotate_left
    · (intro w hSw; (try dsimp only at hSw); go_simp; try with_reducible rfl)
    try simp only [Act.put, List.setIfInBounds_toArray, List.set_cons_zero, List.set_cons_succ]
    refine wpAnyH_take (i := 3) (oi := ⟨some 14, _, _, _, _, _⟩) (v := ?_) rfl (by kernel_rfl) (by kernel_rfl) (by kernel_rfl) (fun _ _ _ h => h) (Or.inl ⟨by rfl, ?_⟩) (by assumption) ?_
    rotate_left
    · (intro w hSw; (try dsimp only at hSw); go_simp; try with_reducible rfl)
    try simp only [Act.put, List.setIfInBounds_toArray, List.set_cons_zero, List.set_cons_succ]
    refine wpAnyH_take (i := 4) (oi := ⟨some 15, _, _, _, _, _⟩) (v := ?_) rfl (by kernel_rfl) (by kernel_rfl) (by kernel_rfl) (fun _ _ _ h => h) (Or.inl ⟨by rfl, ?_⟩) (by assumption) ?_
    rotate_left
    · (intro w hSw; (try dsimp only at hSw); go_simp; try with_reducible rfl)
    try simp only [Act.put, List.setIfInBounds_toArray, List.set_cons_zero, List.set_cons_succ]
    refine wpAnyH_take (i := 5) (oi := ⟨some 16, _, _, _, _, _⟩) (v := ?_) rfl (by kernel_rfl) (by kernel_rfl) (by kernel_rfl) (fun _ _ _ h => h) (Or.inl ⟨by rfl, ?_⟩) (by assumption) ?_
    rotate_left
    · (intro w hSw; (try dsimp only at hSw); go_simp; try with_reducible rfl)
    try simp only [Act.put, List.setIfInBounds_toArray, List.set_cons_zero, List.set_cons_succ]
    refine wpAnyH_take (i := 6) (oi := ⟨some 17, _, _, _, _, _⟩) (v := ?_) rfl (by kernel_rfl) (by kernel_rfl) (by kernel_rfl) (fun _ _ _ h => h) (Or.inl ⟨by rfl, ?_⟩) (by assumption) ?_
    rotate_left
    · (intro w hSw; (try dsimp only at hSw); go_simp; try with_reducible rfl)
    try simp only [Act.put, List.setIfInBounds_toArray, List.set_cons_zero, List.set_cons_succ]
    refine wpAnyH_take (i := 7) (oi := ⟨some 18, _, _, _, _, _⟩) (v := ?_) rfl (by kernel_rfl) (by kernel_rfl) (by kernel_rfl) (fun _ _ _ h => h) (Or.inl ⟨by rfl, ?_⟩) (by assumption) ?_
    rotate_left
    · (intro w hSw; (try dsimp only at hSw); go_simp; try with_reducible rfl)
    try simp only [Act.put, List.setIfInBounds_toArray, List.set_cons_zero, List.set_cons_succ]
    refine next_one 8 (by kernel_rfl) rfl (by rfl) fun K' HK' => ?_
    go_simp
    refine (withGroups_any (w0 := w.drew) (B := w.heap.size) (Own.nil _ _) (Ext.refl _) (by simp) (by simp) (by omega) z n0 _ rfl).mono ?_
    rintro e w1 ⟨A1, c1', rfl, ho1, hx1, hz1⟩
    have hx1' : Ext w w1 := (by (repeat (first | assumption | exact Ext.refl _ | apply Ext.drew | apply Ext.drewN | apply Ext.alloc | refine Ext.trans ?_ (by assumption))); first | done | fail)
    have hS2 := Ext.trans hHeld hx1
    refine held_go HK' hS2 (fun _ => ?_)
    clear HK'
    refine held_more (S' := fun w' => Ext w1 w') (fun _ h => Ext.trans hS2 h) _ _ _ _ ?_
    clear hHeld hS2
    have hHeld : Ext w1 w1 := Ext.refl _
    try simp only [Act.put, List.setIfInBounds_toArray, List.set_cons_zero, List.set_cons_succ]
    refine wpAnyH_take (i := 9) (oi := ⟨some 4, _, _, _, _, _⟩) (v := ?_) rfl (by kernel_rfl) (by kernel_rfl) (by kernel_rfl) (fun _ _ _ h => h) (Or.inl ⟨by rfl, ?_⟩) (by assumption) ?_
    rotate_left
    · (intro w hSw; (try dsimp only at hSw); go_simp; try with_reducible rfl)
    try simp only [Act.put, List.setIfInBounds_toArray, List.set_cons_zero, List.set_cons_succ]
    refine wpAnyH_done (by kernel_rfl) ?_ _
    rw [Nat.zero_add, ← HZ.out] at ho1
    rw [List.nil_append] at ho1
    rw [Nat.zero_add, ← HZ.out]
    obtain ⟨M, hM⟩ : ∃ M, M = (f 0).length := ⟨_, rfl⟩
    rw [← hM] at ho1 ⊢
    have H0 := Kp.mk hM
    have H1 := Kp.mk ho1
    have H2 := Kp.mk hx1'
    clear hM ho1 hx1 hx1' hz1 c0 c1 hK e1 e2
    go_wp2_with fail
    clear hcut
    go_loopw [4, 23] (fun v i wr => ∃ j N : Nat, ∃ A2 c2, j ≤ n - 2 ∧ N = (f j).length ∧ i = .int .i64 (j : Int) ∧ v = .slice A2 N c2 ∧ Own wr w.heap.size (.slice A2 N c2) N (f j) ∧ Ext w wr) (fun _ i _ => n - 2 - (intOf i).toNat)
    case atStart => exact ⟨0, M, A1, c1', Nat.zero_le _, H0.out, rfl, rfl, H1.out, H2.out⟩
    case round =>
      obtain ⟨j, N, A2, c2, hj, hN, rfl, rfl, ho, hx⟩ := hrel
      have hNl : N ≤ 1000000 := by have := HL.out j hj; omega
      by_cases hlt : j < n - 2
      · have b4 : (j : Int) < ((n - 2 : Nat) : Int) := by omega
        obtain ⟨g2, o2, rfl⟩ := HD.out.some_ (by omega)
        have k1 := (HD.out.ext hx).dig j (by omega)
        rw [HG.out, Nat.add_comm 2 j] at k1
        have k2 := HF.out j hlt
        have k3 := HR.out j hlt
        unfold vL at k1
        generalize dg l (j + 2) = d at *
        have H3 := Kp.mk (And.intro hN k2)
        have H4 := Kp.mk ho
        have H5 := Kp.mk hx
        clear hN k2 ho hx
        go_wp2_with fail
        refine (withGroups_any (w0 := w) (B := w.heap.size) H4.out H5.out (Nat.le_refl _) H5.out.size (by omega) d k3 _ rfl).mono ?_
        rintro e w3 ⟨A3, c3, rfl, ho3, hx3, hz3⟩
        have e5 : N + (g7 d).length = (f (j + 1)).length := by rw [H3.out.2, List.length_append, ← H3.out.1]
        rw [← H3.out.2, e5] at ho3
        rw [e5]
        obtain ⟨N3, hN3⟩ : ∃ N3, N3 = (f (j + 1)).length := ⟨_, rfl⟩
        rw [← hN3] at ho3 ⊢
        have H6 := Kp.mk hN3
        have H7 := Kp.mk ho3
        have H8 := Kp.mk hx3
        clear hN3 ho3 hx3 e5 hz3 k1
        go_wp2_with fail
        go_roundw
        case rel => exact ⟨j + 1, N3, A3, c3, hlt, H6.out, by go_num, rfl, H7.out, H8.out⟩
        case measure => simp [intOf]; omega
      · obtain rfl : j = n - 2 := by omega
        have b4 : ¬ ((n - 2 : Nat) : Int) < ((n - 2 : Nat) : Int) := by omega
        rw [HA.out] at ho hN
        have H3 := Kp.mk ho
        have H4 := Kp.mk hx
        subst hN
        clear ho hx
        go_wp2_with fail
        go_ret2
        exact ⟨_, _, rfl, H3.out.bs, H3.out, H4.out⟩
  · have hK2 : oidK l = false := by
      cases hq : oidK l with
      | false => rfl
      | true => exact absurd ((oidK_iff hd).1 hq) hP
    rw [hK2] at hK
    refine Calls.mono (R := fun e w' => e = .returned (.tuple #[.slice none 0 0, err 1]) ∧ Ext w w') ?_ fun _ _ h => .inl ⟨hP, h⟩
    clear h hd hP hK2
    go_enter Tryd.func22, Tryd.ntmps22
    go_wp2_with (go_at_call 47; refine hK.mono ?_; rintro e w1 ⟨rfl, rfl⟩)
    go_ret2
    exact ⟨rfl, (by (repeat (first | assumption | exact Ext.refl _ | apply Ext.drew | apply Ext.drewN | apply Ext.alloc | refine Ext.trans ?_ (by assumption))); first | done | fail)⟩
end Go.Proofs.YtfipgmjaabggjaaDoor
