/-
  prim: Int.
  prim: withGroups; the reference's group.
  prim: Oid; the reference's OidBody.
  prim: numbersOf, ReadOid.
-/
import Derived.Test.YtkdjhklnlnfhfaaGreatDoorM7
import Derived.Shelf.Strconv.Itoa0
import Derived.Test.YtkdjhklnlnfhfaaGreatDoorM27
import Derived.Shelf.Small.Bits
import Derived.Test.YtkdjhklnlnfhfaaGreatDoorM4
import Derived.Laws.BitsLemmas
namespace Go.Proofs.YtkdjhklnlnfhfaaGreatDoor
open Go Go.RowKit Go.Shelf
set_option maxRecDepth 4000

def Len64Laid_ren : Go.Shelf.Ren := ⟨fun | 129 => 187 | n => n, fun | 53 => 217 | 3 => 3 | 4 => 4 | 46 => 183 | 5 => 5 | 9 => 9 | n => n, fun | n => n⟩
theorem Len64Laid : Go.Proofs.Lays.n129 Tryz.prog Len64Laid_ren := {
  mixed := by kernel_rfl
  f129 := Tryz.func187.trans (congrArg some (by kernel_rfl))
  t3 := Tryz.underlying3
  a3 := Tryz.isAgg3
  z3 := Tryz.sizeOf3
  v3 := Tryz.zeroValue3
  t4 := Tryz.underlying4
  a4 := Tryz.isAgg4
  z4 := Tryz.sizeOf4
  v4 := Tryz.zeroValue4
  t5 := Tryz.underlying5
  a5 := Tryz.isAgg5
  z5 := Tryz.sizeOf5
  v5 := Tryz.zeroValue5
  t9 := Tryz.underlying9
  a9 := Tryz.isAgg9
  z9 := Tryz.sizeOf9
  v9 := Tryz.zeroValue9
  t46 := Tryz.underlying183
  a46 := Tryz.isAgg183
  z46 := Tryz.sizeOf183
  v46 := Tryz.zeroValue183
  t53 := Tryz.underlying217
  a53 := Tryz.isAgg217
  z53 := Tryz.sizeOf217
  v53 := Tryz.zeroValue217 }
theorem Len64_any (x : Nat) (hx : x < 18446744073709551616) (w : World) : Calls Tryz.prog 187 #[.int .u64 (x : Int)] w fun e w' => e = .returned (.int .i64 (Lib.bitLen x : Int)) ∧ w' = w := by
  have h := Any.bits_Len64 Len64Laid (x : Int) w (by omega) (by omega)
  rw [Int.toNat_natCast] at h
  exact h
/-- the row that Int builds: zeros, then the lowest bytes -/
theorem intL_row (n : Int) (k j : Nat) (h : j < k) : (zb (k - j) ++ intL n j).set (k - 1 - j) (BitVec.ofNat 8 ((n / ((256 ^ j : Nat) : Int)) % 256).toNat) = zb (k - (j + 1)) ++ intL n (j + 1) := by
  obtain ⟨d, rfl⟩ : ∃ d, k = j + (d + 1) := ⟨k - j - 1, by omega⟩
  rw [show j + (d + 1) - j = d + 1 by omega, show j + (d + 1) - 1 - j = d by omega, show j + (d + 1) - (j + 1) = d by omega]
  rw [List.set_append_left _ _ (by rw [zb_len]; omega), intL]
  have e : zb (d + 1) = zb d ++ [0] := by unfold zb; rw [List.replicate_succ']
  rw [e, List.set_append_right _ _ (by rw [zb_len]; exact Nat.le_refl _), zb_len, Nat.sub_self]
  simp
theorem byte_shr (n : Int) (j : Nat) : IntKind.u8.wrap (n / ((256 ^ j : Nat) : Int)) = ub (BitVec.ofNat 8 ((n / ((256 ^ j : Nat) : Int)) % 256).toNat) := by
  unfold ub
  rw [byt_nat, IntKind.wrap_u8]
  omega
theorem pow_shr (j : Nat) : ((2 : Int) ^ (8 * j)) = ((256 ^ j : Nat) : Int) := by
  rw [Nat.pow_mul' 2 8 j |> fun h => (by rw [Nat.pow_mul] : (256 ^ j : Nat) = 2 ^ (8 * j))]
  exact (Int.natCast_pow 2 (8 * j)).symm
set_option maxHeartbeats 2000000 in
theorem Int_any (n : Int) (w : World) (h0 : -9223372036854775808 ≤ n) (h1 : n < 9223372036854775808) :
    ∃ k l, l.length = k ∧ 1 ≤ k ∧ k ≤ 8 ∧ tcB l = true ∧ tcV l = n ∧ Calls Tryz.prog 140 #[.int .i64 n] w fun e w' => Fresh w k l e w' := by
  have hm : magN n < 9223372036854775808 := by unfold magN; split <;> omega
  obtain ⟨k, hk, hk7, hb63, hk1, hk2⟩ := kN_ok (magN n) hm
  obtain ⟨ht1, ht2⟩ := intL_ok n k hk1 hk2
  refine ⟨k + 1, intL n (k + 1), intL_len _ _, by omega, by omega, ht1, ht2, ?_⟩
  have hs : ∃ z, n / 9223372036854775808 = z ∧ bits .xor .i64 n z = (magN n : Int) := by
    rcases Int.lt_or_le n 0 with hn | hn
    · exact ⟨-1, sign_neg n hn h0⟩
    · exact ⟨0, sign_pos n hn h1⟩
  obtain ⟨z, z1, z2⟩ := hs
  have hL := Len64_any (magN n) (by omega)
  have v1 : IntKind.u64.wrap (magN n : Int) = (magN n : Int) := by rw [IntKind.wrap_u64]; omega
  unfold kN at hk
  generalize Lib.bitLen (magN n) = B at *
  generalize magN n = M at *
  have e0 : IntKind.i64.wrap ((B : Int) + 1) = (B : Int) + 1 := by rw [IntKind.wrap_i64]; omega
  have e1 : IntKind.i64.wrap ((B : Int) + 1 + 7) = (B : Int) + 8 := by rw [IntKind.wrap_i64]; omega
  have e2 : ((B : Int) + 8).tdiv 8 = ((k + 1 : Nat) : Int) := by rw [Int.tdiv_eq_ediv_of_nonneg (by omega)]; omega
  have hrow := fun j => intL_row n (k + 1) j
  have hlen := intL_len n (k + 1)
  obtain ⟨K, hKe⟩ : ∃ K, K = k + 1 := ⟨_, rfl⟩
  rw [← hKe] at e2 hrow hlen ⊢
  have hK8 : K ≤ 8 := by omega
  have hK1 : 1 ≤ K := by omega
  clear hKe hk hk1 hk2 ht1 ht2 hm hb63 hk7
  have e3 : IntKind.i64.wrap (K : Int) = (K : Int) := by rw [IntKind.wrap_i64]; omega
  have hmk := fun W => run_makeN K (K : Int) rfl (by omega) W
  have HR := Kp.mk hrow
  have HB := Kp.mk (byte_shr n)
  clear hrow
  go_enter Tryz.func140, Tryz.ntmps140
  go_wp2_with (go_at_call 187; refine (hL _).mono ?_; rintro e w1 ⟨rfl, rfl⟩)
  clear z1 z2 hL v1 e0 e1 e2 e3 hmk
  obtain ⟨g, hg⟩ : ∃ g, g = w1.heap.size := ⟨_, rfl⟩
  rw [← hg]
  have ho : Own (w1.alloc (.cells (bv (zb K)) 5)) w1.heap.size (.slice (some ⟨w1.heap.size, 0, none⟩) K K) K (zb K) := Own.new w1 _ K (zb K) (zb_len K) (Nat.le_refl _) (by unfold maxLen; omega)
  rw [← hg] at ho
  have HG := Kp.mk hg
  have HX := Kp.mk (show Ext w1 (w1.alloc (.cells (bv (zb K)) 5)) from (by (repeat (first | assumption | exact Ext.refl _ | apply Ext.drew | apply Ext.drewN | apply Ext.alloc | refine Ext.trans ?_ (by assumption))); first | done | fail))
  clear hg
  go_loopw [19] (fun i wr => ∃ j : Nat, j ≤ K ∧ i = .int .i64 (j : Int) ∧ Own wr g (.slice (some ⟨g, 0, none⟩) K K) K (zb (K - j) ++ intL n j) ∧ Ext w1 wr) (fun i _ => K - (intOf i).toNat)
  case atStart => exact ⟨0, by omega, rfl, by simpa [intL] using ho, HX.out⟩
  case round =>
    clear ho HX
    obtain ⟨j, hj, rfl, ho, hx⟩ := hrel
    by_cases hlt : j < K
    · have hcell := fun i hi => ho.cell (g := g) i hi
      obtain ⟨q, hq⟩ : ∃ q, q = K - 1 - j := ⟨_, rfl⟩
      have c1 := hcell q (by omega)
      have c2 := ho.free q
      have s1 : IntKind.i64.wrap ((K : Int) - 1) = (K : Int) - 1 := by rw [IntKind.wrap_i64]; omega
      have s2 : IntKind.i64.wrap ((K : Int) - 1 - (j : Int)) = (q : Int) := by rw [IntKind.wrap_i64]; omega
      have s3 : IntKind.i64.wrap (8 * (j : Int)) = ((8 * j : Nat) : Int) := by rw [IntKind.wrap_i64]; omega
      have b1 : (j : Int) < (K : Int) := by omega
      have b2 : (q : Int) < (K : Int) := by omega
      have HO := Kp.mk ho
      have HX := Kp.mk hx
      have HQ := Kp.mk hq
      clear ho hx hcell hq
      go_wp2_with fail
      refine ⟨⟨j + 1, by omega, by go_num, ?_, HX.out.setCell (HG.out ▸ Nat.le_refl _) _⟩, by simp [intOf]; omega⟩
      have e4 := HB.out j
      rw [IntKind.wrap_u8] at e4
      rw [pow_shr, e4, ← HR.out j hlt, ← HQ.out]
      exact HO.out.set q _
    · obtain rfl : j = K := by omega
      have b1 : ¬ (j : Int) < (j : Int) := by omega
      rw [show j - j = 0 by omega, show zb 0 ++ intL n j = intL n j by rfl] at ho
      go_wp2_with fail
      go_ret
      exact ⟨_, _, rfl, ho.bs, HG.out ▸ ho, hx⟩
end Go.Proofs.YtkdjhklnlnfhfaaGreatDoor
namespace Go.Proofs.YtkdjhklnlnfhfaaGreatDoor
open Go Go.RowKit Go.Shelf
set_option maxRecDepth 4000

def Len32LaidK_ren : Go.Shelf.Ren := ⟨fun | 128 => 129 | n => n, fun | 51 => 89 | 3 => 3 | 4 => 4 | 46 => 183 | 5 => 5 | 9 => 9 | n => n, fun | n => n⟩
theorem Len32LaidK : Go.Proofs.Lays.n128 Tryz.prog Len32LaidK_ren := {
  mixed := by kernel_rfl
  f128 := Tryz.func129.trans (congrArg some (by kernel_rfl))
  t3 := Tryz.underlying3
  a3 := Tryz.isAgg3
  z3 := Tryz.sizeOf3
  v3 := Tryz.zeroValue3
  t4 := Tryz.underlying4
  a4 := Tryz.isAgg4
  z4 := Tryz.sizeOf4
  v4 := Tryz.zeroValue4
  t5 := Tryz.underlying5
  a5 := Tryz.isAgg5
  z5 := Tryz.sizeOf5
  v5 := Tryz.zeroValue5
  t9 := Tryz.underlying9
  a9 := Tryz.isAgg9
  z9 := Tryz.sizeOf9
  v9 := Tryz.zeroValue9
  t46 := Tryz.underlying183
  a46 := Tryz.isAgg183
  z46 := Tryz.sizeOf183
  v46 := Tryz.zeroValue183
  t51 := Tryz.underlying89
  a51 := Tryz.isAgg89
  z51 := Tryz.sizeOf89
  v51 := Tryz.zeroValue89 }
theorem Len32_anyK (x : Nat) (hx : x < 4294967296) (w : World) : Calls Tryz.prog 129 #[.int .u32 (x : Int)] w fun e w' => e = .returned (.int .i64 (Lib.bitLen x : Int)) ∧ w' = w := by
  have h := Any.bits_Len32 Len32LaidK (x : Int) w (by omega) (by omega)
  rw [Int.toNat_natCast] at h
  exact h
/-- how many groups are ahead of the last one -/
theorem ahead_of (n : Nat) (h : n < 4294967296) : ∃ a, (max (Lib.bitLen n) 1 - 1) / 7 = a ∧ a ≤ 4 ∧ n / 128 ^ (a + 1) = 0 ∧ ∀ j, j < a → n / 128 ^ (a - j) ≠ 0 := by
  obtain ⟨h1, h2⟩ := bitLen_pow n (by omega)
  have h3 := Lib.bitLen_le n 32 (by decide) (by omega)
  refine ⟨_, rfl, by omega, ?_, fun j hj => ?_⟩
  · refine Nat.div_eq_of_lt (Nat.lt_of_lt_of_le h1 ?_)
    rw [show (128 : Nat) = 2 ^ 7 from rfl, ← Nat.pow_mul]
    exact Nat.pow_le_pow_right (by decide) (by omega)
  · have hn : n ≠ 0 := by
      rintro rfl
      have : Lib.bitLen 0 = 0 := by unfold Lib.bitLen; exact Lib.bitLenAux_zero _
      omega
    have h4 : 128 ^ ((max (Lib.bitLen n) 1 - 1) / 7 - j) ≤ n := by
      refine Nat.le_trans ?_ (h2 hn)
      rw [show (128 : Nat) = 2 ^ 7 from rfl, ← Nat.pow_mul]
      exact Nat.pow_le_pow_right (by decide) (by omega)
    have := Nat.div_pos h4 (Nat.pow_pos (by decide))
    omega
theorem or128u (x : BitVec 8) : bits .or .u8 (ub x) 128 = ub (BitVec.ofNat 8 (x.toNat % 128 + 128)) := by
  revert x
  refine all8 ?_
  decide +kernel
theorem andnot128 (x : BitVec 8) : bits .andNot .u8 (ub x) 128 = ub (BitVec.ofNat 8 (x.toNat % 128)) := by
  revert x
  refine all8 ?_
  decide +kernel
theorem byt_of (m : Nat) : ((m : Int) % 256) = ub (BitVec.ofNat 8 m) := by
  unfold ub
  rw [BitVec.toNat_ofNat]
  omega
theorem grp_hi (m : Nat) : bits .or .u8 ((m : Int) % 256) 128 = ub (BitVec.ofNat 8 (m % 128 + 128)) := by
  rw [byt_of, or128u, BitVec.toNat_ofNat, Nat.mod_mod_of_dvd m (by decide : 128 ∣ 2 ^ 8)]
theorem grp_lo (m : Nat) : bits .andNot .u8 ((m : Int) % 256) 128 = ub (BitVec.ofNat 8 (m % 128)) := by
  rw [byt_of, andnot128, BitVec.toNat_ofNat, Nat.mod_mod_of_dvd m (by decide : 128 ∣ 2 ^ 8)]
/-- the groups ahead of the last one, from the highest on -/
theorem groups_up (n a : Nat) (hz : n / 128 ^ (a + 1) = 0) (hj : ∀ j, j < a → n / 128 ^ (a - j) ≠ 0) : ∃ f : Nat → List (BitVec 8), f 0 = [] ∧ f a ++ [BitVec.ofNat 8 (n % 128)] = g7 n ∧ (∀ j, (f j).length ≤ 5 + j) ∧ ∀ j, j < a → f (j + 1) = f j ++ [BitVec.ofNat 8 (n / 128 ^ (a - j) % 128 + 128)] ∧ (f (j + 1)).length = (f j).length + 1 := by
  have hs : ∀ j, j < a → g7hi (n / 128 ^ (a - (j + 1) + 1)) = g7hi (n / 128 ^ (a - j + 1)) ++ [BitVec.ofNat 8 (n / 128 ^ (a - j) % 128 + 128)] := by
    intro j h
    rw [show a - (j + 1) + 1 = a - j by omega, g7hi_pos _ (hj j h), Nat.div_div_eq_div_mul, Nat.pow_succ]
  have hf : ∀ j, (g7hi (n / 128 ^ (a - j + 1))).length ≤ 5 + j ∨ a < j := by
    intro j
    induction j with
    | zero => rw [Nat.sub_zero, hz, g7hi_zero]; exact .inl (Nat.zero_le _)
    | succ j ih =>
      rcases Nat.lt_or_ge a (j + 1) with h | h
      · exact .inr h
      · rcases ih with ih | ih
        · rw [hs j (by omega), List.length_append, List.length_singleton]
          exact .inl (by omega)
        · omega
  refine ⟨fun j => if a < j then [] else g7hi (n / 128 ^ (a - j + 1)), ?_, ?_, ?_, ?_⟩
  · show (if a < 0 then [] else _) = _
    rw [if_neg (Nat.not_lt_zero _), Nat.sub_zero, hz, g7hi_zero]
  · show (if a < a then [] else _) ++ _ = _
    rw [if_neg (Nat.lt_irrefl _), Nat.sub_self]
    unfold g7
    rw [Nat.zero_add, Nat.pow_one]
  · intro j
    show (if a < j then [] else _).length ≤ _
    split
    · exact Nat.zero_le _
    · rcases hf j with h | h
      · exact h
      · omega
  · intro j h
    have e : (if a < j + 1 then [] else g7hi (n / 128 ^ (a - (j + 1) + 1))) = (if a < j then [] else g7hi (n / 128 ^ (a - j + 1))) ++ [BitVec.ofNat 8 (n / 128 ^ (a - j) % 128 + 128)] := by
      rw [if_neg (by omega), if_neg (by omega), hs j h]
    refine ⟨e, ?_⟩
    show (if a < j + 1 then [] else _).length = _
    rw [e, List.length_append, List.length_singleton]
theorem shr7 (n d : Nat) : (n : Int) / 2 ^ (7 * d) = ((n / 128 ^ d : Nat) : Int) := by
  rw [show (128 : Nat) = 2 ^ 7 from rfl, ← Nat.pow_mul, Int.natCast_ediv, Int.natCast_pow]
  rfl
set_option maxHeartbeats 4000000 in
theorem withGroups_any {w0 w : World} {B : Nat} {v : Value} {m : Nat} {l : List (BitVec 8)} (ho : Own w B v m l) (hx0 : Ext w0 w) (hB0 : w0.heap.size ≤ B) (hBw : B ≤ w.heap.size) (hm : m ≤ 1000000) (n : Nat) (hn : n < 4294967296) (M : Nat) (hM : m + (g7 n).length = M) :
    Calls Tryz.prog 185 #[v, .int .u32 (n : Int)] w fun e w' => ∃ A c, e = .returned (.slice A M c) ∧ Own w' B (.slice A M c) M (l ++ g7 n) ∧ Ext w0 w' ∧ w.heap.size ≤ w'.heap.size := by
  obtain ⟨A, c, rfl⟩ := ho.form
  obtain ⟨a, ha, ha4, hz, hj⟩ := ahead_of n hn
  obtain ⟨f, f0, fa, fl, fs⟩ := groups_up n a hz hj
  have hL := Len32_anyK n hn
  have hl := ho.len
  have e1 : IntKind.i64.wrap (max (Lib.bitLen n : Int) 1 - 1) = ((max (Lib.bitLen n) 1 - 1 : Nat) : Int) := by
    have := Lib.bitLen_le n 32 (by decide) (by omega)
    rw [IntKind.wrap_i64]; omega
  have e2 : ((max (Lib.bitLen n) 1 - 1 : Nat) : Int).tdiv 7 = (a : Int) := by rw [Int.tdiv_eq_ediv_of_nonneg (by omega)]; omega
  have e3 : IntKind.i64.wrap (a : Int) = (a : Int) := by rw [IntKind.wrap_i64]; omega
  generalize Lib.bitLen n = L at *
  clear ha
  have HF := Kp.mk fs
  have HL := Kp.mk fl
  have HA := Kp.mk fa
  have HZ := Kp.mk f0
  have HO := Kp.mk ho
  have HX := Kp.mk hx0
  have HM := Kp.mk hM
  clear hM
  have e5 := grp_lo n
  have HD : ∀ d : Nat, bits .or .u8 ((n : Int) / 2 ^ (7 * d) % 256) 128 = ub (BitVec.ofNat 8 (n / 128 ^ d % 128 + 128)) := fun d => by rw [shr7, grp_hi]
  have HD' := Kp.mk HD
  clear hj hz ho hx0 fs fl fa f0 HD
  go_enter Tryz.func185, Tryz.ntmps185
  go_wp2_with (go_at_call 129; refine (hL _).mono ?_; rintro e w1 ⟨rfl, hw⟩; obtain rfl : w = w1 := hw.symm)
  clear hL e1 e2 e3
  go_loopw [0, 13] (fun v i wr => ∃ j N : Nat, ∃ A' c', j ≤ a ∧ N = m + (f j).length ∧ i = .int .i64 (j : Int) ∧ v = .slice A' N c' ∧ Own wr B (.slice A' N c') N (l ++ f j) ∧ Ext w0 wr ∧ w.heap.size ≤ wr.heap.size) (fun _ i _ => a - (intOf i).toNat)
  case atStart => exact ⟨0, m, A, c, Nat.zero_le _, by rw [HZ.out]; rfl, rfl, rfl, by rw [HZ.out, List.append_nil]; exact HO.out, HX.out, Nat.le_refl _⟩
  case round =>
    obtain ⟨j, N, A', c', hj, hN, rfl, rfl, ho, hx, hsz⟩ := hrel
    have hNm : N ≤ 2000000 := by have := HL.out j; omega
    have hBr : B ≤ wr.heap.size := Nat.le_trans hBw hsz
    by_cases hlt : j < a
    · obtain ⟨d, hd⟩ : ∃ d, d = a - j := ⟨_, rfl⟩
      have s1 : IntKind.i64.wrap ((a : Int) - (j : Int)) = (d : Int) := by rw [IntKind.wrap_i64]; omega
      have s2 : IntKind.i64.wrap (7 * (d : Int)) = ((7 * d : Nat) : Int) := by rw [IntKind.wrap_i64]; omega
      have b1 : (j : Int) < (a : Int) := by omega
      have hd4 : d ≤ 4 := by omega
      obtain ⟨g1, g2⟩ := HF.out j hlt
      rw [← hd] at g1
      have e4 := HD'.out d
      generalize BitVec.ofNat 8 (n / 128 ^ d % 128 + 128) = y at *
      have HN := Kp.mk (And.intro hN (And.intro g1 g2))
      have H1 := Kp.mk ho
      have H2 := Kp.mk hx
      have H3 := Kp.mk hsz
      clear hN g1 g2 ho hx hsz hd e5
      go_wp2_with (first | (at_builtin; refine wpList_append_bs rfl (.tmp 16) (.tmp 25) rfl B _ N (l ++ f j) rfl (H1.out.ext (by (repeat (first | assumption | exact Ext.refl _ | apply Ext.drew | apply Ext.drewN | apply Ext.alloc | refine Ext.trans ?_ (by assumption))); first | done | fail)) _ 1 1 [y] rfl (const_bs wr _ [y] 1 1 (0, 0) rfl rfl (by decide)) (by omega) (N + 1) rfl (l ++ f j ++ [y]) rfl w0 (H2.out.trans (by (repeat (first | assumption | exact Ext.refl _ | apply Ext.drew | apply Ext.drewN | apply Ext.alloc | refine Ext.trans ?_ (by assumption))); first | done | fail)) hB0 (Nat.le_trans hBr (by simp)) ?_; intro A4 c4 w4 ho4 hx4 hap4) | fail)
      go_roundw
      case rel =>
        obtain ⟨hN, g1, g2⟩ := HN.out
        refine ⟨j + 1, N + 1, A4, c4, by omega, by omega, by go_num, by first | rfl | (congr 1; omega), ?_, hx4, ?_⟩
        · rw [g1, ← List.append_assoc]; exact ho4
        · exact Nat.le_trans H3.out (Nat.le_trans (by simp) hap4.grown.size)
      case measure => simp [intOf]; omega
    · obtain rfl : j = a := by omega
      have b1 : ¬ (j : Int) < (j : Int) := by omega
      have hNl : N + 1 = m + (g7 n).length := by rw [← HA.out, List.length_append, List.length_singleton]; omega
      generalize hy : BitVec.ofNat 8 (n % 128) = y at *
      obtain rfl : N + 1 = M := by rw [← HM.out]; exact hNl
      have H1 := Kp.mk ho
      have H2 := Kp.mk hx
      have H3 := Kp.mk hsz
      clear hN ho hx hsz hNl
      go_wp2_with (first | (at_builtin; refine wpList_append_bs rfl (.tmp 28) (.tmp 32) rfl B _ N (l ++ f j) rfl (H1.out.ext (by (repeat (first | assumption | exact Ext.refl _ | apply Ext.drew | apply Ext.drewN | apply Ext.alloc | refine Ext.trans ?_ (by assumption))); first | done | fail)) _ 1 1 [y] rfl (const_bs wr _ [y] 1 1 (0, 0) rfl rfl (by decide)) (by omega) (N + 1) rfl (l ++ f j ++ [y]) rfl w0 (H2.out.trans (by (repeat (first | assumption | exact Ext.refl _ | apply Ext.drew | apply Ext.drewN | apply Ext.alloc | refine Ext.trans ?_ (by assumption))); first | done | fail)) hB0 (Nat.le_trans hBr (by simp)) ?_; intro A4 c4 w4 ho4 hx4 hap4) | fail)
      go_ret
      refine ⟨A4, c4, rfl, ?_, hx4, Nat.le_trans H3.out (Nat.le_trans (by simp) hap4.grown.size)⟩
      rw [← HA.out, ← List.append_assoc]
      exact ho4
set_option maxHeartbeats 4000000 in
/-- the reference's group, by the number of groups -/
theorem group_any : ∀ (n : Nat), n < 4294967296 → ∀ w : World, Calls Tryz.prog 149 #[.int .u32 (n : Int)] w fun e w' => Fresh w (g7 n).length (g7 n) e w' := by
  intro n
  induction n using Nat.strongRecOn with
  | ind n ih =>
    intro hn w
    by_cases h : n < 128
    · rw [g7_small n h]
      have b1 : decide ((n : Int) < 128) = true := decide_eq_true (by omega)
      have e1 := byt_of n
      generalize BitVec.ofNat 8 n = y at *
      have ho := Own.new w w.heap.size 1 [y] rfl (Nat.le_refl _) (by decide)
      clear ih h
      go_enter Tryz.func149, Tryz.ntmps149
      go_wp2_with fail
      go_ret
      exact ⟨_, _, rfl, ho.bs, ho, (by (repeat (first | assumption | exact Ext.refl _ | apply Ext.drew | apply Ext.drewN | apply Ext.alloc | refine Ext.trans ?_ (by assumption))); first | done | fail)⟩
    · have b1 : decide ((n : Int) < 128) = false := decide_eq_false (by omega)
      have hC := fun W => ih (n / 128) (by omega) (by omega) W
      have e1 : (n : Int).tdiv 128 = ((n / 128 : Nat) : Int) := by rw [Int.tdiv_eq_ediv_of_nonneg (by omega)]; omega
      have e2 : (n : Int).tmod 128 = ((n % 128 : Nat) : Int) := by rw [Int.tmod_eq_emod_of_nonneg (by omega)]; omega
      have e4 : IntKind.u32.wrap ((n / 128 : Nat) : Int) = ((n / 128 : Nat) : Int) := by rw [IntKind.wrap_u32]; omega
      have e5 : IntKind.u32.wrap ((n % 128 : Nat) : Int) = ((n % 128 : Nat) : Int) := by rw [IntKind.wrap_u32]; omega
      have e3 : ((n % 128 : Nat) : Int) % 256 = ub (BitVec.ofNat 8 (n % 128)) := byt_of _
      have hg : g7 n = g7hi (n / 128) ++ [BitVec.ofNat 8 (n % 128)] := rfl
      have hg2 : g7 (n / 128) = g7hi (n / 128 / 128) ++ [BitVec.ofNat 8 (n / 128 % 128)] := rfl
      have hg3 := g7hi_pos (n / 128) (by omega)
      have hlen := (g7_len (n / 128) (by omega)).2
      have hpos := (g7_len (n / 128) (by omega)).1
      obtain ⟨t, ht⟩ : ∃ t, BitVec.ofNat 8 (n / 128 % 128) = t := ⟨_, rfl⟩
      obtain ⟨u, hu⟩ : ∃ u, BitVec.ofNat 8 (n / 128 % 128 + 128) = u := ⟨_, rfl⟩
      have hup : IntKind.u8.wrap (ub t + 128) = ub u := by
        rw [← ht, ← hu]
        unfold ub
        rw [BitVec.toNat_ofNat, BitVec.toNat_ofNat, IntKind.wrap_u8]
        omega
      rw [ht] at hg2
      rw [hu] at hg3
      generalize hG : g7hi (n / 128 / 128) = G at *
      have hset : (g7 (n / 128)).set G.length u = g7hi (n / 128) := by rw [hg2, hg3, List.set_append_right _ _ (Nat.le_refl _), Nat.sub_self]; rfl
      have hgb : gb (g7 (n / 128)) G.length = t := by rw [hg2, gb_app, if_neg (Nat.lt_irrefl _), Nat.sub_self]; rfl
      have hl2 : (g7 (n / 128)).length = G.length + 1 := by rw [hg2, List.length_append]; rfl
      have hl3 : (g7hi (n / 128)).length = G.length + 1 := by rw [hg3, List.length_append]; rfl
      rw [hl2] at hlen
      generalize hq : G.length = q at *
      generalize g7hi (n / 128) = H at *
      have hlg : (g7 n).length = q + 2 := by rw [hg, List.length_append, hl3]; rfl
      rw [hlg]
      generalize g7 n = R at *
      generalize g7 (n / 128) = P at *
      generalize BitVec.ofNat 8 (n % 128) = y at *
      have HS := Kp.mk hset
      have HB := Kp.mk hgb
      have HE := Kp.mk hg
      rw [hl2] at hC
      have HC := Kp.mk hC
      have HL := Kp.mk (And.intro hl2 hl3)
      clear hC
      have hq4 : q ≤ 4 := by omega
      generalize n % 128 = n1 at *
      generalize n / 128 = n2 at *
      clear hset hgb hg hg2 hg3 hl2 hl3 hlg hpos hlen ht hu hG hq ih h
      go_enter Tryz.func149, Tryz.ntmps149
      go_wp2_with fail
      refine (HC.out _).mono ?_
      rintro e w1 ⟨A1, c1, rfl, hs1, ho1, hx1⟩
      obtain ⟨g, rfl, hg1, hg2⟩ := ho1.some_ (by omega)
      have k1 := ho1.cell q (by omega)
      rw [HB.out] at k1
      have k2 := ho1.free q
      have s1 : IntKind.i64.wrap (((q + 1 : Nat) : Int) - 1) = (q : Int) := by rw [IntKind.wrap_i64]; omega
      have b2 : (q : Int) < ((q + 1 : Nat) : Int) := by omega
      have ho2 := ho1.set q u
      rw [HS.out] at ho2
      have hx2 : Ext w (w1.setCell ⟨g, q, none⟩ (.int .u8 (ub u))) := hx1.setCell hg1 _
      obtain ⟨M, hM⟩ : ∃ M, M = q + 1 := ⟨_, rfl⟩
      have hM5 : M ≤ 5 := by omega
      rw [← hM] at ho2 s1 b2 ⊢
      have HM := Kp.mk hM
      have HO := Kp.mk ho2
      have HX := Kp.mk hx2
      clear hM ho1 hs1 hx1 ho2 hx2
      go_wp2_with (first | (at_builtin; refine wpList_append_bs rfl (.tmp 24) (.tmp 28) rfl w.heap.size _ M H rfl (HO.out.ext (by (repeat (first | assumption | exact Ext.refl _ | apply Ext.drew | apply Ext.drewN | apply Ext.alloc | refine Ext.trans ?_ (by assumption))); first | done | fail)) _ 1 1 [y] rfl (const_bs (w1.setCell ⟨g, q, none⟩ (.int .u8 (ub u))) _ [y] 1 1 (0, 0) (by simp) rfl (by decide)) (by omega) (M + 1) rfl (H ++ [y]) rfl w (HX.out.trans (by (repeat (first | assumption | exact Ext.refl _ | apply Ext.drew | apply Ext.drewN | apply Ext.alloc | refine Ext.trans ?_ (by assumption))); first | done | fail)) (Nat.le_refl _) (HX.out.trans (by (repeat (first | assumption | exact Ext.refl _ | apply Ext.drew | apply Ext.drewN | apply Ext.alloc | refine Ext.trans ?_ (by assumption))); first | done | fail)).size ?_; intro A4 c4 w4 ho4 hx4 hap4) | fail)
      go_ret
      rw [HE.out, show q + 2 = M + 1 by rw [HM.out]]
      exact ⟨A4, c4, rfl, ho4.bs, ho4, hx4⟩
end Go.Proofs.YtkdjhklnlnfhfaaGreatDoor
namespace Go.Proofs.YtkdjhklnlnfhfaaGreatDoor
open Go Go.RowKit
set_option maxRecDepth 4000

theorem szU : (Tryz.prog.info? 89).map (·.size) = some 1 := by kernel_rfl
theorem Rd.cut {α : Type} {e : α → Value} {w : World} {A : Option Addr} {n c : Nat} {l : List α} (h : Rd e w A n c l) (k : Nat) (hk : k ≤ n) : ∃ A', (if c = k then A else A.map (·.add k)) = A' ∧ Rd e w A' (n - k) (c - k) (l.drop k) := by
  have hl := h.len
  have hcap := h.cap
  refine ⟨_, rfl, by rw [List.length_drop, hl], by omega, fun e => ?_, fun hn => ?_⟩
  · have hA : A = none := by
      cases A with
      | none => rfl
      | some a => split at e <;> simp at e
    have := h.nul hA
    omega
  · obtain ⟨g, o, rfl, hc⟩ := h.at_ (by omega)
    rw [if_neg (by omega)]
    have hadd : (⟨g, o, none⟩ : Addr).add k = ⟨g, o + k, none⟩ := by unfold Addr.add; split <;> simp_all
    refine ⟨g, o + k, by simp [hadd], fun j x hj => ?_⟩
    rw [Nat.add_assoc]
    rw [List.getElem?_drop] at hj
    exact hc (k + j) x hj
theorem dg_dropK (l : List Nat) (k j : Nat) : dg (l.drop k) j = dg l (k + j) := by unfold dg; rw [List.getD_eq_getElem?_getD, List.getElem?_drop, ← List.getD_eq_getElem?_getD]
theorem g7s_app (a b : List Nat) : g7s (a ++ b) = g7s a ++ g7s b := by unfold g7s; rw [List.flatMap_append]
/-- an identifier's body, number by number -/
theorem oid_up {l : List Nat} (h : OidP l) : ∃ f : Nat → List (BitVec 8), f 0 = g7 (40 * dg l 0 + dg l 1) ∧ f (l.length - 2) = oidB l ∧ (∀ j, j ≤ l.length - 2 → (f j).length ≤ 5 * (j + 1)) ∧ ∀ j, j < l.length - 2 → f (j + 1) = f j ++ g7 (dg l (j + 2)) := by
  obtain ⟨a, b, r, rfl, h1, ha, hb, hc, hr⟩ := h
  have hf : ∀ j, ((a * 40 + b) :: r).take (j + 1) = (a * 40 + b) :: r.take j := fun j => by simp
  refine ⟨fun j => g7s ((40 * a + b) :: r.take j), ?_, ?_, ?_, ?_⟩
  · show g7 (40 * a + b) ++ g7s [] = g7 (40 * a + b)
    exact List.append_nil _
  · show g7s ((40 * a + b) :: r.take (r.length + 1 + 1 - 2)) = g7s ((40 * a + b) :: r)
    rw [show r.length + 1 + 1 - 2 = r.length by omega, List.take_length]
  · intro j hj
    have := (g7s_len ((40 * a + b) :: r.take j) fun n hn => by
      rcases List.mem_cons.1 hn with rfl | hn
      · omega
      · exact hr n (List.mem_of_mem_take hn)).2
    rw [List.length_cons, List.length_take] at this
    show (g7s ((40 * a + b) :: r.take j)).length ≤ _
    omega
  · intro j hj
    have hj' : j < r.length := by
      have : (a :: b :: r).length = r.length + 2 := rfl
      omega
    show g7s ((40 * a + b) :: r.take (j + 1)) = g7s ((40 * a + b) :: r.take j) ++ g7 (dg (a :: b :: r) (j + 2))
    have e1 : r.take (j + 1) = r.take j ++ [dg r j] := by
      rw [List.take_succ_eq_append_getElem hj']
      simp [dg, List.getD_eq_getElem?_getD, hj']
    have e2 : dg (a :: b :: r) (j + 2) = dg r j := rfl
    rw [e1, e2, ← List.cons_append, g7s_app]
    show _ ++ (g7 (dg r j) ++ []) = _
    rw [List.append_nil]
theorem oid_lt {l : List Nat} (h : OidP l) : 2 ≤ l.length ∧ l.length ≤ 16 ∧ 40 * dg l 0 + dg l 1 < 4294967296 ∧ ∀ j, j < l.length - 2 → dg l (j + 2) < 4294967296 := by
  obtain ⟨a, b, r, rfl, h1, ha, hb, hc, hr⟩ := h
  refine ⟨by simp, h1, ?_, fun j hj => ?_⟩
  · show 40 * a + b < _
    omega
  · have hj' : j < r.length := by
      have : (a :: b :: r).length = r.length + 2 := rfl
      omega
    have e2 : dg (a :: b :: r) (j + 2) = r[j] := by
      show dg r j = _
      simp [dg, List.getD_eq_getElem?_getD, hj']
    rw [e2]
    exact hr _ (List.getElem_mem hj')
set_option maxHeartbeats 4000000 in
theorem Oid_any {l : List Nat} {A : Option Addr} {n c : Nat} {w : World} (h : Rd vL w A n c l) (hd : Dg 4294967296 l) :
    Calls Tryz.prog 136 #[.slice A n c] w fun e w' => (¬ OidP l ∧ e = .returned (.tuple #[.slice none 0 0, err 1]) ∧ Ext w w') ∨ (OidP l ∧ FreshE w (oidB l).length (oidB l) e w') := by
  have hK := isOid_any h
  by_cases hP : OidP l
  · rw [(oidK_iff hd).2 hP] at hK
    refine Calls.mono (R := fun e w' => FreshE w (oidB l).length (oidB l) e w') ?_ fun _ _ h => .inr ⟨hP, h⟩
    obtain ⟨f, f0, fa, fl, fs⟩ := oid_up hP
    obtain ⟨n2, n16, n0, nr⟩ := oid_lt hP
    have hl := h.len
    rw [hl] at fa fl fs n2 n16 nr
    obtain ⟨A', hA', hD⟩ := h.cut 2 n2
    have hcut := run_from (P := Tryz.prog) A n c 22 89 Tryz.underlying22 szU 2 2 rfl n2
    rw [hA'] at hcut
    obtain ⟨g, o, rfl⟩ := h.some_ (by omega)
    have c0 : ∀ w', Ext w w' → w'.cell? ⟨g, o, none⟩ = some (.int .u32 (dg l 0 : Int)) := fun w' hx => by
      have := (h.ext hx).dig 0 (by omega)
      rwa [Nat.add_zero] at this
    have c1 : ∀ w', Ext w w' → w'.cell? ⟨g, o + 1, none⟩ = some (.int .u32 (dg l 1 : Int)) := fun w' hx => (h.ext hx).dig 1 (by omega)
    have b0 : (0 : Int) < (n : Int) := by omega
    have b1 : (1 : Int) < (n : Int) := by omega
    have b2 : 0 < n := by omega
    have b3 : 1 < n := by omega
    have e1 : IntKind.u32.wrap (40 * (dg l 0 : Int)) = ((40 * dg l 0 : Nat) : Int) := by rw [IntKind.wrap_u32]; omega
    have e2 : IntKind.u32.wrap (((40 * dg l 0 : Nat) : Int) + (dg l 1 : Int)) = ((40 * dg l 0 + dg l 1 : Nat) : Int) := by rw [IntKind.wrap_u32]; omega
    have hl0 := fl 0 (Nat.zero_le _)
    rw [f0] at hl0
    generalize dg l 0 = x at *
    generalize dg l 1 = y at *
    generalize hz : 40 * x = x40 at *
    generalize x40 + y = z at *
    have HF := Kp.mk fs
    have HL := Kp.mk fl
    have HA := Kp.mk fa
    have HZ := Kp.mk f0
    have HR := Kp.mk nr
    have HD := Kp.mk hD
    generalize hB : oidB l = ob at *
    have HG := Kp.mk (fun j => dg_dropK l 2 j)
    clear fs fl fa f0 nr hD h hd hP hA' hl hz hB
    go_enter Tryz.func136, Tryz.ntmps136
    go_wp2_with (go_at_call 184; refine hK.mono ?_; rintro e w1 ⟨rfl, hw⟩; obtain rfl : w = w1 := hw.symm)
    refine wp_region_held_drew (S := fun w' => Ext w w') (by kernel_rfl) (Ext.refl w).drew (fun hHeld => ?_)
    refine wpAnyH_take (i := 0) (oi := ⟨some 11, _, _, _, _, _⟩) (v := ?_) rfl (by kernel_rfl) (by kernel_rfl) (by kernel_rfl) (fun _ _ _ h => h) (Or.inl ⟨by rfl, ?_⟩) (by assumption) ?_
    rotate_left
    · (intro w hSw; (try dsimp only at hSw); go_simp; try with_reducible rfl)
    try simp only [Act.put, List.setIfInBounds_toArray, List.set_cons_zero, List.set_cons_succ]
    refine wpAnyH_take (i := 1) (oi := ⟨some 12, _, _, _, _, _⟩) (v := ?_) rfl (by kernel_rfl) (by kernel_rfl) (by kernel_rfl) (fun _ _ _ h => h) (Or.inl ⟨by rfl, ?_⟩) (by assumption) ?_
    rotate_left
    · (intro w hSw; (try dsimp only at hSw); go_simp; try with_reducible rfl)
    try simp only [Act.put, List.setIfInBounds_toArray, List.set_cons_zero, List.set_cons_succ]
    refine wpAnyH_take (i := 2) (oi := ⟨some 13, _, _, _, _, _⟩) (v := ?_) rfl (by kernel_rfl) (by kernel_rfl) (by kernel_rfl) (fun _ _ _ h => h) (Or.inl ⟨by rfl, ?_⟩) (by assumption) ?_
    rotate_left
    · (intro w hSw; (try dsimp only at hSw); go_simp; try with_reducible rfl)
    try simp only [Act.put, List.setIfInBounds_toArray, List.set_cons_zero, List.set_cons_succ]
    refine wpAnyH_take (i := 3) (oi := ⟨some 14, _, _, _, _, _⟩) (v := ?_) rfl (by kernel_rfl) (by kernel_rfl) (by kernel_rfl) (fun _ _ _ h => h) (Or.inl ⟨by rfl, ?_⟩) (by assumption) ?_
    rotate_left
    · (intro w hSw; (try dsimp only at hSw); go_simp; try with_reducible rfl)
    try simp only [Act.put, List.setIfInBounds_toArray, List.set_cons_zero, List.set_cons_succ]
    refine wpAnyH_take (i := 4) (oi := ⟨some 15, _, _, _, _, _⟩) (v := ?_) rfl (by kernel_rfl) (by kernel_rfl) (by kernel_rfl) (fun _ _ _ h => h) (Or.inl ⟨by rfl, ?_⟩) (by assumption) ?_
    rotate_left
    · (intro w hSw; (try dsimp only at hSw); go_simp; try with_reducible rfl)
    try simp only [Act.put, List.setIfInBounds_toArray, List.set_cons_zero, List.set_cons_succ]
    refine wpAnyH_take (i := 5) (oi := ⟨some 16, _, _, _, _, _⟩) (v := ?_) rfl (by kernel_rfl) (by kernel_rfl) (by kernel_rfl) (fun _ _ _ h => h) (Or.inl ⟨by rfl, ?_⟩) (by assumption) ?_
    rotate_left
    · (intro w hSw; (try dsimp only at hSw); go_simp; try with_reducible rfl)
    try simp only [Act.put, List.setIfInBounds_toArray, List.set_cons_zero, List.set_cons_succ]
    refine wpAnyH_take (i := 6) (oi := ⟨some 17, _, _, _, _, _⟩) (v := ?_) rfl (by kernel_rfl) (by kernel_rfl) (by kernel_rfl) (fun _ _ _ h => h) (Or.inl ⟨by rfl, ?_⟩) (by assumption) ?_
    rotate_left
    · (intro w hSw; (try dsimp only at hSw); go_simp; try with_reducible rfl)
    try simp only [Act.put, List.setIfInBounds_toArray, List.set_cons_zero, List.set_cons_succ]
    refine wpAnyH_take (i := 7) (oi := ⟨some 18, _, _, _, _, _⟩) (v := ?_) rfl (by kernel_rfl) (by kernel_rfl) (by kernel_rfl) (fun _ _ _ h => h) (Or.inl ⟨by rfl, ?_⟩) (by assumption) ?_
    rotate_left
    · (intro w hSw; (try dsimp only at hSw); go_simp; try with_reducible rfl)
    try simp only [Act.put, List.setIfInBounds_toArray, List.set_cons_zero, List.set_cons_succ]
    refine next_one 8 (by kernel_rfl) rfl (by rfl) fun K' HK' => ?_
    go_simp
    refine (withGroups_any (w0 := w.drew) (B := w.heap.size) (Own.nil _ _) (Ext.refl _) (by simp) (by simp) (by omega) z n0 _ rfl).mono ?_
    rintro e w1 ⟨A1, c1', rfl, ho1, hx1, hz1⟩
    have hx1' : Ext w w1 := (by (repeat (first | assumption | exact Ext.refl _ | apply Ext.drew | apply Ext.drewN | apply Ext.alloc | refine Ext.trans ?_ (by assumption))); first | done | fail)
    have hS2 := Ext.trans hHeld hx1
    refine held_go HK' hS2 (fun _ => ?_)
    clear HK'
    refine held_more (S' := fun w' => Ext w1 w') (fun _ h => Ext.trans hS2 h) _ _ _ _ ?_
    clear hHeld hS2
    have hHeld : Ext w1 w1 := Ext.refl _
    try simp only [Act.put, List.setIfInBounds_toArray, List.set_cons_zero, List.set_cons_succ]
    refine wpAnyH_take (i := 9) (oi := ⟨some 4, _, _, _, _, _⟩) (v := ?_) rfl (by kernel_rfl) (by kernel_rfl) (by kernel_rfl) (fun _ _ _ h => h) (Or.inl ⟨by rfl, ?_⟩) (by assumption) ?_
    rotate_left
    · (intro w hSw; (try dsimp only at hSw); go_simp; try with_reducible rfl)
    try simp only [Act.put, List.setIfInBounds_toArray, List.set_cons_zero, List.set_cons_succ]
    refine wpAnyH_done (by kernel_rfl) ?_ _
    rw [Nat.zero_add, ← HZ.out] at ho1
    rw [List.nil_append] at ho1
    rw [Nat.zero_add, ← HZ.out]
    obtain ⟨M, hM⟩ : ∃ M, M = (f 0).length := ⟨_, rfl⟩
    rw [← hM] at ho1 ⊢
    have H0 := Kp.mk hM
    have H1 := Kp.mk ho1
    have H2 := Kp.mk hx1'
    clear hM ho1 hx1 hx1' hz1 c0 c1 hK e1 e2
    go_wp2_with fail
    clear hcut
    go_loopw [4, 23] (fun v i wr => ∃ j N : Nat, ∃ A2 c2, j ≤ n - 2 ∧ N = (f j).length ∧ i = .int .i64 (j : Int) ∧ v = .slice A2 N c2 ∧ Own wr w.heap.size (.slice A2 N c2) N (f j) ∧ Ext w wr) (fun _ i _ => n - 2 - (intOf i).toNat)
    case atStart => exact ⟨0, M, A1, c1', Nat.zero_le _, H0.out, rfl, rfl, H1.out, H2.out⟩
    case round =>
      obtain ⟨j, N, A2, c2, hj, hN, rfl, rfl, ho, hx⟩ := hrel
      have hNl : N ≤ 1000000 := by have := HL.out j hj; omega
      by_cases hlt : j < n - 2
      · have b4 : (j : Int) < ((n - 2 : Nat) : Int) := by omega
        obtain ⟨g2, o2, rfl⟩ := HD.out.some_ (by omega)
        have k1 := (HD.out.ext hx).dig j (by omega)
        rw [HG.out, Nat.add_comm 2 j] at k1
        have k2 := HF.out j hlt
        have k3 := HR.out j hlt
        unfold vL at k1
        generalize dg l (j + 2) = d at *
        have H3 := Kp.mk (And.intro hN k2)
        have H4 := Kp.mk ho
        have H5 := Kp.mk hx
        clear hN k2 ho hx
        go_wp2_with fail
        refine (withGroups_any (w0 := w) (B := w.heap.size) H4.out H5.out (Nat.le_refl _) H5.out.size (by omega) d k3 _ rfl).mono ?_
        rintro e w3 ⟨A3, c3, rfl, ho3, hx3, hz3⟩
        have e5 : N + (g7 d).length = (f (j + 1)).length := by rw [H3.out.2, List.length_append, ← H3.out.1]
        rw [← H3.out.2, e5] at ho3
        rw [e5]
        obtain ⟨N3, hN3⟩ : ∃ N3, N3 = (f (j + 1)).length := ⟨_, rfl⟩
        rw [← hN3] at ho3 ⊢
        have H6 := Kp.mk hN3
        have H7 := Kp.mk ho3
        have H8 := Kp.mk hx3
        clear hN3 ho3 hx3 e5 hz3 k1
        go_wp2_with fail
        go_roundw
        case rel => exact ⟨j + 1, N3, A3, c3, hlt, H6.out, by go_num, rfl, H7.out, H8.out⟩
        case measure => simp [intOf]; omega
      · obtain rfl : j = n - 2 := by omega
        have b4 : ¬ ((n - 2 : Nat) : Int) < ((n - 2 : Nat) : Int) := by omega
        rw [HA.out] at ho hN
        have H3 := Kp.mk ho
        have H4 := Kp.mk hx
        subst hN
        clear ho hx
        go_wp2_with fail
        go_ret2
        exact ⟨_, _, rfl, H3.out.bs, H3.out, H4.out⟩
  · have hK2 : oidK l = false := by
      cases hq : oidK l with
      | false => rfl
      | true => exact absurd ((oidK_iff hd).1 hq) hP
    rw [hK2] at hK
    refine Calls.mono (R := fun e w' => e = .returned (.tuple #[.slice none 0 0, err 1]) ∧ Ext w w') ?_ fun _ _ h => .inl ⟨hP, h⟩
    clear h hd hP hK2
    go_enter Tryz.func136, Tryz.ntmps136
    go_wp2_with (go_at_call 184; refine hK.mono ?_; rintro e w1 ⟨rfl, rfl⟩)
    go_ret2
    exact ⟨rfl, (by (repeat (first | assumption | exact Ext.refl _ | apply Ext.drew | apply Ext.drewN | apply Ext.alloc | refine Ext.trans ?_ (by assumption))); first | done | fail)⟩
set_option maxHeartbeats 4000000 in
theorem OidBody_any {l : List Nat} {A : Option Addr} {n c : Nat} {w : World} (h : Rd vL w A n c l) (hP : OidP l) :
    Calls Tryz.prog 100 #[.slice A n c] w fun e w' => Fresh w (oidB l).length (oidB l) e w' := by
  obtain ⟨f, f0, fa, fl, fs⟩ := oid_up hP
  obtain ⟨n2, n16, n0, nr⟩ := oid_lt hP
  have hl := h.len
  rw [hl] at fa fl fs n2 n16 nr
  obtain ⟨g, o, rfl⟩ := h.some_ (by omega)
  have c0 : ∀ w', Ext w w' → w'.cell? ⟨g, o, none⟩ = some (.int .u32 (dg l 0 : Int)) := fun w' hx => by
    have := (h.ext hx).dig 0 (by omega)
    rwa [Nat.add_zero] at this
  have c1 : ∀ w', Ext w w' → w'.cell? ⟨g, o + 1, none⟩ = some (.int .u32 (dg l 1 : Int)) := fun w' hx => (h.ext hx).dig 1 (by omega)
  have b0 : (0 : Int) < (n : Int) := by omega
  have b1 : (1 : Int) < (n : Int) := by omega
  have b2 : 0 < n := by omega
  have b3 : 1 < n := by omega
  have e1 : IntKind.u32.wrap (40 * (dg l 0 : Int)) = ((40 * dg l 0 : Nat) : Int) := by rw [IntKind.wrap_u32]; omega
  have e2 : IntKind.u32.wrap (((40 * dg l 0 : Nat) : Int) + (dg l 1 : Int)) = ((40 * dg l 0 + dg l 1 : Nat) : Int) := by rw [IntKind.wrap_u32]; omega
  generalize dg l 0 = x at *
  generalize dg l 1 = y at *
  generalize hz : 40 * x = x40 at *
  generalize x40 + y = z at *
  have HF := Kp.mk fs
  have HL := Kp.mk fl
  have HA := Kp.mk fa
  have HZ := Kp.mk f0
  have HR := Kp.mk nr
  have HD := Kp.mk h
  generalize hB : oidB l = ob at *
  clear fs fl fa f0 nr h hP hl hz hB
  go_enter Tryz.func100, Tryz.ntmps100
  go_wp2_with fail
  refine wp_region_held_drew (S := fun w' => Ext w w') (by kernel_rfl) (Ext.refl w).drew (fun hHeld => ?_)
  refine wpAnyH_take (i := 0) (oi := ⟨some 5, _, _, _, _, _⟩) (v := ?_) rfl (by kernel_rfl) (by kernel_rfl) (by kernel_rfl) (fun _ _ _ h => h) (Or.inl ⟨by rfl, ?_⟩) (by assumption) ?_
  rotate_left
  · (intro w hSw; (try dsimp only at hSw); go_simp; try with_reducible rfl)
  try simp only [Act.put, List.setIfInBounds_toArray, List.set_cons_zero, List.set_cons_succ]
  refine wpAnyH_take (i := 1) (oi := ⟨some 6, _, _, _, _, _⟩) (v := ?_) rfl (by kernel_rfl) (by kernel_rfl) (by kernel_rfl) (fun _ _ _ h => h) (Or.inl ⟨by rfl, ?_⟩) (by assumption) ?_
  rotate_left
  · (intro w hSw; (try dsimp only at hSw); go_simp; try with_reducible rfl)
  try simp only [Act.put, List.setIfInBounds_toArray, List.set_cons_zero, List.set_cons_succ]
  refine wpAnyH_take (i := 2) (oi := ⟨some 7, _, _, _, _, _⟩) (v := ?_) rfl (by kernel_rfl) (by kernel_rfl) (by kernel_rfl) (fun _ _ _ h => h) (Or.inl ⟨by rfl, ?_⟩) (by assumption) ?_
  rotate_left
  · (intro w hSw; (try dsimp only at hSw); go_simp; try with_reducible rfl)
  try simp only [Act.put, List.setIfInBounds_toArray, List.set_cons_zero, List.set_cons_succ]
  refine wpAnyH_take (i := 3) (oi := ⟨some 8, _, _, _, _, _⟩) (v := ?_) rfl (by kernel_rfl) (by kernel_rfl) (by kernel_rfl) (fun _ _ _ h => h) (Or.inl ⟨by rfl, ?_⟩) (by assumption) ?_
  rotate_left
  · (intro w hSw; (try dsimp only at hSw); go_simp; try with_reducible rfl)
  try simp only [Act.put, List.setIfInBounds_toArray, List.set_cons_zero, List.set_cons_succ]
  refine wpAnyH_take (i := 4) (oi := ⟨some 9, _, _, _, _, _⟩) (v := ?_) rfl (by kernel_rfl) (by kernel_rfl) (by kernel_rfl) (fun _ _ _ h => h) (Or.inl ⟨by rfl, ?_⟩) (by assumption) ?_
  rotate_left
  · (intro w hSw; (try dsimp only at hSw); go_simp; try with_reducible rfl)
  try simp only [Act.put, List.setIfInBounds_toArray, List.set_cons_zero, List.set_cons_succ]
  refine wpAnyH_take (i := 5) (oi := ⟨some 10, _, _, _, _, _⟩) (v := ?_) rfl (by kernel_rfl) (by kernel_rfl) (by kernel_rfl) (fun _ _ _ h => h) (Or.inl ⟨by rfl, ?_⟩) (by assumption) ?_
  rotate_left
  · (intro w hSw; (try dsimp only at hSw); go_simp; try with_reducible rfl)
  try simp only [Act.put, List.setIfInBounds_toArray, List.set_cons_zero, List.set_cons_succ]
  refine wpAnyH_take (i := 6) (oi := ⟨some 11, _, _, _, _, _⟩) (v := ?_) rfl (by kernel_rfl) (by kernel_rfl) (by kernel_rfl) (fun _ _ _ h => h) (Or.inl ⟨by rfl, ?_⟩) (by assumption) ?_
  rotate_left
  · (intro w hSw; (try dsimp only at hSw); go_simp; try with_reducible rfl)
  try simp only [Act.put, List.setIfInBounds_toArray, List.set_cons_zero, List.set_cons_succ]
  refine wpAnyH_take (i := 7) (oi := ⟨some 12, _, _, _, _, _⟩) (v := ?_) rfl (by kernel_rfl) (by kernel_rfl) (by kernel_rfl) (fun _ _ _ h => h) (Or.inl ⟨by rfl, ?_⟩) (by assumption) ?_
  rotate_left
  · (intro w hSw; (try dsimp only at hSw); go_simp; try with_reducible rfl)
  try simp only [Act.put, List.setIfInBounds_toArray, List.set_cons_zero, List.set_cons_succ]
  refine next_one 8 (by kernel_rfl) rfl (by rfl) fun K' HK' => ?_
  go_simp
  refine (group_any z n0 _).mono ?_
  rintro e w1 ⟨A1, c1', rfl, hs1, ho1, hx1⟩
  have hS2 := Ext.trans hHeld hx1
  refine held_go HK' hS2 (fun _ => ?_)
  clear HK'
  refine held_more (S' := fun w' => Ext w1 w') (fun _ h => Ext.trans hS2 h) _ _ _ _ ?_
  clear hHeld hS2
  have hHeld : Ext w1 w1 := Ext.refl _
  try simp only [Act.put, List.setIfInBounds_toArray, List.set_cons_zero, List.set_cons_succ]
  refine wpAnyH_take (i := 9) (oi := ⟨some 3, _, _, _, _, _⟩) (v := ?_) rfl (by kernel_rfl) (by kernel_rfl) (by kernel_rfl) (fun _ _ _ h => h) (Or.inl ⟨by rfl, ?_⟩) (by assumption) ?_
  rotate_left
  · (intro w hSw; (try dsimp only at hSw); go_simp; try with_reducible rfl)
  try simp only [Act.put, List.setIfInBounds_toArray, List.set_cons_zero, List.set_cons_succ]
  refine wpAnyH_done (by kernel_rfl) ?_ _
  have ho1' := ho1.lower (B' := w.heap.size) (by simp)
  have hx1' : Ext w w1 := (by (repeat (first | assumption | exact Ext.refl _ | apply Ext.drew | apply Ext.drewN | apply Ext.alloc | refine Ext.trans ?_ (by assumption))); first | done | fail)
  rw [← HZ.out] at ho1' ⊢
  obtain ⟨M, hM⟩ : ∃ M, M = (f 0).length := ⟨_, rfl⟩
  rw [← hM] at ho1' ⊢
  have H0 := Kp.mk hM
  have H1 := Kp.mk ho1'
  have H2 := Kp.mk hx1'
  clear hM ho1 hx1 hs1 c0 c1 e1 e2 ho1' hx1'
  go_wp2_with fail
  go_loopw [3, 4] (fun v i wr => ∃ j N : Nat, ∃ A2 c2, j ≤ n - 2 ∧ N = (f j).length ∧ i = .int .i64 ((j + 2 : Nat) : Int) ∧ v = .slice A2 N c2 ∧ Own wr w.heap.size (.slice A2 N c2) N (f j) ∧ Ext w wr) (fun _ i _ => n - (intOf i).toNat)
  case atStart => exact ⟨0, M, A1, c1', Nat.zero_le _, H0.out, rfl, rfl, H1.out, H2.out⟩
  case round =>
    obtain ⟨j, N, A2, c2, hj, hN, rfl, rfl, ho, hx⟩ := hrel
    have hNl : N ≤ 1000000 := by have := HL.out j hj; omega
    obtain ⟨i, hi⟩ : ∃ i, i = j + 2 := ⟨_, rfl⟩
    by_cases hlt : j < n - 2
    · have k1 := (HD.out.ext hx).dig (j + 2) (by omega)
      have k2 := HF.out j hlt
      have k3 := HR.out j hlt
      rw [← hi] at k1 ⊢
      have b4 : (i : Int) < (n : Int) := by omega
      have s1 : IntKind.i64.wrap ((i : Int) + 1) = (i : Int) + 1 := by rw [IntKind.wrap_i64]; omega
      unfold vL at k1
      rw [← hi] at k2 k3
      generalize dg l i = d at *
      have H3 := Kp.mk (And.intro hN k2)
      have H4 := Kp.mk ho
      have H5 := Kp.mk hx
      have H9 := Kp.mk hi
      clear hN k2 ho hx hi
      go_wp2_with fail
      refine (group_any d k3 _).mono ?_
      rintro e w3 ⟨A3, c3, rfl, hs3, ho3, hx3⟩
      have hx3' := H5.out.trans hx3
      have H4' := Kp.mk (H4.out.ext hx3)
      have e5 : N + (g7 d).length = (f (j + 1)).length := by rw [H3.out.2, List.length_append, ← H3.out.1]
      have e6 : f j ++ g7 d = f (j + 1) := H3.out.2.symm
      have hgl := (g7_len d k3).2
      obtain ⟨q, hq⟩ : ∃ q, q = (g7 d).length := ⟨_, rfl⟩
      rw [← hq] at hs3 e5 hgl ⊢
      generalize g7 d = gd at *
      have H6 := Kp.mk hs3
      have H7 := Kp.mk hx3'
      have H8 := Kp.mk (And.intro e5 e6)
      clear hq hs3 hx3' e5 e6 hx3 ho3 k1
      go_wp2_with (first | (at_builtin; refine wpList_append_bs rfl (.tmp 20) (.tmp 25) rfl w.heap.size _ N (f j) rfl H4'.out _ q c3 gd rfl H6.out (by omega) (N + q) rfl (f j ++ gd) rfl w H7.out (Nat.le_refl _) H7.out.size ?_; intro A4 c4 w4 ho4 hx4 hap4) | fail)
      go_roundw
      case rel =>
        rw [H8.out.2] at ho4
        exact ⟨j + 1, N + q, A4, c4, hlt, H8.out.1, by have := H9.out; subst this; go_num, by first | rfl | (congr 1; omega), ho4, hx4⟩
      case measure => simp [intOf]; omega
    · obtain rfl : j = n - 2 := by omega
      rw [← hi]
      have b4 : ¬ (i : Int) < (n : Int) := by omega
      rw [HA.out] at ho hN
      have H3 := Kp.mk ho
      have H4 := Kp.mk hx
      subst hN
      clear ho hx hi
      go_wp2_with fail
      go_ret
      exact ⟨_, _, rfl, H3.out.bs, H3.out, H4.out⟩
end Go.Proofs.YtkdjhklnlnfhfaaGreatDoor
namespace Go.Proofs.YtkdjhklnlnfhfaaGreatDoor
open Go Go.RowKit
set_option maxRecDepth 4000

/-- a step of the numbers that groups make, all of 32 bits -/
def stO (s : List Nat × Nat) (x : BitVec 8) : List Nat × Nat := if x.toNat < 128 then (s.1 ++ [(s.2 * 128 + x.toNat % 128) % 4294967296], 0) else (s.1, (s.2 * 128 + x.toNat % 128) % 4294967296)
def stT (b : List (BitVec 8)) (j : Nat) : List Nat × Nat := (b.take j).foldl stO ([], 0)
/-- all numbers of a body -/
def pmO (b : List (BitVec 8)) : List Nat := (stT b b.length).1
theorem stT_succ (b : List (BitVec 8)) (j : Nat) (h : j < b.length) : stT b (j + 1) = stO (stT b j) (gb b j) := by
  unfold stT
  rw [take_gb b j h, List.foldl_append]
  rfl
theorem stO_p7 : ∀ (b : List (BitVec 8)) (acc : List Nat) (n : Nat), (b.foldl stO (acc, n % 4294967296)).1 = acc ++ (p7 n b).map (· % 4294967296)
  | [], acc, n => by simp [p7]
  | x :: r, acc, n => by
    rw [List.foldl_cons]
    unfold stO
    by_cases h : x.toNat < 128
    · rw [if_pos h]
      have := stO_p7 r (acc ++ [(n % 4294967296 * 128 + x.toNat % 128) % 4294967296]) 0
      rw [Nat.zero_mod] at this
      show (r.foldl stO (acc ++ [(n % 4294967296 * 128 + x.toNat % 128) % 4294967296], 0)).1 = _
      rw [this, p7, if_pos h, List.map_cons, List.append_assoc, show (n % 4294967296 * 128 + x.toNat % 128) % 4294967296 = (n * 128 + x.toNat % 128) % 4294967296 by omega]
      rfl
    · rw [if_neg h]
      show (r.foldl stO (acc, (n % 4294967296 * 128 + x.toNat % 128) % 4294967296)).1 = _
      rw [show (n % 4294967296 * 128 + x.toNat % 128) % 4294967296 = (n * 128 + x.toNat % 128) % 4294967296 by omega, stO_p7 r acc (n * 128 + x.toNat % 128), p7, if_neg h]
theorem pmO_back {l : List Nat} (h : OidP l) : oidU (pmO (oidB l)) = l := by
  have e : pmO (oidB l) = oidL l := by
    unfold pmO stT
    rw [List.take_length]
    have := stO_p7 (oidB l) [] 0
    rw [Nat.zero_mod] at this
    rw [this]
    unfold oidB
    rw [p7_all, List.nil_append]
    obtain ⟨a, b, r, rfl, h1, ha, hb, hc, hr⟩ := h
    show ((40 * a + b) :: r).map _ = (40 * a + b) :: r
    rw [List.map_cons, Nat.mod_eq_of_lt (by omega)]
    congr 1
    exact (List.map_congr_left fun x hx => Nat.mod_eq_of_lt (hr x hx)).trans (List.map_id _)
  rw [e, oidU_L h]
theorem oidU_app (l : List Nat) (x : Nat) (h : l ≠ []) : oidU (l ++ [x]) = oidU l ++ [x] := by
  match l, h with
  | z :: r, _ => rfl
theorem oidU_one (z : Nat) : oidU [z] = [(if z / 40 > 2 then 2 else z / 40), z - 40 * (if z / 40 > 2 then 2 else z / 40)] := rfl
theorem oidU_len (l : List Nat) : (oidU l).length ≤ l.length + 1 := by
  match l with
  | [] => exact Nat.zero_le _
  | z :: r => exact Nat.le_refl _
theorem stT_len (b : List (BitVec 8)) (j : Nat) (h : j ≤ b.length) : (stT b j).1.length ≤ j ∧ (stT b j).2 < 4294967296 ∧ Dg 4294967296 (stT b j).1 := by
  induction j with
  | zero => exact ⟨Nat.le_refl _, (by decide : 0 < 4294967296), fun d hd => by cases hd⟩
  | succ j ih =>
    obtain ⟨i1, i2, i3⟩ := ih (by omega)
    rw [stT_succ b j (by omega)]
    unfold stO
    split
    · refine ⟨by rw [List.length_append, List.length_singleton]; omega, (by decide : 0 < 4294967296), fun d hd => ?_⟩
      rcases List.mem_append.1 hd with hd | hd
      · exact i3 d hd
      · rw [List.mem_singleton.1 hd]
        exact Nat.mod_lt _ (by decide)
    · exact ⟨Nat.le_trans i1 (Nat.le_succ _), Nat.mod_lt _ (by decide), i3⟩
theorem oidU_dg {l : List Nat} (h : Dg 4294967296 l) : Dg 4294967296 (oidU l) := by
  match l, h with
  | [], _ => exact fun d hd => by cases hd
  | z :: r, h =>
    intro d hd
    have hz := h z (by simp)
    rcases List.mem_cons.1 hd with rfl | hd
    · split <;> omega
    · rcases List.mem_cons.1 hd with rfl | hd
      · omega
      · exact h d (by simp [hd])
abbrev u32t : TypeId := 89
theorem inU : (Tryz.prog.info? u32t).map (fun i => (i.zero, i.size, i.bytes)) = some (some (.int .u32 0), 1, 4) := by kernel_rfl
theorem lit_u (w : World) (x : Nat) : Rd vL (w.alloc (.cells #[.int .u32 (x : Int)] u32t)) (some ⟨w.heap.size, 0, none⟩) 1 1 [x] := by
  have := Rw.has (T := u32t) (e := vL) (B := 0) (n := 1) (l := [x]) (g := w.heap.size) (w := w.alloc (.cells #[.int .u32 (x : Int)] u32t)) (Has.new w u32t _ _ rfl) rfl (Nat.zero_le _) (by decide)
  exact this.rd
section
variable {w : World} {ops : Array Oper} {rest : List Oper} {o : Oper} {a : Act} {Q : Exit → Act → World → Prop}
theorem wpList_append_u (hgd : o.guard = none) (s x : Operand)
    (ho : o.op = .call { callee := .builtin .append, args := #[s, x], argTypes := #[22, 22] })
    (B : Nat) (v : Value) (n : Nat) (l1 : List Nat) (hs : a.eval s = v) (hown : Rw u32t vL w B v n l1)
    (A : Option Addr) (m c : Nat) (l2 : List Nat) (hx : a.eval x = .slice A m c) (hl : Rd vL w A m c l2)
    (h47 : (n + m) * 4 ≤ 140737488355328) (N : Nat) (hN : n + m = N) (L : List Nat) (hL : l1 ++ l2 = L) (w0 : World) (hx0 : Ext w0 w) (hB : w0.heap.size ≤ B) (hBw : B ≤ w.heap.size)
    (h : ∀ A' c' w', Rw u32t vL w' B (.slice A' N c') N L → Ext w0 w' → Apd w w' v (.slice A' N c') → wpList Tryz.prog ops Q rest (a.put o.dst (.slice A' N c')) w') : wpList Tryz.prog ops Q (o :: rest) a w :=
  wpList_append_rd 22 (.int .u32 0) 4 Tryz.underlying22 inU rfl (by decide) (fun _ => rfl) hgd s x ho B v n l1 hs hown A m c l2 hx hl h47 N hN L hL w0 hx0 hB hBw h
end
/-- the sums of a round -/
structure OStep (s : Nat) (x : BitVec 8) (q c n : Nat) (y : BitVec 8) : Prop where
  sh : IntKind.u32.wrap ((s : Int) * 128) = (q : Int)
  an : bits .andNot .u8 (ub x) 128 = ub y
  cv : IntKind.u32.wrap (ub y) = (c : Int)
  or_ : bits .or .u32 (q : Int) (c : Int) = (n : Int)
  val : n = (s * 128 + x.toNat % 128) % 4294967296
theorem ostep (s : Nat) (x : BitVec 8) : ∃ q c n y, OStep s x q c n y := by
  have hy : (BitVec.ofNat 8 (x.toNat % 128)).toNat = x.toNat % 128 := by rw [BitVec.toNat_ofNat]; omega
  refine ⟨s * 128 % 4294967296, x.toNat % 128, s * 128 % 4294967296 + x.toNat % 128, BitVec.ofNat 8 (x.toNat % 128), ?_, andnot128 x, ?_, ?_, by omega⟩
  · rw [IntKind.wrap_u32]; omega
  · unfold ub; rw [hy, IntKind.wrap_u32]; omega
  · rw [bits_join .u32 32 (by decide) (fun n h0 h1 => by rw [IntKind.wrap_u32]; omega) 7 _ _ (by omega) (by omega) (by omega) (by omega) (by omega) (by omega)]
    omega
set_option maxHeartbeats 4000000 in
theorem numbersOf_any {b : List (BitVec 8)} {A : Option Addr} {n c : Nat} {w : World} (h : Bs w A n c b) (hn : n ≤ 1000) :
    Calls Tryz.prog 265 #[.slice A n c] w fun e w' => ∃ A' c', e = .returned (.slice A' (oidU (pmO b)).length c') ∧ Rw u32t vL w' w.heap.size (.slice A' (oidU (pmO b)).length c') (oidU (pmO b)).length (oidU (pmO b)) ∧ Ext w w' := by
  have hl := h.len
  have HB := Kp.mk h
  have HL := Kp.mk hl
  clear h hl
  go_enter Tryz.func265, Tryz.ntmps265
  go_wp2_with fail
  go_loopw [3, 4, 10] (fun v m i wr => ∃ j N : Nat, ∃ A2 c2, j ≤ n ∧ N = (oidU (stT b j).1).length ∧ i = .int .i64 (j : Int) ∧ m = .int .u32 ((stT b j).2 : Int) ∧ v = .slice A2 N c2 ∧ Rw u32t vL wr w.heap.size (.slice A2 N c2) N (oidU (stT b j).1) ∧ Ext w wr) (fun _ _ i _ => n - (intOf i).toNat)
  case atStart => exact ⟨0, 0, none, 0, Nat.zero_le _, rfl, rfl, rfl, rfl, Rw.nil _ _, Ext.refl _⟩
  case round =>
    obtain ⟨j, N, A2, c2, hj, hN, rfl, rfl, rfl, ho, hx⟩ := hrel
    by_cases hlt : j < n
    · have b4 : (j : Int) < (n : Int) := by omega
      obtain ⟨g, o, rfl, hc⟩ := (HB.out.ext hx).s.2.2.2 (by omega)
      have k1 := hc j hlt
      have hst := stT_succ b j (by rw [HL.out]; exact hlt)
      obtain ⟨i1, i2, i3⟩ := stT_len b j (by rw [HL.out]; exact hj)
      have hUl := oidU_len (stT b j).1
      obtain ⟨q, z, m, y, hS⟩ := ostep (stT b j).2 (gb b j)
      obtain ⟨s1, s2, s3, s4, s5⟩ := hS
      have s6 := and128b (gb b j)
      have hm32 : m < 4294967296 := by rw [s5]; exact Nat.mod_lt _ (by decide)
      clear hc
      unfold stO at hst
      rw [← s5] at hst
      by_cases hx8 : (gb b j).toNat < 128
      · rw [if_pos hx8] at hst
        rw [if_neg (by omega)] at s6
        have HT := Kp.mk hst
        clear hst
        generalize gb b j = x at *
        cases hS1 : (stT b j).1 with
        | nil =>
          rw [hS1] at hN ho
          generalize (stT b j).2 = s at *
          obtain rfl : N = 0 := hN
          obtain ⟨f, hf⟩ : ∃ f, (if m / 40 > 2 then 2 else m / 40) = f := ⟨_, rfl⟩
          have f1 : (m : Int).tdiv 40 = ((m / 40 : Nat) : Int) := by rw [Int.tdiv_eq_ediv_of_nonneg (by omega)]; omega
          have f2 : IntKind.u32.wrap ((m / 40 : Nat) : Int) = ((m / 40 : Nat) : Int) := by rw [IntKind.wrap_u32]; omega
          have f3 : min ((m / 40 : Nat) : Int) 2 = (f : Int) := by rw [← hf]; split <;> omega
          have f4 : IntKind.u32.wrap (40 * (f : Int)) = ((40 * f : Nat) : Int) := by rw [IntKind.wrap_u32, ← hf]; split <;> omega
          have f5 : IntKind.u32.wrap ((m : Int) - ((40 * f : Nat) : Int)) = ((m - 40 * f : Nat) : Int) := by
            have : 40 * f ≤ m := by rw [← hf]; split <;> omega
            rw [IntKind.wrap_u32]; omega
          have H3 := Kp.mk (show oidU [m] = [f, m - 40 * f] by rw [oidU_one, hf])
          have HS1 := Kp.mk hS1
          clear hf hS1
          generalize m / 40 = m40 at *
          generalize hd : m - 40 * f = d at *
          generalize 40 * f = f40 at *
          have H1 := Kp.mk (show Rw u32t vL wr w.heap.size (.slice A2 0 c2) 0 [] from ho)
          have H2 := Kp.mk hx
          clear ho hx hd s5 hx8 i1 i2 i3 hUl
          go_wp2_with (first | (at_builtin; refine wpList_append_u rfl (.tmp 29) (.tmp 31) rfl w.heap.size _ 0 [] rfl (H1.out.ext (by (repeat (first | assumption | exact Ext.refl _ | apply Ext.drew | apply Ext.drewN | apply Ext.alloc | refine Ext.trans ?_ (by assumption))); first | done | fail)) _ 1 1 [f] rfl (lit_u wr f) (by omega) 1 rfl [f] rfl w (H2.out.trans (by (repeat (first | assumption | exact Ext.refl _ | apply Ext.drew | apply Ext.drewN | apply Ext.alloc | refine Ext.trans ?_ (by assumption))); first | done | fail)) (Nat.le_refl _) (H2.out.trans (by (repeat (first | assumption | exact Ext.refl _ | apply Ext.drew | apply Ext.drewN | apply Ext.alloc | refine Ext.trans ?_ (by assumption))); first | done | fail)).size ?_; intro A4 c4 w4 ho4 hx4 hap4) | (at_builtin; refine wpList_append_u rfl (.tmp 37) (.tmp 39) rfl w.heap.size _ 1 [f] rfl (ho4.ext (by (repeat (first | assumption | exact Ext.refl _ | apply Ext.drew | apply Ext.drewN | apply Ext.alloc | refine Ext.trans ?_ (by assumption))); first | done | fail)) _ 1 1 [d] rfl (lit_u w4 d) (by omega) 2 rfl [f, d] rfl w (hx4.trans (by (repeat (first | assumption | exact Ext.refl _ | apply Ext.drew | apply Ext.drewN | apply Ext.alloc | refine Ext.trans ?_ (by assumption))); first | done | fail)) (Nat.le_refl _) (hx4.trans (by (repeat (first | assumption | exact Ext.refl _ | apply Ext.drew | apply Ext.drewN | apply Ext.alloc | refine Ext.trans ?_ (by assumption))); first | done | fail)).size ?_; intro A5 c5 w5 ho5 hx5 hap5) | fail)
          go_roundw
          case rel =>
            have e : stT b (j + 1) = ([m], 0) := by rw [HT.out, HS1.out]; rfl
            refine ⟨j + 1, 2, A5, c5, hlt, by rw [e]; rfl, by go_num, by rw [e]; rfl, rfl, ?_, hx5⟩
            rw [e]
            show Rw u32t vL w5 w.heap.size (.slice A5 2 c5) 2 (oidU [m])
            rw [H3.out]
            exact ho5
          case measure => simp [intOf]; omega
        | cons a r =>
          have hne : (stT b j).1 ≠ [] := by rw [hS1]; exact fun h => by cases h
          have hU := oidU_app (stT b j).1 m hne
          have hN0 : N ≠ 0 := by rw [hN, hS1]; exact fun h => by cases h
          have d1 : ((N : Int) == 0) = false := beq_eq_false_iff_ne.2 (by omega)
          have d2 : ¬ N = 0 := hN0
          have hNm : N ≤ 1002 := by omega
          generalize (stT b j).2 = s at *
          generalize hT1 : (stT b j).1 = T at *
          have H1 := Kp.mk ho
          have H2 := Kp.mk hx
          have H3 := Kp.mk hU
          have H4 := Kp.mk hN
          clear ho hx hU hN s5 hx8 hS1 i1 i2 i3 hUl hne hN0 hT1
          go_wp2_with (first | (at_builtin; refine wpList_append_u rfl (.tmp 37) (.tmp 39) rfl w.heap.size _ N (oidU T) rfl (H1.out.ext (by (repeat (first | assumption | exact Ext.refl _ | apply Ext.drew | apply Ext.drewN | apply Ext.alloc | refine Ext.trans ?_ (by assumption))); first | done | fail)) _ 1 1 [m] rfl (lit_u wr m) (by omega) (N + 1) rfl (oidU T ++ [m]) rfl w (H2.out.trans (by (repeat (first | assumption | exact Ext.refl _ | apply Ext.drew | apply Ext.drewN | apply Ext.alloc | refine Ext.trans ?_ (by assumption))); first | done | fail)) (Nat.le_refl _) (H2.out.trans (by (repeat (first | assumption | exact Ext.refl _ | apply Ext.drew | apply Ext.drewN | apply Ext.alloc | refine Ext.trans ?_ (by assumption))); first | done | fail)).size ?_; intro A5 c5 w5 ho5 hx5 hap5) | fail)
          go_roundw
          case rel =>
            rw [← H3.out] at ho5
            refine ⟨j + 1, N + 1, A5, c5, hlt, ?_, by go_num, by rw [HT.out]; rfl, by first | rfl | (congr 1; omega), by rw [HT.out]; exact ho5, hx5⟩
            rw [HT.out]
            show N + 1 = (oidU (T ++ [m])).length
            rw [H3.out, List.length_append, ← H4.out]
            rfl
          case measure => simp [intOf]; omega
      · rw [if_neg hx8] at hst
        rw [if_pos (by omega)] at s6
        have HT := Kp.mk hst
        clear hst
        generalize gb b j = x at *
        generalize (stT b j).2 = s at *
        generalize (stT b j).1 = T at *
        have H1 := Kp.mk ho
        have H2 := Kp.mk hx
        have H4 := Kp.mk hN
        clear ho hx hN s5 hx8 i1 i2 i3 hUl
        go_wp2_with fail
        go_roundw
        case rel =>
          exact ⟨j + 1, N, A2, c2, hlt, by rw [HT.out]; exact H4.out, by go_num, by rw [HT.out], rfl, by rw [HT.out]; exact H1.out, H2.out.trans (by (repeat (first | assumption | exact Ext.refl _ | apply Ext.drew | apply Ext.drewN | apply Ext.alloc | refine Ext.trans ?_ (by assumption))); first | done | fail)⟩
        case measure => simp [intOf]; omega
    · obtain rfl : j = n := by omega
      have b4 : ¬ (j : Int) < (j : Int) := by omega
      have e : (stT b j).1 = pmO b := by unfold pmO; rw [HL.out]
      rw [e] at hN ho
      subst hN
      have H1 := Kp.mk ho
      have H2 := Kp.mk hx
      clear ho hx e
      go_wp2_with fail
      go_ret
      exact ⟨_, _, rfl, H1.out, H2.out.trans (by (repeat (first | assumption | exact Ext.refl _ | apply Ext.drew | apply Ext.drewN | apply Ext.alloc | refine Ext.trans ?_ (by assumption))); first | done | fail)⟩
set_option maxHeartbeats 4000000 in
theorem ReadOid_any {b : List (BitVec 8)} {A : Option Addr} {n c : Nat} {w : World} (h : Bs w A n c b) :
    Calls Tryz.prog 251 #[.slice A n c] w fun e w' =>
      (¬ (OidP (oidU (pmO b)) ∧ oidB (oidU (pmO b)) = b) ∧ e = .returned (.tuple #[.slice none 0 0, err 2]) ∧ Ext w w') ∨
      (OidP (oidU (pmO b)) ∧ oidB (oidU (pmO b)) = b ∧ ∃ A' c', e = .returned (.tuple #[.slice A' (oidU (pmO b)).length c', .nilIface]) ∧ Rw u32t vL w' w.heap.size (.slice A' (oidU (pmO b)).length c') (oidU (pmO b)).length (oidU (pmO b)) ∧ Ext w w') := by
  have hl := h.len
  have hDg : Dg 4294967296 (oidU (pmO b)) := oidU_dg (stT_len b b.length (Nat.le_refl _)).2.2
  by_cases h75 : 75 < n
  · have hno : ¬ (OidP (oidU (pmO b)) ∧ oidB (oidU (pmO b)) = b) := fun ⟨h1, h2⟩ => by
      have := oidB_len h1
      rw [h2] at this
      omega
    refine Calls.mono (R := fun e w' => e = .returned (.tuple #[.slice none 0 0, err 2]) ∧ Ext w w') ?_ fun _ _ h => .inl ⟨hno, h⟩
    have b1 : decide ((75 : Int) < (n : Int)) = true := decide_eq_true (by omega)
    clear hDg hno h hl h75
    go_enter Tryz.func251, Tryz.ntmps251
    go_wp2_with fail
    go_ret2
    exact ⟨rfl, (by (repeat (first | assumption | exact Ext.refl _ | apply Ext.drew | apply Ext.drewN | apply Ext.alloc | refine Ext.trans ?_ (by assumption))); first | done | fail)⟩
  · have b1 : decide ((75 : Int) < (n : Int)) = false := decide_eq_false (by omega)
    have hC := numbersOf_any h (by omega)
    obtain ⟨Q, hQ⟩ : ∃ Q, Q = oidU (pmO b) := ⟨_, rfl⟩
    rw [← hQ] at hDg hC ⊢
    obtain ⟨N, hN⟩ : ∃ N, N = Q.length := ⟨_, rfl⟩
    rw [← hN] at hC ⊢
    have HB := Kp.mk h
    have HD := Kp.mk hDg
    clear h hQ hDg hl
    by_cases hP : OidP Q
    · by_cases hE : oidB Q = b
      · refine Calls.mono (R := fun e w' => ∃ A' c', e = .returned (.tuple #[.slice A' N c', .nilIface]) ∧ Rw u32t vL w' w.heap.size (.slice A' N c') N Q ∧ Ext w w') ?_ fun _ _ h => .inr ⟨hP, hE, h⟩
        have HE := Kp.mk hE
        have HP := Kp.mk hP
        have HN := Kp.mk hN
        clear hE hP hN
        go_enter Tryz.func251, Tryz.ntmps251
        go_wp2_with fail
        refine hC.mono ?_
        rintro e w1 ⟨A1, c1, rfl, ho1, hx1⟩
        go_wp2_with fail
        refine (Oid_any ho1.rd HD.out).mono ?_
        rintro e w2 (⟨hno, rfl, hx2⟩ | ⟨_, A2, c2, rfl, hs2, ho2, hx2⟩)
        · exact absurd HP.out hno
        have hEq := Equal_any hs2 ((HB.out.ext hx1).ext hx2)
        have e1 : (oidB Q == b) = true := by rw [HE.out, beq_self_eq_true]
        rw [e1] at hEq
        clear hs2 ho2 e1
        generalize (oidB Q).length = M at *
        have H1 := Kp.mk (ho1.ext hx2)
        have H2 := Kp.mk (hx1.trans hx2)
        clear ho1 hx1 hx2 hC
        go_wp2_with (go_at_call 65; refine (hEq).mono ?_; rintro e w3 ⟨rfl, hw⟩; obtain rfl : w2 = w3 := hw.symm)
        go_ret2
        exact ⟨_, _, rfl, H1.out, H2.out⟩
      · refine Calls.mono (R := fun e w' => e = .returned (.tuple #[.slice none 0 0, err 2]) ∧ Ext w w') ?_ fun _ _ h => .inl ⟨fun h => hE h.2, h⟩
        have HE := Kp.mk hE
        have HP := Kp.mk hP
        clear hE hP hN
        go_enter Tryz.func251, Tryz.ntmps251
        go_wp2_with fail
        refine hC.mono ?_
        rintro e w1 ⟨A1, c1, rfl, ho1, hx1⟩
        go_wp2_with fail
        refine (Oid_any ho1.rd HD.out).mono ?_
        rintro e w2 (⟨hno, rfl, hx2⟩ | ⟨_, A2, c2, rfl, hs2, ho2, hx2⟩)
        · exact absurd HP.out hno
        have hEq := Equal_any hs2 ((HB.out.ext hx1).ext hx2)
        rw [beq_eq_false_iff_ne.2 HE.out] at hEq
        clear hs2 ho2
        generalize (oidB Q).length = M at *
        have H2 := Kp.mk (hx1.trans hx2)
        clear ho1 hx1 hx2 hC
        go_wp2_with (go_at_call 65; refine (hEq).mono ?_; rintro e w3 ⟨rfl, hw⟩; obtain rfl : w2 = w3 := hw.symm)
        go_ret2
        exact ⟨rfl, H2.out⟩
    · refine Calls.mono (R := fun e w' => e = .returned (.tuple #[.slice none 0 0, err 2]) ∧ Ext w w') ?_ fun _ _ h => .inl ⟨fun h => hP h.1, h⟩
      have HP := Kp.mk hP
      clear hP hN
      go_enter Tryz.func251, Tryz.ntmps251
      go_wp2_with fail
      refine hC.mono ?_
      rintro e w1 ⟨A1, c1, rfl, ho1, hx1⟩
      go_wp2_with fail
      refine (Oid_any ho1.rd HD.out).mono ?_
      rintro e w2 (⟨_, rfl, hx2⟩ | ⟨hyes, A2, c2, rfl, hs2, ho2, hx2⟩)
      · have H2 := Kp.mk (hx1.trans hx2)
        clear ho1 hx1 hx2 hC
        go_wp2_with fail
        go_ret2
        exact ⟨rfl, H2.out⟩
      · exact absurd hyes HP.out
end Go.Proofs.YtkdjhklnlnfhfaaGreatDoor
