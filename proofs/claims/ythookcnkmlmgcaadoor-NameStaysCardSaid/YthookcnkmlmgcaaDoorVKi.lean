/-
  prim: withGroups; the reference's group.
-/
import Derived.Test.YthookcnkmlmgcaaDoorM9
import Derived.Test.YthookcnkmlmgcaaDoorVKg
import Derived.Shelf.Small.Bits
namespace Go.Proofs.YthookcnkmlmgcaaDoor
open Go Go.RowKit Go.Shelf
set_option maxRecDepth 4000

def Len32LaidK_ren : Go.Shelf.Ren := ⟨fun | 128 => 72 | n => n, fun | 51 => 72 | 3 => 3 | 4 => 4 | 46 => 82 | 5 => 5 | 9 => 9 | n => n, fun | n => n⟩
theorem Len32LaidK : Go.Proofs.Lays.n128 Tryd.prog Len32LaidK_ren := {
  mixed := by kernel_rfl
  f128 := Tryd.func72.trans (congrArg some (by kernel_rfl))
  t3 := Tryd.underlying3
  a3 := Tryd.isAgg3
  z3 := Tryd.sizeOf3
  v3 := Tryd.zeroValue3
  t4 := Tryd.underlying4
  a4 := Tryd.isAgg4
  z4 := Tryd.sizeOf4
  v4 := Tryd.zeroValue4
  t5 := Tryd.underlying5
  a5 := Tryd.isAgg5
  z5 := Tryd.sizeOf5
  v5 := Tryd.zeroValue5
  t9 := Tryd.underlying9
  a9 := Tryd.isAgg9
  z9 := Tryd.sizeOf9
  v9 := Tryd.zeroValue9
  t46 := Tryd.underlying82
  a46 := Tryd.isAgg82
  z46 := Tryd.sizeOf82
  v46 := Tryd.zeroValue82
  t51 := Tryd.underlying72
  a51 := Tryd.isAgg72
  z51 := Tryd.sizeOf72
  v51 := Tryd.zeroValue72 }
theorem Len32_anyK (x : Nat) (hx : x < 4294967296) (w : World) : Calls Tryd.prog 72 #[.int .u32 (x : Int)] w fun e w' => e = .returned (.int .i64 (Lib.bitLen x : Int)) ∧ w' = w := by
  have h := Any.bits_Len32 Len32LaidK (x : Int) w (by omega) (by omega)
  rw [Int.toNat_natCast] at h
  exact h
/-- how many groups are ahead of the last one -/
theorem ahead_of (n : Nat) (h : n < 4294967296) : ∃ a, (max (Lib.bitLen n) 1 - 1) / 7 = a ∧ a ≤ 4 ∧ n / 128 ^ (a + 1) = 0 ∧ ∀ j, j < a → n / 128 ^ (a - j) ≠ 0 := by
  obtain ⟨h1, h2⟩ := bitLen_pow n (by omega)
  have h3 := Lib.bitLen_le n 32 (by decide) (by omega)
  refine ⟨_, rfl, by omega, ?_, fun j hj => ?_⟩
  · refine Nat.div_eq_of_lt (Nat.lt_of_lt_of_le h1 ?_)
    rw [show (128 : Nat) = 2 ^ 7 from rfl, ← Nat.pow_mul]
    exact Nat.pow_le_pow_right (by decide) (by omega)
  · have hn : n ≠ 0 := by
      rintro rfl
      have : Lib.bitLen 0 = 0 := by unfold Lib.bitLen; exact Lib.bitLenAux_zero _
      omega
    have h4 : 128 ^ ((max (Lib.bitLen n) 1 - 1) / 7 - j) ≤ n := by
      refine Nat.le_trans ?_ (h2 hn)
      rw [show (128 : Nat) = 2 ^ 7 from rfl, ← Nat.pow_mul]
      exact Nat.pow_le_pow_right (by decide) (by omega)
    have := Nat.div_pos h4 (Nat.pow_pos (by decide))
    omega
theorem or128u (x : BitVec 8) : bits .or .u8 (ub x) 128 = ub (BitVec.ofNat 8 (x.toNat % 128 + 128)) := by
  revert x
  refine all8 ?_
  decide +kernel
theorem andnot128 (x : BitVec 8) : bits .andNot .u8 (ub x) 128 = ub (BitVec.ofNat 8 (x.toNat % 128)) := by
  revert x
  refine all8 ?_
  decide +kernel
theorem byt_of (m : Nat) : ((m : Int) % 256) = ub (BitVec.ofNat 8 m) := by
  unfold ub
  rw [BitVec.toNat_ofNat]
  omega
theorem grp_hi (m : Nat) : bits .or .u8 ((m : Int) % 256) 128 = ub (BitVec.ofNat 8 (m % 128 + 128)) := by
  rw [byt_of, or128u, BitVec.toNat_ofNat, Nat.mod_mod_of_dvd m (by decide : 128 ∣ 2 ^ 8)]
theorem grp_lo (m : Nat) : bits .andNot .u8 ((m : Int) % 256) 128 = ub (BitVec.ofNat 8 (m % 128)) := by
  rw [byt_of, andnot128, BitVec.toNat_ofNat, Nat.mod_mod_of_dvd m (by decide : 128 ∣ 2 ^ 8)]
/-- the groups ahead of the last one, from the highest on -/
theorem groups_up (n a : Nat) (hz : n / 128 ^ (a + 1) = 0) (hj : ∀ j, j < a → n / 128 ^ (a - j) ≠ 0) : ∃ f : Nat → List (BitVec 8), f 0 = [] ∧ f a ++ [BitVec.ofNat 8 (n % 128)] = g7 n ∧ (∀ j, (f j).length ≤ 5 + j) ∧ ∀ j, j < a → f (j + 1) = f j ++ [BitVec.ofNat 8 (n / 128 ^ (a - j) % 128 + 128)] ∧ (f (j + 1)).length = (f j).length + 1 := by
  have hs : ∀ j, j < a → g7hi (n / 128 ^ (a - (j + 1) + 1)) = g7hi (n / 128 ^ (a - j + 1)) ++ [BitVec.ofNat 8 (n / 128 ^ (a - j) % 128 + 128)] := by
    intro j h
    rw [show a - (j + 1) + 1 = a - j by omega, g7hi_pos _ (hj j h), Nat.div_div_eq_div_mul, Nat.pow_succ]
  have hf : ∀ j, (g7hi (n / 128 ^ (a - j + 1))).length ≤ 5 + j ∨ a < j := by
    intro j
    induction j with
    | zero => rw [Nat.sub_zero, hz, g7hi_zero]; exact .inl (Nat.zero_le _)
    | succ j ih =>
      rcases Nat.lt_or_ge a (j + 1) with h | h
      · exact .inr h
      · rcases ih with ih | ih
        · rw [hs j (by omega), List.length_append, List.length_singleton]
          exact .inl (by omega)
        · omega
  refine ⟨fun j => if a < j then [] else g7hi (n / 128 ^ (a - j + 1)), ?_, ?_, ?_, ?_⟩
  · show (if a < 0 then [] else _) = _
    rw [if_neg (Nat.not_lt_zero _), Nat.sub_zero, hz, g7hi_zero]
  · show (if a < a then [] else _) ++ _ = _
    rw [if_neg (Nat.lt_irrefl _), Nat.sub_self]
    unfold g7
    rw [Nat.zero_add, Nat.pow_one]
  · intro j
    show (if a < j then [] else _).length ≤ _
    split
    · exact Nat.zero_le _
    · rcases hf j with h | h
      · exact h
      · omega
  · intro j h
    have e : (if a < j + 1 then [] else g7hi (n / 128 ^ (a - (j + 1) + 1))) = (if a < j then [] else g7hi (n / 128 ^ (a - j + 1))) ++ [BitVec.ofNat 8 (n / 128 ^ (a - j) % 128 + 128)] := by
      rw [if_neg (by omega), if_neg (by omega), hs j h]
    refine ⟨e, ?_⟩
    show (if a < j + 1 then [] else _).length = _
    rw [e, List.length_append, List.length_singleton]
theorem shr7 (n d : Nat) : (n : Int) / 2 ^ (7 * d) = ((n / 128 ^ d : Nat) : Int) := by
  rw [show (128 : Nat) = 2 ^ 7 from rfl, ← Nat.pow_mul, Int.natCast_ediv, Int.natCast_pow]
  rfl
set_option maxHeartbeats 4000000 in
theorem withGroups_any {w0 w : World} {B : Nat} {v : Value} {m : Nat} {l : List (BitVec 8)} (ho : Own w B v m l) (hx0 : Ext w0 w) (hB0 : w0.heap.size ≤ B) (hBw : B ≤ w.heap.size) (hm : m ≤ 1000000) (n : Nat) (hn : n < 4294967296) (M : Nat) (hM : m + (g7 n).length = M) :
    Calls Tryd.prog 60 #[v, .int .u32 (n : Int)] w fun e w' => ∃ A c, e = .returned (.slice A M c) ∧ Own w' B (.slice A M c) M (l ++ g7 n) ∧ Ext w0 w' ∧ w.heap.size ≤ w'.heap.size := by
  obtain ⟨A, c, rfl⟩ := ho.form
  obtain ⟨a, ha, ha4, hz, hj⟩ := ahead_of n hn
  obtain ⟨f, f0, fa, fl, fs⟩ := groups_up n a hz hj
  have hL := Len32_anyK n hn
  have hl := ho.len
  have e1 : IntKind.i64.wrap (max (Lib.bitLen n : Int) 1 - 1) = ((max (Lib.bitLen n) 1 - 1 : Nat) : Int) := by
    have := Lib.bitLen_le n 32 (by decide) (by omega)
    rw [IntKind.wrap_i64]; omega
  have e2 : ((max (Lib.bitLen n) 1 - 1 : Nat) : Int).tdiv 7 = (a : Int) := by rw [Int.tdiv_eq_ediv_of_nonneg (by omega)]; omega
  have e3 : IntKind.i64.wrap (a : Int) = (a : Int) := by rw [IntKind.wrap_i64]; omega
  generalize Lib.bitLen n = L at *
  clear ha
  have HF := Kp.mk fs
  have HL := Kp.mk fl
  have HA := Kp.mk fa
  have HZ := Kp.mk f0
  have HO := Kp.mk ho
  have HX := Kp.mk hx0
  have HM := Kp.mk hM
  clear hM
  have e5 := grp_lo n
  have HD : ∀ d : Nat, bits .or .u8 ((n : Int) / 2 ^ (7 * d) % 256) 128 = ub (BitVec.ofNat 8 (n / 128 ^ d % 128 + 128)) := fun d => by rw [shr7, grp_hi]
  have HD' := Kp.mk HD
  clear hj hz ho hx0 fs fl fa f0 HD
  go_enter Tryd.func60, Tryd.ntmps60
  go_wp2_with (go_at_call 72; refine (hL _).mono ?_; rintro e w1 ⟨rfl, hw⟩; obtain rfl : w = w1 := hw.symm)
  clear hL e1 e2 e3
  go_loopw [0, 13] (fun v i wr => ∃ j N : Nat, ∃ A' c', j ≤ a ∧ N = m + (f j).length ∧ i = .int .i64 (j : Int) ∧ v = .slice A' N c' ∧ Own wr B (.slice A' N c') N (l ++ f j) ∧ Ext w0 wr ∧ w.heap.size ≤ wr.heap.size) (fun _ i _ => a - (intOf i).toNat)
  case atStart => exact ⟨0, m, A, c, Nat.zero_le _, by rw [HZ.out]; rfl, rfl, rfl, by rw [HZ.out, List.append_nil]; exact HO.out, HX.out, Nat.le_refl _⟩
  case round =>
    obtain ⟨j, N, A', c', hj, hN, rfl, rfl, ho, hx, hsz⟩ := hrel
    have hNm : N ≤ 2000000 := by have := HL.out j; omega
    have hBr : B ≤ wr.heap.size := Nat.le_trans hBw hsz
    by_cases hlt : j < a
    · obtain ⟨d, hd⟩ : ∃ d, d = a - j := ⟨_, rfl⟩
      have s1 : IntKind.i64.wrap ((a : Int) - (j : Int)) = (d : Int) := by rw [IntKind.wrap_i64]; omega
      have s2 : IntKind.i64.wrap (7 * (d : Int)) = ((7 * d : Nat) : Int) := by rw [IntKind.wrap_i64]; omega
      have b1 : (j : Int) < (a : Int) := by omega
      have hd4 : d ≤ 4 := by omega
      obtain ⟨g1, g2⟩ := HF.out j hlt
      rw [← hd] at g1
      have e4 := HD'.out d
      generalize BitVec.ofNat 8 (n / 128 ^ d % 128 + 128) = y at *
      have HN := Kp.mk (And.intro hN (And.intro g1 g2))
      have H1 := Kp.mk ho
      have H2 := Kp.mk hx
      have H3 := Kp.mk hsz
      clear hN g1 g2 ho hx hsz hd e5
      go_wp2_with (first | (at_builtin; refine wpList_append_bs rfl (.tmp 16) (.tmp 25) rfl B _ N (l ++ f j) rfl (H1.out.ext (by (repeat (first | assumption | exact Ext.refl _ | apply Ext.drew | apply Ext.drewN | apply Ext.alloc | refine Ext.trans ?_ (by assumption))); first | done | fail)) _ 1 1 [y] rfl (const_bs wr _ [y] 1 1 (0, 0) rfl rfl (by decide)) (by omega) (N + 1) rfl (l ++ f j ++ [y]) rfl w0 (H2.out.trans (by (repeat (first | assumption | exact Ext.refl _ | apply Ext.drew | apply Ext.drewN | apply Ext.alloc | refine Ext.trans ?_ (by assumption))); first | done | fail)) hB0 (Nat.le_trans hBr (by simp)) ?_; intro A4 c4 w4 ho4 hx4 hap4) | fail)
      go_roundw
      case rel =>
        obtain ⟨hN, g1, g2⟩ := HN.out
        refine ⟨j + 1, N + 1, A4, c4, by omega, by omega, by go_num, by first | rfl | (congr 1; omega), ?_, hx4, ?_⟩
        · rw [g1, ← List.append_assoc]; exact ho4
        · exact Nat.le_trans H3.out (Nat.le_trans (by simp) hap4.grown.size)
      case measure => simp [intOf]; omega
    · obtain rfl : j = a := by omega
      have b1 : ¬ (j : Int) < (j : Int) := by omega
      have hNl : N + 1 = m + (g7 n).length := by rw [← HA.out, List.length_append, List.length_singleton]; omega
      generalize hy : BitVec.ofNat 8 (n % 128) = y at *
      obtain rfl : N + 1 = M := by rw [← HM.out]; exact hNl
      have H1 := Kp.mk ho
      have H2 := Kp.mk hx
      have H3 := Kp.mk hsz
      clear hN ho hx hsz hNl
      go_wp2_with (first | (at_builtin; refine wpList_append_bs rfl (.tmp 28) (.tmp 32) rfl B _ N (l ++ f j) rfl (H1.out.ext (by (repeat (first | assumption | exact Ext.refl _ | apply Ext.drew | apply Ext.drewN | apply Ext.alloc | refine Ext.trans ?_ (by assumption))); first | done | fail)) _ 1 1 [y] rfl (const_bs wr _ [y] 1 1 (0, 0) rfl rfl (by decide)) (by omega) (N + 1) rfl (l ++ f j ++ [y]) rfl w0 (H2.out.trans (by (repeat (first | assumption | exact Ext.refl _ | apply Ext.drew | apply Ext.drewN | apply Ext.alloc | refine Ext.trans ?_ (by assumption))); first | done | fail)) hB0 (Nat.le_trans hBr (by simp)) ?_; intro A4 c4 w4 ho4 hx4 hap4) | fail)
      go_ret
      refine ⟨A4, c4, rfl, ?_, hx4, Nat.le_trans H3.out (Nat.le_trans (by simp) hap4.grown.size)⟩
      rw [← HA.out, ← List.append_assoc]
      exact ho4
set_option maxHeartbeats 4000000 in
/-- the reference's group, by the number of groups -/
theorem group_any : ∀ (n : Nat), n < 4294967296 → ∀ w : World, Calls Tryd.prog 51 #[.int .u32 (n : Int)] w fun e w' => Fresh w (g7 n).length (g7 n) e w' := by
  intro n
  induction n using Nat.strongRecOn with
  | ind n ih =>
    intro hn w
    by_cases h : n < 128
    · rw [g7_small n h]
      have b1 : decide ((n : Int) < 128) = true := decide_eq_true (by omega)
      have e1 := byt_of n
      generalize BitVec.ofNat 8 n = y at *
      have ho := Own.new w w.heap.size 1 [y] rfl (Nat.le_refl _) (by decide)
      clear ih h
      go_enter Tryd.func51, Tryd.ntmps51
      go_wp2_with fail
      go_ret
      exact ⟨_, _, rfl, ho.bs, ho, (by (repeat (first | assumption | exact Ext.refl _ | apply Ext.drew | apply Ext.drewN | apply Ext.alloc | refine Ext.trans ?_ (by assumption))); first | done | fail)⟩
    · have b1 : decide ((n : Int) < 128) = false := decide_eq_false (by omega)
      have hC := fun W => ih (n / 128) (by omega) (by omega) W
      have e1 : (n : Int).tdiv 128 = ((n / 128 : Nat) : Int) := by rw [Int.tdiv_eq_ediv_of_nonneg (by omega)]; omega
      have e2 : (n : Int).tmod 128 = ((n % 128 : Nat) : Int) := by rw [Int.tmod_eq_emod_of_nonneg (by omega)]; omega
      have e4 : IntKind.u32.wrap ((n / 128 : Nat) : Int) = ((n / 128 : Nat) : Int) := by rw [IntKind.wrap_u32]; omega
      have e5 : IntKind.u32.wrap ((n % 128 : Nat) : Int) = ((n % 128 : Nat) : Int) := by rw [IntKind.wrap_u32]; omega
      have e3 : ((n % 128 : Nat) : Int) % 256 = ub (BitVec.ofNat 8 (n % 128)) := byt_of _
      have hg : g7 n = g7hi (n / 128) ++ [BitVec.ofNat 8 (n % 128)] := rfl
      have hg2 : g7 (n / 128) = g7hi (n / 128 / 128) ++ [BitVec.ofNat 8 (n / 128 % 128)] := rfl
      have hg3 := g7hi_pos (n / 128) (by omega)
      have hlen := (g7_len (n / 128) (by omega)).2
      have hpos := (g7_len (n / 128) (by omega)).1
      obtain ⟨t, ht⟩ : ∃ t, BitVec.ofNat 8 (n / 128 % 128) = t := ⟨_, rfl⟩
      obtain ⟨u, hu⟩ : ∃ u, BitVec.ofNat 8 (n / 128 % 128 + 128) = u := ⟨_, rfl⟩
      have hup : IntKind.u8.wrap (ub t + 128) = ub u := by
        rw [← ht, ← hu]
        unfold ub
        rw [BitVec.toNat_ofNat, BitVec.toNat_ofNat, IntKind.wrap_u8]
        omega
      rw [ht] at hg2
      rw [hu] at hg3
      generalize hG : g7hi (n / 128 / 128) = G at *
      have hset : (g7 (n / 128)).set G.length u = g7hi (n / 128) := by rw [hg2, hg3, List.set_append_right _ _ (Nat.le_refl _), Nat.sub_self]; rfl
      have hgb : gb (g7 (n / 128)) G.length = t := by rw [hg2, gb_app, if_neg (Nat.lt_irrefl _), Nat.sub_self]; rfl
      have hl2 : (g7 (n / 128)).length = G.length + 1 := by rw [hg2, List.length_append]; rfl
      have hl3 : (g7hi (n / 128)).length = G.length + 1 := by rw [hg3, List.length_append]; rfl
      rw [hl2] at hlen
      generalize hq : G.length = q at *
      generalize g7hi (n / 128) = H at *
      have hlg : (g7 n).length = q + 2 := by rw [hg, List.length_append, hl3]; rfl
      rw [hlg]
      generalize g7 n = R at *
      generalize g7 (n / 128) = P at *
      generalize BitVec.ofNat 8 (n % 128) = y at *
      have HS := Kp.mk hset
      have HB := Kp.mk hgb
      have HE := Kp.mk hg
      rw [hl2] at hC
      have HC := Kp.mk hC
      have HL := Kp.mk (And.intro hl2 hl3)
      clear hC
      have hq4 : q ≤ 4 := by omega
      generalize n % 128 = n1 at *
      generalize n / 128 = n2 at *
      clear hset hgb hg hg2 hg3 hl2 hl3 hlg hpos hlen ht hu hG hq ih h
      go_enter Tryd.func51, Tryd.ntmps51
      go_wp2_with fail
      refine (HC.out _).mono ?_
      rintro e w1 ⟨A1, c1, rfl, hs1, ho1, hx1⟩
      obtain ⟨g, rfl, hg1, hg2⟩ := ho1.some_ (by omega)
      have k1 := ho1.cell q (by omega)
      rw [HB.out] at k1
      have k2 := ho1.free q
      have s1 : IntKind.i64.wrap (((q + 1 : Nat) : Int) - 1) = (q : Int) := by rw [IntKind.wrap_i64]; omega
      have b2 : (q : Int) < ((q + 1 : Nat) : Int) := by omega
      have ho2 := ho1.set q u
      rw [HS.out] at ho2
      have hx2 : Ext w (w1.setCell ⟨g, q, none⟩ (.int .u8 (ub u))) := hx1.setCell hg1 _
      obtain ⟨M, hM⟩ : ∃ M, M = q + 1 := ⟨_, rfl⟩
      have hM5 : M ≤ 5 := by omega
      rw [← hM] at ho2 s1 b2 ⊢
      have HM := Kp.mk hM
      have HO := Kp.mk ho2
      have HX := Kp.mk hx2
      clear hM ho1 hs1 hx1 ho2 hx2
      go_wp2_with (first | (at_builtin; refine wpList_append_bs rfl (.tmp 24) (.tmp 28) rfl w.heap.size _ M H rfl (HO.out.ext (by (repeat (first | assumption | exact Ext.refl _ | apply Ext.drew | apply Ext.drewN | apply Ext.alloc | refine Ext.trans ?_ (by assumption))); first | done | fail)) _ 1 1 [y] rfl (const_bs (w1.setCell ⟨g, q, none⟩ (.int .u8 (ub u))) _ [y] 1 1 (0, 0) (by simp) rfl (by decide)) (by omega) (M + 1) rfl (H ++ [y]) rfl w (HX.out.trans (by (repeat (first | assumption | exact Ext.refl _ | apply Ext.drew | apply Ext.drewN | apply Ext.alloc | refine Ext.trans ?_ (by assumption))); first | done | fail)) (Nat.le_refl _) (HX.out.trans (by (repeat (first | assumption | exact Ext.refl _ | apply Ext.drew | apply Ext.drewN | apply Ext.alloc | refine Ext.trans ?_ (by assumption))); first | done | fail)).size ?_; intro A4 c4 w4 ho4 hx4 hap4) | fail)
      go_ret
      rw [HE.out, show q + 2 = M + 1 by rw [HM.out]]
      exact ⟨A4, c4, rfl, ho4.bs, ho4, hx4⟩
end Go.Proofs.YthookcnkmlmgcaaDoor
