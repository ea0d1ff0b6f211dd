/-
  The walks of the reference's products, substitute, table.
-/
import Derived.Test.YtjjoghdlbnlicaaDoorBl
import Derived.Test.YtjjoghdlbnlicaaDoorAq
namespace Go.Proofs.YtjjoghdlbnlicaaDoor
open Go Go.RowKit

theorem w64_ub (x : BitVec 8) : wrap64 (ub x) = ub x := by
  have h1 := ub_lo x
  have h2 := ub_hi x
  unfold wrap64; omega
theorem w64_two (x : BitVec 8) : wrap64 (ub x * 2) = ub x * 2 := by
  have h1 := ub_lo x
  have h2 := ub_hi x
  unfold wrap64; omega
theorem and_one (n : Nat) (h : n < 256) : bits .and .i64 (n : Int) 1 = ((n % 2 : Nat) : Int) := by
  have : ∀ n : Nat, n < 256 → bits .and .i64 (n : Int) 1 = ((n % 2 : Nat) : Int) := by decide +kernel
  exact this n h
theorem bit_run (b : BitVec 8) (j : Nat) : bits .and .i64 (ub b / 2 ^ j) 1 = if b.getLsbD j then 1 else 0 := by
  have hb : b.getLsbD j = decide (b.toNat / 2 ^ j % 2 = 1) := by rw [BitVec.getLsbD, Nat.testBit_eq_decide_div_mod_eq]
  have e : ub b / 2 ^ j = ((b.toNat / 2 ^ j : Nat) : Int) := by unfold ub; simp
  have hlt : b.toNat / 2 ^ j < 256 := Nat.lt_of_le_of_lt (Nat.div_le_self _ _) b.isLt
  rw [e, and_one _ hlt, hb]
  by_cases h : b.toNat / 2 ^ j % 2 = 1
  · simp [h]
  · simp [show b.toNat / 2 ^ j % 2 = 0 by omega]
theorem ofInt64 (x : BitVec 8) : BitVec.ofInt 64 (ub x) = x.setWidth 64 := by
  unfold ub; rw [BitVec.ofInt_natCast]
  apply BitVec.eq_of_toNat_eq
  simp
theorem xor_i64 (x y : BitVec 8) : bits .xor .i64 (ub x) (ub y) = ub (x ^^^ y) := by
  show IntKind.i64.wrap ((BitVec.ofInt 64 (ub x) ^^^ BitVec.ofInt 64 (ub y)).toNat : Int) = _
  rw [ofInt64, ofInt64, ← BitVec.setWidth_xor]
  have h := (x ^^^ y).isLt
  have e : ((x ^^^ y).setWidth 64).toNat = (x ^^^ y).toNat := by
    rw [BitVec.toNat_setWidth]; exact Nat.mod_eq_of_lt (by omega)
  rw [e]
  unfold ub
  rw [IntKind.wrap_i64]
  omega
set_option maxRecDepth 100000 in
theorem tw_hi (x : BitVec 8) : 256 ≤ ub x * 2 → bits .xor .i64 (ub x * 2) 283 = ub (tw x) :=
  all8 (p := fun x => 256 ≤ ub x * 2 → bits .xor .i64 (ub x * 2) 283 = ub (tw x)) (by decide +kernel) x
set_option maxRecDepth 100000 in
theorem tw_lo (x : BitVec 8) : ub x * 2 < 256 → ub x * 2 = ub (tw x) :=
  all8 (p := fun x => ub x * 2 < 256 → ub x * 2 = ub (tw x)) (by decide +kernel) x
set_option maxHeartbeats 1000000 in
theorem Times_any (a b : BitVec 8) (w : World) :
    Calls Tryd.prog 34 #[.int .u8 (ub a), .int .u8 (ub b)] w fun e w' => e = .returned (.int .u8 (ub (tm a b))) ∧ w = w' := by
  have l1 := ub_lo a
  have l2 := ub_hi a
  have l3 := ub_lo b
  have l4 := ub_hi b
  go_enter Tryd.func34, Tryd.ntmps34
  go_wp2_with fail
  go_loopw [5, 6, 7] (fun ov xv iv wr => ∃ j : Nat, j ≤ 8 ∧ iv = .int .i64 j ∧ ov = .int .i64 (ub (tO a b j)) ∧ xv = .int .i64 (ub (tX a j)) ∧ w = wr) (fun _ _ i _ => 8 - (intOf i).toNat)
  case atStart => exact ⟨0, by omega, rfl, rfl, rfl, rfl⟩
  case round =>
    obtain ⟨j, hj, rfl, rfl, rfl, rfl⟩ := hrel
    by_cases hlt : j < 8
    · have b1 : (j : Int) < 8 := by omega
      have hbit := bit_run b j
      have l5 := ub_lo (tX a j)
      have l6 := ub_hi (tX a j)
      have hxor := xor_i64 (tO a b j) (tX a j)
      have HO : Kp (tO a b (j + 1) = if b.getLsbD j then tO a b j ^^^ tX a j else tO a b j) := ⟨rfl⟩
      have HX : Kp (tX a (j + 1) = tw (tX a j)) := ⟨rfl⟩
      cases hb : b.getLsbD j
      all_goals
        rw [hb] at hbit HO
        simp only [if_true, if_false, Bool.false_eq_true] at hbit HO
        by_cases hc : 256 ≤ ub (tX a j) * 2
        · have ht := tw_hi (tX a j) hc
          go_wp2_with fail
          go_roundw
          case rel => exact ⟨j + 1, by omega, by go_num, by rw [HO.out], by rw [HX.out], trivial⟩
          case measure => simp [intOf]; omega
        · have hc' : ub (tX a j) * 2 < 256 := by omega
          have ht := tw_lo (tX a j) hc'
          have HT := Kp.mk ht
          clear ht
          go_wp2_with fail
          go_roundw
          case rel => exact ⟨j + 1, by omega, by go_num, by rw [HO.out], by rw [HX.out, ← HT.out], trivial⟩
          case measure => simp [intOf]; omega
    · obtain rfl : j = 8 := by omega
      have h1 := ub_lo (tO a b 8)
      have h2 := ub_hi (tO a b 8)
      go_wp2_with fail
      go_ret
      exact ⟨rfl, rfl⟩

theorem yN_le (b : BitVec 8) (k : Nat) : yN b k ≤ k := by
  induction k with
  | zero => exact Nat.le_refl _
  | succ k ih =>
    rw [yN]
    split
    · exact Nat.le_refl _
    · omega
theorem bitN_lt (y j : Nat) : bitN y j < 2 := Nat.mod_lt _ (by decide)
theorem bitN_run (y j : Nat) (hy : y < 256) : bits .and .i64 ((y : Int) / 2 ^ j) 1 = ((bitN y j : Nat) : Int) := by
  have e : (y : Int) / 2 ^ j = ((y / 2 ^ j : Nat) : Int) := by simp
  rw [e, and_one _ (Nat.lt_of_le_of_lt (Nat.div_le_self _ _) hy)]
  rfl
theorem vS_lt (y i k : Nat) : vS y i k ≤ k + 1 := by
  induction k with
  | zero => have := bitN_lt 99 i; unfold vS; omega
  | succ k ih => have := bitN_lt y ((i + pl k) % 8); unfold vS; omega
theorem oS_lt (y i : Nat) : oS y i < 2 ^ i := by
  induction i with
  | zero => exact Nat.zero_lt_one
  | succ i ih =>
    rw [oS, Nat.pow_succ]
    split <;> omega
theorem pl_lt : ∀ k, k < 5 → pl k < 8 := by decide
theorem tm_one (x : BitVec 8) : (ub x == 1) = decide (x = 1) := by
  by_cases h : x = 1
  · subst h; rfl
  · have h2 : ub x ≠ 1 := fun e => by
      refine h (BitVec.eq_of_toNat_eq ?_)
      unfold ub at e
      have e2 : x.toNat = 1 := by omega
      rw [e2]; rfl
    rw [decide_eq_false h]
    exact beq_eq_false_iff_ne.2 h2
theorem w64_add (a p : Nat) (h : a ≤ 1000) (hp : p ≤ 1000) : wrap64 ((a : Int) + wrap64 (p : Int)) = ((a + p : Nat) : Int) := by
  unfold wrap64; omega
abbrev plv : Array Value := #[.int .i64 0, .int .i64 4, .int .i64 5, .int .i64 6, .int .i64 7]
theorem plv_at : ∀ k, k < 5 → plv[k]? = some (.int .i64 ((pl k : Nat) : Int)) := by
  intro k hk
  match k with
  | 0 => rfl
  | 1 => rfl
  | 2 => rfl
  | 3 => rfl
  | 4 => rfl
  | k + 5 => omega

set_option maxRecDepth 20000 in
set_option maxHeartbeats 2000000 in
theorem refSub_any (b : BitVec 8) (w : World) :
    Calls Tryd.prog 23 #[.int .u8 (ub b)] w fun e w' => e = .returned (.int .u8 (ub (sb b))) ∧ Ext w w' := by
  go_enter Tryd.func23, Tryd.ntmps23
  go_wp2_with fail
  go_loopw [3, 4] (fun yv iv wr => ∃ j : Nat, j ≤ 255 ∧ iv = .int .i64 ((j : Int) + 1) ∧ yv = .int .i64 ((yN b j : Nat) : Int) ∧ w = wr) (fun _ i _ => 256 - (intOf i).toNat)
  case atStart => exact ⟨0, by omega, rfl, rfl, rfl⟩
  case round =>
    obtain ⟨j, hj, rfl, rfl, rfl⟩ := hrel
    by_cases hlt : j < 255
    · have b1 : (j : Int) + 1 < 256 := by omega
      have hub : ub (BitVec.ofNat 8 (j + 1)) = (j : Int) + 1 := by rw [ub_ofNat]; omega
      have HY : Kp (yN b (j + 1) = if tm b (BitVec.ofNat 8 (j + 1)) = 1 then j + 1 else yN b j) := ⟨rfl⟩
      have hcall := Times_any b (BitVec.ofNat 8 (j + 1)) w
      rw [hub] at hcall
      clear hub
      have h1 := tm_one (tm b (BitVec.ofNat 8 (j + 1)))
      have hyl := yN_le b j
      by_cases hc : tm b (BitVec.ofNat 8 (j + 1)) = 1
      · rw [decide_eq_true hc] at h1
        have HY2 : Kp (yN b (j + 1) = j + 1) := ⟨by rw [HY.out, if_pos hc]⟩
        clear hc
        go_wp2_with (first | (go_at_call 34; refine hcall.mono ?_; rintro e w1 ⟨rfl, rfl⟩) | fail)
        go_roundw
        case rel => exact ⟨j + 1, by omega, by go_num, by rw [HY2.out]; go_num, trivial⟩
        case measure => simp [intOf]; omega
      · rw [decide_eq_false hc] at h1
        have HY2 : Kp (yN b (j + 1) = yN b j) := ⟨by rw [HY.out, if_neg hc]⟩
        clear hc
        go_wp2_with (first | (go_at_call 34; refine hcall.mono ?_; rintro e w1 ⟨rfl, rfl⟩) | fail)
        go_roundw
        case rel => exact ⟨j + 1, by omega, by go_num, by rw [HY2.out], trivial⟩
        case measure => simp [intOf]; omega
    · obtain rfl : j = 255 := by omega
      obtain ⟨y, hy⟩ : ∃ y, yN b 255 = y := ⟨_, rfl⟩
      have hy2 : y < 256 := by have := yN_le b 255; omega
      rw [hy]
      have hres : BitVec.ofNat 8 (oS y 8) = sb b := by rw [← hy]; exact refS_sb b
      have HRES := Kp.mk hres
      clear hy hres
      go_wp2_with fail
      go_loopw [5, 6] (fun ov iv wr => ∃ i : Nat, i ≤ 8 ∧ iv = .int .i64 (i : Int) ∧ ov = .int .i64 ((oS y i : Nat) : Int) ∧ Ext w wr) (fun _ i _ => 8 - (intOf i).toNat)
      case atStart => exact ⟨0, by omega, rfl, rfl, Ext.refl _⟩
      case round =>
        obtain ⟨i, hi, rfl, rfl, hx⟩ := hrel
        by_cases hli : i < 8
        · have b2 : (i : Int) < 8 := by omega
          have h99 := bitN_run 99 i (by decide)
          have hpl : ∀ k, k < 5 → (wr.alloc (.cells plv 3)).cell? ⟨wr.heap.size, k, none⟩ = some (.int .i64 ((pl k : Nat) : Int)) := fun k hk => ((Has.new wr 3 plv _ rfl).cell k).trans (plv_at k hk)
          have hv0 : bits .and .i64 ((99 : Int) / 2 ^ i) 1 = ((vS y i 0 : Nat) : Int) := h99
          clear h99
          have hx1 : Ext w (wr.alloc (.cells plv 3)) := hx.alloc _
          have HV0 := Kp.mk hv0
          have HX1 := Kp.mk hx1
          clear hv0 hx1 hx
          go_wp2_with fail
          rw [HV0.out]
          obtain ⟨ws, hws⟩ : ∃ ws, ws = wr.alloc (.cells plv 3) := ⟨_, rfl⟩
          have HX2 : Kp (Ext w ws) := ⟨by rw [hws]; exact HX1.out⟩
          change Code.wp _ _ _ _ (wr.alloc (.cells plv 3))
          rw [← hws] at hpl ⊢
          obtain ⟨g, hg⟩ : ∃ g, g = wr.heap.size := ⟨_, rfl⟩
          rw [← hg] at hpl ⊢
          clear hws HX1 HV0 hg
          have HPL := Kp.mk hpl
          clear hpl
          go_loopw [7, 9] (fun vv kv w' => ∃ k : Nat, k ≤ 5 ∧ kv = .int .i64 (k : Int) ∧ vv = .int .i64 ((vS y i k : Nat) : Int) ∧ ws = w') (fun _ k _ => 5 - (intOf k).toNat)
          case atStart => exact ⟨0, by omega, rfl, rfl, rfl⟩
          case round =>
            obtain ⟨k, hk, rfl, rfl, rfl⟩ := hrel
            by_cases hlk : k < 5
            · have b3 : (k : Int) < 5 := by omega
              have c1 := HPL.out k hlk
              have p1 := pl_lt k hlk
              have hbit := bitN_run y ((i + pl k) % 8) hy2
              have v1 := vS_lt y i k
              have v2 := bitN_lt y ((i + pl k) % 8)
              have HVS : Kp (vS y i (k + 1) = vS y i k + bitN y ((i + pl k) % 8)) := ⟨rfl⟩
              go_wp2_with fail
              go_roundw
              case rel => exact ⟨k + 1, by omega, by go_num, by rw [HVS.out]; go_num, trivial⟩
              case measure => simp [intOf]; omega
            · obtain rfl : k = 5 := by omega
              have v1 := vS_lt y i 5
              have o1 := oS_lt y i
              have o2 : 2 ^ i ≤ 128 := Nat.pow_le_pow_right (by decide) (show i ≤ 7 by omega)
              have HOS : Kp (oS y (i + 1) = if vS y i 5 % 2 = 1 then oS y i + 2 ^ i else oS y i) := ⟨rfl⟩
              generalize oS y i = oi at *
              generalize vS y i 5 = vi at *
              by_cases hodd : vi % 2 = 1
              · have b4 : (vi : Int) % 2 = 1 := by omega
                have HOS2 : Kp (oS y (i + 1) = oi + 2 ^ i) := ⟨by rw [HOS.out, if_pos hodd]⟩
                clear hodd
                go_wp2_with fail
                go_roundw
                case rel =>
                  refine ⟨i + 1, by omega, by go_num, ?_, HX2.out⟩
                  rw [HOS2.out, show (2 : Int) ^ i = ((2 ^ i : Nat) : Int) by simp, w64_add oi (2 ^ i) (by omega) (by omega)]
                case measure => simp [intOf]; omega
              · have b4 : (vi : Int) % 2 = 0 := by omega
                have HOS2 : Kp (oS y (i + 1) = oi) := ⟨by rw [HOS.out, if_neg hodd]⟩
                clear hodd
                go_wp2_with fail
                go_roundw
                case rel => exact ⟨i + 1, by omega, by go_num, by rw [HOS2.out], HX2.out⟩
                case measure => simp [intOf]; omega
        · obtain rfl : i = 8 := by omega
          have o1 := oS_lt y 8
          go_wp2_with fail
          go_ret
          refine ⟨?_, hx⟩
          have h5 := ub_ofNat (oS y 8)
          rw [HRES.out] at h5
          have h6 : ((oS y 8 : Nat) : Int) = ub (sb b) := by rw [h5]; omega
          exact congrArg (fun z => Ending.returned (.int .u8 z)) h6

theorem sb_num (j : Nat) (h : j < 256) : sb (BitVec.ofNat 8 j) = gb SB j := by
  unfold sb
  rw [BitVec.toNat_ofNat, Nat.mod_eq_of_lt (by omega)]
set_option maxHeartbeats 1000000 in
theorem Table_any (w : World) : Calls Tryd.prog 12 #[] w (Fresh w 256 SB) := by
  go_enter Tryd.func12, Tryd.ntmps12
  go_wp2_with fail
  go_loopw [1, 2] (fun ov iv wr => ∃ j : Nat, j ≤ 256 ∧ iv = .int .i64 j ∧ (∃ A c, ov = .slice A j c) ∧ Own wr w.heap.size ov j (li j (gb SB)) ∧ Ext w wr) (fun _ i _ => 256 - (intOf i).toNat)
  case atStart => exact ⟨0, by omega, rfl, ⟨_, _, rfl⟩, Own.nil _ _, Ext.refl _⟩
  case round =>
    obtain ⟨j, hj, rfl, ⟨Ao, co, rfl⟩, ho, hx⟩ := hrel
    by_cases hlt : j < 256
    · have b1 : (j : Int) < 256 := by omega
      have hub : ub (BitVec.ofNat 8 j) = (j : Int) := by rw [ub_ofNat]; omega
      have hcall := refSub_any (BitVec.ofNat 8 j) wr
      rw [hub, sb_num j hlt] at hcall
      have HLI := Kp.mk (li_succ j (gb SB))
      clear hub
      generalize gb SB j = x at *
      go_wp2_with (first | (go_at_call 23; refine hcall.mono ?_; rintro e w1 ⟨rfl, hx1⟩) | (at_builtin; refine wpList_append_bs rfl (.tmp 7) (.tmp 11) rfl w.heap.size _ j _ rfl ((ho.ext hx1).ext (by (repeat (first | assumption | exact Ext.refl _ | apply Ext.drew | apply Ext.drewN | apply Ext.alloc | refine Ext.trans ?_ (by assumption))); first | done | fail)) _ 1 1 [x] rfl (one_bs w1 x) (by omega) (j + 1) rfl _ rfl w ((hx.trans hx1).trans (by (repeat (first | assumption | exact Ext.refl _ | apply Ext.drew | apply Ext.drewN | apply Ext.alloc | refine Ext.trans ?_ (by assumption))); first | done | fail)) (Nat.le_refl _) ((hx.trans hx1).trans (by (repeat (first | assumption | exact Ext.refl _ | apply Ext.drew | apply Ext.drewN | apply Ext.alloc | refine Ext.trans ?_ (by assumption))); first | done | fail)).size ?_; intro A4 c4 w4 ho4 hx4 _) | fail)
      go_roundw
      case rel =>
        refine ⟨j + 1, by omega, by go_num, ⟨_, _, rfl⟩, ?_, hx4⟩
        rw [HLI.out]
        exact ho4
      case measure => simp [intOf]; omega
    · obtain rfl : j = 256 := by omega
      rw [li_self SB 256 SB_len] at ho
      go_wp2_with fail
      go_ret
      exact ⟨Ao, co, rfl, ho.bs, ho, hx⟩
end Go.Proofs.YtjjoghdlbnlicaaDoor
