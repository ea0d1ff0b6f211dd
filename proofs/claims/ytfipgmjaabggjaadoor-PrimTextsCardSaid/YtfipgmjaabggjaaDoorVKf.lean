/-
  prim: belowZero, isNumber, ReadInt; the reference's Number, Value.
-/
import Derived.Test.YtfipgmjaabggjaaDoorVKe
import Derived.Test.YtfipgmjaabggjaaDoorVBl
import Derived.Test.YtfipgmjaabggjaaDoorVEn
namespace Go.Proofs.YtfipgmjaabggjaaDoor
open Go Go.RowKit
set_option maxRecDepth 4000

/-- a slice cut at its head -/
theorem Bs.cut {w : World} {A : Option Addr} {n c : Nat} {l : List (BitVec 8)} (h : Bs w A n c l) (k : Nat) (hk : k ≤ n) : ∃ A', (if c = k then A else A.map (·.add k)) = A' ∧ Bs w A' (n - k) (c - k) (l.drop k) := by
  have hl := h.len
  have hcap := h.cap
  refine ⟨_, rfl, by rw [List.length_drop, hl], by omega, fun e => ?_, fun hn => ?_⟩
  · have hA : A = none := by
      cases A with
      | none => rfl
      | some a => split at e <;> simp at e
    have := h.s.2.2.1 hA
    omega
  · obtain ⟨g, o, rfl, hc⟩ := h.s.2.2.2 (by omega)
    rw [if_neg (by omega)]
    have hadd : (⟨g, o, none⟩ : Addr).add k = ⟨g, o + k, none⟩ := by unfold Addr.add; split <;> simp_all
    refine ⟨g, o + k, by simp [hadd], fun j hj => ?_⟩
    rw [gb_drop, Nat.add_assoc]
    exact hc (k + j) (by omega)
theorem and128b (x : BitVec 8) : bits .and .u8 (ub x) 128 = if 128 ≤ x.toNat then 128 else 0 := by
  revert x
  refine all8 ?_
  decide +kernel
set_option maxHeartbeats 1000000 in
theorem belowZero_any {b : List (BitVec 8)} {A : Option Addr} {n c : Nat} {w : World} (h : Bs w A n c b) (hn : 0 < n) : Calls Tryd.prog 34 #[.slice A n c] w fun e w' => e = .returned (.bool (decide (128 ≤ (gb b 0).toNat))) ∧ w' = w := by
  obtain ⟨g, o, rfl, hc⟩ := h.s.2.2.2 hn
  have c0 := hc 0 hn
  rw [Nat.add_zero] at c0
  have h1 := and128b (gb b 0)
  have b1 : (0 : Int) < (n : Int) := by omega
  clear hc h
  generalize gb b 0 = x at *
  by_cases hx : 128 ≤ x.toNat
  · rw [if_pos hx] at h1
    rw [decide_eq_true hx]
    clear hx
    go_enter Tryd.func34, Tryd.ntmps34
    go_wp2
    go_ret
    exact ⟨rfl, rfl⟩
  · rw [if_neg hx] at h1
    rw [decide_eq_false hx]
    clear hx
    go_enter Tryd.func34, Tryd.ntmps34
    go_wp2
    go_ret
    exact ⟨rfl, rfl⟩
theorem tcB_cases (b : List (BitVec 8)) (h : 2 ≤ b.length) : (gb b 0 = 0 ∧ tcB b = decide (128 ≤ (gb b 1).toNat)) ∨ (gb b 0 = 255 ∧ tcB b = !decide (128 ≤ (gb b 1).toNat)) ∨ (gb b 0 ≠ 0 ∧ gb b 0 ≠ 255 ∧ tcB b = true) := by
  obtain ⟨x, y, r, rfl⟩ : ∃ x y r, b = x :: y :: r := by
    match b, h with
    | x :: y :: r, _ => exact ⟨x, y, r, rfl⟩
  have e0 : gb (x :: y :: r) 0 = x := rfl
  have e1 : gb (x :: y :: r) 1 = y := rfl
  rw [e0, e1]
  unfold tcB
  by_cases h0 : x = 0
  · subst h0
    refine .inl ⟨rfl, ?_⟩
    by_cases h1 : 128 ≤ y.toNat
    · simp [h1]
    · simp [h1]; omega
  · by_cases h2 : x = 255
    · subst h2
      refine .inr (.inl ⟨rfl, ?_⟩)
      by_cases h1 : 128 ≤ y.toNat
      · simp [h1]
      · simp [h1]
    · refine .inr (.inr ⟨h0, h2, ?_⟩)
      show (!(x == 0 && decide (y.toNat < 128)) && !(x == 255 && decide (128 ≤ y.toNat))) = true
      rw [beq_eq_false_iff_ne.2 h0, beq_eq_false_iff_ne.2 h2]
      rfl
theorem ub_neq {x k : BitVec 8} (h : x ≠ k) (z : Int) (hz : ub k = z) : (ub x == z) = false ∧ ¬ ub x = z := by
  have e : ¬ ub x = z := fun e => h (by rw [← hz] at e; unfold ub at e; exact BitVec.eq_of_toNat_eq (by omega))
  exact ⟨beq_eq_false_iff_ne.2 e, e⟩
set_option maxHeartbeats 1000000 in
theorem isNumber_any {b : List (BitVec 8)} {A : Option Addr} {n c : Nat} {w : World} (h : Bs w A n c b) : Calls Tryd.prog 37 #[.slice A n c] w fun e w' => e = .returned (.bool (tcB b)) ∧ w' = w := by
  have hl := h.len
  by_cases h2 : n < 2
  · have b1 : decide ((n : Int) < 2) = true := decide_eq_true (by omega)
    have e : tcB b = decide ((n : Int) = 1) := by
      match b, hl with
      | [], hl => rw [decide_eq_false (by simp at hl; omega)]; rfl
      | [x], hl => rw [decide_eq_true (by simp at hl; omega)]; rfl
      | _ :: _ :: _, hl => simp at hl; omega
    rw [e]
    clear h hl e h2
    go_enter Tryd.func37, Tryd.ntmps37
    go_wp2
    go_ret
    exact ⟨by first | rfl | (congr 2; rw [Bool.eq_iff_iff]; simp), rfl⟩
  · have b1 : decide ((n : Int) < 2) = false := decide_eq_false (by omega)
    obtain ⟨A', hA', hD⟩ := h.cut 1 (by omega)
    have hcut := run_from (P := Tryd.prog) A n c 24 5 Tryd.underlying24 szB 1 1 rfl (by omega)
    rw [hA'] at hcut
    have hg1 : gb (b.drop 1) 0 = gb b 1 := gb_drop b 1 0
    have hz := belowZero_any hD (by omega)
    rw [hg1] at hz
    obtain ⟨g, o, rfl, hc⟩ := h.s.2.2.2 (by omega)
    have c0 := hc 0 (by omega)
    rw [Nat.add_zero] at c0
    have b2 : (0 : Int) < (n : Int) := by omega
    have hk := tcB_cases b (by omega)
    clear hc hD hA' h hl hg1 h2
    generalize tcB b = R at *
    generalize gb b 1 = y at *
    generalize gb b 0 = x at *
    rcases hk with ⟨rfl, rfl⟩ | ⟨rfl, rfl⟩ | ⟨h0, h1, rfl⟩
    · have c0' : w.cell? ⟨g, o, none⟩ = some (.int .u8 0) := c0
      clear c0
      go_enter Tryd.func37, Tryd.ntmps37
      go_wp2_with (go_at_call 34; refine hz.mono ?_; rintro e w1 ⟨rfl, rfl⟩)
      go_ret
      exact ⟨rfl, rfl⟩
    · have c0' : w.cell? ⟨g, o, none⟩ = some (.int .u8 255) := c0
      clear c0
      go_enter Tryd.func37, Tryd.ntmps37
      go_wp2_with (go_at_call 34; refine hz.mono ?_; rintro e w1 ⟨rfl, rfl⟩)
      go_ret
      exact ⟨rfl, rfl⟩
    · have e1 := (ub_neq h0 0 rfl).1
      have e2 := (ub_neq h1 255 rfl).1
      clear h0 h1
      go_enter Tryd.func37, Tryd.ntmps37
      go_wp2_with (go_at_call 34; refine hz.mono ?_; rintro e w1 ⟨rfl, rfl⟩)
      go_ret
      exact ⟨rfl, rfl⟩
/-- the number that the first bytes of a body make -/
def tcP (b : List (BitVec 8)) (j : Nat) : Int := beF (if 128 ≤ (gb b 0).toNat then -1 else 0) (b.take j)
theorem tcP_all (b : List (BitVec 8)) : tcP b b.length = tcV b := by unfold tcP tcV; rw [List.take_length]
theorem tcP_zero (b : List (BitVec 8)) : tcP b 0 = if 128 ≤ (gb b 0).toNat then -1 else 0 := rfl
theorem take_gb (l : List (BitVec 8)) (i : Nat) (h : i < l.length) : l.take (i + 1) = l.take i ++ [gb l i] := by
  rw [List.take_succ_eq_append_getElem h]
  simp [gb, h]
theorem tcP_succ (b : List (BitVec 8)) (j : Nat) (h : j < b.length) : tcP b (j + 1) = tcP b j * 256 + ub (gb b j) := by
  unfold tcP
  rw [take_gb b j h]
  unfold beF
  rw [List.foldl_append]
  rfl
theorem tcP_range (b : List (BitVec 8)) (j : Nat) (hj : j < b.length) (h8 : j ≤ 7) : -36028797018963968 ≤ tcP b j ∧ tcP b j < 36028797018963968 := by
  cases j with
  | zero => rw [tcP_zero]; split <;> omega
  | succ j =>
    have e : tcP b (j + 1) = tcV (b.take (j + 1)) := by
      unfold tcP tcV
      rw [gb_take _ _ _ (by omega)]
    have hlen : (b.take (j + 1)).length = j + 1 := by rw [List.length_take]; omega
    have hr := tcV_range (b.take (j + 1)) (by intro e; rw [e] at hlen; simp at hlen)
    rw [hlen] at hr
    have hm := tcH_mono (j := j + 1) (k := 7) (by omega)
    have h7 : tcH 7 = 36028797018963968 := by decide
    rw [e]
    omega
theorem int8_of (x : BitVec 8) : IntKind.i8.wrap (ub x) = (if 128 ≤ x.toNat then -1 else 0) * 256 + ub x := by
  revert x
  refine all8 ?_
  decide +kernel
set_option maxHeartbeats 2000000 in
theorem ReadInt_any {b : List (BitVec 8)} {A : Option Addr} {n c : Nat} {w : World} (h : Bs w A n c b) (v : Int) (er : Value) (hv : (tcB b = false ∧ v = 0 ∧ er = err 2) ∨ (tcB b = true ∧ 8 < n ∧ v = 0 ∧ er = err 4) ∨ (tcB b = true ∧ n ≤ 8 ∧ v = tcV b ∧ er = .nilIface)) :
    Calls Tryd.prog 18 #[.slice A n c] w fun e w' => e = .returned (.tuple #[.int .i64 v, er]) ∧ Ext w w' := by
  have hl := h.len
  have hN := isNumber_any h
  rcases hv with ⟨h1, rfl, rfl⟩ | ⟨h1, h2, rfl, rfl⟩ | ⟨h1, h2, rfl, rfl⟩
  · rw [h1] at hN
    clear h h1 hl
    go_enter Tryd.func18, Tryd.ntmps18
    go_wp2_with (go_at_call 37; refine hN.mono ?_; rintro e w1 ⟨rfl, rfl⟩)
    go_ret2
    exact ⟨rfl, (by (repeat (first | assumption | exact Ext.refl _ | apply Ext.drew | apply Ext.drewN | apply Ext.alloc | refine Ext.trans ?_ (by assumption))); first | done | fail)⟩
  · rw [h1] at hN
    have b1 : decide ((8 : Int) < (n : Int)) = true := decide_eq_true (by omega)
    clear h h1 hl h2
    go_enter Tryd.func18, Tryd.ntmps18
    go_wp2_with (go_at_call 37; refine hN.mono ?_; rintro e w1 ⟨rfl, rfl⟩)
    go_ret2
    exact ⟨rfl, (by (repeat (first | assumption | exact Ext.refl _ | apply Ext.drew | apply Ext.drewN | apply Ext.alloc | refine Ext.trans ?_ (by assumption))); first | done | fail)⟩
  · rw [h1] at hN
    have hn : 0 < n := by
      rcases Nat.eq_zero_or_pos n with h0 | h0
      · rw [List.eq_nil_of_length_eq_zero (hl.trans h0)] at h1
        exact absurd h1 (by decide)
      · exact h0
    have b1 : decide ((8 : Int) < (n : Int)) = false := decide_eq_false (by omega)
    have b2 : (0 : Int) < (n : Int) := by omega
    obtain ⟨A', hA', hD⟩ := h.cut 1 (by omega)
    have hcut := run_from (P := Tryd.prog) A n c 24 5 Tryd.underlying24 szB 1 1 rfl (by omega)
    rw [hA'] at hcut
    obtain ⟨g, o, rfl, hc⟩ := h.s.2.2.2 (by omega)
    have c0 := hc 0 (by omega)
    rw [Nat.add_zero] at c0
    have hb0 := int8_of (gb b 0)
    rw [← tcP_zero, ← tcP_succ b 0 (by omega), Nat.zero_add] at hb0
    have hr1 : IntKind.i64.wrap (tcP b 1) = tcP b 1 := by
      rw [← hb0, IntKind.wrap_i64, int8_of]
      have := (gb b 0).isLt
      unfold ub
      split <;> omega
    have hstep : ∀ j, j < n → 1 ≤ j → IntKind.i64.wrap (tcP b j * 256) = tcP b j * 256 ∧ bits .or .i64 (tcP b j * 256) (ub (gb b j)) = tcP b (j + 1) ∧ IntKind.i64.wrap (tcP b (j + 1)) = tcP b (j + 1) ∧ IntKind.i64.wrap (ub (gb b j)) = ub (gb b j) := by
      intro j hj h1
      have hr := tcP_range b j (by omega) (by omega)
      have hx := (gb b j).isLt
      rw [tcP_succ b j (by omega)]
      refine ⟨by rw [IntKind.wrap_i64]; omega, or_byte _ _ hr.1 hr.2, ?_, ?_⟩
      · unfold ub
        rw [IntKind.wrap_i64]
        omega
      · unfold ub
        rw [IntKind.wrap_i64]
        omega
    have HS := Kp.mk hstep
    have HA := Kp.mk (tcP_all b)
    have HD := Kp.mk hD
    have HL := Kp.mk hl
    clear hstep hD hc h hA' h1 hl
    go_enter Tryd.func18, Tryd.ntmps18
    go_wp2_with (go_at_call 37; refine hN.mono ?_; rintro e w1 ⟨rfl, rfl⟩)
    clear c0 hN hcut hb0 hr1
    go_loopw [4, 23] (fun v i wr => ∃ j : Nat, j < n ∧ i = .int .i64 (j : Int) ∧ v = .int .i64 (tcP b (j + 1)) ∧ Ext w1 wr) (fun _ i _ => n - (intOf i).toNat)
    case atStart => exact ⟨0, hn, rfl, rfl, (by (repeat (first | assumption | exact Ext.refl _ | apply Ext.drew | apply Ext.drewN | apply Ext.alloc | refine Ext.trans ?_ (by assumption))); first | done | fail)⟩
    case round =>
      obtain ⟨j, hj, rfl, rfl, hx⟩ := hrel
      have b3 : ((j : Int) < ((n - 1 : Nat) : Int)) ↔ j + 1 < n := by omega
      by_cases hlt : j + 1 < n
      · have b4 : (j : Int) < ((n - 1 : Nat) : Int) := b3.2 hlt
        obtain ⟨s1, s2, s3, s4⟩ := HS.out (j + 1) hlt (by omega)
        obtain ⟨g', o', hg, hc⟩ := (HD.out.ext hx).s.2.2.2 (by omega)
        have c1 := hc j (by omega)
        rw [gb_drop, Nat.add_comm 1 j] at c1
        clear hc b3
        subst hg
        have HX := Kp.mk hx
        clear hx
        go_wp2_with fail
        go_roundw
        case rel => exact ⟨j + 1, hlt, by go_num, rfl, HX.out.trans (by (repeat (first | assumption | exact Ext.refl _ | apply Ext.drew | apply Ext.drewN | apply Ext.alloc | refine Ext.trans ?_ (by assumption))); first | done | fail)⟩
        case measure => simp [intOf]; omega
      · have b4 : ¬ (j : Int) < ((n - 1 : Nat) : Int) := fun e => hlt (b3.1 e)
        have b5 : decide ((j : Int) < ((n - 1 : Nat) : Int)) = false := decide_eq_false b4
        have e : tcP b (j + 1) = tcV b := by rw [← HA.out, HL.out, show j + 1 = n by omega]
        rw [e]
        clear b3 e
        go_wp2_with fail
        go_ret2
        exact ⟨rfl, hx.trans (by (repeat (first | assumption | exact Ext.refl _ | apply Ext.drew | apply Ext.drewN | apply Ext.alloc | refine Ext.trans ?_ (by assumption))); first | done | fail)⟩
end Go.Proofs.YtfipgmjaabggjaaDoor
