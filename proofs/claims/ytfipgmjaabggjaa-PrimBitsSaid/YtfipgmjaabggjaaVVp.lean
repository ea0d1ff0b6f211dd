/-
  The reference's Bits; PrimBits.
-/
import Derived.Test.YtfipgmjaabggjaaVVo
import Derived.Test.YtfipgmjaabggjaaVVg
namespace Go.Proofs.Ytfipgmjaabggjaa
open Go Go.RowKit
set_option maxRecDepth 4000

set_option maxHeartbeats 4000000 in
theorem refBits_any {l : List (BitVec 8)} {A : Option Addr} {n c : Nat} {w : World} (h : Bs w A n c l) (hnm : n ≤ 140737488355328) (u : Int) : Calls Try.prog 22 #[.agg #[.slice A n c, .int .i64 u]] w fun e w' => e = .returned (.bool (bitsB l u)) ∧ Ext w w' := by
  have hl := h.len
  by_cases hn : n = 0
  · subst hn
    have e : bitsB l u = (u == 0) := by
      unfold bitsB
      rw [if_pos (List.eq_nil_of_length_eq_zero hl), Bool.eq_iff_iff]
      simp
    rw [e]
    clear h hl e
    go_enter Try.func22, Try.ntmps22
    go_wp2_with fail
    go_ret
    exact ⟨rfl, (by (repeat (first | assumption | exact Ext.refl _ | apply Ext.drew | apply Ext.drewN | apply Ext.alloc | refine Ext.trans ?_ (by assumption))); first | done | fail)⟩
  have hne : l ≠ [] := fun e => by rw [e] at hl; exact hn hl.symm
  have z1 : ((n : Int) == 0) = false := beq_eq_false_iff_ne.2 (by omega)
  have z2 : ¬ n = 0 := hn
  by_cases h0 : u < 0
  · have e : bitsB l u = false := by
      unfold bitsB
      rw [if_neg hne, decide_eq_false (p := 0 ≤ u) (by omega), Bool.false_and]
    rw [e]
    have b1 : decide (u < 0) = true := decide_eq_true h0
    clear h hl e h0 hne hn
    go_enter Try.func22, Try.ntmps22
    go_wp2_with fail
    go_ret
    exact ⟨rfl, (by (repeat (first | assumption | exact Ext.refl _ | apply Ext.drew | apply Ext.drewN | apply Ext.alloc | refine Ext.trans ?_ (by assumption))); first | done | fail)⟩
  by_cases h7 : 7 < u
  · have e : bitsB l u = false := by
      unfold bitsB
      rw [if_neg hne, decide_eq_false (p := u ≤ 7) (by omega), Bool.false_and, Bool.and_false]
    rw [e]
    have b1 : decide (u < 0) = false := decide_eq_false h0
    have b2 : decide (7 < u) = true := decide_eq_true h7
    clear h hl e h0 h7 hne hn
    go_enter Try.func22, Try.ntmps22
    go_wp2_with fail
    go_ret
    exact ⟨rfl, (by (repeat (first | assumption | exact Ext.refl _ | apply Ext.drew | apply Ext.drewN | apply Ext.alloc | refine Ext.trans ?_ (by assumption))); first | done | fail)⟩
  have b1 : decide (u < 0) = false := decide_eq_false h0
  have b2 : decide (7 < u) = false := decide_eq_false h7
  obtain ⟨g, o, rfl, hc⟩ := h.s.2.2.2 (by omega)
  obtain ⟨k, hk⟩ : ∃ k, k = n - 1 := ⟨_, rfl⟩
  have c1 : ∀ w', Ext w w' → w'.cell? ⟨g, o + k, none⟩ = some (.int .u8 (ub (gb l k))) := fun w' hx => by
    obtain ⟨g', o', e, hc'⟩ := (h.ext hx).s.2.2.2 (by omega)
    cases e
    exact hc' k (by omega)
  obtain ⟨v, hv⟩ : ∃ v : Nat, u = (v : Int) := ⟨u.toNat, by omega⟩
  have e : bitsB l u = decide ((gb l k).toNat % 2 ^ v = 0) := by
    unfold bitsB
    rw [if_neg hne, decide_eq_true (p := 0 ≤ u) (by omega), decide_eq_true (p := u ≤ 7) (by omega), hl, ← hk, Bool.true_and, Bool.true_and, hv, Int.toNat_natCast]
  rw [e]
  have s1 : IntKind.i64.wrap ((n : Int) - 1) = (k : Int) := by rw [IntKind.wrap_i64]; omega
  have d1 : (k : Int) < (n : Int) := by omega
  have d2 : k < n := by omega
  have hv7 : v ≤ 7 := by omega
  have w8 : IntKind.i64.wrap (ub (gb l k)) = ub (gb l k) := by have := (gb l k).isLt; unfold ub; rw [IntKind.wrap_i64]; omega
  have hmod : (ub (gb l k)).tmod ((2 ^ v : Nat) : Int) = (((gb l k).toNat % 2 ^ v : Nat) : Int) := by
    unfold ub
    rw [Int.tmod_eq_emod_of_nonneg (by omega)]
    exact (Int.natCast_emod _ _).symm
  have hdec := eq0_dec ((gb l k).toNat % 2 ^ v)
  have hr : (gb l k).toNat % 2 ^ v ≤ 255 := Nat.le_trans (Nat.mod_le _ _) (by have := (gb l k).isLt; omega)
  have HB := Kp.mk (Blk.new w bit #[.slice (some ⟨g, o, none⟩) n c, .int .i64 u])
  clear h hl e hc hne hk hn h0 h7
  have hp : 0 < 2 ^ v := Nat.pow_pos (by decide)
  generalize (gb l k).toNat % 2 ^ v = r at *
  obtain ⟨P, hP⟩ : ∃ P, P = 2 ^ v := ⟨_, rfl⟩
  rw [← hP] at hmod hp
  have HP := Kp.mk hP
  have HM := Kp.mk hmod
  have HPP := Kp.mk hp
  rw [← hdec]
  have HV := Kp.mk hv
  clear hP hmod hp hdec hv
  generalize gb l k = x at *
  go_enter Try.func22, Try.ntmps22
  go_wp2_with fail
  obtain ⟨W0, hW0⟩ : ∃ W0, W0 = w.alloc (.cells #[.slice (some ⟨g, o, none⟩) n c, .int .i64 u] bit) := ⟨_, rfl⟩
  have hx0 : Ext w W0 := by rw [hW0]; exact (by (repeat (first | assumption | exact Ext.refl _ | apply Ext.drew | apply Ext.drewN | apply Ext.alloc | refine Ext.trans ?_ (by assumption))); first | done | fail)
  rw [← hW0] at HB ⊢
  have X0 := Kp.mk hx0
  clear hW0 hx0 c1 s1
  go_loopw [4, 5] (fun b i wr => ∃ j : Nat, j ≤ v ∧ i = .int .i64 (j : Int) ∧ b = .int .i64 ((2 ^ j : Nat) : Int) ∧ Ext W0 wr) (fun _ i _ => v - (intOf i).toNat)
  case atStart => exact ⟨0, Nat.zero_le _, rfl, rfl, Ext.refl _⟩
  case round =>
    obtain ⟨j, hj, rfl, rfl, hx⟩ := hrel
    obtain ⟨m0, m1⟩ := box2b HB.out hx
    by_cases hlt : j < v
    · have b3 : (j : Int) < u := by rw [HV.out]; omega
      have hpw : 2 ^ j * 2 = 2 ^ (j + 1) := (Nat.pow_succ 2 j).symm
      have hb : 2 ^ (j + 1) ≤ 256 := Nat.pow_le_pow_right (by decide) (by omega : j + 1 ≤ 8)
      have s2 : IntKind.i64.wrap (((2 ^ j : Nat) : Int) * 2) = ((2 ^ (j + 1) : Nat) : Int) := by rw [IntKind.wrap_i64]; omega
      have s3 : IntKind.i64.wrap ((j : Int) + 1) = (j : Int) + 1 := by rw [IntKind.wrap_i64]; omega
      have HX := Kp.mk hx
      clear hx hpw hb
      generalize hP1 : 2 ^ j = P1 at *
      generalize hP2 : 2 ^ (j + 1) = P2 at *
      have H2 := Kp.mk hP2
      clear hP1 hP2
      go_wp2_with fail
      go_roundw
      case rel => exact ⟨j + 1, hlt, by go_num, by rw [H2.out], HX.out.trans (by (repeat (first | assumption | exact Ext.refl _ | apply Ext.drew | apply Ext.drewN | apply Ext.alloc | refine Ext.trans ?_ (by assumption))); first | done | fail)⟩
      case measure => simp [intOf]; omega
    · obtain rfl : j = v := by omega
      have b3 : ¬ (j : Int) < u := by rw [HV.out]; omega
      have b4 : decide ((j : Int) < u) = false := decide_eq_false b3
      rw [← HP.out]
      have q1 := HM.out
      have q2 : ¬ (P : Int) = 0 := by have := HPP.out; omega
      have q3 : ((P : Int) == 0) = false := beq_eq_false_iff_ne.2 q2
      have q4 : ¬ P = 0 := by have := HPP.out; omega
      have q5 : IntKind.i64.wrap (r : Int) = (r : Int) := by rw [IntKind.wrap_i64]; omega
      have HX := Kp.mk hx
      clear hx
      go_wp2_with fail
      go_ret
      exact ⟨rfl, X0.out.trans (HX.out.trans (by (repeat (first | assumption | exact Ext.refl _ | apply Ext.drew | apply Ext.drewN | apply Ext.alloc | refine Ext.trans ?_ (by assumption))); first | done | fail))⟩
set_option maxHeartbeats 8000000 in
theorem PrimBits_any {l : List (BitVec 8)} {A : Option Addr} {n c : Nat} {w : World} (h : Bs w A n c l) (u : Int) {b : List (BitVec 8)} {B : Option Addr} {m d : Nat} (hb : Bs w B m d b) :
    Calls Try.prog 5 #[.agg #[.slice A n c, .int .i64 u], .slice B m d] w fun e w' => e = .returned (.bool true) ∧ Below w.heap.size w w' := by
  have e11 := code_neq 1 1
  have e22 := code_eq 2 2
  have HA := Kp.mk h
  have HB := Kp.mk hb
  have HX := Kp.mk (Blk.new w bit #[.slice A n c, .int .i64 u])
  obtain ⟨W0, hW0⟩ : ∃ W0, W0 = w.alloc (.cells #[.slice A n c, .int .i64 u] bit) := ⟨_, rfl⟩
  have hx0 : Ext w W0 := by rw [hW0]; exact (by (repeat (first | assumption | exact Ext.refl _ | apply Ext.drew | apply Ext.drewN | apply Ext.alloc | refine Ext.trans ?_ (by assumption))); first | done | fail)
  have X0 := Kp.mk hx0
  clear h hb hx0
  by_cases h50 : 300 < n
  · have b1 : decide ((300 : Int) < (n : Int)) = true := decide_eq_true (by omega)
    clear h50
    go_enter Try.func5, Try.ntmps5
    go_wp2_with fail
    rw [← hW0] at HX ⊢
    clear hW0
    refine (up8 _).mono ?_
    rintro e w1 ⟨rfl, x1⟩
    obtain ⟨m0, m1⟩ := box2b HX.out x1
    have X1 := Kp.mk (X0.out.trans x1)
    clear x1
    go_wp2_with fail
    go_ret
    exact ⟨rfl, X1.out.b⟩
  have b1 : decide ((300 : Int) < (n : Int)) = false := decide_eq_false (by omega)
  by_cases h200 : 300 < m
  · have b2 : decide ((300 : Int) < (m : Int)) = true := decide_eq_true (by omega)
    clear h50 h200
    go_enter Try.func5, Try.ntmps5
    go_wp2_with fail
    rw [← hW0] at HX ⊢
    clear hW0
    refine (up8 _).mono ?_
    rintro e w1 ⟨rfl, x1⟩
    obtain ⟨m0, m1⟩ := box2b HX.out x1
    have X1 := Kp.mk (X0.out.trans x1)
    clear x1
    go_wp2_with fail
    go_ret
    exact ⟨rfl, X1.out.b⟩
  have b2 : decide ((300 : Int) < (m : Int)) = false := decide_eq_false (by omega)
  have hn : n ≤ 300 := by omega
  have hm : m ≤ 300 := by omega
  clear h50 h200
  go_enter Try.func5, Try.ntmps5
  go_wp2_with fail
  rw [← hW0] at HX ⊢
  clear hW0
  refine (up8 _).mono ?_
  rintro e w1 ⟨rfl, x1⟩
  obtain ⟨m0, m1⟩ := box2b HX.out x1
  have Y1 := Kp.mk x1
  have X1 := Kp.mk (X0.out.trans x1)
  clear x1
  go_wp2_with fail
  refine (Bits_any (HA.out.ext X1.out) (by omega) u).mono ?_
  rintro e w2 (⟨hno, rfl, x2⟩ | ⟨hP, A2, c2, rfl, hs2, ho2, x2⟩)
  · have Y2 := Kp.mk (Y1.out.trans x2)
    have X2 := Kp.mk (X1.out.trans x2)
    clear x2 m0 m1
    obtain ⟨m0, m1⟩ := box2b HX.out Y2.out
    have HN := Kp.mk hno
    clear hno
    go_wp2_with fail
    refine (refBits_any (HA.out.ext X2.out) (by omega) u).mono ?_
    rintro e w3 ⟨rfl, x3⟩
    rw [HN.out]
    have X3 := Kp.mk (X2.out.trans x3)
    clear x3 m0 m1
    go_wp2_with fail
    go_quiet (fail)
    have X4 := Kp.mk (X3.out.trans (show Ext w3 (w3.drewN nq) from (by (repeat (first | assumption | exact Ext.refl _ | apply Ext.drew | apply Ext.drewN | apply Ext.alloc | refine Ext.trans ?_ (by assumption))); first | done | fail)))
    generalize w3.drewN nq = w4 at *
    go_wp2_with fail
    refine (ReadBits_any (HB.out.ext X4.out) (by omega)).mono ?_
    rintro e w8 (⟨hno, rfl, x8⟩ | ⟨⟨hp0, hp1⟩, A8, c8, rfl, ho8, x8⟩)
    · have X8 := Kp.mk (X4.out.trans x8)
      have HN8 := Kp.mk hno
      clear x8 hno
      by_cases hm0 : m = 0
      · subst hm0
        go_wp2_with fail
        go_ret
        exact ⟨rfl, (X8.out.trans (by (repeat (first | assumption | exact Ext.refl _ | apply Ext.drew | apply Ext.drewN | apply Ext.alloc | refine Ext.trans ?_ (by assumption))); first | done | fail)).b⟩
      · have z1 : ((m : Int) == 0) = false := beq_eq_false_iff_ne.2 (by omega)
        have z2 : ¬ m = 0 := hm0
        have HV := Kp.mk (show bitsB (b.drop 1) (ub (gb b 0)) = false from by
          cases hq : bitsB (b.drop 1) (ub (gb b 0)) with
          | false => rfl
          | true => exact absurd ⟨by omega, hq⟩ HN8.out)
        clear HN8
        go_wp2_with fail
        obtain ⟨W9, hW9⟩ : ∃ W9, W9 = w8.alloc (.cells #[.slice none 0 0, .int .i64 0] bit) := ⟨_, rfl⟩
        have hx9 : Ext w8 W9 := by rw [hW9]; exact (by (repeat (first | assumption | exact Ext.refl _ | apply Ext.drew | apply Ext.drewN | apply Ext.alloc | refine Ext.trans ?_ (by assumption))); first | done | fail)
        have H9 := Kp.mk (show Blk W9 w8.heap.size bit #[.slice none 0 0, .int .i64 0] from hW9 ▸ Blk.new w8 bit _)
        rw [← hW9]
        have X9 := Kp.mk (X8.out.trans hx9)
        have X89 := Kp.mk hx9
        clear hW9 hx9
        obtain ⟨B', hB', hD⟩ := HB.out.cut 1 (by omega)
        have hcut := run_from (P := Try.prog) B m d 22 5 Try.underlying22 szB 1 1 rfl (by omega)
        rw [hB'] at hcut
        have HD := Kp.mk hD
        obtain ⟨g, o, hgo, _⟩ := HB.out.s.2.2.2 (by omega)
        subst hgo
        have k0 : ∀ w', Ext W9 w' → w'.cell? ⟨g, o, none⟩ = some (.int .u8 (ub (gb b 0))) := fun w' hx => by
          obtain ⟨g', o', e, hc'⟩ := (HB.out.ext (X9.out.trans hx)).s.2.2.2 (by omega)
          cases e
          have := hc' 0 (by omega)
          rwa [Nat.add_zero] at this
        have d1 : (0 : Int) < (m : Int) := by omega
        have d2 : 0 < m := by omega
        have w8w : IntKind.i64.wrap (ub (gb b 0)) = ub (gb b 0) := by have := (gb b 0).isLt; unfold ub; rw [IntKind.wrap_i64]; omega
        generalize ub (gb b 0) = z at *
        clear hD hB'
        refine wp_region_held_drew (S := fun w' => Ext W9 w') (by kernel_rfl) (Ext.refl W9).drew (fun hHeld => ?_)
        refine wpAnyH_take (i := 0) (oi := ⟨some 88, _, _, _, _, _⟩) (v := ?_) rfl (by kernel_rfl) (by kernel_rfl) (by kernel_rfl) (fun _ _ _ h => h) (Or.inl ⟨by rfl, ?_⟩) (by assumption) ?_
        rotate_left
        · (intro w hSw; (try dsimp only at hSw); go_simp; try with_reducible rfl)
        try simp only [Act.put, List.setIfInBounds_toArray, List.set_cons_zero, List.set_cons_succ]
        refine wpAnyH_take (i := 1) (oi := ⟨some 89, _, _, _, _, _⟩) (v := ?_) rfl (by kernel_rfl) (by kernel_rfl) (by kernel_rfl) (fun _ _ _ h => h) (Or.inl ⟨by rfl, ?_⟩) (by assumption) ?_
        rotate_left
        · (intro w hSw; (try dsimp only at hSw); go_simp; try with_reducible rfl)
        try simp only [Act.put, List.setIfInBounds_toArray, List.set_cons_zero, List.set_cons_succ]
        refine wpAnyH_take (i := 2) (oi := ⟨some 90, _, _, _, _, _⟩) (v := ?_) rfl (by kernel_rfl) (by kernel_rfl) (by kernel_rfl) (fun _ _ _ h => h) (Or.inl ⟨by rfl, ?_⟩) (by assumption) ?_
        rotate_left
        · (intro w hSw; (try dsimp only at hSw); go_simp; try with_reducible rfl)
        try simp only [Act.put, List.setIfInBounds_toArray, List.set_cons_zero, List.set_cons_succ]
        refine wpAnyH_take (i := 3) (oi := ⟨some 91, _, _, _, _, _⟩) (v := ?_) rfl (by kernel_rfl) (by kernel_rfl) (by kernel_rfl) (fun _ _ _ h => h) (Or.inl ⟨by rfl, ?_⟩) (by assumption) ?_
        rotate_left
        · (intro w hSw; (try dsimp only at hSw); go_simp; try with_reducible rfl)
        try simp only [Act.put, List.setIfInBounds_toArray, List.set_cons_zero, List.set_cons_succ]
        refine wpAnyH_take (i := 4) (oi := ⟨some 92, _, _, _, _, _⟩) (v := ?_) rfl (by kernel_rfl) (by kernel_rfl) (by kernel_rfl) (fun _ _ _ h => h) (Or.inl ⟨by rfl, ?_⟩) (by assumption) ?_
        rotate_left
        · (intro w hSw; (try dsimp only at hSw); go_simp; try with_reducible rfl)
        try simp only [Act.put, List.setIfInBounds_toArray, List.set_cons_zero, List.set_cons_succ]
        refine wpAnyH_take (i := 5) (oi := ⟨some 93, _, _, _, _, _⟩) (v := ?_) rfl (by kernel_rfl) (by kernel_rfl) (by kernel_rfl) (fun _ _ _ h => h) (Or.inl ⟨by rfl, ?_⟩) (by assumption) ?_
        rotate_left
        · (intro w hSw; (try dsimp only at hSw); go_simp; try with_reducible rfl)
        try simp only [Act.put, List.setIfInBounds_toArray, List.set_cons_zero, List.set_cons_succ]
        refine wpAnyH_take (i := 6) (oi := ⟨some 94, _, _, _, _, _⟩) (v := ?_) rfl (by kernel_rfl) (by kernel_rfl) (by kernel_rfl) (fun _ _ _ h => h) (Or.inl ⟨by rfl, ?_⟩) (by assumption) ?_
        rotate_left
        · (intro w hSw; (try dsimp only at hSw); go_simp; try with_reducible rfl)
        try simp only [Act.put, List.setIfInBounds_toArray, List.set_cons_zero, List.set_cons_succ]
        refine next_one 7 (by kernel_rfl) rfl (by rfl) fun K' HK' => ?_
        go_simp
        refine held_go HK' (by (repeat (first | assumption | exact Ext.refl _ | apply Ext.drew | apply Ext.drewN | apply Ext.alloc | refine Ext.trans ?_ (by assumption))); first | done | fail) (fun hHeld => ?_)
        clear HK'
        try simp only [Act.put, List.setIfInBounds_toArray, List.set_cons_zero, List.set_cons_succ]
        refine next_one 8 (by kernel_rfl) rfl (by rfl) fun K' HK' => ?_
        go_simp
        have hb1 : Blk (W9.alloc (.cells #[.slice B' (m - 1) (d - 1), .int .i64 z] bit)).drew W9.heap.size bit #[.slice B' (m - 1) (d - 1), .int .i64 z] := (Blk.new W9 bit _).ext (by (repeat (first | assumption | exact Ext.refl _ | apply Ext.drew | apply Ext.drewN | apply Ext.alloc | refine Ext.trans ?_ (by assumption))); first | done | fail)
        have hx1 : Ext W9 (W9.alloc (.cells #[.slice B' (m - 1) (d - 1), .int .i64 z] bit)).drew := (by (repeat (first | assumption | exact Ext.refl _ | apply Ext.drew | apply Ext.drewN | apply Ext.alloc | refine Ext.trans ?_ (by assumption))); first | done | fail)
        obtain ⟨q, hq⟩ : ∃ q, q = W9.heap.size := ⟨_, rfl⟩
        generalize hW1 : (W9.alloc (.cells #[.slice B' (m - 1) (d - 1), .int .i64 z] bit)).drew = w10 at *
        refine held_go HK' hx1 (fun hHeld => ?_)
        clear HK'
        try simp only [Act.put, List.setIfInBounds_toArray, List.set_cons_zero, List.set_cons_succ]
        refine wpAnyH_done (by kernel_rfl) ?_ _
        rw [← hq] at hb1 ⊢
        have H10 := Kp.mk hb1
        have X10 := Kp.mk (X9.out.trans hx1)
        have X910 := Kp.mk hx1
        have X810 := Kp.mk (X89.out.trans hx1)
        clear hcut k0 hx1 hW1 hq hb1
        obtain ⟨m0, m1⟩ := box2b H10.out (Ext.refl _)
        go_wp2_with fail
        refine (refBits_any (HD.out.ext X10.out) (by omega) z).mono ?_
        rintro e w11 ⟨rfl, x11⟩
        rw [HV.out]
        have X11 := Kp.mk (X10.out.trans x11)
        have X1011 := Kp.mk x11
        clear x11 m0 m1
        have p0 := fun (w' : World) (hx : Ext w11 w') => (box2b H10.out (X1011.out.trans hx)).1
        have p1 := fun (w' : World) (hx : Ext w11 w') => (box2b H10.out (X1011.out.trans hx)).2
        have r0 := fun (w' : World) (hx : Ext w11 w') => (box2b H9.out (X910.out.trans (X1011.out.trans hx))).1
        have r1 := fun (w' : World) (hx : Ext w11 w') => (box2b H9.out (X910.out.trans (X1011.out.trans hx))).2
        have p0' := p0 w11 (Ext.refl _)
        have p1' := p1 w11 (Ext.refl _)
        have r0' := r0 w11 (Ext.refl _)
        have r1' := r1 w11 (Ext.refl _)
        clear p0 p1 r0 r1
        go_wp2_with fail
        go_ret
        exact ⟨rfl, X11.out.b⟩
    · have X8 := Kp.mk (X4.out.trans x8)
      have HO8 := Kp.mk ho8
      have HV := Kp.mk hp1
      have z1 : ((m : Int) == 0) = false := beq_eq_false_iff_ne.2 (by omega)
      have z2 : ¬ m = 0 := by omega
      clear x8 ho8 hp1
      go_wp2_with fail
      obtain ⟨W9, hW9⟩ : ∃ W9, W9 = w8.alloc (.cells #[.slice A8 (m - 1) c8, .int .i64 (ub (gb b 0))] bit) := ⟨_, rfl⟩
      have hx9 : Ext w8 W9 := by rw [hW9]; exact (by (repeat (first | assumption | exact Ext.refl _ | apply Ext.drew | apply Ext.drewN | apply Ext.alloc | refine Ext.trans ?_ (by assumption))); first | done | fail)
      have H9 := Kp.mk (show Blk W9 w8.heap.size bit #[.slice A8 (m - 1) c8, .int .i64 (ub (gb b 0))] from hW9 ▸ Blk.new w8 bit _)
      rw [← hW9]
      have X9 := Kp.mk (X8.out.trans hx9)
      have X89 := Kp.mk hx9
      clear hW9 hx9
      obtain ⟨B', hB', hD⟩ := HB.out.cut 1 (by omega)
      have hcut := run_from (P := Try.prog) B m d 22 5 Try.underlying22 szB 1 1 rfl (by omega)
      rw [hB'] at hcut
      have HD := Kp.mk hD
      obtain ⟨g, o, hgo, _⟩ := HB.out.s.2.2.2 (by omega)
      subst hgo
      have k0 : ∀ w', Ext W9 w' → w'.cell? ⟨g, o, none⟩ = some (.int .u8 (ub (gb b 0))) := fun w' hx => by
        obtain ⟨g', o', e, hc'⟩ := (HB.out.ext (X9.out.trans hx)).s.2.2.2 (by omega)
        cases e
        have := hc' 0 (by omega)
        rwa [Nat.add_zero] at this
      have d1 : (0 : Int) < (m : Int) := by omega
      have d2 : 0 < m := by omega
      have w8w : IntKind.i64.wrap (ub (gb b 0)) = ub (gb b 0) := by have := (gb b 0).isLt; unfold ub; rw [IntKind.wrap_i64]; omega
      generalize ub (gb b 0) = z at *
      clear hD hB'
      refine wp_region_held_drew (S := fun w' => Ext W9 w') (by kernel_rfl) (Ext.refl W9).drew (fun hHeld => ?_)
      refine wpAnyH_take (i := 0) (oi := ⟨some 88, _, _, _, _, _⟩) (v := ?_) rfl (by kernel_rfl) (by kernel_rfl) (by kernel_rfl) (fun _ _ _ h => h) (Or.inl ⟨by rfl, ?_⟩) (by assumption) ?_
      rotate_left
      · (intro w hSw; (try dsimp only at hSw); go_simp; try with_reducible rfl)
      try simp only [Act.put, List.setIfInBounds_toArray, List.set_cons_zero, List.set_cons_succ]
      refine wpAnyH_take (i := 1) (oi := ⟨some 89, _, _, _, _, _⟩) (v := ?_) rfl (by kernel_rfl) (by kernel_rfl) (by kernel_rfl) (fun _ _ _ h => h) (Or.inl ⟨by rfl, ?_⟩) (by assumption) ?_
      rotate_left
      · (intro w hSw; (try dsimp only at hSw); go_simp; try with_reducible rfl)
      try simp only [Act.put, List.setIfInBounds_toArray, List.set_cons_zero, List.set_cons_succ]
      refine wpAnyH_take (i := 2) (oi := ⟨some 90, _, _, _, _, _⟩) (v := ?_) rfl (by kernel_rfl) (by kernel_rfl) (by kernel_rfl) (fun _ _ _ h => h) (Or.inl ⟨by rfl, ?_⟩) (by assumption) ?_
      rotate_left
      · (intro w hSw; (try dsimp only at hSw); go_simp; try with_reducible rfl)
      try simp only [Act.put, List.setIfInBounds_toArray, List.set_cons_zero, List.set_cons_succ]
      refine wpAnyH_take (i := 3) (oi := ⟨some 91, _, _, _, _, _⟩) (v := ?_) rfl (by kernel_rfl) (by kernel_rfl) (by kernel_rfl) (fun _ _ _ h => h) (Or.inl ⟨by rfl, ?_⟩) (by assumption) ?_
      rotate_left
      · (intro w hSw; (try dsimp only at hSw); go_simp; try with_reducible rfl)
      try simp only [Act.put, List.setIfInBounds_toArray, List.set_cons_zero, List.set_cons_succ]
      refine wpAnyH_take (i := 4) (oi := ⟨some 92, _, _, _, _, _⟩) (v := ?_) rfl (by kernel_rfl) (by kernel_rfl) (by kernel_rfl) (fun _ _ _ h => h) (Or.inl ⟨by rfl, ?_⟩) (by assumption) ?_
      rotate_left
      · (intro w hSw; (try dsimp only at hSw); go_simp; try with_reducible rfl)
      try simp only [Act.put, List.setIfInBounds_toArray, List.set_cons_zero, List.set_cons_succ]
      refine wpAnyH_take (i := 5) (oi := ⟨some 93, _, _, _, _, _⟩) (v := ?_) rfl (by kernel_rfl) (by kernel_rfl) (by kernel_rfl) (fun _ _ _ h => h) (Or.inl ⟨by rfl, ?_⟩) (by assumption) ?_
      rotate_left
      · (intro w hSw; (try dsimp only at hSw); go_simp; try with_reducible rfl)
      try simp only [Act.put, List.setIfInBounds_toArray, List.set_cons_zero, List.set_cons_succ]
      refine wpAnyH_take (i := 6) (oi := ⟨some 94, _, _, _, _, _⟩) (v := ?_) rfl (by kernel_rfl) (by kernel_rfl) (by kernel_rfl) (fun _ _ _ h => h) (Or.inl ⟨by rfl, ?_⟩) (by assumption) ?_
      rotate_left
      · (intro w hSw; (try dsimp only at hSw); go_simp; try with_reducible rfl)
      try simp only [Act.put, List.setIfInBounds_toArray, List.set_cons_zero, List.set_cons_succ]
      refine next_one 7 (by kernel_rfl) rfl (by rfl) fun K' HK' => ?_
      go_simp
      refine held_go HK' (by (repeat (first | assumption | exact Ext.refl _ | apply Ext.drew | apply Ext.drewN | apply Ext.alloc | refine Ext.trans ?_ (by assumption))); first | done | fail) (fun hHeld => ?_)
      clear HK'
      try simp only [Act.put, List.setIfInBounds_toArray, List.set_cons_zero, List.set_cons_succ]
      refine next_one 8 (by kernel_rfl) rfl (by rfl) fun K' HK' => ?_
      go_simp
      have hb1 : Blk (W9.alloc (.cells #[.slice B' (m - 1) (d - 1), .int .i64 z] bit)).drew W9.heap.size bit #[.slice B' (m - 1) (d - 1), .int .i64 z] := (Blk.new W9 bit _).ext (by (repeat (first | assumption | exact Ext.refl _ | apply Ext.drew | apply Ext.drewN | apply Ext.alloc | refine Ext.trans ?_ (by assumption))); first | done | fail)
      have hx1 : Ext W9 (W9.alloc (.cells #[.slice B' (m - 1) (d - 1), .int .i64 z] bit)).drew := (by (repeat (first | assumption | exact Ext.refl _ | apply Ext.drew | apply Ext.drewN | apply Ext.alloc | refine Ext.trans ?_ (by assumption))); first | done | fail)
      obtain ⟨q, hq⟩ : ∃ q, q = W9.heap.size := ⟨_, rfl⟩
      generalize hW1 : (W9.alloc (.cells #[.slice B' (m - 1) (d - 1), .int .i64 z] bit)).drew = w10 at *
      refine held_go HK' hx1 (fun hHeld => ?_)
      clear HK'
      try simp only [Act.put, List.setIfInBounds_toArray, List.set_cons_zero, List.set_cons_succ]
      refine wpAnyH_done (by kernel_rfl) ?_ _
      rw [← hq] at hb1 ⊢
      have H10 := Kp.mk hb1
      have X10 := Kp.mk (X9.out.trans hx1)
      have X910 := Kp.mk hx1
      have X810 := Kp.mk (X89.out.trans hx1)
      clear hcut k0 hx1 hW1 hq hb1
      obtain ⟨m0, m1⟩ := box2b H10.out (Ext.refl _)
      go_wp2_with fail
      refine (refBits_any (HD.out.ext X10.out) (by omega) z).mono ?_
      rintro e w11 ⟨rfl, x11⟩
      rw [HV.out]
      have X11 := Kp.mk (X10.out.trans x11)
      have X1011 := Kp.mk x11
      clear x11 m0 m1
      have p0 := fun (w' : World) (hx : Ext w11 w') => (box2b H10.out (X1011.out.trans hx)).1
      have p1 := fun (w' : World) (hx : Ext w11 w') => (box2b H10.out (X1011.out.trans hx)).2
      have r0 := fun (w' : World) (hx : Ext w11 w') => (box2b H9.out (X910.out.trans (X1011.out.trans hx))).1
      have r1 := fun (w' : World) (hx : Ext w11 w') => (box2b H9.out (X910.out.trans (X1011.out.trans hx))).2
      have p0' := p0 w11 (Ext.refl _)
      have p1' := p1 w11 (Ext.refl _)
      have r0' := r0 w11 (Ext.refl _)
      have r1' := r1 w11 (Ext.refl _)
      clear p0 p1 r0 r1
      have HS8 := Kp.mk (HO8.out.ext (X810.out.trans X1011.out)).bs
      have s1 := HS8.out.str (Ext.refl w11)
      have s2 := (HD.out.ext X11.out).str (Ext.refl w11)
      go_wp2_with fail
      go_ret
      exact ⟨rfl, X11.out.b⟩
  · have Y2 := Kp.mk (Y1.out.trans x2)
    have X2 := Kp.mk (X1.out.trans x2)
    clear x2 m0 m1 ho2
    obtain ⟨m0, m1⟩ := box2b HX.out Y2.out
    have HN := Kp.mk hP
    have HS := Kp.mk hs2
    have hu := byt_u (bitsB_u hP)
    clear hP hs2
    generalize BitVec.ofNat 8 u.toNat = x at *
    go_wp2_with fail
    refine (refBits_any (HA.out.ext X2.out) (by omega) u).mono ?_
    rintro e w3 ⟨rfl, x3⟩
    rw [HN.out]
    have X3 := Kp.mk (X2.out.trans x3)
    have Y3 := Kp.mk (Y2.out.trans x3)
    have HS3 := Kp.mk (HS.out.ext x3)
    clear x3 m0 m1
    go_wp2_with fail
    refine wp_region_held_drew (S := fun w' => Ext w3 w') (by kernel_rfl) (Ext.refl w3).drew (fun hHeld => ?_)
    have hc1 := fun (w' : World) (hx : Ext w3 w') => (HS3.out.ext hx).str (Ext.refl _)
    have m0 := fun (w' : World) (hx : Ext w3 w') => (box2b HX.out (Y3.out.trans hx)).1
    have m1 := fun (w' : World) (hx : Ext w3 w') => (box2b HX.out (Y3.out.trans hx)).2
    refine wpAnyH_take (i := 0) (oi := ⟨some 31, _, _, _, _, _⟩) (v := ?_) rfl (by kernel_rfl) (by kernel_rfl) (by kernel_rfl) (fun _ _ _ h => h) (Or.inl ⟨by rfl, ?_⟩) (by assumption) ?_
    rotate_left
    · (intro w hSw; (try dsimp only at hSw); go_simp; try with_reducible rfl)
    try simp only [Act.put, List.setIfInBounds_toArray, List.set_cons_zero, List.set_cons_succ]
    refine wpAnyH_take (i := 1) (oi := ⟨some 32, _, _, _, _, _⟩) (v := ?_) rfl (by kernel_rfl) (by kernel_rfl) (by kernel_rfl) (fun _ _ _ h => h) (Or.inl ⟨by rfl, ?_⟩) (by assumption) ?_
    rotate_left
    · (intro w hSw; (try dsimp only at hSw); go_simp; try with_reducible rfl)
    try simp only [Act.put, List.setIfInBounds_toArray, List.set_cons_zero, List.set_cons_succ]
    refine wpAnyH_take (i := 2) (oi := ⟨some 33, _, _, _, _, _⟩) (v := ?_) rfl (by kernel_rfl) (by kernel_rfl) (by kernel_rfl) (fun _ _ _ h => h) (Or.inl ⟨by rfl, ?_⟩) (by assumption) ?_
    rotate_left
    · (intro w hSw; (try dsimp only at hSw); go_simp; try with_reducible rfl)
    try simp only [Act.put, List.setIfInBounds_toArray, List.set_cons_zero, List.set_cons_succ]
    refine wpAnyH_take (i := 3) (oi := ⟨some 34, _, _, _, _, _⟩) (v := undef) rfl (by kernel_rfl) (by kernel_rfl) (by kernel_rfl) (fun _ _ _ h => h) (Or.inr ⟨by rfl, rfl⟩) (by assumption) ?_
    try simp only [Act.put, List.setIfInBounds_toArray, List.set_cons_zero, List.set_cons_succ]
    refine wpAnyH_take (i := 4) (oi := ⟨some 35, _, _, _, _, _⟩) (v := undef) rfl (by kernel_rfl) (by kernel_rfl) (by kernel_rfl) (fun _ _ _ h => h) (Or.inr ⟨by rfl, rfl⟩) (by assumption) ?_
    try simp only [Act.put, List.setIfInBounds_toArray, List.set_cons_zero, List.set_cons_succ]
    refine wpAnyH_take (i := 5) (oi := ⟨some 36, _, _, _, _, _⟩) (v := undef) rfl (by kernel_rfl) (by kernel_rfl) (by kernel_rfl) (fun _ _ _ h => h) (Or.inr ⟨by rfl, rfl⟩) (by assumption) ?_
    try simp only [Act.put, List.setIfInBounds_toArray, List.set_cons_zero, List.set_cons_succ]
    refine wpAnyH_take (i := 6) (oi := ⟨some 37, _, _, _, _, _⟩) (v := undef) rfl (by kernel_rfl) (by kernel_rfl) (by kernel_rfl) (fun _ _ _ h => h) (Or.inr ⟨by rfl, rfl⟩) (by assumption) ?_
    try simp only [Act.put, List.setIfInBounds_toArray, List.set_cons_zero, List.set_cons_succ]
    refine wpAnyH_take (i := 7) (oi := ⟨some 38, _, _, _, _, _⟩) (v := undef) rfl (by kernel_rfl) (by kernel_rfl) (by kernel_rfl) (fun _ _ _ h => h) (Or.inr ⟨by rfl, rfl⟩) (by assumption) ?_
    try simp only [Act.put, List.setIfInBounds_toArray, List.set_cons_zero, List.set_cons_succ]
    refine wpAnyH_take (i := 8) (oi := ⟨some 39, _, _, _, _, _⟩) (v := undef) rfl (by kernel_rfl) (by kernel_rfl) (by kernel_rfl) (fun _ _ _ h => h) (Or.inr ⟨by rfl, rfl⟩) (by assumption) ?_
    try simp only [Act.put, List.setIfInBounds_toArray, List.set_cons_zero, List.set_cons_succ]
    refine wpAnyH_take (i := 9) (oi := ⟨some 40, _, _, _, _, _⟩) (v := undef) rfl (by kernel_rfl) (by kernel_rfl) (by kernel_rfl) (fun _ _ _ h => h) (Or.inr ⟨by rfl, rfl⟩) (by assumption) ?_
    try simp only [Act.put, List.setIfInBounds_toArray, List.set_cons_zero, List.set_cons_succ]
    refine wpAnyH_take (i := 10) (oi := ⟨some 41, _, _, _, _, _⟩) (v := undef) rfl (by kernel_rfl) (by kernel_rfl) (by kernel_rfl) (fun _ _ _ h => h) (Or.inr ⟨by rfl, rfl⟩) (by assumption) ?_
    try simp only [Act.put, List.setIfInBounds_toArray, List.set_cons_zero, List.set_cons_succ]
    refine wpAnyH_take (i := 11) (oi := ⟨some 42, _, _, _, _, _⟩) (v := ?_) rfl (by kernel_rfl) (by kernel_rfl) (by kernel_rfl) (fun _ _ _ h => h) (Or.inl ⟨by rfl, ?_⟩) (by assumption) ?_
    rotate_left
    · (intro w hSw; (try dsimp only at hSw); go_simp; try with_reducible rfl)
    try simp only [Act.put, List.setIfInBounds_toArray, List.set_cons_zero, List.set_cons_succ]
    refine wpAnyH_take (i := 12) (oi := ⟨some 43, _, _, _, _, _⟩) (v := ?_) rfl (by kernel_rfl) (by kernel_rfl) (by kernel_rfl) (fun _ _ _ h => h) (Or.inl ⟨by rfl, ?_⟩) (by assumption) ?_
    rotate_left
    · (intro w hSw; (try dsimp only at hSw); go_simp; try with_reducible rfl)
    try simp only [Act.put, List.setIfInBounds_toArray, List.set_cons_zero, List.set_cons_succ]
    refine wpAnyH_take (i := 13) (oi := ⟨some 44, _, _, _, _, _⟩) (v := ?_) rfl (by kernel_rfl) (by kernel_rfl) (by kernel_rfl) (fun _ _ _ h => h) (Or.inl ⟨by rfl, ?_⟩) (by assumption) ?_
    rotate_left
    · (intro w hSw; (try dsimp only at hSw); go_simp; try with_reducible rfl)
    try simp only [Act.put, List.setIfInBounds_toArray, List.set_cons_zero, List.set_cons_succ]
    refine wpAnyH_take (i := 14) (oi := ⟨some 45, _, _, _, _, _⟩) (v := ?_) rfl (by kernel_rfl) (by kernel_rfl) (by kernel_rfl) (fun _ _ _ h => h) (Or.inl ⟨by rfl, ?_⟩) (by assumption) ?_
    rotate_left
    · (intro w hSw; (try dsimp only at hSw); go_simp; try with_reducible rfl)
    try simp only [Act.put, List.setIfInBounds_toArray, List.set_cons_zero, List.set_cons_succ]
    refine wpAnyH_take (i := 15) (oi := ⟨some 46, _, _, _, _, _⟩) (v := ?_) rfl (by kernel_rfl) (by kernel_rfl) (by kernel_rfl) (fun _ _ _ h => h) (Or.inl ⟨by rfl, ?_⟩) (by assumption) ?_
    rotate_left
    · (intro w hSw; (try dsimp only at hSw); go_simp; try with_reducible rfl)
    try simp only [Act.put, List.setIfInBounds_toArray, List.set_cons_zero, List.set_cons_succ]
    refine wpAnyH_take (i := 16) (oi := ⟨some 47, _, _, _, _, _⟩) (v := ?_) rfl (by kernel_rfl) (by kernel_rfl) (by kernel_rfl) (fun _ _ _ h => h) (Or.inl ⟨by rfl, ?_⟩) (by assumption) ?_
    rotate_left
    · (intro w hSw; (try dsimp only at hSw); go_simp; try with_reducible rfl)
    try simp only [Act.put, List.setIfInBounds_toArray, List.set_cons_zero, List.set_cons_succ]
    refine wpAnyH_take (i := 17) (oi := ⟨some 48, _, _, _, _, _⟩) (v := ?_) rfl (by kernel_rfl) (by kernel_rfl) (by kernel_rfl) (fun _ _ _ h => h) (Or.inl ⟨by rfl, ?_⟩) (by assumption) ?_
    rotate_left
    · (intro w hSw; (try dsimp only at hSw); go_simp; try with_reducible rfl)
    try simp only [Act.put, List.setIfInBounds_toArray, List.set_cons_zero, List.set_cons_succ]
    refine wpAnyH_take (i := 18) (oi := ⟨some 49, _, _, _, _, _⟩) (v := ?_) rfl (by kernel_rfl) (by kernel_rfl) (by kernel_rfl) (fun _ _ _ h => h) (Or.inl ⟨by rfl, ?_⟩) (by assumption) ?_
    rotate_left
    · (intro w hSw; (try dsimp only at hSw); go_simp; try with_reducible rfl)
    try simp only [Act.put, List.setIfInBounds_toArray, List.set_cons_zero, List.set_cons_succ]
    refine wpAnyH_take (i := 19) (oi := ⟨some 50, _, _, _, _, _⟩) (v := ?_) rfl (by kernel_rfl) (by kernel_rfl) (by kernel_rfl) (fun _ _ _ h => h) (Or.inl ⟨by rfl, ?_⟩) (by assumption) ?_
    rotate_left
    · (intro w hSw; (try dsimp only at hSw); go_simp; try with_reducible rfl)
    try simp only [Act.put, List.setIfInBounds_toArray, List.set_cons_zero, List.set_cons_succ]
    refine wpAnyH_take (i := 20) (oi := ⟨some 51, _, _, _, _, _⟩) (v := ?_) rfl (by kernel_rfl) (by kernel_rfl) (by kernel_rfl) (fun _ _ _ h => h) (Or.inl ⟨by rfl, ?_⟩) (by assumption) ?_
    rotate_left
    · (intro w hSw; (try dsimp only at hSw); go_simp; try with_reducible rfl)
    try simp only [Act.put, List.setIfInBounds_toArray, List.set_cons_zero, List.set_cons_succ]
    refine wpAnyH_take (i := 21) (oi := ⟨some 52, _, _, _, _, _⟩) (v := ?_) rfl (by kernel_rfl) (by kernel_rfl) (by kernel_rfl) (fun _ _ _ h => h) (Or.inl ⟨by rfl, ?_⟩) (by assumption) ?_
    rotate_left
    · (intro w hSw; (try dsimp only at hSw); go_simp; try with_reducible rfl)
    try simp only [Act.put, List.setIfInBounds_toArray, List.set_cons_zero, List.set_cons_succ]
    refine wpAnyH_take (i := 22) (oi := ⟨some 53, _, _, _, _, _⟩) (v := ?_) rfl (by kernel_rfl) (by kernel_rfl) (by kernel_rfl) (fun _ _ _ h => h) (Or.inl ⟨by rfl, ?_⟩) (by assumption) ?_
    rotate_left
    · (intro w hSw; (try dsimp only at hSw); go_simp; try with_reducible rfl)
    try simp only [Act.put, List.setIfInBounds_toArray, List.set_cons_zero, List.set_cons_succ]
    refine wpAnyH_take (i := 24) (oi := ⟨some 55, _, _, _, _, _⟩) (v := ?_) rfl (by kernel_rfl) (by kernel_rfl) (by kernel_rfl) (fun _ _ _ h => h) (Or.inl ⟨by rfl, ?_⟩) (by assumption) ?_
    rotate_left
    · (intro w hSw; (try dsimp only at hSw); go_simp; try with_reducible rfl)
    try simp only [Act.put, List.setIfInBounds_toArray, List.set_cons_zero, List.set_cons_succ]
    refine wpAnyH_take (i := 25) (oi := ⟨some 56, _, _, _, _, _⟩) (v := ?_) rfl (by kernel_rfl) (by kernel_rfl) (by kernel_rfl) (fun _ _ _ h => h) (Or.inl ⟨by rfl, ?_⟩) (by assumption) ?_
    rotate_left
    · (intro w hSw; (try dsimp only at hSw); go_simp; try with_reducible rfl)
    try simp only [Act.put, List.setIfInBounds_toArray, List.set_cons_zero, List.set_cons_succ]
    refine next_one 23 (by kernel_rfl) rfl (by rfl) fun K' HK' => ?_
    go_simp
    have hlit : Own (w3.alloc (.cells #[.int .u8 (ub x)] 5)).drew w3.heap.size (.slice (some ⟨w3.heap.size, 0, none⟩) 1 1) 1 [x] := (Own.new w3 w3.heap.size 1 [x] rfl (Nat.le_refl _) (by decide)).ext (by (repeat (first | assumption | exact Ext.refl _ | apply Ext.drew | apply Ext.drewN | apply Ext.alloc | refine Ext.trans ?_ (by assumption))); first | done | fail)
    have hs4 : Ext w3 (w3.alloc (.cells #[.int .u8 (ub x)] 5)).drew := (by (repeat (first | assumption | exact Ext.refl _ | apply Ext.drew | apply Ext.drewN | apply Ext.alloc | refine Ext.trans ?_ (by assumption))); first | done | fail)
    generalize hw4 : (w3.alloc (.cells #[.int .u8 (ub x)] 5)).drew = w4 at *
    refine held_go HK' hs4 (fun hHeld => ?_)
    clear HK'
    try simp only [Act.put, List.setIfInBounds_toArray, List.set_cons_zero, List.set_cons_succ]
    refine next_one 26 (by kernel_rfl) rfl (by rfl) fun K' HK' => ?_
    refine wp_append_bs (.tmp 54) (.tmp 56) rfl w3.heap.size _ 1 [x] rfl hlit A n c l rfl ((HA.out.ext X3.out).ext hs4) (by omega) (n + 1) (by omega) (x :: l) rfl w3 hs4 (Nat.le_refl _) hs4.size ?_
    intro A5 c5 w5 ho5 hx5 hap5
    refine held_go HK' hx5 (fun hHeld => ?_)
    clear HK'
    refine held_more (S' := fun w' => Ext w5 w') (fun _ h => Ext.trans hx5 h) _ _ _ _ ?_
    clear hHeld
    have hHeld : Ext w5 w5 := Ext.refl _
    have hc2 := fun (w' : World) (hx : Ext w5 w') => (ho5.bs.ext hx).str (Ext.refl _)
    try simp only [Act.put, List.setIfInBounds_toArray, List.set_cons_zero, List.set_cons_succ]
    refine wpAnyH_take (i := 27) (oi := ⟨some 58, _, _, _, _, _⟩) (v := ?_) rfl (by kernel_rfl) (by kernel_rfl) (by kernel_rfl) (fun _ _ _ h => h) (Or.inl ⟨by rfl, ?_⟩) (by assumption) ?_
    rotate_left
    · (intro w hSw; (try dsimp only at hSw); go_simp; try with_reducible rfl)
    try simp only [Act.put, List.setIfInBounds_toArray, List.set_cons_zero, List.set_cons_succ]
    refine wpAnyH_take (i := 28) (oi := ⟨some 59, _, _, _, _, _⟩) (v := ?_) rfl (by kernel_rfl) (by kernel_rfl) (by kernel_rfl) (fun _ _ _ h => h) (Or.inl ⟨by rfl, ?_⟩) (by assumption) ?_
    rotate_left
    · (intro w hSw; (try dsimp only at hSw); go_simp; try with_reducible rfl)
    try simp only [Act.put, List.setIfInBounds_toArray, List.set_cons_zero, List.set_cons_succ]
    refine wpAnyH_take (i := 29) (oi := ⟨some 60, _, _, _, _, _⟩) (v := ?_) rfl (by kernel_rfl) (by kernel_rfl) (by kernel_rfl) (fun _ _ _ h => h) (Or.inl ⟨by rfl, ?_⟩) (by assumption) ?_
    rotate_left
    · (intro w hSw; (try dsimp only at hSw); go_simp; try with_reducible rfl)
    try simp only [Act.put, List.setIfInBounds_toArray, List.set_cons_zero, List.set_cons_succ]
    refine wpAnyH_take (i := 30) (oi := ⟨some 61, _, _, _, _, _⟩) (v := ?_) rfl (by kernel_rfl) (by kernel_rfl) (by kernel_rfl) (fun _ _ _ h => h) (Or.inl ⟨by rfl, ?_⟩) (by assumption) ?_
    rotate_left
    · (intro w hSw; (try dsimp only at hSw); go_simp; try with_reducible rfl)
    try simp only [Act.put, List.setIfInBounds_toArray, List.set_cons_zero, List.set_cons_succ]
    refine wpAnyH_take (i := 31) (oi := ⟨some 62, _, _, _, _, _⟩) (v := ?_) rfl (by kernel_rfl) (by kernel_rfl) (by kernel_rfl) (fun _ _ _ h => h) (Or.inl ⟨by rfl, ?_⟩) (by assumption) ?_
    rotate_left
    · (intro w hSw; (try dsimp only at hSw); go_simp; try with_reducible rfl)
    try simp only [Act.put, List.setIfInBounds_toArray, List.set_cons_zero, List.set_cons_succ]
    refine wpAnyH_done (by kernel_rfl) ?_ _
    have X5 := Kp.mk (X3.out.trans hx5)
    clear hc1 hc2 m0 m1 hlit hs4 hw4 ho5 hx5 hap5
    go_wp2_with fail
    refine (ReadBits_any (HB.out.ext X5.out) (by omega)).mono ?_
    rintro e w8 (⟨hno, rfl, x8⟩ | ⟨⟨hp0, hp1⟩, A8, c8, rfl, ho8, x8⟩)
    · have X8 := Kp.mk (X5.out.trans x8)
      have HN8 := Kp.mk hno
      clear x8 hno
      by_cases hm0 : m = 0
      · subst hm0
        go_wp2_with fail
        go_ret
        exact ⟨rfl, (X8.out.trans (by (repeat (first | assumption | exact Ext.refl _ | apply Ext.drew | apply Ext.drewN | apply Ext.alloc | refine Ext.trans ?_ (by assumption))); first | done | fail)).b⟩
      · have z1 : ((m : Int) == 0) = false := beq_eq_false_iff_ne.2 (by omega)
        have z2 : ¬ m = 0 := hm0
        have HV := Kp.mk (show bitsB (b.drop 1) (ub (gb b 0)) = false from by
          cases hq : bitsB (b.drop 1) (ub (gb b 0)) with
          | false => rfl
          | true => exact absurd ⟨by omega, hq⟩ HN8.out)
        clear HN8
        go_wp2_with fail
        obtain ⟨W9, hW9⟩ : ∃ W9, W9 = w8.alloc (.cells #[.slice none 0 0, .int .i64 0] bit) := ⟨_, rfl⟩
        have hx9 : Ext w8 W9 := by rw [hW9]; exact (by (repeat (first | assumption | exact Ext.refl _ | apply Ext.drew | apply Ext.drewN | apply Ext.alloc | refine Ext.trans ?_ (by assumption))); first | done | fail)
        have H9 := Kp.mk (show Blk W9 w8.heap.size bit #[.slice none 0 0, .int .i64 0] from hW9 ▸ Blk.new w8 bit _)
        rw [← hW9]
        have X9 := Kp.mk (X8.out.trans hx9)
        have X89 := Kp.mk hx9
        clear hW9 hx9
        obtain ⟨B', hB', hD⟩ := HB.out.cut 1 (by omega)
        have hcut := run_from (P := Try.prog) B m d 22 5 Try.underlying22 szB 1 1 rfl (by omega)
        rw [hB'] at hcut
        have HD := Kp.mk hD
        obtain ⟨g, o, hgo, _⟩ := HB.out.s.2.2.2 (by omega)
        subst hgo
        have k0 : ∀ w', Ext W9 w' → w'.cell? ⟨g, o, none⟩ = some (.int .u8 (ub (gb b 0))) := fun w' hx => by
          obtain ⟨g', o', e, hc'⟩ := (HB.out.ext (X9.out.trans hx)).s.2.2.2 (by omega)
          cases e
          have := hc' 0 (by omega)
          rwa [Nat.add_zero] at this
        have d1 : (0 : Int) < (m : Int) := by omega
        have d2 : 0 < m := by omega
        have w8w : IntKind.i64.wrap (ub (gb b 0)) = ub (gb b 0) := by have := (gb b 0).isLt; unfold ub; rw [IntKind.wrap_i64]; omega
        generalize ub (gb b 0) = z at *
        clear hD hB'
        refine wp_region_held_drew (S := fun w' => Ext W9 w') (by kernel_rfl) (Ext.refl W9).drew (fun hHeld => ?_)
        refine wpAnyH_take (i := 0) (oi := ⟨some 88, _, _, _, _, _⟩) (v := ?_) rfl (by kernel_rfl) (by kernel_rfl) (by kernel_rfl) (fun _ _ _ h => h) (Or.inl ⟨by rfl, ?_⟩) (by assumption) ?_
        rotate_left
        · (intro w hSw; (try dsimp only at hSw); go_simp; try with_reducible rfl)
        try simp only [Act.put, List.setIfInBounds_toArray, List.set_cons_zero, List.set_cons_succ]
        refine wpAnyH_take (i := 1) (oi := ⟨some 89, _, _, _, _, _⟩) (v := ?_) rfl (by kernel_rfl) (by kernel_rfl) (by kernel_rfl) (fun _ _ _ h => h) (Or.inl ⟨by rfl, ?_⟩) (by assumption) ?_
        rotate_left
        · (intro w hSw; (try dsimp only at hSw); go_simp; try with_reducible rfl)
        try simp only [Act.put, List.setIfInBounds_toArray, List.set_cons_zero, List.set_cons_succ]
        refine wpAnyH_take (i := 2) (oi := ⟨some 90, _, _, _, _, _⟩) (v := ?_) rfl (by kernel_rfl) (by kernel_rfl) (by kernel_rfl) (fun _ _ _ h => h) (Or.inl ⟨by rfl, ?_⟩) (by assumption) ?_
        rotate_left
        · (intro w hSw; (try dsimp only at hSw); go_simp; try with_reducible rfl)
        try simp only [Act.put, List.setIfInBounds_toArray, List.set_cons_zero, List.set_cons_succ]
        refine wpAnyH_take (i := 3) (oi := ⟨some 91, _, _, _, _, _⟩) (v := ?_) rfl (by kernel_rfl) (by kernel_rfl) (by kernel_rfl) (fun _ _ _ h => h) (Or.inl ⟨by rfl, ?_⟩) (by assumption) ?_
        rotate_left
        · (intro w hSw; (try dsimp only at hSw); go_simp; try with_reducible rfl)
        try simp only [Act.put, List.setIfInBounds_toArray, List.set_cons_zero, List.set_cons_succ]
        refine wpAnyH_take (i := 4) (oi := ⟨some 92, _, _, _, _, _⟩) (v := ?_) rfl (by kernel_rfl) (by kernel_rfl) (by kernel_rfl) (fun _ _ _ h => h) (Or.inl ⟨by rfl, ?_⟩) (by assumption) ?_
        rotate_left
        · (intro w hSw; (try dsimp only at hSw); go_simp; try with_reducible rfl)
        try simp only [Act.put, List.setIfInBounds_toArray, List.set_cons_zero, List.set_cons_succ]
        refine wpAnyH_take (i := 5) (oi := ⟨some 93, _, _, _, _, _⟩) (v := ?_) rfl (by kernel_rfl) (by kernel_rfl) (by kernel_rfl) (fun _ _ _ h => h) (Or.inl ⟨by rfl, ?_⟩) (by assumption) ?_
        rotate_left
        · (intro w hSw; (try dsimp only at hSw); go_simp; try with_reducible rfl)
        try simp only [Act.put, List.setIfInBounds_toArray, List.set_cons_zero, List.set_cons_succ]
        refine wpAnyH_take (i := 6) (oi := ⟨some 94, _, _, _, _, _⟩) (v := ?_) rfl (by kernel_rfl) (by kernel_rfl) (by kernel_rfl) (fun _ _ _ h => h) (Or.inl ⟨by rfl, ?_⟩) (by assumption) ?_
        rotate_left
        · (intro w hSw; (try dsimp only at hSw); go_simp; try with_reducible rfl)
        try simp only [Act.put, List.setIfInBounds_toArray, List.set_cons_zero, List.set_cons_succ]
        refine next_one 7 (by kernel_rfl) rfl (by rfl) fun K' HK' => ?_
        go_simp
        refine held_go HK' (by (repeat (first | assumption | exact Ext.refl _ | apply Ext.drew | apply Ext.drewN | apply Ext.alloc | refine Ext.trans ?_ (by assumption))); first | done | fail) (fun hHeld => ?_)
        clear HK'
        try simp only [Act.put, List.setIfInBounds_toArray, List.set_cons_zero, List.set_cons_succ]
        refine next_one 8 (by kernel_rfl) rfl (by rfl) fun K' HK' => ?_
        go_simp
        have hb1 : Blk (W9.alloc (.cells #[.slice B' (m - 1) (d - 1), .int .i64 z] bit)).drew W9.heap.size bit #[.slice B' (m - 1) (d - 1), .int .i64 z] := (Blk.new W9 bit _).ext (by (repeat (first | assumption | exact Ext.refl _ | apply Ext.drew | apply Ext.drewN | apply Ext.alloc | refine Ext.trans ?_ (by assumption))); first | done | fail)
        have hx1 : Ext W9 (W9.alloc (.cells #[.slice B' (m - 1) (d - 1), .int .i64 z] bit)).drew := (by (repeat (first | assumption | exact Ext.refl _ | apply Ext.drew | apply Ext.drewN | apply Ext.alloc | refine Ext.trans ?_ (by assumption))); first | done | fail)
        obtain ⟨q, hq⟩ : ∃ q, q = W9.heap.size := ⟨_, rfl⟩
        generalize hW1 : (W9.alloc (.cells #[.slice B' (m - 1) (d - 1), .int .i64 z] bit)).drew = w10 at *
        refine held_go HK' hx1 (fun hHeld => ?_)
        clear HK'
        try simp only [Act.put, List.setIfInBounds_toArray, List.set_cons_zero, List.set_cons_succ]
        refine wpAnyH_done (by kernel_rfl) ?_ _
        rw [← hq] at hb1 ⊢
        have H10 := Kp.mk hb1
        have X10 := Kp.mk (X9.out.trans hx1)
        have X910 := Kp.mk hx1
        have X810 := Kp.mk (X89.out.trans hx1)
        clear hcut k0 hx1 hW1 hq hb1
        obtain ⟨m0, m1⟩ := box2b H10.out (Ext.refl _)
        go_wp2_with fail
        refine (refBits_any (HD.out.ext X10.out) (by omega) z).mono ?_
        rintro e w11 ⟨rfl, x11⟩
        rw [HV.out]
        have X11 := Kp.mk (X10.out.trans x11)
        have X1011 := Kp.mk x11
        clear x11 m0 m1
        have p0 := fun (w' : World) (hx : Ext w11 w') => (box2b H10.out (X1011.out.trans hx)).1
        have p1 := fun (w' : World) (hx : Ext w11 w') => (box2b H10.out (X1011.out.trans hx)).2
        have r0 := fun (w' : World) (hx : Ext w11 w') => (box2b H9.out (X910.out.trans (X1011.out.trans hx))).1
        have r1 := fun (w' : World) (hx : Ext w11 w') => (box2b H9.out (X910.out.trans (X1011.out.trans hx))).2
        have p0' := p0 w11 (Ext.refl _)
        have p1' := p1 w11 (Ext.refl _)
        have r0' := r0 w11 (Ext.refl _)
        have r1' := r1 w11 (Ext.refl _)
        clear p0 p1 r0 r1
        go_wp2_with fail
        go_ret
        exact ⟨rfl, X11.out.b⟩
    · have X8 := Kp.mk (X5.out.trans x8)
      have HO8 := Kp.mk ho8
      have HV := Kp.mk hp1
      have z1 : ((m : Int) == 0) = false := beq_eq_false_iff_ne.2 (by omega)
      have z2 : ¬ m = 0 := by omega
      clear x8 ho8 hp1
      go_wp2_with fail
      obtain ⟨W9, hW9⟩ : ∃ W9, W9 = w8.alloc (.cells #[.slice A8 (m - 1) c8, .int .i64 (ub (gb b 0))] bit) := ⟨_, rfl⟩
      have hx9 : Ext w8 W9 := by rw [hW9]; exact (by (repeat (first | assumption | exact Ext.refl _ | apply Ext.drew | apply Ext.drewN | apply Ext.alloc | refine Ext.trans ?_ (by assumption))); first | done | fail)
      have H9 := Kp.mk (show Blk W9 w8.heap.size bit #[.slice A8 (m - 1) c8, .int .i64 (ub (gb b 0))] from hW9 ▸ Blk.new w8 bit _)
      rw [← hW9]
      have X9 := Kp.mk (X8.out.trans hx9)
      have X89 := Kp.mk hx9
      clear hW9 hx9
      obtain ⟨B', hB', hD⟩ := HB.out.cut 1 (by omega)
      have hcut := run_from (P := Try.prog) B m d 22 5 Try.underlying22 szB 1 1 rfl (by omega)
      rw [hB'] at hcut
      have HD := Kp.mk hD
      obtain ⟨g, o, hgo, _⟩ := HB.out.s.2.2.2 (by omega)
      subst hgo
      have k0 : ∀ w', Ext W9 w' → w'.cell? ⟨g, o, none⟩ = some (.int .u8 (ub (gb b 0))) := fun w' hx => by
        obtain ⟨g', o', e, hc'⟩ := (HB.out.ext (X9.out.trans hx)).s.2.2.2 (by omega)
        cases e
        have := hc' 0 (by omega)
        rwa [Nat.add_zero] at this
      have d1 : (0 : Int) < (m : Int) := by omega
      have d2 : 0 < m := by omega
      have w8w : IntKind.i64.wrap (ub (gb b 0)) = ub (gb b 0) := by have := (gb b 0).isLt; unfold ub; rw [IntKind.wrap_i64]; omega
      generalize ub (gb b 0) = z at *
      clear hD hB'
      refine wp_region_held_drew (S := fun w' => Ext W9 w') (by kernel_rfl) (Ext.refl W9).drew (fun hHeld => ?_)
      refine wpAnyH_take (i := 0) (oi := ⟨some 88, _, _, _, _, _⟩) (v := ?_) rfl (by kernel_rfl) (by kernel_rfl) (by kernel_rfl) (fun _ _ _ h => h) (Or.inl ⟨by rfl, ?_⟩) (by assumption) ?_
      rotate_left
      · (intro w hSw; (try dsimp only at hSw); go_simp; try with_reducible rfl)
      try simp only [Act.put, List.setIfInBounds_toArray, List.set_cons_zero, List.set_cons_succ]
      refine wpAnyH_take (i := 1) (oi := ⟨some 89, _, _, _, _, _⟩) (v := ?_) rfl (by kernel_rfl) (by kernel_rfl) (by kernel_rfl) (fun _ _ _ h => h) (Or.inl ⟨by rfl, ?_⟩) (by assumption) ?_
      rotate_left
      · (intro w hSw; (try dsimp only at hSw); go_simp; try with_reducible rfl)
      try simp only [Act.put, List.setIfInBounds_toArray, List.set_cons_zero, List.set_cons_succ]
      refine wpAnyH_take (i := 2) (oi := ⟨some 90, _, _, _, _, _⟩) (v := ?_) rfl (by kernel_rfl) (by kernel_rfl) (by kernel_rfl) (fun _ _ _ h => h) (Or.inl ⟨by rfl, ?_⟩) (by assumption) ?_
      rotate_left
      · (intro w hSw; (try dsimp only at hSw); go_simp; try with_reducible rfl)
      try simp only [Act.put, List.setIfInBounds_toArray, List.set_cons_zero, List.set_cons_succ]
      refine wpAnyH_take (i := 3) (oi := ⟨some 91, _, _, _, _, _⟩) (v := ?_) rfl (by kernel_rfl) (by kernel_rfl) (by kernel_rfl) (fun _ _ _ h => h) (Or.inl ⟨by rfl, ?_⟩) (by assumption) ?_
      rotate_left
      · (intro w hSw; (try dsimp only at hSw); go_simp; try with_reducible rfl)
      try simp only [Act.put, List.setIfInBounds_toArray, List.set_cons_zero, List.set_cons_succ]
      refine wpAnyH_take (i := 4) (oi := ⟨some 92, _, _, _, _, _⟩) (v := ?_) rfl (by kernel_rfl) (by kernel_rfl) (by kernel_rfl) (fun _ _ _ h => h) (Or.inl ⟨by rfl, ?_⟩) (by assumption) ?_
      rotate_left
      · (intro w hSw; (try dsimp only at hSw); go_simp; try with_reducible rfl)
      try simp only [Act.put, List.setIfInBounds_toArray, List.set_cons_zero, List.set_cons_succ]
      refine wpAnyH_take (i := 5) (oi := ⟨some 93, _, _, _, _, _⟩) (v := ?_) rfl (by kernel_rfl) (by kernel_rfl) (by kernel_rfl) (fun _ _ _ h => h) (Or.inl ⟨by rfl, ?_⟩) (by assumption) ?_
      rotate_left
      · (intro w hSw; (try dsimp only at hSw); go_simp; try with_reducible rfl)
      try simp only [Act.put, List.setIfInBounds_toArray, List.set_cons_zero, List.set_cons_succ]
      refine wpAnyH_take (i := 6) (oi := ⟨some 94, _, _, _, _, _⟩) (v := ?_) rfl (by kernel_rfl) (by kernel_rfl) (by kernel_rfl) (fun _ _ _ h => h) (Or.inl ⟨by rfl, ?_⟩) (by assumption) ?_
      rotate_left
      · (intro w hSw; (try dsimp only at hSw); go_simp; try with_reducible rfl)
      try simp only [Act.put, List.setIfInBounds_toArray, List.set_cons_zero, List.set_cons_succ]
      refine next_one 7 (by kernel_rfl) rfl (by rfl) fun K' HK' => ?_
      go_simp
      refine held_go HK' (by (repeat (first | assumption | exact Ext.refl _ | apply Ext.drew | apply Ext.drewN | apply Ext.alloc | refine Ext.trans ?_ (by assumption))); first | done | fail) (fun hHeld => ?_)
      clear HK'
      try simp only [Act.put, List.setIfInBounds_toArray, List.set_cons_zero, List.set_cons_succ]
      refine next_one 8 (by kernel_rfl) rfl (by rfl) fun K' HK' => ?_
      go_simp
      have hb1 : Blk (W9.alloc (.cells #[.slice B' (m - 1) (d - 1), .int .i64 z] bit)).drew W9.heap.size bit #[.slice B' (m - 1) (d - 1), .int .i64 z] := (Blk.new W9 bit _).ext (by (repeat (first | assumption | exact Ext.refl _ | apply Ext.drew | apply Ext.drewN | apply Ext.alloc | refine Ext.trans ?_ (by assumption))); first | done | fail)
      have hx1 : Ext W9 (W9.alloc (.cells #[.slice B' (m - 1) (d - 1), .int .i64 z] bit)).drew := (by (repeat (first | assumption | exact Ext.refl _ | apply Ext.drew | apply Ext.drewN | apply Ext.alloc | refine Ext.trans ?_ (by assumption))); first | done | fail)
      obtain ⟨q, hq⟩ : ∃ q, q = W9.heap.size := ⟨_, rfl⟩
      generalize hW1 : (W9.alloc (.cells #[.slice B' (m - 1) (d - 1), .int .i64 z] bit)).drew = w10 at *
      refine held_go HK' hx1 (fun hHeld => ?_)
      clear HK'
      try simp only [Act.put, List.setIfInBounds_toArray, List.set_cons_zero, List.set_cons_succ]
      refine wpAnyH_done (by kernel_rfl) ?_ _
      rw [← hq] at hb1 ⊢
      have H10 := Kp.mk hb1
      have X10 := Kp.mk (X9.out.trans hx1)
      have X910 := Kp.mk hx1
      have X810 := Kp.mk (X89.out.trans hx1)
      clear hcut k0 hx1 hW1 hq hb1
      obtain ⟨m0, m1⟩ := box2b H10.out (Ext.refl _)
      go_wp2_with fail
      refine (refBits_any (HD.out.ext X10.out) (by omega) z).mono ?_
      rintro e w11 ⟨rfl, x11⟩
      rw [HV.out]
      have X11 := Kp.mk (X10.out.trans x11)
      have X1011 := Kp.mk x11
      clear x11 m0 m1
      have p0 := fun (w' : World) (hx : Ext w11 w') => (box2b H10.out (X1011.out.trans hx)).1
      have p1 := fun (w' : World) (hx : Ext w11 w') => (box2b H10.out (X1011.out.trans hx)).2
      have r0 := fun (w' : World) (hx : Ext w11 w') => (box2b H9.out (X910.out.trans (X1011.out.trans hx))).1
      have r1 := fun (w' : World) (hx : Ext w11 w') => (box2b H9.out (X910.out.trans (X1011.out.trans hx))).2
      have p0' := p0 w11 (Ext.refl _)
      have p1' := p1 w11 (Ext.refl _)
      have r0' := r0 w11 (Ext.refl _)
      have r1' := r1 w11 (Ext.refl _)
      clear p0 p1 r0 r1
      have HS8 := Kp.mk (HO8.out.ext (X810.out.trans X1011.out)).bs
      have s1 := HS8.out.str (Ext.refl w11)
      have s2 := (HD.out.ext X11.out).str (Ext.refl w11)
      go_wp2_with fail
      go_ret
      exact ⟨rfl, X11.out.b⟩
end Go.Proofs.Ytfipgmjaabggjaa
