/-
  The reference's fit.
-/
import Derived.Test.YtpmoaccaknfodaaQa
namespace Go.Proofs.Ytpmoaccaknfodaa
open Go Go.RowKit

/-- what fit tells: how often at least -/
def Fitted (w : World) (va vb : Nat) (e : Ending) (w' : World) : Prop := ∃ d : Nat, e = .returned (.int .i64 (d : Int)) ∧ 1 ≤ d ∧ d * vb ≤ va ∧ d < 65536 ∧ Ext w w'
theorem fit_lt {d va vb : Nat} (h : d * vb ≤ va) (hlt : va < 65536 * vb) : d < 65536 := by
  have h2 : d * vb < 65536 * vb := Nat.lt_of_le_of_lt h hlt
  exact Nat.lt_of_mul_lt_mul_right h2
/-- three digits over two, and one more -/
theorem fit_math {a b : List Nat} {q : Nat} (ca : Dg 65536 a) (hlb : b.length = q + 2) (db : Dg 65536 b) (hlt : vl 65536 a < 65536 * vl 65536 b) :
    ((dg a (q + 2) * 65536 + dg a (q + 1)) * 65536 + dg a q) / (dg b (q + 1) * 65536 + dg b q + 1) * vl 65536 b ≤ vl 65536 a := by
  have hb := vl_lt (by decide) (db.take q)
  rw [List.length_take, Nat.min_eq_left (by omega)] at hb
  have t0 : ∀ x, 65536 ^ (q + 1) * x = 65536 ^ q * x * 65536 := fun x => by rw [Nat.pow_succ, Nat.mul_right_comm]
  have t1 : ∀ x, 65536 ^ (q + 1 + 1) * x = 65536 ^ q * x * 65536 * 65536 := fun x => by rw [Nat.pow_succ, Nat.mul_assoc, Nat.mul_comm 65536 x, ← Nat.mul_assoc, t0]
  have e2 : vl 65536 b = vl 65536 (b.take q) + 65536 ^ q * (dg b (q + 1) * 65536 + dg b q) := by
    rw [← vl_take_all 65536 b (q + 2) (by omega), show q + 2 = q + 1 + 1 by omega, vl_take_succ, vl_take_succ, t0, Nat.mul_add, ← Nat.mul_assoc]
    omega
  refine fit_le (B := 65536) (hi := dg b (q + 1) * 65536 + dg b q) (rh := (dg a (q + 2) * 65536 + dg a (q + 1)) * 65536 + dg a q) q ?_ ?_ rfl
  · rw [e2, Nat.add_mul, Nat.one_mul, Nat.mul_comm (65536 ^ q)]
    omega
  · have e3 : vl 65536 (a.take (q + 3)) = vl 65536 (a.take q) + 65536 ^ q * ((dg a (q + 2) * 65536 + dg a (q + 1)) * 65536 + dg a q) := by
      rw [show q + 3 = q + 1 + 1 + 1 by omega, vl_take_succ, vl_take_succ, vl_take_succ, t1, t0, Nat.mul_add, ← Nat.mul_assoc, Nat.mul_add, ← Nat.mul_assoc, show q + 1 + 1 = q + 2 by omega]
      omega
    have e4 := congrArg (vl 65536) (List.take_append_drop (q + 3) a)
    rw [vl_append] at e4
    rw [Nat.mul_comm]
    omega
set_option maxHeartbeats 4000000 in
theorem fit_any {A B : Option Addr} {n c m d va vb : Nat} {w : World} (ha : Ni w A n c va) (hb : Ni w B m d vb) (h0 : vb ≠ 0) (hge : vb ≤ va) (hlt : va < 65536 * vb) :
    Calls Try.prog 46 #[.slice A n c, .slice B m d] w (Fitted w va vb) := by
  have hla := ha.r.len
  have hlb := hb.r.len
  have hnb := ha.n
  have hmb := hb.n
  have HA := Kp.mk ha.r
  have HB := Kp.mk hb.r
  have ca := cn_dgs (B := 65536) (by decide) va
  have cb := cn_dgs (B := 65536) (by decide) vb
  have hva := vl_dgs (B := 65536) (by decide) va
  have hvb := vl_dgs (B := 65536) (by decide) vb
  have HLT := Kp.mk hlt
  have HGE := Kp.mk hge
  have hm0 : 0 < m := by
    rcases Nat.eq_zero_or_pos m with h | h
    · rw [h] at hlb
      exact absurd ((dgs_nil (by decide) vb).1 (List.eq_nil_of_length_eq_zero hlb)) h0
    · exact h
  clear ha hb
  by_cases h1 : m = 1
  · subst h1
    have e1 : vb = dg (dgs 65536 vb) 0 := by
      have := vl_take_all 65536 (dgs 65536 vb) 1 (by omega)
      rw [show (1 : Nat) = 0 + 1 from rfl, vl_take_succ, hvb] at this
      simpa [vl] using this.symm
    have hb1 : dg (dgs 65536 vb) 0 < 65536 := cb.d.at (by decide) 0
    have hla2 : (dgs 65536 va).length ≤ 2 := (len_iff (by decide) va 2).2 (by
      have : va < 65536 * 65536 := by rw [e1] at hlt; omega
      exact this)
    have e2 : va = dg (dgs 65536 va) 0 + 65536 * dg (dgs 65536 va) 1 := by
      have := vl_take_all 65536 (dgs 65536 va) 2 (by omega)
      rw [show (2 : Nat) = 0 + 1 + 1 from rfl, vl_take_succ, vl_take_succ, hva] at this
      simpa [vl] using this.symm
    have a0 := ca.d.at (by decide) 0
    have a1 := ca.d.at (by decide) 1
    obtain ⟨g, o, rfl⟩ := HB.out.some_ (by omega)
    have D1 := Kp.mk (fun u (h : Ext w u) => digit_any (HA.out.ext h) 1 1 rfl)
    have D0 := Kp.mk (fun u (h : Ext w u) => digit_any (HA.out.ext h) 0 0 rfl)
    have kb := fun u (h : Ext w u) => (HB.out.ext h).dig 0 (by omega)
    unfold vI at kb
    rw [← e1] at kb
    simp only [Nat.add_zero] at kb
    have hF : Fitted w va vb (.returned (.int .i64 ((va / vb : Nat) : Int))) w ∧ 1 ≤ va / vb := by
      have h3 : 1 ≤ va / vb := (Nat.le_div_iff_mul_le (Nat.pos_of_ne_zero h0)).2 (by rw [Nat.one_mul]; exact hge)
      have h4 := Nat.div_mul_le_self va vb
      exact ⟨⟨_, rfl, h3, h4, fit_lt h4 hlt, Ext.refl _⟩, h3⟩
    have HF := Kp.mk hF
    generalize dg (dgs 65536 va) 0 = x0 at *
    generalize dg (dgs 65536 va) 1 = x1 at *
    have hvb2 : vb < 65536 := by omega
    have w1 : IntKind.i64.wrap ((x1 : Int) * 65536) = (x1 : Int) * 65536 := by rw [IntKind.wrap_i64]; omega
    have w2 : IntKind.i64.wrap ((x1 : Int) * 65536 + (x0 : Int)) = (va : Int) := by rw [IntKind.wrap_i64]; omega
    have hq : ¬ (vb : Int) = 0 := by omega
    have t1 : (va : Int).tdiv (vb : Int) = ((va / vb : Nat) : Int) := rfl
    have hle := Nat.div_le_self va vb
    have hvab : va < 4294967296 := by omega
    obtain ⟨D, hD⟩ : ∃ D, va / vb = D := ⟨_, rfl⟩
    rw [hD] at HF t1 hle
    have w3 : IntKind.i64.wrap (D : Int) = (D : Int) := by rw [IntKind.wrap_i64]; omega
    have hD1 : ¬ (D : Int) = 0 := by have := HF.out.2; omega
    clear e1 e2 hla hlb hva hvb ca cb hla2 a0 a1 hb1 hlt hge hD hF
    go_enter Try.func46, Try.ntmps46
    go_wp2_with fail
    refine wp_region_held_drew (S := fun w' => Ext w w') (by kernel_rfl) (Ext.refl w).drew (fun hHeld => ?_)
    refine wpAnyH_take (i := 0) (oi := ⟨some 11, _, _, _, _, _⟩) (v := ?_) rfl (by kernel_rfl) (by kernel_rfl) (by kernel_rfl) (fun _ _ _ h => h) (Or.inl ⟨by rfl, ?_⟩) (by assumption) ?_
    rotate_left
    · (intro w hSw; (try dsimp only at hSw); go_simp; try with_reducible rfl)
    try simp only [Act.put, List.setIfInBounds_toArray, List.set_cons_zero, List.set_cons_succ]
    refine wpAnyH_take (i := 3) (oi := ⟨some 14, _, _, _, _, _⟩) (v := ?_) rfl (by kernel_rfl) (by kernel_rfl) (by kernel_rfl) (fun _ _ _ h => h) (Or.inl ⟨by rfl, ?_⟩) (by assumption) ?_
    rotate_left
    · (intro w hSw; (try dsimp only at hSw); go_simp; try with_reducible rfl)
    try simp only [Act.put, List.setIfInBounds_toArray, List.set_cons_zero, List.set_cons_succ]
    refine wpAnyH_take (i := 6) (oi := ⟨some 17, _, _, _, _, _⟩) (v := ?_) rfl (by kernel_rfl) (by kernel_rfl) (by kernel_rfl) (fun _ _ _ h => h) (Or.inl ⟨by rfl, ?_⟩) (by assumption) ?_
    rotate_left
    · (intro w hSw; (try dsimp only at hSw); go_simp; try with_reducible rfl)
    try simp only [Act.put, List.setIfInBounds_toArray, List.set_cons_zero, List.set_cons_succ]
    refine wpAnyH_take (i := 7) (oi := ⟨some 18, _, _, _, _, _⟩) (v := ?_) rfl (by kernel_rfl) (by kernel_rfl) (by kernel_rfl) (fun _ _ _ h => h) (Or.inl ⟨by rfl, ?_⟩) (by assumption) ?_
    rotate_left
    · (intro w hSw; (try dsimp only at hSw); go_simp; try with_reducible rfl)
    try simp only [Act.put, List.setIfInBounds_toArray, List.set_cons_zero, List.set_cons_succ]
    refine wpAnyH_take (i := 8) (oi := ⟨some 19, _, _, _, _, _⟩) (v := ?_) rfl (by kernel_rfl) (by kernel_rfl) (by kernel_rfl) (fun _ _ _ h => h) (Or.inl ⟨by rfl, ?_⟩) (by assumption) ?_
    rotate_left
    · (intro w hSw; (try dsimp only at hSw); go_simp; try with_reducible rfl)
    try simp only [Act.put, List.setIfInBounds_toArray, List.set_cons_zero, List.set_cons_succ]
    refine next_one 1 (by kernel_rfl) rfl (by rfl) fun K' HK' => ?_
    go_simp
    refine (D1.out _ (by (repeat (first | assumption | exact Ext.refl _ | apply Ext.drew | apply Ext.drewN | apply Ext.alloc | refine Ext.trans ?_ (by assumption))); first | done | fail)).mono ?_
    rintro e u1 ⟨rfl, hw1⟩
    have hx1 : Ext w.drew u1 := by rw [hw1]; exact Ext.refl _
    clear hw1
    have hS2 := Ext.trans hHeld hx1
    refine held_go HK' hS2 (fun _ => ?_)
    clear HK'
    refine held_more (S' := fun w' => Ext u1 w') (fun _ h => Ext.trans hS2 h) _ _ _ _ ?_
    clear hHeld hS2
    have hHeld : Ext u1 u1 := Ext.refl _
    try simp only [Act.put, List.setIfInBounds_toArray, List.set_cons_zero, List.set_cons_succ]
    refine wpAnyH_take (i := 2) (oi := ⟨some 13, _, _, _, _, _⟩) (v := ?_) rfl (by kernel_rfl) (by kernel_rfl) (by kernel_rfl) (fun _ _ _ h => h) (Or.inl ⟨by rfl, ?_⟩) (by assumption) ?_
    rotate_left
    · (intro w hSw; (try dsimp only at hSw); go_simp; try with_reducible rfl)
    try simp only [Act.put, List.setIfInBounds_toArray, List.set_cons_zero, List.set_cons_succ]
    refine next_one 4 (by kernel_rfl) rfl (by rfl) fun K' HK' => ?_
    go_simp
    refine (D0.out _ (((Ext.refl w).drew).trans hx1)).mono ?_
    rintro e u2 ⟨rfl, hw2⟩
    have hx2 : Ext u1 u2 := by rw [hw2]; exact Ext.refl _
    clear hw2
    have hS2 := Ext.trans hHeld hx2
    refine held_go HK' hS2 (fun _ => ?_)
    clear HK'
    refine held_more (S' := fun w' => Ext u2 w') (fun _ h => Ext.trans hS2 h) _ _ _ _ ?_
    clear hHeld hS2
    have hHeld : Ext u2 u2 := Ext.refl _
    try simp only [Act.put, List.setIfInBounds_toArray, List.set_cons_zero, List.set_cons_succ]
    refine wpAnyH_take (i := 5) (oi := ⟨some 16, _, _, _, _, _⟩) (v := ?_) rfl (by kernel_rfl) (by kernel_rfl) (by kernel_rfl) (fun _ _ _ h => h) (Or.inl ⟨by rfl, ?_⟩) (by assumption) ?_
    rotate_left
    · (intro w hSw; (try dsimp only at hSw); go_simp; try with_reducible rfl)
    try simp only [Act.put, List.setIfInBounds_toArray, List.set_cons_zero, List.set_cons_succ]
    refine wpAnyH_take (i := 9) (oi := ⟨some 20, _, _, _, _, _⟩) (v := ?_) rfl (by kernel_rfl) (by kernel_rfl) (by kernel_rfl) (fun _ _ _ h => h) (Or.inl ⟨by rfl, ?_⟩) (by assumption) ?_
    rotate_left
    · (intro w hSw; (try dsimp only at hSw); go_simp; try with_reducible rfl)
    try simp only [Act.put, List.setIfInBounds_toArray, List.set_cons_zero, List.set_cons_succ]
    refine wpAnyH_take (i := 10) (oi := ⟨some 6, _, _, _, _, _⟩) (v := ?_) rfl (by kernel_rfl) (by kernel_rfl) (by kernel_rfl) (fun _ _ _ h => h) (Or.inl ⟨by rfl, ?_⟩) (by assumption) ?_
    rotate_left
    · (intro w hSw; (try dsimp only at hSw); go_simp; try with_reducible rfl)
    try simp only [Act.put, List.setIfInBounds_toArray, List.set_cons_zero, List.set_cons_succ]
    refine wpAnyH_done (by kernel_rfl) ?_ _
    have HX := Kp.mk (((Ext.refl w).drew.trans hx1).trans hx2)
    clear hHeld hx1 hx2
    go_wp2_with fail
    go_ret
    obtain ⟨⟨d', e, p1, p2, p3, _⟩, _⟩ := HF.out
    exact ⟨d', e, p1, p2, p3, HX.out⟩
  · obtain ⟨q, rfl⟩ : ∃ q, m = q + 2 := ⟨m - 2, by omega⟩
    have hfm := fit_math (q := q) ca.d hlb cb.d (by rw [hva, hvb]; exact hlt)
    rw [hva, hvb] at hfm
    have a2 := ca.d.at (by decide) (q + 2)
    have a1 := ca.d.at (by decide) (q + 1)
    have a0 := ca.d.at (by decide) q
    have b1 := cb.d.at (by decide) (q + 1)
    have b0 := cb.d.at (by decide) q
    obtain ⟨g, o, rfl⟩ := HB.out.some_ (by omega)
    have D2 := Kp.mk (fun u (h : Ext w u) z hz => digit_any (HA.out.ext h) (q + 2) z hz)
    have D1 := Kp.mk (fun u (h : Ext w u) z hz => digit_any (HA.out.ext h) (q + 1) z hz)
    have D0 := Kp.mk (fun u (h : Ext w u) z hz => digit_any (HA.out.ext h) q z hz)
    have kb1 := fun u (h : Ext w u) => (HB.out.ext h).dig (q + 1) (by omega)
    have kb0 := fun u (h : Ext w u) => (HB.out.ext h).dig q (by omega)
    unfold vI at kb1 kb0
    generalize dg (dgs 65536 va) (q + 2) = x2 at *
    generalize dg (dgs 65536 va) (q + 1) = x1 at *
    generalize dg (dgs 65536 va) q = x0 at *
    generalize dg (dgs 65536 vb) (q + 1) = y1 at *
    generalize dg (dgs 65536 vb) q = y0 at *
    have w1 : IntKind.i64.wrap ((x2 : Int) * 65536) = (x2 : Int) * 65536 := by rw [IntKind.wrap_i64]; omega
    have w2 : IntKind.i64.wrap ((x2 : Int) * 65536 + (x1 : Int)) = (x2 : Int) * 65536 + (x1 : Int) := by rw [IntKind.wrap_i64]; omega
    have w3 : IntKind.i64.wrap (((x2 : Int) * 65536 + (x1 : Int)) * 65536) = ((x2 : Int) * 65536 + (x1 : Int)) * 65536 := by rw [IntKind.wrap_i64]; omega
    have w5 : IntKind.i64.wrap ((y1 : Int) * 65536) = (y1 : Int) * 65536 := by rw [IntKind.wrap_i64]; omega
    have w6 : IntKind.i64.wrap ((y1 : Int) * 65536 + (y0 : Int)) = (y1 : Int) * 65536 + (y0 : Int) := by rw [IntKind.wrap_i64]; omega
    obtain ⟨R, hR⟩ : ∃ R, (x2 * 65536 + x1) * 65536 + x0 = R := ⟨_, rfl⟩
    obtain ⟨H, hH⟩ : ∃ H, y1 * 65536 + y0 + 1 = H := ⟨_, rfl⟩
    have w4 : IntKind.i64.wrap (((x2 : Int) * 65536 + (x1 : Int)) * 65536 + (x0 : Int)) = (R : Int) := by rw [IntKind.wrap_i64]; omega
    have w7 : IntKind.i64.wrap ((y1 : Int) * 65536 + (y0 : Int) + 1) = (H : Int) := by rw [IntKind.wrap_i64]; omega
    rw [hR, hH] at hfm
    have hH0 : ¬ H = 0 := by omega
    have hRb : R < 300000000000000 := by omega
    have hle := Nat.div_le_self R H
    have t1 : (R : Int).tdiv (H : Int) = ((R / H : Nat) : Int) := rfl
    have t2 : (R : Int) / (H : Int) = ((R / H : Nat) : Int) := rfl
    obtain ⟨D, hD⟩ : ∃ D, R / H = D := ⟨_, rfl⟩
    rw [hD] at hfm t1 t2 hle
    have w8 : IntKind.i64.wrap (D : Int) = (D : Int) := by rw [IntKind.wrap_i64]; omega
    have s1 : (q : Int) + 2 - 1 = (q : Int) + 1 := by omega
    have c1 : (q : Int) + 1 < (q : Int) + 2 := by omega
    have c0 : (0 : Int) ≤ (q : Int) + 1 := by omega
    have c0q : (0 : Int) ≤ (q : Int) := by omega
    have c2 : (q : Int) < (q : Int) + 2 := by omega
    have v1 : IntKind.i64.wrap ((q : Int) + 1) = (q : Int) + 1 := by rw [IntKind.wrap_i64]; omega
    have v2 : IntKind.i64.wrap (q : Int) = (q : Int) := by rw [IntKind.wrap_i64]; omega
    have n1 : ¬ ((q + 2 : Nat) : Int) = 1 := by omega
    have HF := Kp.mk (show (D ≠ 0 → Fitted w va vb (.returned (.int .i64 (D : Int))) w) ∧ Fitted w va vb (.returned (.int .i64 1)) w from
      ⟨fun h => ⟨D, rfl, Nat.pos_of_ne_zero h, hfm, fit_lt hfm hlt, Ext.refl _⟩, 1, rfl, by omega, by rw [Nat.one_mul]; exact hge, by omega, Ext.refl _⟩)
    clear hla hlb hva hvb ca cb hlt hge hD hR hH hfm hle a2 a1 a0 b1 b0 hRb h0
    go_enter Try.func46, Try.ntmps46
    go_wp2_with fail
    refine wp_region_held_drew (S := fun w' => Ext w w') (by kernel_rfl) (Ext.refl w).drew (fun hHeld => ?_)
    refine wpAnyH_take (i := 0) (oi := ⟨some 21, _, _, _, _, _⟩) (v := ?_) rfl (by kernel_rfl) (by kernel_rfl) (by kernel_rfl) (fun _ _ _ h => h) (Or.inl ⟨by rfl, ?_⟩) (by assumption) ?_
    rotate_left
    · (intro w hSw; (try dsimp only at hSw); go_simp; try with_reducible rfl)
    try simp only [Act.put, List.setIfInBounds_toArray, List.set_cons_zero, List.set_cons_succ]
    refine wpAnyH_take (i := 1) (oi := ⟨some 22, _, _, _, _, _⟩) (v := ?_) rfl (by kernel_rfl) (by kernel_rfl) (by kernel_rfl) (fun _ _ _ h => h) (Or.inl ⟨by rfl, ?_⟩) (by assumption) ?_
    rotate_left
    · (intro w hSw; (try dsimp only at hSw); go_simp; try with_reducible rfl)
    try simp only [Act.put, List.setIfInBounds_toArray, List.set_cons_zero, List.set_cons_succ]
    refine wpAnyH_take (i := 4) (oi := ⟨some 25, _, _, _, _, _⟩) (v := ?_) rfl (by kernel_rfl) (by kernel_rfl) (by kernel_rfl) (fun _ _ _ h => h) (Or.inl ⟨by rfl, ?_⟩) (by assumption) ?_
    rotate_left
    · (intro w hSw; (try dsimp only at hSw); go_simp; try with_reducible rfl)
    try simp only [Act.put, List.setIfInBounds_toArray, List.set_cons_zero, List.set_cons_succ]
    refine wpAnyH_take (i := 5) (oi := ⟨some 26, _, _, _, _, _⟩) (v := ?_) rfl (by kernel_rfl) (by kernel_rfl) (by kernel_rfl) (fun _ _ _ h => h) (Or.inl ⟨by rfl, ?_⟩) (by assumption) ?_
    rotate_left
    · (intro w hSw; (try dsimp only at hSw); go_simp; try with_reducible rfl)
    try simp only [Act.put, List.setIfInBounds_toArray, List.set_cons_zero, List.set_cons_succ]
    refine wpAnyH_take (i := 6) (oi := ⟨some 27, _, _, _, _, _⟩) (v := ?_) rfl (by kernel_rfl) (by kernel_rfl) (by kernel_rfl) (fun _ _ _ h => h) (Or.inl ⟨by rfl, ?_⟩) (by assumption) ?_
    rotate_left
    · (intro w hSw; (try dsimp only at hSw); go_simp; try with_reducible rfl)
    try simp only [Act.put, List.setIfInBounds_toArray, List.set_cons_zero, List.set_cons_succ]
    refine wpAnyH_take (i := 10) (oi := ⟨some 31, _, _, _, _, _⟩) (v := ?_) rfl (by kernel_rfl) (by kernel_rfl) (by kernel_rfl) (fun _ _ _ h => h) (Or.inl ⟨by rfl, ?_⟩) (by assumption) ?_
    rotate_left
    · (intro w hSw; (try dsimp only at hSw); go_simp; try with_reducible rfl)
    try simp only [Act.put, List.setIfInBounds_toArray, List.set_cons_zero, List.set_cons_succ]
    refine wpAnyH_take (i := 11) (oi := ⟨some 32, _, _, _, _, _⟩) (v := ?_) rfl (by kernel_rfl) (by kernel_rfl) (by kernel_rfl) (fun _ _ _ h => h) (Or.inl ⟨by rfl, ?_⟩) (by assumption) ?_
    rotate_left
    · (intro w hSw; (try dsimp only at hSw); go_simp; try with_reducible rfl)
    try simp only [Act.put, List.setIfInBounds_toArray, List.set_cons_zero, List.set_cons_succ]
    refine wpAnyH_take (i := 12) (oi := ⟨some 33, _, _, _, _, _⟩) (v := ?_) rfl (by kernel_rfl) (by kernel_rfl) (by kernel_rfl) (fun _ _ _ h => h) (Or.inl ⟨by rfl, ?_⟩) (by assumption) ?_
    rotate_left
    · (intro w hSw; (try dsimp only at hSw); go_simp; try with_reducible rfl)
    try simp only [Act.put, List.setIfInBounds_toArray, List.set_cons_zero, List.set_cons_succ]
    refine wpAnyH_take (i := 15) (oi := ⟨some 36, _, _, _, _, _⟩) (v := ?_) rfl (by kernel_rfl) (by kernel_rfl) (by kernel_rfl) (fun _ _ _ h => h) (Or.inl ⟨by rfl, ?_⟩) (by assumption) ?_
    rotate_left
    · (intro w hSw; (try dsimp only at hSw); go_simp; try with_reducible rfl)
    try simp only [Act.put, List.setIfInBounds_toArray, List.set_cons_zero, List.set_cons_succ]
    refine wpAnyH_take (i := 16) (oi := ⟨some 37, _, _, _, _, _⟩) (v := ?_) rfl (by kernel_rfl) (by kernel_rfl) (by kernel_rfl) (fun _ _ _ h => h) (Or.inl ⟨by rfl, ?_⟩) (by assumption) ?_
    rotate_left
    · (intro w hSw; (try dsimp only at hSw); go_simp; try with_reducible rfl)
    try simp only [Act.put, List.setIfInBounds_toArray, List.set_cons_zero, List.set_cons_succ]
    refine wpAnyH_take (i := 17) (oi := ⟨some 38, _, _, _, _, _⟩) (v := ?_) rfl (by kernel_rfl) (by kernel_rfl) (by kernel_rfl) (fun _ _ _ h => h) (Or.inl ⟨by rfl, ?_⟩) (by assumption) ?_
    rotate_left
    · (intro w hSw; (try dsimp only at hSw); go_simp; try with_reducible rfl)
    try simp only [Act.put, List.setIfInBounds_toArray, List.set_cons_zero, List.set_cons_succ]
    refine wpAnyH_take (i := 18) (oi := ⟨some 39, _, _, _, _, _⟩) (v := ?_) rfl (by kernel_rfl) (by kernel_rfl) (by kernel_rfl) (fun _ _ _ h => h) (Or.inl ⟨by rfl, ?_⟩) (by assumption) ?_
    rotate_left
    · (intro w hSw; (try dsimp only at hSw); go_simp; try with_reducible rfl)
    try simp only [Act.put, List.setIfInBounds_toArray, List.set_cons_zero, List.set_cons_succ]
    refine wpAnyH_take (i := 19) (oi := ⟨some 40, _, _, _, _, _⟩) (v := ?_) rfl (by kernel_rfl) (by kernel_rfl) (by kernel_rfl) (fun _ _ _ h => h) (Or.inl ⟨by rfl, ?_⟩) (by assumption) ?_
    rotate_left
    · (intro w hSw; (try dsimp only at hSw); go_simp; try with_reducible rfl)
    try simp only [Act.put, List.setIfInBounds_toArray, List.set_cons_zero, List.set_cons_succ]
    refine wpAnyH_take (i := 20) (oi := ⟨some 41, _, _, _, _, _⟩) (v := ?_) rfl (by kernel_rfl) (by kernel_rfl) (by kernel_rfl) (fun _ _ _ h => h) (Or.inl ⟨by rfl, ?_⟩) (by assumption) ?_
    rotate_left
    · (intro w hSw; (try dsimp only at hSw); go_simp; try with_reducible rfl)
    try simp only [Act.put, List.setIfInBounds_toArray, List.set_cons_zero, List.set_cons_succ]
    refine wpAnyH_take (i := 21) (oi := ⟨some 42, _, _, _, _, _⟩) (v := ?_) rfl (by kernel_rfl) (by kernel_rfl) (by kernel_rfl) (fun _ _ _ h => h) (Or.inl ⟨by rfl, ?_⟩) (by assumption) ?_
    rotate_left
    · (intro w hSw; (try dsimp only at hSw); go_simp; try with_reducible rfl)
    try simp only [Act.put, List.setIfInBounds_toArray, List.set_cons_zero, List.set_cons_succ]
    refine wpAnyH_take (i := 22) (oi := ⟨some 43, _, _, _, _, _⟩) (v := ?_) rfl (by kernel_rfl) (by kernel_rfl) (by kernel_rfl) (fun _ _ _ h => h) (Or.inl ⟨by rfl, ?_⟩) (by assumption) ?_
    rotate_left
    · (intro w hSw; (try dsimp only at hSw); go_simp; try with_reducible rfl)
    try simp only [Act.put, List.setIfInBounds_toArray, List.set_cons_zero, List.set_cons_succ]
    refine wpAnyH_take (i := 23) (oi := ⟨some 44, _, _, _, _, _⟩) (v := ?_) rfl (by kernel_rfl) (by kernel_rfl) (by kernel_rfl) (fun _ _ _ h => h) (Or.inl ⟨by rfl, ?_⟩) (by assumption) ?_
    rotate_left
    · (intro w hSw; (try dsimp only at hSw); go_simp; try with_reducible rfl)
    try simp only [Act.put, List.setIfInBounds_toArray, List.set_cons_zero, List.set_cons_succ]
    refine wpAnyH_take (i := 24) (oi := ⟨some 45, _, _, _, _, _⟩) (v := ?_) rfl (by kernel_rfl) (by kernel_rfl) (by kernel_rfl) (fun _ _ _ h => h) (Or.inl ⟨by rfl, ?_⟩) (by assumption) ?_
    rotate_left
    · (intro w hSw; (try dsimp only at hSw); go_simp; try with_reducible rfl)
    try simp only [Act.put, List.setIfInBounds_toArray, List.set_cons_zero, List.set_cons_succ]
    refine wpAnyH_take (i := 25) (oi := ⟨some 46, _, _, _, _, _⟩) (v := ?_) rfl (by kernel_rfl) (by kernel_rfl) (by kernel_rfl) (fun _ _ _ h => h) (Or.inl ⟨by rfl, ?_⟩) (by assumption) ?_
    rotate_left
    · (intro w hSw; (try dsimp only at hSw); go_simp; try with_reducible rfl)
    try simp only [Act.put, List.setIfInBounds_toArray, List.set_cons_zero, List.set_cons_succ]
    refine wpAnyH_take (i := 26) (oi := ⟨some 47, _, _, _, _, _⟩) (v := ?_) rfl (by kernel_rfl) (by kernel_rfl) (by kernel_rfl) (fun _ _ _ h => h) (Or.inl ⟨by rfl, ?_⟩) (by assumption) ?_
    rotate_left
    · (intro w hSw; (try dsimp only at hSw); go_simp; try with_reducible rfl)
    try simp only [Act.put, List.setIfInBounds_toArray, List.set_cons_zero, List.set_cons_succ]
    refine wpAnyH_take (i := 27) (oi := ⟨some 48, _, _, _, _, _⟩) (v := ?_) rfl (by kernel_rfl) (by kernel_rfl) (by kernel_rfl) (fun _ _ _ h => h) (Or.inl ⟨by rfl, ?_⟩) (by assumption) ?_
    rotate_left
    · (intro w hSw; (try dsimp only at hSw); go_simp; try with_reducible rfl)
    try simp only [Act.put, List.setIfInBounds_toArray, List.set_cons_zero, List.set_cons_succ]
    refine next_one 2 (by kernel_rfl) rfl (by rfl) fun K' HK' => ?_
    go_simp
    refine (D2.out _ (by (repeat (first | assumption | exact Ext.refl _ | apply Ext.drew | apply Ext.drewN | apply Ext.alloc | refine Ext.trans ?_ (by assumption))); first | done | fail) _ (by first | rfl | omega | (simp; done))).mono ?_
    rintro e u1 ⟨rfl, hw1⟩
    have hx1 : Ext w.drew u1 := by rw [hw1]; exact Ext.refl _
    clear hw1
    have hS2 := Ext.trans hHeld hx1
    refine held_go HK' hS2 (fun _ => ?_)
    clear HK'
    refine held_more (S' := fun w' => Ext u1 w') (fun _ h => Ext.trans hS2 h) _ _ _ _ ?_
    clear hHeld hS2
    have hHeld : Ext u1 u1 := Ext.refl _
    try simp only [Act.put, List.setIfInBounds_toArray, List.set_cons_zero, List.set_cons_succ]
    refine wpAnyH_take (i := 3) (oi := ⟨some 24, _, _, _, _, _⟩) (v := ?_) rfl (by kernel_rfl) (by kernel_rfl) (by kernel_rfl) (fun _ _ _ h => h) (Or.inl ⟨by rfl, ?_⟩) (by assumption) ?_
    rotate_left
    · (intro w hSw; (try dsimp only at hSw); go_simp; try with_reducible rfl)
    try simp only [Act.put, List.setIfInBounds_toArray, List.set_cons_zero, List.set_cons_succ]
    refine next_one 7 (by kernel_rfl) rfl (by rfl) fun K' HK' => ?_
    go_simp
    refine (D1.out _ (((Ext.refl w).drew).trans hx1) _ (by first | rfl | omega | (simp; done))).mono ?_
    rintro e u2 ⟨rfl, hw2⟩
    have hx2 : Ext u1 u2 := by rw [hw2]; exact Ext.refl _
    clear hw2
    have hS2 := Ext.trans hHeld hx2
    refine held_go HK' hS2 (fun _ => ?_)
    clear HK'
    refine held_more (S' := fun w' => Ext u2 w') (fun _ h => Ext.trans hS2 h) _ _ _ _ ?_
    clear hHeld hS2
    have hHeld : Ext u2 u2 := Ext.refl _
    try simp only [Act.put, List.setIfInBounds_toArray, List.set_cons_zero, List.set_cons_succ]
    refine wpAnyH_take (i := 8) (oi := ⟨some 29, _, _, _, _, _⟩) (v := ?_) rfl (by kernel_rfl) (by kernel_rfl) (by kernel_rfl) (fun _ _ _ h => h) (Or.inl ⟨by rfl, ?_⟩) (by assumption) ?_
    rotate_left
    · (intro w hSw; (try dsimp only at hSw); go_simp; try with_reducible rfl)
    try simp only [Act.put, List.setIfInBounds_toArray, List.set_cons_zero, List.set_cons_succ]
    refine wpAnyH_take (i := 9) (oi := ⟨some 30, _, _, _, _, _⟩) (v := ?_) rfl (by kernel_rfl) (by kernel_rfl) (by kernel_rfl) (fun _ _ _ h => h) (Or.inl ⟨by rfl, ?_⟩) (by assumption) ?_
    rotate_left
    · (intro w hSw; (try dsimp only at hSw); go_simp; try with_reducible rfl)
    try simp only [Act.put, List.setIfInBounds_toArray, List.set_cons_zero, List.set_cons_succ]
    refine next_one 13 (by kernel_rfl) rfl (by rfl) fun K' HK' => ?_
    go_simp
    refine (D0.out _ ((((Ext.refl w).drew).trans hx1).trans hx2) _ (by first | rfl | omega | (simp; done))).mono ?_
    rintro e u3 ⟨rfl, hw3⟩
    have hx3 : Ext u2 u3 := by rw [hw3]; exact Ext.refl _
    clear hw3
    have hS2 := Ext.trans hHeld hx3
    refine held_go HK' hS2 (fun _ => ?_)
    clear HK'
    refine held_more (S' := fun w' => Ext u3 w') (fun _ h => Ext.trans hS2 h) _ _ _ _ ?_
    clear hHeld hS2
    have hHeld : Ext u3 u3 := Ext.refl _
    try simp only [Act.put, List.setIfInBounds_toArray, List.set_cons_zero, List.set_cons_succ]
    refine wpAnyH_take (i := 14) (oi := ⟨some 35, _, _, _, _, _⟩) (v := ?_) rfl (by kernel_rfl) (by kernel_rfl) (by kernel_rfl) (fun _ _ _ h => h) (Or.inl ⟨by rfl, ?_⟩) (by assumption) ?_
    rotate_left
    · (intro w hSw; (try dsimp only at hSw); go_simp; try with_reducible rfl)
    try simp only [Act.put, List.setIfInBounds_toArray, List.set_cons_zero, List.set_cons_succ]
    refine wpAnyH_take (i := 28) (oi := ⟨some 49, _, _, _, _, _⟩) (v := ?_) rfl (by kernel_rfl) (by kernel_rfl) (by kernel_rfl) (fun _ _ _ h => h) (Or.inl ⟨by rfl, ?_⟩) (by assumption) ?_
    rotate_left
    · (intro w hSw; (try dsimp only at hSw); go_simp; try with_reducible rfl)
    try simp only [Act.put, List.setIfInBounds_toArray, List.set_cons_zero, List.set_cons_succ]
    refine wpAnyH_take (i := 29) (oi := ⟨some 6, _, _, _, _, _⟩) (v := ?_) rfl (by kernel_rfl) (by kernel_rfl) (by kernel_rfl) (fun _ _ _ h => h) (Or.inl ⟨by rfl, ?_⟩) (by assumption) ?_
    rotate_left
    · (intro w hSw; (try dsimp only at hSw); go_simp; try with_reducible rfl)
    try simp only [Act.put, List.setIfInBounds_toArray, List.set_cons_zero, List.set_cons_succ]
    refine wpAnyH_done (by kernel_rfl) ?_ _
    have HX := Kp.mk ((((Ext.refl w).drew.trans hx1).trans hx2).trans hx3)
    clear hHeld hx1 hx2 hx3
    by_cases hD0 : D = 0
    · subst hD0
      go_wp2_with fail
      go_ret
      obtain ⟨d', e, p1, p2, p3, _⟩ := HF.out.2
      exact ⟨d', e, p1, p2, p3, HX.out⟩
    · have hD1 : ¬ (D : Int) = 0 := by omega
      have HD0 := Kp.mk hD0
      go_wp2_with fail
      go_ret
      obtain ⟨d', e, p1, p2, p3, _⟩ := HF.out.1 HD0.out
      exact ⟨d', e, p1, p2, p3, HX.out⟩
end Go.Proofs.Ytpmoaccaknfodaa
