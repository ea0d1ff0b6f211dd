/-
  nat: guess.
-/
import Derived.Test.YtpmoaccaknfodaaDoorNw
namespace Go.Proofs.YtpmoaccaknfodaaDoor
open Go Go.RowKit

theorem or_up32 (y c : Nat) (hy : y < 4294967296) (hc : c < 4294967296) : bits .or .u64 ((y : Int) * 4294967296) (c : Int) = ((y * 4294967296 + c : Nat) : Int) := by
  obtain ⟨h1, _⟩ := or_up y 32 c hy (by omega) hc
  rw [show ((y : Int) * 2 ^ 32) = (y : Int) * 4294967296 by rfl, IntKind.wrap_u64, Int.emod_eq_of_lt (by omega) (by omega)] at h1
  exact h1
set_option maxHeartbeats 2000000 in
theorem guess_any {a b : List Nat} {A B : Option Addr} {q c d : Nat} {w : World} (ha : Rd vL w A (q + 3) c a) (hb : Rd vL w B (q + 2) d b) (da : Dg BB a) (db : Dg BB b) (hq : q ≤ 1000000000) (ht : dg b (q + 1) ≠ 0) (hlt : vl BB a < vl BB b * BB) :
    Calls Tryd.prog 51 #[.slice A (q + 3) c, .slice B (q + 2) d] w fun e w' => ∃ t : Nat, e = .returned (.int .u32 (t : Int)) ∧ t < 4294967296 ∧ vl BB a / vl BB b ≤ t ∧ t ≤ vl BB a / vl BB b + 1 ∧ Ext w w' := by
  have hla := ha.len
  have hlb := hb.len
  have hkn := kn_of (B := BB) (m := q) (by decide) da db hla hlb (by omega)
  have htop := kn_top (B := BB) (m := q) (by decide) da db hla hlb hlt
  obtain ⟨gA, oA, rfl⟩ := ha.some_ (by omega)
  obtain ⟨gB, oB, rfl⟩ := hb.some_ (by omega)
  have a2 := ha.dig (q + 2) (by omega)
  have a1 := ha.dig (q + 1) (by omega)
  have a0 := ha.dig q (by omega)
  have b1 := hb.dig (q + 1) (by omega)
  have b0 := hb.dig q (by omega)
  unfold vL at a2 a1 a0 b1 b0
  have l2 := da.at32 (q + 2)
  have l1 := da.at32 (q + 1)
  have l0 := da.at32 q
  have m1 := db.at32 (q + 1)
  have m0 := db.at32 q
  have hqv : vl BB a / vl BB b < BB := (Nat.div_lt_iff_lt_mul hkn.pos).2 (by rw [Nat.mul_comm]; exact hlt)
  have hg := Gu.start hkn m1
  generalize dg a (q + 2) = u2 at *
  generalize dg a (q + 1) = u1 at *
  generalize dg a q = u0 at *
  generalize dg b (q + 1) = v1 at *
  generalize dg b q = v0 at *
  obtain ⟨Q, hQ⟩ : ∃ Q, vl BB a / vl BB b = Q := ⟨_, rfl⟩
  have HQ := Kp.mk hQ
  rw [hQ] at hqv ⊢
  clear hQ
  have HK := Kp.mk (And.intro hkn (And.intro htop (And.intro hqv hg)))
  have v1p : ¬ (v1 : Int) = 0 := by omega
  clear ha hb da db hkn htop hqv hg hlt
  have e1 : ((q + 2 : Nat) : Int) - 1 = ((q + 1 : Nat) : Int) := by omega
  have e2 : ((q + 2 : Nat) : Int) - 2 = (q : Int) := by omega
  have c1 : ((q + 1 : Nat) : Int) < ((q + 2 : Nat) : Int) := by omega
  have c2 : (q : Int) < ((q + 2 : Nat) : Int) := by omega
  have w1 : IntKind.i64.wrap ((q + 1 : Nat) : Int) = ((q + 1 : Nat) : Int) := by rw [IntKind.wrap_i64]; omega
  have w2 : IntKind.i64.wrap (q : Int) = (q : Int) := by rw [IntKind.wrap_i64]; omega
  have wu2 : IntKind.u64.wrap (u2 : Int) = (u2 : Int) := by rw [IntKind.wrap_u64]; omega
  have wu1 : IntKind.u64.wrap (u1 : Int) = (u1 : Int) := by rw [IntKind.wrap_u64]; omega
  have ws : IntKind.u64.wrap ((u2 : Int) * 4294967296) = (u2 : Int) * 4294967296 := by rw [IntKind.wrap_u64]; omega
  have eo := or_up32 u2 u1 l2 l1
  have HH := Kp.mk (show u2 * 4294967296 + u1 < 18446744073709551616 by omega)
  change Kp (Kn BB (BB ^ q) (vl BB a) (vl BB b) (u2 * 4294967296 + u1) v1 v0 (vl BB (b.take q)) u0 (vl BB (a.take q)) ∧ u2 * 4294967296 + u1 < (v1 + 1) * BB ∧ Q < BB ∧ Gu BB (vl BB a) (vl BB b) (u2 * 4294967296 + u1) v1 ((u2 * 4294967296 + u1) / v1) ((u2 * 4294967296 + u1) % v1)) at HK
  generalize u2 * 4294967296 + u1 = H1 at *
  have wq : IntKind.u64.wrap ((H1 : Int) / (v1 : Int)) = (H1 : Int) / (v1 : Int) := by
    have h1 := Nat.div_le_self H1 v1
    have h2 := HH.out
    rw [← Int.natCast_ediv, IntKind.wrap_u64]
    generalize H1 / v1 = D at *
    omega
  have wm : IntKind.u64.wrap ((H1 : Int) % (v1 : Int)) = (H1 : Int) % (v1 : Int) := by
    have h1 := Nat.mod_le H1 v1
    have h2 := HH.out
    rw [← Int.natCast_emod, IntKind.wrap_u64]
    generalize H1 % v1 = D at *
    omega
  go_enter Tryd.func51, Tryd.ntmps51
  go_wp2_with fail
  go_region
  go_wp2_with fail
  go_region
  go_wp2_with fail
  go_region
  go_wp2_with fail
  go_loopw [9, 10] (fun tv lw wr => ∃ t left : Nat, tv = .int .u64 (t : Int) ∧ lw = .int .u64 (left : Int) ∧ Gu BB (vl BB a) (vl BB b) H1 v1 t left ∧ Ext w wr) (fun tv _ _ => (intOf tv).toNat)
  case atStart => exact ⟨H1 / v1, H1 % v1, by simp, by simp, HK.out.2.2.2, by first | exact (by (repeat (first | assumption | exact Ext.refl _ | apply Ext.drew | apply Ext.drewN | apply Ext.alloc | refine Ext.trans ?_ (by assumption))); first | done | fail) | exact (((Ext.refl w).drew).drew).drew⟩
  case round =>
    obtain ⟨t, left, rfl, rfl, hgu, hx⟩ := hrel
    obtain ⟨hkn, htop, hqv, -⟩ := HK.out
    have htH : t ≤ H1 := by
      have h1 : t * 1 ≤ t * v1 := Nat.mul_le_mul_left t (by omega)
      have h2 := hgu.eq
      omega
    have hlf : left < 4294967296 := hgu.lf
    have hHH := HH.out
    by_cases hA : 4294967296 ≤ t
    · have hA2 : ((t : Int) / 4294967296 != 0) = true := bne_iff_ne.2 (by omega)
      have hc : BB ≤ t ∨ left * BB + u0 < t * v0 := .inl hA
      · obtain ⟨k1, k2, k3⟩ := hgu.less hkn (by rw [HQ.out]; exact hqv) hc
        rw [HQ.out] at k3
        have t1 : (1 : Int) ≤ (t : Int) := by omega
        have tb : (t : Int) < 18446744073709551616 := by omega
        have t2 : ((t : Int) - 1) = ((t - 1 : Nat) : Int) := by omega
        by_cases hb : 4294967296 ≤ left + v1
        · obtain ⟨k4, k5, k6⟩ := gu_far hkn k2 (by rw [HQ.out]; exact k3) hb htop
          rw [HQ.out] at k5 k6
          have HF := Kp.mk (And.intro k4 (And.intro k5 k6))
          have hb1 : (t : Int) - 1 < 4294967296 := by have : t - 1 < 4294967296 := k4; omega
          have hb2 : (((left : Int) + (v1 : Int)) / 4294967296 != 0) = true := bne_iff_ne.2 (by omega)
          clear k4 k5 k6 k2 k3 hgu hkn htop hqv hc
          go_wp2_with fail
          go_ret
          exact ⟨t - 1, by first | rfl | (rw [t2]) | (congr 2), HF.out.1, HF.out.2.1, HF.out.2.2, by first | exact hx | exact (by (repeat (first | assumption | exact Ext.refl _ | apply Ext.drew | apply Ext.drewN | apply Ext.alloc | refine Ext.trans ?_ (by assumption))); first | done | fail)⟩
        · have HF := Kp.mk (show Gu BB (vl BB a) (vl BB b) H1 v1 (t - 1) (left + v1) from ⟨k2, by rw [HQ.out]; exact k3, by show left + v1 < 4294967296; omega⟩)
          have hb2 : (((left : Int) + (v1 : Int)) / 4294967296 != 0) = false := by rw [bne_eq_false_iff_eq]; omega
          clear k2 k3 hgu hkn htop hqv hc
          go_wp2_with fail
          go_roundw
          case rel => exact ⟨t - 1, left + v1, by first | rfl | rw [t2], by go_num, HF.out, by first | exact hx | exact (by (repeat (first | assumption | exact Ext.refl _ | apply Ext.drew | apply Ext.drewN | apply Ext.alloc | refine Ext.trans ?_ (by assumption))); first | done | fail)⟩
          case measure => simp [intOf]; omega
    · have hA2 : ((t : Int) / 4294967296 != 0) = false := by rw [bne_eq_false_iff_eq]; omega
      have hA3 : (t : Int) < 4294967296 := by omega
      have hp : t * v0 ≤ 4294967295 * 4294967295 := Nat.mul_le_mul (by omega) (by omega)
      obtain ⟨p, hpp⟩ : ∃ p, t * v0 = p := ⟨_, rfl⟩
      have e0 : (t : Int) * (v0 : Int) = (p : Int) := by rw [← hpp]; exact (Int.natCast_mul t v0).symm
      have wp : IntKind.u64.wrap (p : Int) = (p : Int) := by rw [IntKind.wrap_u64]; omega
      have eo2 := or_up32 left u0 hlf l0
      have wl : IntKind.u64.wrap ((left : Int) * 4294967296) = (left : Int) * 4294967296 := by rw [IntKind.wrap_u64]; omega
      have hT : left * 4294967296 + u0 < 18446744073709551616 := by omega
      have a0' : wr.cell? ⟨gA, oA + q, none⟩ = some (.int .u32 (u0 : Int)) := (hx.b.cell (p := ⟨gA, oA + q, none⟩) (block_lt_of_cell a0)).trans a0
      by_cases hB : left * 4294967296 + u0 < p
      · have hc : BB ≤ t ∨ left * BB + u0 < t * v0 := .inr (by rw [hpp]; exact hB)
        obtain ⟨k1, k2, k3⟩ := hgu.less hkn (by rw [HQ.out]; exact hqv) hc
        rw [HQ.out] at k3
        generalize left * 4294967296 + u0 = T2 at *
        have hB2 : (T2 : Int) < (p : Int) := by omega
        clear hpp
        have t1 : (1 : Int) ≤ (t : Int) := by omega
        have tb : (t : Int) < 18446744073709551616 := by omega
        have t2 : ((t : Int) - 1) = ((t - 1 : Nat) : Int) := by omega
        by_cases hb : 4294967296 ≤ left + v1
        · obtain ⟨k4, k5, k6⟩ := gu_far hkn k2 (by rw [HQ.out]; exact k3) hb htop
          rw [HQ.out] at k5 k6
          have HF := Kp.mk (And.intro k4 (And.intro k5 k6))
          have hb1 : (t : Int) - 1 < 4294967296 := by have : t - 1 < 4294967296 := k4; omega
          have hb2 : (((left : Int) + (v1 : Int)) / 4294967296 != 0) = true := bne_iff_ne.2 (by omega)
          clear k4 k5 k6 k2 k3 hgu hkn htop hqv hc
          go_wp2_with fail
          go_ret
          exact ⟨t - 1, by first | rfl | (rw [t2]) | (congr 2), HF.out.1, HF.out.2.1, HF.out.2.2, by first | exact hx | exact (by (repeat (first | assumption | exact Ext.refl _ | apply Ext.drew | apply Ext.drewN | apply Ext.alloc | refine Ext.trans ?_ (by assumption))); first | done | fail)⟩
        · have HF := Kp.mk (show Gu BB (vl BB a) (vl BB b) H1 v1 (t - 1) (left + v1) from ⟨k2, by rw [HQ.out]; exact k3, by show left + v1 < 4294967296; omega⟩)
          have hb2 : (((left : Int) + (v1 : Int)) / 4294967296 != 0) = false := by rw [bne_eq_false_iff_eq]; omega
          clear k2 k3 hgu hkn htop hqv hc
          go_wp2_with fail
          go_roundw
          case rel => exact ⟨t - 1, left + v1, by first | rfl | rw [t2], by go_num, HF.out, by first | exact hx | exact (by (repeat (first | assumption | exact Ext.refl _ | apply Ext.drew | apply Ext.drewN | apply Ext.alloc | refine Ext.trans ?_ (by assumption))); first | done | fail)⟩
          case measure => simp [intOf]; omega
      · obtain ⟨k1, k2⟩ := hgu.fits hkn (show t < BB by show t < 4294967296; omega) (show t * v0 ≤ left * BB + u0 by rw [hpp]; show p ≤ left * 4294967296 + u0; omega)
        rw [HQ.out] at k1 k2
        have HF := Kp.mk (And.intro k1 k2)
        generalize left * 4294967296 + u0 = T2 at *
        have hB2 : ¬ (T2 : Int) < (p : Int) := by omega
        clear hpp k1 k2 hgu hkn htop hqv
        go_wp2_with fail
        go_ret
        exact ⟨t, by first | rfl | go_num, by omega, HF.out.1, HF.out.2, by first | exact hx | exact (by (repeat (first | assumption | exact Ext.refl _ | apply Ext.drew | apply Ext.drewN | apply Ext.alloc | refine Ext.trans ?_ (by assumption))); first | done | fail)⟩
end Go.Proofs.YtpmoaccaknfodaaDoor
