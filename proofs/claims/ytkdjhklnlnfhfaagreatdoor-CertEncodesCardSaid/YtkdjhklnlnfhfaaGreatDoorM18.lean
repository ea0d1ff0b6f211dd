/-
  nat: headroom, shiftDown.
  nat: guess.
  nat: reduce.
  nat: divide.
-/
import Derived.Test.YtkdjhklnlnfhfaaGreatDoorM17
namespace Go.Proofs.YtkdjhklnlnfhfaaGreatDoor
open Go Go.RowKit
set_option maxRecDepth 4000

theorem headroom_any {b : List Nat} {B : Option Addr} {m d : Nat} {w : World} (hb : Rd vL w B m d b) (db : Dg BB b) (hm : 0 < m) (ht : dg b (m - 1) ≠ 0) (hlim : m ≤ 1000000000) :
    Calls Tryz.prog 214 #[.slice B m d] w fun e w' => ∃ s k x : Nat, e = .returned (.int .i64 (s : Int)) ∧ s = 32 * k + x ∧ x < 32 ∧ k ≤ 1 ∧ dg b (m - 1) * 2 ^ x < 4294967296 ∧ (m = 1 → k = 1) ∧ (m ≠ 1 → k = 0) ∧ w' = w := by
  obtain ⟨q, rfl⟩ : ∃ q, m = q + 1 := ⟨m - 1, by omega⟩
  rw [Nat.add_sub_cancel] at ht ⊢
  obtain ⟨g2, o2, rfl⟩ := hb.some_ hm
  have k2 := hb.dig q (by omega)
  unfold vL at k2
  have h1 := db.at32 q
  generalize dg b q = y at *
  have hL := LeadingZeros32_any y h1 ht
  have e1 : ((q + 1 : Nat) : Int) - 1 = (q : Int) := by omega
  have b1 : (q : Int) < ((q + 1 : Nat) : Int) := by omega
  clear hb db
  by_cases hq : q = 0
  · subst hq
    rw [Nat.add_zero] at k2
    go_enter Tryz.func214, Tryz.ntmps214
    go_wp2_with (first | (go_at_call 238; refine (hL _).mono ?_; rintro e w1 ⟨x, hx, hxp, rfl, rfl⟩) | fail)
    go_ret
    exact ⟨x + 32, 1, x, by first | rfl | go_num, by omega, by omega, by omega, hxp, fun _ => rfl, fun h => absurd rfl h, rfl⟩
  · have b2 : ¬ ((q + 1 : Nat) : Int) = 1 := by omega
    go_enter Tryz.func214, Tryz.ntmps214
    go_wp2_with (first | (go_at_call 238; refine (hL _).mono ?_; rintro e w1 ⟨x, hx, hxp, rfl, rfl⟩) | fail)
    go_ret
    exact ⟨x, 0, x, by first | rfl | go_num, by omega, by omega, by omega, hxp, fun h => by omega, fun _ => rfl, rfl⟩
theorem or_down (y z : Nat) (hy : y < 4294967296) (hz : z < 4294967296) : bits .or .u64 (y : Int) (IntKind.u64.wrap ((z : Int) * 4294967296)) = ((y + 4294967296 * z : Nat) : Int) := by
  rw [IntKind.wrap_u64, show (z : Int) * 4294967296 % 18446744073709551616 = ((z * 2 ^ 32 : Nat) : Int) by omega, or64 _ _ (by omega) (by omega), Nat.or_comm, or_add z 32 y hy]
  omega
theorem or_down' (y z : Nat) (hy : y < 4294967296) (hz : z < 4294967296) : bits .or .u64 (y : Int) ((z : Int) * 4294967296) = ((y + 4294967296 * z : Nat) : Int) := by
  rw [← or_down y z hy hz, IntKind.wrap_u64, Int.emod_eq_of_lt (by omega) (by omega)]
set_option maxHeartbeats 2000000 in
theorem shiftDown_any {a : List Nat} {A : Option Addr} {n c k s x : Nat} {w : World} (ha : Rd vL w A n c a) (da : Dg BB a) (hs : s = 32 * k + x) (hx : x < 32) (hn : n ≤ 1000000000) (hk : k ≤ 1) :
    Calls Tryz.prog 240 #[.slice A n c, .int .i64 (s : Int)] w (FreshL w (vl BB a / 2 ^ s)) := by
  have hla := ha.len
  obtain ⟨N, hN⟩ : ∃ N, N = n - k := ⟨_, rfl⟩
  have hmk := run_makeL N (N : Int) rfl (by omega)
  have HM := Kp.mk (Lb.new w (zl N))
  have HXM := Kp.mk (show Ext w (w.alloc (.cells (lv (zl N)) ut)) from (by (repeat (first | assumption | exact Ext.refl _ | apply Ext.drew | apply Ext.drewN | apply Ext.alloc | refine Ext.trans ?_ (by assumption))); first | done | fail))
  have HZ := Kp.mk (And.intro (zl_len N) (zl_dg N))
  have HA := Kp.mk ha
  have DA := Kp.mk da
  have q1 : (s : Int) / 32 = (k : Int) := by omega
  have q2 : (s : Int) % 32 = (x : Int) := by omega
  have q3 : max (0 : Int) ((n : Int) - (k : Int)) = (N : Int) := by omega
  have hsb : (s : Int) < 100 := by omega
  have HN := Kp.mk hN
  have HS := Kp.mk hs
  have hNb : N ≤ 1000000010 := by omega
  clear ha da hN hs
  generalize zl N = Z at *
  go_enter Tryz.func240, Tryz.ntmps240
  go_wp2_with fail
  go_loopw [22] (fun iv wr => ∃ i : Nat, ∃ out : List Nat, i ≤ N ∧ iv = .int .i64 (i : Int) ∧ out.length = N ∧ Dg BB out ∧ (∀ j, j < i → dg out j = (dg a (k + j) + BB * dg a (k + j + 1)) / 2 ^ x % BB) ∧ Lb wr w.heap.size out ∧ Ext w wr) (fun i _ => N - (intOf i).toNat)
  case atStart => exact ⟨0, Z, by omega, rfl, HZ.out.1, HZ.out.2, fun j hj => by omega, HM.out, HXM.out⟩
  case round =>
    obtain ⟨i, out, hi, rfl, hol, hod, hz, hL, hxx⟩ := hrel
    have hNN := HN.out
    by_cases hlt : i < N
    · have b0 : (i : Int) < (N : Int) := by omega
      obtain ⟨g2, o2, rfl⟩ := HA.out.some_ (by omega)
      have k1 := (HA.out.ext hxx).dig (k + i) (by omega)
      have k4 := Lb.free hL i
      have k3 := Lb.cell hL i (by omega)
      have h1 := DA.out.at32 (k + i)
      have h2 := DA.out.at32 (k + i + 1)
      have HO := Kp.mk (show ∀ T, T = dg a (k + i) + BB * dg a (k + i + 1) → ∀ j, j < i + 1 → dg (out.set i (T / 2 ^ x % BB)) j = (dg a (k + j) + BB * dg a (k + j + 1)) / 2 ^ x % BB from fun T hT j hj => by
        rw [dg_set _ _ _ _ (by omega)]
        by_cases he : j = i
        · rw [if_pos he, hT, he]
        · rw [if_neg he]; exact hz j (by omega))
      have HD := Kp.mk (fun T => hod.set i (T / 2 ^ x % BB) (Nat.mod_lt _ (by decide)))
      have HL := Kp.mk (fun y => Lb.set hL i y)
      have HX := Kp.mk hxx
      have d1 : (k : Int) + (i : Int) < (n : Int) := by omega
      have HC := Kp.mk (show ∀ T : Nat, (T : Int) / 2 ^ x % 4294967296 = ((T / 2 ^ x % 4294967296 : Nat) : Int) from fun T => by simp)
      unfold vL at k1
      clear hod hz hxx
      by_cases hlt2 : k + i + 1 < n
      · have d2 : (k : Int) + (i : Int) + 1 < (n : Int) := by omega
        have k2 := (HA.out.ext HX.out).dig (k + i + 1) (by omega)
        unfold vL at k2
        have e1 := or_down' (dg a (k + i)) (dg a (k + i + 1)) h1 h2
        have HT := Kp.mk (HO.out _ rfl)
        have HTB := Kp.mk (show dg a (k + i) + 4294967296 * dg a (k + i + 1) < 18446744073709551616 by omega)
        change bits _ _ _ _ = ((dg a (k + i) + BB * dg a (k + i + 1) : Nat) : Int) at e1
        generalize dg a (k + i) + BB * dg a (k + i + 1) = T at *
        generalize dg a (k + i) = y at *
        generalize dg a (k + i + 1) = z at *
        clear hL hNN
        go_wp2_with fail
        go_roundw
        case rel =>
          rw [HC.out]
          exact ⟨i + 1, _, by omega, by go_num, by rw [List.length_set]; exact hol, HD.out T, HT.out, HL.out _, HX.out.setCell (p := ⟨w.heap.size, i, none⟩) (Nat.le_refl _) _⟩
        case measure => simp [intOf]; omega
      · have d2 : (n : Int) ≤ (k : Int) + (i : Int) + 1 := by omega
        have HT := Kp.mk (HO.out (dg a (k + i)) (by rw [dg_out a (k + i + 1) (by omega), Nat.mul_zero, Nat.add_zero]))
        generalize dg a (k + i) = y at *
        clear hL hNN h2 HO
        go_wp2_with fail
        go_roundw
        case rel =>
          rw [HC.out]
          exact ⟨i + 1, _, by omega, by go_num, by rw [List.length_set]; exact hol, HD.out y, HT.out, HL.out _, HX.out.setCell (p := ⟨w.heap.size, i, none⟩) (Nat.le_refl _) _⟩
        case measure => simp [intOf]; omega
    · obtain rfl : i = N := by omega
      have hv : vl BB out = vl BB a / 2 ^ s := by
        rw [HS.out]
        refine vl_of_dg (by decide) out _ (fun j hj => ?_) ?_
        · rw [shd_dg DA.out k x j hx]
          exact hz j (by omega)
        · have h := shd_lt DA.out k x
          rw [hla, ← HN.out, ← hol] at h
          exact h
      have HC := Kp.mk (FreshL.of_counted (Lb.own hL (Nat.le_refl _) hol (by unfold maxLen; omega)) hod (by omega) hv hxx)
      clear hod hz hL hxx hNN hv hol
      go_wp2_with (first | (go_at_call 165; refine HC.out.mono ?_; rintro e w4 ⟨A4, n4, c4, rfl, ho4, hx4⟩) | fail)
      go_ret
      exact ⟨A4, n4, c4, rfl, ho4, hx4⟩
end Go.Proofs.YtkdjhklnlnfhfaaGreatDoor
namespace Go.Proofs.YtkdjhklnlnfhfaaGreatDoor
open Go Go.RowKit
set_option maxRecDepth 4000

theorem or_up32 (y c : Nat) (hy : y < 4294967296) (hc : c < 4294967296) : bits .or .u64 ((y : Int) * 4294967296) (c : Int) = ((y * 4294967296 + c : Nat) : Int) := by
  obtain ⟨h1, _⟩ := or_up y 32 c hy (by omega) hc
  rw [show ((y : Int) * 2 ^ 32) = (y : Int) * 4294967296 by rfl, IntKind.wrap_u64, Int.emod_eq_of_lt (by omega) (by omega)] at h1
  exact h1
set_option maxHeartbeats 2000000 in
theorem guess_any {a b : List Nat} {A B : Option Addr} {q c d : Nat} {w : World} (ha : Rd vL w A (q + 3) c a) (hb : Rd vL w B (q + 2) d b) (da : Dg BB a) (db : Dg BB b) (hq : q ≤ 1000000000) (ht : dg b (q + 1) ≠ 0) (hlt : vl BB a < vl BB b * BB) :
    Calls Tryz.prog 257 #[.slice A (q + 3) c, .slice B (q + 2) d] w fun e w' => ∃ t : Nat, e = .returned (.int .u32 (t : Int)) ∧ t < 4294967296 ∧ vl BB a / vl BB b ≤ t ∧ t ≤ vl BB a / vl BB b + 1 ∧ Ext w w' := by
  have hla := ha.len
  have hlb := hb.len
  have hkn := kn_of (B := BB) (m := q) (by decide) da db hla hlb (by omega)
  have htop := kn_top (B := BB) (m := q) (by decide) da db hla hlb hlt
  obtain ⟨gA, oA, rfl⟩ := ha.some_ (by omega)
  obtain ⟨gB, oB, rfl⟩ := hb.some_ (by omega)
  have a2 := ha.dig (q + 2) (by omega)
  have a1 := ha.dig (q + 1) (by omega)
  have a0 := ha.dig q (by omega)
  have b1 := hb.dig (q + 1) (by omega)
  have b0 := hb.dig q (by omega)
  unfold vL at a2 a1 a0 b1 b0
  have l2 := da.at32 (q + 2)
  have l1 := da.at32 (q + 1)
  have l0 := da.at32 q
  have m1 := db.at32 (q + 1)
  have m0 := db.at32 q
  have hqv : vl BB a / vl BB b < BB := (Nat.div_lt_iff_lt_mul hkn.pos).2 (by rw [Nat.mul_comm]; exact hlt)
  have hg := Gu.start hkn m1
  generalize dg a (q + 2) = u2 at *
  generalize dg a (q + 1) = u1 at *
  generalize dg a q = u0 at *
  generalize dg b (q + 1) = v1 at *
  generalize dg b q = v0 at *
  obtain ⟨Q, hQ⟩ : ∃ Q, vl BB a / vl BB b = Q := ⟨_, rfl⟩
  have HQ := Kp.mk hQ
  rw [hQ] at hqv ⊢
  clear hQ
  have HK := Kp.mk (And.intro hkn (And.intro htop (And.intro hqv hg)))
  have v1p : ¬ (v1 : Int) = 0 := by omega
  clear ha hb da db hkn htop hqv hg hlt
  have e1 : ((q + 2 : Nat) : Int) - 1 = ((q + 1 : Nat) : Int) := by omega
  have e2 : ((q + 2 : Nat) : Int) - 2 = (q : Int) := by omega
  have c1 : ((q + 1 : Nat) : Int) < ((q + 2 : Nat) : Int) := by omega
  have c2 : (q : Int) < ((q + 2 : Nat) : Int) := by omega
  have w1 : IntKind.i64.wrap ((q + 1 : Nat) : Int) = ((q + 1 : Nat) : Int) := by rw [IntKind.wrap_i64]; omega
  have w2 : IntKind.i64.wrap (q : Int) = (q : Int) := by rw [IntKind.wrap_i64]; omega
  have wu2 : IntKind.u64.wrap (u2 : Int) = (u2 : Int) := by rw [IntKind.wrap_u64]; omega
  have wu1 : IntKind.u64.wrap (u1 : Int) = (u1 : Int) := by rw [IntKind.wrap_u64]; omega
  have ws : IntKind.u64.wrap ((u2 : Int) * 4294967296) = (u2 : Int) * 4294967296 := by rw [IntKind.wrap_u64]; omega
  have eo := or_up32 u2 u1 l2 l1
  have HH := Kp.mk (show u2 * 4294967296 + u1 < 18446744073709551616 by omega)
  change Kp (Kn BB (BB ^ q) (vl BB a) (vl BB b) (u2 * 4294967296 + u1) v1 v0 (vl BB (b.take q)) u0 (vl BB (a.take q)) ∧ u2 * 4294967296 + u1 < (v1 + 1) * BB ∧ Q < BB ∧ Gu BB (vl BB a) (vl BB b) (u2 * 4294967296 + u1) v1 ((u2 * 4294967296 + u1) / v1) ((u2 * 4294967296 + u1) % v1)) at HK
  generalize u2 * 4294967296 + u1 = H1 at *
  have wq : IntKind.u64.wrap ((H1 : Int) / (v1 : Int)) = (H1 : Int) / (v1 : Int) := by
    have h1 := Nat.div_le_self H1 v1
    have h2 := HH.out
    rw [← Int.natCast_ediv, IntKind.wrap_u64]
    generalize H1 / v1 = D at *
    omega
  have wm : IntKind.u64.wrap ((H1 : Int) % (v1 : Int)) = (H1 : Int) % (v1 : Int) := by
    have h1 := Nat.mod_le H1 v1
    have h2 := HH.out
    rw [← Int.natCast_emod, IntKind.wrap_u64]
    generalize H1 % v1 = D at *
    omega
  go_enter Tryz.func257, Tryz.ntmps257
  go_wp2_with fail
  go_region
  go_wp2_with fail
  go_region
  go_wp2_with fail
  go_region
  go_wp2_with fail
  go_loopw [9, 10] (fun tv lw wr => ∃ t left : Nat, tv = .int .u64 (t : Int) ∧ lw = .int .u64 (left : Int) ∧ Gu BB (vl BB a) (vl BB b) H1 v1 t left ∧ Ext w wr) (fun tv _ _ => (intOf tv).toNat)
  case atStart => exact ⟨H1 / v1, H1 % v1, by simp, by simp, HK.out.2.2.2, by first | exact (by (repeat (first | assumption | exact Ext.refl _ | apply Ext.drew | apply Ext.drewN | apply Ext.alloc | refine Ext.trans ?_ (by assumption))); first | done | fail) | exact (((Ext.refl w).drew).drew).drew⟩
  case round =>
    obtain ⟨t, left, rfl, rfl, hgu, hx⟩ := hrel
    obtain ⟨hkn, htop, hqv, -⟩ := HK.out
    have htH : t ≤ H1 := by
      have h1 : t * 1 ≤ t * v1 := Nat.mul_le_mul_left t (by omega)
      have h2 := hgu.eq
      omega
    have hlf : left < 4294967296 := hgu.lf
    have hHH := HH.out
    by_cases hA : 4294967296 ≤ t
    · have hA2 : ((t : Int) / 4294967296 != 0) = true := bne_iff_ne.2 (by omega)
      have hc : BB ≤ t ∨ left * BB + u0 < t * v0 := .inl hA
      · obtain ⟨k1, k2, k3⟩ := hgu.less hkn (by rw [HQ.out]; exact hqv) hc
        rw [HQ.out] at k3
        have t1 : (1 : Int) ≤ (t : Int) := by omega
        have tb : (t : Int) < 18446744073709551616 := by omega
        have t2 : ((t : Int) - 1) = ((t - 1 : Nat) : Int) := by omega
        by_cases hb : 4294967296 ≤ left + v1
        · obtain ⟨k4, k5, k6⟩ := gu_far hkn k2 (by rw [HQ.out]; exact k3) hb htop
          rw [HQ.out] at k5 k6
          have HF := Kp.mk (And.intro k4 (And.intro k5 k6))
          have hb1 : (t : Int) - 1 < 4294967296 := by have : t - 1 < 4294967296 := k4; omega
          have hb2 : (((left : Int) + (v1 : Int)) / 4294967296 != 0) = true := bne_iff_ne.2 (by omega)
          clear k4 k5 k6 k2 k3 hgu hkn htop hqv hc
          go_wp2_with fail
          go_ret
          exact ⟨t - 1, by first | rfl | (rw [t2]) | (congr 2), HF.out.1, HF.out.2.1, HF.out.2.2, by first | exact hx | exact (by (repeat (first | assumption | exact Ext.refl _ | apply Ext.drew | apply Ext.drewN | apply Ext.alloc | refine Ext.trans ?_ (by assumption))); first | done | fail)⟩
        · have HF := Kp.mk (show Gu BB (vl BB a) (vl BB b) H1 v1 (t - 1) (left + v1) from ⟨k2, by rw [HQ.out]; exact k3, by show left + v1 < 4294967296; omega⟩)
          have hb2 : (((left : Int) + (v1 : Int)) / 4294967296 != 0) = false := by rw [bne_eq_false_iff_eq]; omega
          clear k2 k3 hgu hkn htop hqv hc
          go_wp2_with fail
          go_roundw
          case rel => exact ⟨t - 1, left + v1, by first | rfl | rw [t2], by go_num, HF.out, by first | exact hx | exact (by (repeat (first | assumption | exact Ext.refl _ | apply Ext.drew | apply Ext.drewN | apply Ext.alloc | refine Ext.trans ?_ (by assumption))); first | done | fail)⟩
          case measure => simp [intOf]; omega
    · have hA2 : ((t : Int) / 4294967296 != 0) = false := by rw [bne_eq_false_iff_eq]; omega
      have hA3 : (t : Int) < 4294967296 := by omega
      have hp : t * v0 ≤ 4294967295 * 4294967295 := Nat.mul_le_mul (by omega) (by omega)
      obtain ⟨p, hpp⟩ : ∃ p, t * v0 = p := ⟨_, rfl⟩
      have e0 : (t : Int) * (v0 : Int) = (p : Int) := by rw [← hpp]; exact (Int.natCast_mul t v0).symm
      have wp : IntKind.u64.wrap (p : Int) = (p : Int) := by rw [IntKind.wrap_u64]; omega
      have eo2 := or_up32 left u0 hlf l0
      have wl : IntKind.u64.wrap ((left : Int) * 4294967296) = (left : Int) * 4294967296 := by rw [IntKind.wrap_u64]; omega
      have hT : left * 4294967296 + u0 < 18446744073709551616 := by omega
      have a0' : wr.cell? ⟨gA, oA + q, none⟩ = some (.int .u32 (u0 : Int)) := (hx.b.cell (p := ⟨gA, oA + q, none⟩) (block_lt_of_cell a0)).trans a0
      by_cases hB : left * 4294967296 + u0 < p
      · have hc : BB ≤ t ∨ left * BB + u0 < t * v0 := .inr (by rw [hpp]; exact hB)
        obtain ⟨k1, k2, k3⟩ := hgu.less hkn (by rw [HQ.out]; exact hqv) hc
        rw [HQ.out] at k3
        generalize left * 4294967296 + u0 = T2 at *
        have hB2 : (T2 : Int) < (p : Int) := by omega
        clear hpp
        have t1 : (1 : Int) ≤ (t : Int) := by omega
        have tb : (t : Int) < 18446744073709551616 := by omega
        have t2 : ((t : Int) - 1) = ((t - 1 : Nat) : Int) := by omega
        by_cases hb : 4294967296 ≤ left + v1
        · obtain ⟨k4, k5, k6⟩ := gu_far hkn k2 (by rw [HQ.out]; exact k3) hb htop
          rw [HQ.out] at k5 k6
          have HF := Kp.mk (And.intro k4 (And.intro k5 k6))
          have hb1 : (t : Int) - 1 < 4294967296 := by have : t - 1 < 4294967296 := k4; omega
          have hb2 : (((left : Int) + (v1 : Int)) / 4294967296 != 0) = true := bne_iff_ne.2 (by omega)
          clear k4 k5 k6 k2 k3 hgu hkn htop hqv hc
          go_wp2_with fail
          go_ret
          exact ⟨t - 1, by first | rfl | (rw [t2]) | (congr 2), HF.out.1, HF.out.2.1, HF.out.2.2, by first | exact hx | exact (by (repeat (first | assumption | exact Ext.refl _ | apply Ext.drew | apply Ext.drewN | apply Ext.alloc | refine Ext.trans ?_ (by assumption))); first | done | fail)⟩
        · have HF := Kp.mk (show Gu BB (vl BB a) (vl BB b) H1 v1 (t - 1) (left + v1) from ⟨k2, by rw [HQ.out]; exact k3, by show left + v1 < 4294967296; omega⟩)
          have hb2 : (((left : Int) + (v1 : Int)) / 4294967296 != 0) = false := by rw [bne_eq_false_iff_eq]; omega
          clear k2 k3 hgu hkn htop hqv hc
          go_wp2_with fail
          go_roundw
          case rel => exact ⟨t - 1, left + v1, by first | rfl | rw [t2], by go_num, HF.out, by first | exact hx | exact (by (repeat (first | assumption | exact Ext.refl _ | apply Ext.drew | apply Ext.drewN | apply Ext.alloc | refine Ext.trans ?_ (by assumption))); first | done | fail)⟩
          case measure => simp [intOf]; omega
      · obtain ⟨k1, k2⟩ := hgu.fits hkn (show t < BB by show t < 4294967296; omega) (show t * v0 ≤ left * BB + u0 by rw [hpp]; show p ≤ left * 4294967296 + u0; omega)
        rw [HQ.out] at k1 k2
        have HF := Kp.mk (And.intro k1 k2)
        generalize left * 4294967296 + u0 = T2 at *
        have hB2 : ¬ (T2 : Int) < (p : Int) := by omega
        clear hpp k1 k2 hgu hkn htop hqv
        go_wp2_with fail
        go_ret
        exact ⟨t, by first | rfl | go_num, by omega, HF.out.1, HF.out.2, by first | exact hx | exact (by (repeat (first | assumption | exact Ext.refl _ | apply Ext.drew | apply Ext.drewN | apply Ext.alloc | refine Ext.trans ?_ (by assumption))); first | done | fail)⟩
end Go.Proofs.YtkdjhklnlnfhfaaGreatDoor
namespace Go.Proofs.YtkdjhklnlnfhfaaGreatDoor
open Go Go.RowKit
set_option maxRecDepth 4000

theorem guess_at {a b : List Nat} {A B : Option Addr} {n c m d : Nat} {w : World} (ha : Rd vL w A n c a) (hb : Rd vL w B m d b) (hn : n = m + 1) (hm : 2 ≤ m) (da : Dg BB a) (db : Dg BB b) (hq : m ≤ 1000000000) (ht : dg b (m - 1) ≠ 0) (hlt : vl BB a < vl BB b * BB) :
    Calls Tryz.prog 257 #[.slice A n c, .slice B m d] w fun e w' => ∃ t : Nat, e = .returned (.int .u32 (t : Int)) ∧ t < 4294967296 ∧ vl BB a / vl BB b ≤ t ∧ t ≤ vl BB a / vl BB b + 1 ∧ Ext w w' := by
  obtain ⟨q, rfl⟩ : ∃ q, m = q + 2 := ⟨m - 2, by omega⟩
  subst hn
  exact guess_any ha hb da db (by omega) ht hlt
theorem run_midL (g n c i k : Nat) (x y : Int) (hx : x = (i : Int)) (hy : y = ((i + k : Nat) : Int)) (hk : i + k ≤ n) (hn : n ≤ c) (h0 : 0 < k) (w : World) :
    (Instr.sliceAt nt (.slice (some ⟨g, 0, none⟩) n c) (some (.int .i64 x)) (some (.int .i64 y)) none).run Tryz.prog w = .ok (.slice (some ⟨g, i, none⟩) k (c - i)) w := by
  subst hx hy
  have hadd : (⟨g, 0, none⟩ : Addr).add i = ⟨g, i, none⟩ := by unfold Addr.add; split <;> simp_all
  have hs := szL
  cases hq : Tryz.prog.info? ut with
  | none => simp [hq] at hs
  | some j =>
    have hs1 : j.size = 1 := by simpa [hq] using hs
    have e1 : 0 ≤ (i : Int) + (k : Int) := by omega
    have e2 : (i : Int) + (k : Int) ≤ c := by omega
    have e3 : ((i : Int) + (k : Int)).toNat = i + k := by omega
    have e4 : ¬ c = i := by omega
    simp [Instr.sliceAt, Instr.slice, run_underlying Tryz.underlying23, Instr.sliceBounds, Instr.sliceBound, asIntOf, sizeOf, typeInfo, hq, hs1, e1, e2, e3, e4, hadd]
/-- what is left, and how often -/
def Reduced (w : World) (g gt N K V vb : Nat) (e : Ending) (w' : World) : Prop :=
  ∃ L T, e = .returned (.tuple #[]) ∧ L.length = N ∧ T.length = K ∧ Dg BB L ∧ Dg BB T ∧ vl BB T = V / vb ∧ vl BB L = V % vb ∧ Lb w' g L ∧ Lb w' gt T ∧ Mds [g, gt] w w'
structure RedW (w : World) (g gt N K V vb i : Nat) (L T : List Nat) (wr : World) : Prop where
  ll : L.length = N
  tl : T.length = K
  dl : Dg BB L
  dt : Dg BB T
  r : RedS BB V vb (K - i) L T
  bl : Lb wr g L
  bt : Lb wr gt T
  x : Mds [g, gt] w wr
theorem RedW.next {w wr w3 : World} {g gt N K V vb i p m t : Nat} {L T out : List Nat} (hr : RedW w g gt N K V vb i L T wr) (hi : i < K) (hp : p = K - i - 1) (hK : K = N - m) (hgt : g ≠ gt) (hvb : vb < BB ^ m) (h0 : 0 < vb)
    (hl : Lb w3 g (L.take p ++ (out ++ L.drop (p + (m + 1))))) (hm : Mds [g] wr w3) (hol : out.length = m + 1) (hod : Dg BB out) (he : vl BB out = vl BB ((L.drop p).take (m + 1)) % vb) (ht : t = vl BB ((L.drop p).take (m + 1)) / vb) (htb : t < 4294967296) :
    RedW w g gt N K V vb (i + 1) (L.take p ++ (out ++ L.drop (p + (m + 1)))) (T.set p t) (w3.setCell ⟨gt, p, none⟩ (.int .u32 (t : Int))) := by
  have hll := hr.ll
  have hK1 : K - i = p + 1 := by omega
  have hK2 : K - (i + 1) = p := by omega
  refine ⟨?_, by rw [List.length_set]; exact hr.tl, (hr.dl.take p).append (hod.append (hr.dl.drop _)), hr.dt.set _ _ htb, ?_, hl.far (fun e => hgt e) _, Lb.set (hr.bt.mds hm (by simpa using fun e => hgt e.symm)) p t, ?_⟩
  · rw [List.length_append, List.length_append, List.length_take, List.length_drop, hol, hll]; omega
  · rw [hK2, ht]
    exact RedS.next (by decide) (hK1 ▸ hr.r) hr.dl hvb h0 (by omega) (by rw [hr.tl]; omega) hol he
  · exact (hr.x.trans (hm.mono (by simp))).setCell (p := ⟨gt, p, none⟩) (by simp) _
set_option maxHeartbeats 2000000 in
theorem reduce_any {b L T : List Nat} {g gt N cN m d K cK : Nat} {B : Option Addr} {w : World} (hL : Lb w g L) (hN : L.length = N) (hcN : N ≤ cN) (hT : Lb w gt T) (hTK : T.length = K) (hK : K = N - m) (hgt : g ≠ gt) (hb : Rd vL w B m d b) (hob : 0 < m → Out B [g, gt])
    (dL : Dg BB L) (dT : Dg BB T) (db : Dg BB b) (hm : 2 ≤ m) (ht : dg b (m - 1) ≠ 0) (hlim : N ≤ 1000000000) (hlt : vl BB L < vl BB b * BB ^ K) (hmb : m ≤ 1000000000) :
    Calls Tryz.prog 239 #[.slice (some ⟨g, 0, none⟩) N cN, .slice B m d, .slice (some ⟨gt, 0, none⟩) K cK] w (Reduced w g gt N K (vl BB L) (vl BB b)) := by
  have hlb := hb.len
  have hst : RedW w g gt N K (vl BB L) (vl BB b) 0 L T w := ⟨hN, hTK, dL, dT, RedS.start rfl (by omega) hlt, hL, hT, Mds.refl _ _⟩
  have hvb : vl BB b < BB ^ m := by have := vl_lt (by decide) db; rwa [hlb] at this
  have HST := Kp.mk hst
  have HB := Kp.mk hb
  have DB := Kp.mk db
  have HVB := Kp.mk hvb
  have HT := Kp.mk ht
  have HK := Kp.mk hK
  generalize vl BB L = V at *
  clear hst hb db hvb ht hL hT dL dT hlt hN hTK hK
  go_enter Tryz.func239, Tryz.ntmps239
  go_wp2_with fail
  go_loopw [17] (fun iv wr => ∃ i : Nat, ∃ L T : List Nat, i ≤ K ∧ iv = .int .i64 (i : Int) ∧ RedW w g gt N K V (vl BB b) i L T wr) (fun iv _ => K - (intOf iv).toNat)
  case atStart => exact ⟨0, _, _, by omega, rfl, HST.out⟩
  case round =>
    clear HST
    obtain ⟨i, L, T, hi, rfl, hr⟩ := hrel
    have hKN := HK.out
    by_cases hlt : i < K
    · obtain ⟨p, hp⟩ : ∃ p, p = K - i - 1 := ⟨_, rfl⟩
      have b0 : (i : Int) < (N : Int) - (m : Int) := by omega
      have e1 : (N : Int) - (m : Int) - 1 - (i : Int) = (p : Int) := by omega
      have hs := run_midL g N cN p (m + 1) (p : Int) ((p : Int) + (m : Int) + 1) rfl (by omega) (by have := hr.ll; omega) hcN (by omega)
      have hK1 : K - i = p + 1 := by omega
      obtain ⟨r1, r2, r3⟩ := RedS.part (n := m) (by decide) (hK1 ▸ hr.r) HVB.out (by rw [hr.ll]; omega)
      have hcut := cut3 L p (m + 1)
      have hpl : (L.take p).length = p := by rw [List.length_take, hr.ll]; omega
      have hal : ((L.drop p).take (m + 1)).length = m + 1 := by rw [List.length_take, List.length_drop, hr.ll]; omega
      have hPart := Lb.win hr.bl p (m + 1) (cN - p) (by rw [hr.ll]; omega) (by have := hr.ll; omega)
      have hG := Kp.mk (guess_at hPart (HB.out.mds hr.x hob) rfl hm ((hr.dl.drop p).take (m + 1)) DB.out hmb HT.out r1)
      have h0 : 0 < vl BB b := by
        rcases Nat.eq_zero_or_pos (vl BB b) with h | h
        · rw [h] at r1; omega
        · exact h
      have hbN : vl BB b ≤ BB ^ (m + 1) := Nat.le_trans (Nat.le_of_lt HVB.out) (Nat.pow_le_pow_right (by decide) (by omega))
      have HR := Kp.mk hr
      have HP := Kp.mk hp
      have k4 := fun W (h : Mds [g] wr W) => Lb.free (hr.bt.mds h (by simpa using fun e => hgt e.symm)) p
      have k3 := fun W (h : Mds [g] wr W) => Lb.cell (hr.bt.mds h (by simpa using fun e => hgt e.symm)) p (by rw [hr.tl]; omega)
      have k5 : (p : Int) < (K : Int) := by omega
      have HNEX : Kp (∀ (w3 : World) (out : List Nat) (t : Nat), Lb w3 g (L.take p ++ (out ++ L.drop (p + (m + 1)))) → Mds [g] wr w3 → out.length = m + 1 → Dg BB out → vl BB out = vl BB ((L.drop p).take (m + 1)) % vl BB b → t = vl BB ((L.drop p).take (m + 1)) / vl BB b → t < 4294967296 →
          RedW w g gt N K V (vl BB b) (i + 1) (L.take p ++ (out ++ L.drop (p + (m + 1)))) (T.set p t) (w3.setCell ⟨gt, p, none⟩ (.int .u32 (t : Int)))) :=
        ⟨fun w3 out t a1 a2 a3 a4 a5 a6 a7 => RedW.next hr hlt hp hKN hgt HVB.out h0 a1 a2 a3 a4 a5 a6 a7⟩
      have HA := Kp.mk (And.intro hcut (And.intro hpl hal))
      have HT2 := Kp.mk (fun (w2 : World) (hx2 : Ext wr w2) (t : Nat) (ht : t < 4294967296) => takeFrom_any (pre := L.take p) (a := (L.drop p).take (m + 1)) (post := L.drop (p + (m + 1))) (o := p) (n := m + 1) (c := cN - p) (k := t)
        (by rw [← hcut]; exact hr.bl.ext hx2) hpl hal ((HB.out.mds hr.x hob).ext hx2) (fun h => (hob h).mono (by simp)) ((hr.dl.drop p).take (m + 1)) DB.out (by omega) (by omega) (by have := hr.ll; omega) ht)
      have HRED := Kp.mk (fun (t p1 c : Nat) (h1 : vl BB ((L.drop p).take (m + 1)) / vl BB b ≤ t) (h2 : t ≤ vl BB ((L.drop p).take (m + 1)) / vl BB b + 1) (hp : p1 < BB ^ (m + 1)) (he : vl BB ((L.drop p).take (m + 1)) + BB ^ (m + 1) * c = p1 + t * vl BB b) => red_one h0 hbN h1 h2 hp he)
      clear hr hp hcut hpl hal hPart r1 r2 r3 hbN h0 hK1 hKN
      generalize (L.drop p).take (m + 1) = U at *
      generalize L.drop (p + (m + 1)) = PO at *
      generalize L.take p = PR at *
      go_wp2_with (first | (go_at_call 257; refine hG.out.mono ?_; rintro e w2 ⟨t, rfl, t1, t2, t3, hx2⟩) | fail)
      refine (HT2.out w2 hx2 t t1).mono ?_
      rintro e w3 ⟨out, cr, rfl, hol, hod, hv, hL3, hm3⟩
      have hUl := HA.out.2.2
      have hx3 : Mds [g] wr w3 := (hx2.mds [g]).trans hm3
      have hlt3 := vl_lt (by decide) hod
      rw [hol, hUl] at hlt3
      rw [hUl] at hv
      rcases HRED.out t (vl BB out) cr t2 t3 hlt3 hv with ⟨hc0, htq, hpq⟩ | ⟨hc0, htq, hpq⟩
      · have HF := Kp.mk (HNEX.out w3 out t hL3 hx3 (hol.trans hUl) hod hpq htq t1)
        have k4' := k4 w3 hx3
        have k3' := k3 w3 hx3
        subst hc0
        clear hv hL3 hm3 hx3 hlt3 hpq htq hod hol k3 k4 HT2 HRED HNEX hG
        go_wp2_with fail
        go_roundw
        case rel => exact ⟨i + 1, _, _, by omega, by go_num, HF.out⟩
        case measure => simp [intOf]; omega
      · have hd : decide (0 < cr) = true := decide_eq_true hc0
        have t4' : 1 ≤ t := by rw [htq]; exact Nat.le_add_left 1 _
        have t4 : (1 : Int) ≤ (t : Int) := by omega
        have HAD := Kp.mk (addTo_any (pre := PR) (a := out) (post := PO) (o := p) (n := m + 1) (c := cN - p) hL3 HA.out.2.1 (hol.trans hUl) ((HB.out.mds HR.out.x hob).mds hx3 (fun h => (hob h).mono (by simp))) (fun h => (hob h).mono (by simp)) hod DB.out (by omega) (by omega))
        have HV := Kp.mk (And.intro (hol.trans hUl) hpq)
        have HTQ := Kp.mk (And.intro htq t1)
        have HX3 := Kp.mk hx3
        clear hv hL3 hm3 hx3 hlt3 hpq htq hod hol hc0
        rw [hd]
        go_wp2_with (first | (go_at_call 259; refine HAD.out.mono ?_; rintro e w4 ⟨out2, c2, rfl, hol2, hod2, hc2, hv2, hL4, hm4⟩; have hx4 : Mds [g] wr w4 := HX3.out.trans hm4; have k4' := k4 w4 hx4; have k3' := k3 w4 hx4; have HH4 := Kp.mk (And.intro hol2 (And.intro hod2 (And.intro hc2 (And.intro hv2 (And.intro hL4 hx4))))); clear hol2 hod2 hc2 hv2 hL4 hm4 hx4) | fail)
        obtain ⟨hol2, hod2, hc2, hv2, hL4, hx4⟩ := HH4.out
        obtain ⟨hol, hpq⟩ := HV.out
        obtain ⟨htq, t1⟩ := HTQ.out
        rw [hol] at hol2 hv2
        have hlt4 := vl_lt (by decide) hod2
        rw [hol2] at hlt4
        have hp2 := hpq (vl BB out2) c2 hlt4 hc2 hv2
        have ht5 : ((t : Int) - 1) = ((t - 1 : Nat) : Int) := by omega
        have HF := Kp.mk (HNEX.out w4 out2 (t - 1) hL4 hx4 hol2 hod2 hp2 (by omega) (by omega))
        clear hv2 hL4 hx4 hlt4 hpq htq hod2 hol hol2 hp2 hc2 k3 k4 HT2 HRED HNEX hG HAD HV HTQ HX3
        go_roundw
        case rel =>
          first | rw [ht5] | skip
          exact ⟨i + 1, _, _, by omega, by go_num, HF.out⟩
        case measure => simp [intOf]; omega
    · obtain rfl : i = K := by omega
      have hr0 := hr.r
      rw [Nat.sub_self] at hr0
      obtain ⟨h1, h2⟩ := hr0.done
      have HF := Kp.mk (show Reduced w g gt N i V (vl BB b) (.returned (.tuple #[])) wr from ⟨L, T, rfl, hr.ll, hr.tl, hr.dl, hr.dt, h1, h2, hr.bl, hr.bt, hr.x⟩)
      have b0 : (N : Int) - (m : Int) ≤ (i : Int) := by omega
      clear hr hr0 h1 h2 hKN
      go_wp2_with fail
      go_end0
      exact HF.out
end Go.Proofs.YtkdjhklnlnfhfaaGreatDoor
namespace Go.Proofs.YtkdjhklnlnfhfaaGreatDoor
open Go Go.RowKit
set_option maxRecDepth 4000

theorem nl_eq {V L : Nat} (h1 : BB ^ L ≤ V) (h2 : V < BB ^ (L + 1)) : nl V = L + 1 := by
  have hc := cn_dgs (B := BB) (by decide) V
  have hv := vl_dgs (B := BB) (by decide) V
  have a1 := vl_lt (by decide) hc.d
  rw [hv] at a1
  have hne : dgs BB V ≠ [] := fun e => by
    have h3 := (dgs_nil (by decide) V).1 e
    have h4 : 0 < BB ^ L := Nat.pow_pos (by decide)
    omega
  have a2 := cn_lo (by decide) hc hne
  rw [hv] at a2
  show (dgs BB V).length = L + 1
  have hn : 0 < (dgs BB V).length := List.length_pos_iff.2 hne
  generalize (dgs BB V).length = M at *
  have c1 : L < M := by
    rcases Nat.lt_or_ge L M with h | h
    · exact h
    · have := Nat.pow_le_pow_right (n := BB) (by decide) h
      omega
  have c2 : M - 1 < L + 1 := by
    rcases Nat.lt_or_ge (M - 1) (L + 1) with h | h
    · exact h
    · have := Nat.pow_le_pow_right (n := BB) (by decide) h
      omega
  omega
/-- what is asked of a number to divide by -/
theorem top_lo {b : List Nat} {m : Nat} (hl : b.length = m + 1) (ht : dg b m ≠ 0) : BB ^ m ≤ vl BB b := by
  have h1 := vl_split BB b m (by omega)
  have h3 : BB ^ m * 1 ≤ BB ^ m * (dg b m + BB * vl BB (b.drop (m + 1))) := Nat.mul_le_mul_left _ (by omega)
  omega
theorem top_hi {b : List Nat} {m x : Nat} (hl : b.length = m + 1) (db : Dg BB b) (hx : x < 32) (ht : dg b m * 2 ^ x < 4294967296) : vl BB b * 2 ^ x < BB ^ (m + 1) := by
  have h1 := vl_split BB b m (by omega)
  rw [List.drop_eq_nil_of_le (by omega)] at h1
  simp only [vl, Nat.mul_zero, Nat.add_zero] at h1
  have h2 := vl_lt (by decide) (db.take m)
  rw [List.length_take, Nat.min_eq_left (by omega)] at h2
  have e : (4294967296 : Nat) = 2 ^ (32 - x) * 2 ^ x := by rw [← Nat.pow_add, show 32 - x + x = 32 by omega]
  have h3 : dg b m < 2 ^ (32 - x) := by
    rw [e] at ht
    exact Nat.lt_of_mul_lt_mul_right ht
  have h4 : vl BB b < BB ^ m * (dg b m + 1) := by rw [Nat.mul_succ]; omega
  have h5 : BB ^ m * (dg b m + 1) ≤ BB ^ m * 2 ^ (32 - x) := Nat.mul_le_mul_left _ h3
  have h6 : vl BB b * 2 ^ x < BB ^ m * 2 ^ (32 - x) * 2 ^ x := Nat.mul_lt_mul_of_pos_right (by omega) (Nat.pow_pos (by decide))
  rw [Nat.mul_assoc, ← e] at h6
  rw [Nat.pow_succ]
  exact h6
theorem shift_nl {b : List Nat} {m k x s : Nat} (hl : b.length = m + 1) (db : Dg BB b) (ht : dg b m ≠ 0) (hs : s = 32 * k + x) (hx : x < 32) (hh : dg b m * 2 ^ x < 4294967296) : nl (vl BB b * 2 ^ s) = m + k + 1 := by
  have h1 := top_lo hl ht
  have h2 := top_hi hl db hx hh
  have e : (2 : Nat) ^ s = 2 ^ x * BB ^ k := by rw [hs, Nat.add_comm, Nat.pow_add, Nat.pow_mul]
  rw [e, ← Nat.mul_assoc]
  refine nl_eq ?_ ?_
  · rw [Nat.pow_add]
    refine Nat.mul_le_mul_right _ (Nat.le_trans h1 ?_)
    exact Nat.le_mul_of_pos_right _ (Nat.pow_pos (by decide))
  · rw [show m + k + 1 = m + 1 + k by omega, Nat.pow_add]
    exact Nat.mul_lt_mul_of_pos_right h2 (Nat.pow_pos (by decide))
/-- what a call leaves that makes two numbers -/
def FreshL2 (w : World) (q r : Nat) (e : Ending) (w' : World) : Prop :=
  ∃ A n c A' n' c', e = .returned (.tuple #[.slice A n c, .slice A' n' c']) ∧ Rw ut vL w' w.heap.size (.slice A n c) n (dgs BB q) ∧ Rw ut vL w' w.heap.size (.slice A' n' c') n' (dgs BB r) ∧ Ext w w'
theorem top_dgs {V : Nat} (hV : V ≠ 0) : dg (dgs BB V) (nl V - 1) ≠ 0 := by
  have hc := cn_dgs (B := BB) (by decide) V
  have hne : dgs BB V ≠ [] := fun e => hV ((dgs_nil (by decide) V).1 e)
  have hn : 0 < (dgs BB V).length := List.length_pos_iff.2 hne
  intro e
  refine hc.t ?_
  rw [List.getLast?_eq_getElem?, dg_in _ _ (by omega)]
  exact congrArg some e
set_option maxHeartbeats 2000000 in
theorem divide_any {a b : List Nat} {A B : Option Addr} {n c m d : Nat} {w : World} (ha : Rd vL w A n c a) (hb : Rd vL w B (m + 1) d b) (da : Dg BB a) (db : Dg BB b) (hn : n ≤ 100000000) (hm : m ≤ 100000000) (ht : dg b m ≠ 0) :
    Calls Tryz.prog 215 #[.slice A n c, .slice B (m + 1) d] w (FreshL2 w (vl BB a / vl BB b) (vl BB a % vl BB b)) := by
  have hla := ha.len
  have hlb := hb.len
  have HA := Kp.mk ha
  have HB := Kp.mk hb
  have DA := Kp.mk da
  have DB := Kp.mk db
  have HT := Kp.mk ht
  have HH := Kp.mk (headroom_any hb db (by omega) ht (by omega))
  clear ha hb da db ht
  go_enter Tryz.func215, Tryz.ntmps215
  go_wp2_with fail
  refine HH.out.mono ?_
  rintro e w1 ⟨s, k, x, rfl, hs, hx, hk, hh, hm1, hm2, rfl⟩
  have HS := Kp.mk (And.intro hs (And.intro hh (And.intro hm1 hm2)))
  obtain ⟨N, hN⟩ : ∃ N, n + k + 1 = N := ⟨_, rfl⟩
  obtain ⟨M1, hM1⟩ : ∃ M1, m + 1 + k + 1 = M1 := ⟨_, rfl⟩
  obtain ⟨M, hM⟩ : ∃ M, m + k + 1 = M := ⟨_, rfl⟩
  obtain ⟨K, hK⟩ : ∃ K, K = N - M := ⟨_, rfl⟩
  obtain ⟨V, hV⟩ : ∃ V, vl BB b * 2 ^ s = V := ⟨_, rfl⟩
  have C1 := Kp.mk (shiftUp_any HA.out DA.out hs hx (by omega) hk)
  have C2 := Kp.mk (fun w' (h : Ext w1 w') => shiftUp_any (HB.out.ext h) DB.out hs hx (by omega) hk)
  rw [hN] at C1
  rw [hM1, hV] at C2
  have hnl : nl V = M := by rw [← hV, ← hM]; exact shift_nl hlb DB.out HT.out hs hx hh
  have hVlo : BB ^ (M - 1) ≤ V := by
    rw [← hV, ← hM, Nat.add_sub_cancel, hs, Nat.pow_add, Nat.pow_add, Nat.pow_mul, show (2 : Nat) ^ 32 = BB from rfl]
    have h1 := top_lo hlb HT.out
    have h2 : BB ^ m * (BB ^ k * 1) ≤ vl BB b * (BB ^ k * 2 ^ x) := Nat.mul_le_mul h1 (Nat.mul_le_mul_left _ (Nat.pow_pos (by decide)))
    rwa [Nat.mul_one] at h2
  have hb0 : 0 < vl BB b := Nat.lt_of_lt_of_le (Nat.pow_pos (by decide)) (top_lo hlb HT.out)
  have hvlt : vl BB a * 2 ^ s < V * BB ^ K := by
    have h1 := vl_lt (by decide) DA.out
    rw [hla] at h1
    have h2 : BB ^ n ≤ vl BB b * BB ^ K := by
      have h3 : BB ^ n ≤ BB ^ m * BB ^ K := by rw [← Nat.pow_add]; exact Nat.pow_le_pow_right (by decide) (by omega)
      exact Nat.le_trans h3 (Nat.mul_le_mul_right _ (top_lo hlb HT.out))
    rw [← hV, Nat.mul_right_comm]
    exact Nat.mul_lt_mul_of_pos_right (by omega) (Nat.pow_pos (by decide))
  have hM2 : 2 ≤ M := by
    by_cases h : m = 0
    · have := hm1 (by omega); omega
    · omega
  have hs0 : 0 < 2 ^ s := Nat.pow_pos (by decide)
  have HV := Kp.mk (And.intro hnl (And.intro hVlo (And.intro hvlt (And.intro hV (And.intro hb0 hs0)))))
  have HN := Kp.mk (And.intro hN (And.intro hM (And.intro hM1 hK)))
  have HS := Kp.mk (And.intro hs (And.intro hx hk))
  have hNb : N ≤ 100000002 := by omega
  have hMb : M ≤ 100000002 := by omega
  have hM1b : M1 ≤ 100000003 := by omega
  have q3 : max (0 : Int) ((N : Int) - (M : Int)) = (K : Int) := by omega
  have hmk := run_makeL K (K : Int) rfl (by omega)
  clear HH hs hh hm1 hm2 hN hM hM1 hnl hVlo hvlt hV hK
  go_wp2_with fail
  refine C1.out.mono ?_
  rintro e w2 ⟨L, rfl, hLl, hLd, hLv, hL2, hx2⟩
  have HL := Kp.mk (And.intro hLl (And.intro hLd (And.intro hLv (And.intro hL2 hx2))))
  clear hLl hLd hLv hL2
  go_wp2_with fail
  refine (C2.out w2 hx2).mono ?_
  rintro e w3 ⟨P, rfl, hPl, hPd, hPv, hP3, hx3⟩
  have C3 := Kp.mk (counted_own (B := w2.heap.size) (hP3.own (Nat.le_refl _) hPl (by unfold maxLen; omega)) hPd (by omega))
  rw [hPv, HV.out.1] at C3
  have HX3 := Kp.mk (And.intro hx3 hP3.lt)
  clear hPl hPd hPv hP3 C1 C2
  go_wp2_with fail
  refine C3.out.mono ?_
  rintro e w4 ⟨rfl, _, hPo, rfl⟩
  have hL4 : Lb (w4.alloc (.cells (lv (zl K)) ut)) w1.heap.size L := HL.out.2.2.2.1.ext (HX3.out.1.trans (by (repeat (first | assumption | exact Ext.refl _ | apply Ext.drew | apply Ext.drewN | apply Ext.alloc | refine Ext.trans ?_ (by assumption))); first | done | fail))
  have hlt1 : w1.heap.size < w2.heap.size := HL.out.2.2.2.1.lt
  have hlt2 : w2.heap.size < w4.heap.size := HX3.out.2
  have C4 := Kp.mk (reduce_any (K := K) (cK := K) (cN := N) hL4 HL.out.1 (Nat.le_refl _) (Lb.new w4 (zl K)) (zl_len K) HN.out.2.2.2 (by omega) (hPo.rd.ext (by (repeat (first | assumption | exact Ext.refl _ | apply Ext.drew | apply Ext.drewN | apply Ext.alloc | refine Ext.trans ?_ (by assumption))); first | done | fail)) (fun _ => Out.some (by simp; omega)) HL.out.2.1 (zl_dg K) (cn_dgs (by decide) V).d hM2
    (by have := top_dgs (V := V) (by have := HV.out.2.1; have h4 : 0 < BB ^ (M - 1) := Nat.pow_pos (by decide); omega); rwa [HV.out.1] at this) (by omega) (by rw [HL.out.2.2.1, vl_dgs (by decide)]; exact HV.out.2.2.1) (by omega))
  rw [HL.out.2.2.1, vl_dgs (B := BB) (by decide)] at C4
  have HXA := Kp.mk (show Ext w1 (w4.alloc (.cells (lv (zl K)) ut)) from (hx2.trans HX3.out.1).trans (by (repeat (first | assumption | exact Ext.refl _ | apply Ext.drew | apply Ext.drewN | apply Ext.alloc | refine Ext.trans ?_ (by assumption))); first | done | fail))
  clear hL4 hPo
  generalize zl K = Z at *
  go_wp2_with fail
  refine C4.out.mono ?_
  rintro e w5 ⟨L', T', rfl, hLl, hTl, hLd, hTd, hTv, hLv, hL5, hT5, hm5⟩
  have hx5 : Ext w1 w5 := hm5.ext HXA.out (by simp; omega)
  obtain ⟨_, _, _, hV, hb0, hs0⟩ := HV.out
  have hqv : vl BB T' = vl BB a / vl BB b := by rw [hTv, ← hV, Nat.mul_div_mul_right _ _ hs0]
  have hrv : vl BB L' / 2 ^ s = vl BB a % vl BB b := by rw [hLv, ← hV, Nat.mul_mod_mul_right, Nat.mul_div_cancel _ hs0]
  have C5 := Kp.mk (counted_own (B := w1.heap.size) (hT5.own (by omega) hTl (by unfold maxLen; omega)) hTd (by omega))
  have C6 := Kp.mk (shiftDown_any (n := N) (c := N) (Lb.whole hL5 N N hLl.symm (Nat.le_refl _)) hLd HS.out.1 HS.out.2.1 (by omega) HS.out.2.2)
  rw [hqv] at C5
  rw [hrv] at C6
  have HX5 := Kp.mk hx5
  clear hLl hTl hLd hTd hTv hLv hL5 hT5 hm5 hqv hrv C4 hx5 HV hV hb0 hs0
  go_wp2_with fail
  refine C5.out.mono ?_
  rintro e w6 ⟨rfl, _, hQo, rfl⟩
  have HQO := Kp.mk hQo
  clear hQo
  go_wp2_with fail
  refine C6.out.mono ?_
  rintro e w7 ⟨A7, n7, c7, rfl, hRo, hx7⟩
  have HF := Kp.mk (show FreshL2 w1 (vl BB a / vl BB b) (vl BB a % vl BB b) (.returned (.tuple #[.slice (some ⟨w4.heap.size, 0, none⟩) (nl (vl BB a / vl BB b)) K, .slice A7 n7 c7])) w7 from
    ⟨_, _, _, _, _, _, rfl, HQO.out.ext hx7, hRo.lower HX5.out.size, HX5.out.trans hx7⟩)
  clear hRo hx7
  go_wp2_with fail
  go_ret2
  exact HF.out
end Go.Proofs.YtkdjhklnlnfhfaaGreatDoor
