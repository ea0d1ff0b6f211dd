/-
  nat: headroom, shiftDown.
-/
import Derived.Test.YtpmoaccaknfodaaDoorNv
namespace Go.Proofs.YtpmoaccaknfodaaDoor
open Go Go.RowKit

theorem headroom_any {b : List Nat} {B : Option Addr} {m d : Nat} {w : World} (hb : Rd vL w B m d b) (db : Dg BB b) (hm : 0 < m) (ht : dg b (m - 1) ≠ 0) (hlim : m ≤ 1000000000) :
    Calls Tryd.prog 32 #[.slice B m d] w fun e w' => ∃ s k x : Nat, e = .returned (.int .i64 (s : Int)) ∧ s = 32 * k + x ∧ x < 32 ∧ k ≤ 1 ∧ dg b (m - 1) * 2 ^ x < 4294967296 ∧ (m = 1 → k = 1) ∧ (m ≠ 1 → k = 0) ∧ w' = w := by
  obtain ⟨q, rfl⟩ : ∃ q, m = q + 1 := ⟨m - 1, by omega⟩
  rw [Nat.add_sub_cancel] at ht ⊢
  obtain ⟨g2, o2, rfl⟩ := hb.some_ hm
  have k2 := hb.dig q (by omega)
  unfold vL at k2
  have h1 := db.at32 q
  generalize dg b q = y at *
  have hL := LeadingZeros32_any y h1 ht
  have e1 : ((q + 1 : Nat) : Int) - 1 = (q : Int) := by omega
  have b1 : (q : Int) < ((q + 1 : Nat) : Int) := by omega
  clear hb db
  by_cases hq : q = 0
  · subst hq
    rw [Nat.add_zero] at k2
    go_enter Tryd.func32, Tryd.ntmps32
    go_wp2_with (first | (go_at_call 50; refine (hL _).mono ?_; rintro e w1 ⟨x, hx, hxp, rfl, rfl⟩) | fail)
    go_ret
    exact ⟨x + 32, 1, x, by first | rfl | go_num, by omega, by omega, by omega, hxp, fun _ => rfl, fun h => absurd rfl h, rfl⟩
  · have b2 : ¬ ((q + 1 : Nat) : Int) = 1 := by omega
    go_enter Tryd.func32, Tryd.ntmps32
    go_wp2_with (first | (go_at_call 50; refine (hL _).mono ?_; rintro e w1 ⟨x, hx, hxp, rfl, rfl⟩) | fail)
    go_ret
    exact ⟨x, 0, x, by first | rfl | go_num, by omega, by omega, by omega, hxp, fun h => by omega, fun _ => rfl, rfl⟩
theorem or_down (y z : Nat) (hy : y < 4294967296) (hz : z < 4294967296) : bits .or .u64 (y : Int) (IntKind.u64.wrap ((z : Int) * 4294967296)) = ((y + 4294967296 * z : Nat) : Int) := by
  rw [IntKind.wrap_u64, show (z : Int) * 4294967296 % 18446744073709551616 = ((z * 2 ^ 32 : Nat) : Int) by omega, or64 _ _ (by omega) (by omega), Nat.or_comm, or_add z 32 y hy]
  omega
theorem or_down' (y z : Nat) (hy : y < 4294967296) (hz : z < 4294967296) : bits .or .u64 (y : Int) ((z : Int) * 4294967296) = ((y + 4294967296 * z : Nat) : Int) := by
  rw [← or_down y z hy hz, IntKind.wrap_u64, Int.emod_eq_of_lt (by omega) (by omega)]
set_option maxHeartbeats 2000000 in
theorem shiftDown_any {a : List Nat} {A : Option Addr} {n c k s x : Nat} {w : World} (ha : Rd vL w A n c a) (da : Dg BB a) (hs : s = 32 * k + x) (hx : x < 32) (hn : n ≤ 1000000000) (hk : k ≤ 1) :
    Calls Tryd.prog 35 #[.slice A n c, .int .i64 (s : Int)] w (FreshL w (vl BB a / 2 ^ s)) := by
  have hla := ha.len
  obtain ⟨N, hN⟩ : ∃ N, N = n - k := ⟨_, rfl⟩
  have hmk := run_makeL N (N : Int) rfl (by omega)
  have HM := Kp.mk (Lb.new w (zl N))
  have HXM := Kp.mk (show Ext w (w.alloc (.cells (lv (zl N)) ut)) from (by (repeat (first | assumption | exact Ext.refl _ | apply Ext.drew | apply Ext.drewN | apply Ext.alloc | refine Ext.trans ?_ (by assumption))); first | done | fail))
  have HZ := Kp.mk (And.intro (zl_len N) (zl_dg N))
  have HA := Kp.mk ha
  have DA := Kp.mk da
  have q1 : (s : Int) / 32 = (k : Int) := by omega
  have q2 : (s : Int) % 32 = (x : Int) := by omega
  have q3 : max (0 : Int) ((n : Int) - (k : Int)) = (N : Int) := by omega
  have hsb : (s : Int) < 100 := by omega
  have HN := Kp.mk hN
  have HS := Kp.mk hs
  have hNb : N ≤ 1000000010 := by omega
  clear ha da hN hs
  generalize zl N = Z at *
  go_enter Tryd.func35, Tryd.ntmps35
  go_wp2_with fail
  go_loopw [22] (fun iv wr => ∃ i : Nat, ∃ out : List Nat, i ≤ N ∧ iv = .int .i64 (i : Int) ∧ out.length = N ∧ Dg BB out ∧ (∀ j, j < i → dg out j = (dg a (k + j) + BB * dg a (k + j + 1)) / 2 ^ x % BB) ∧ Lb wr w.heap.size out ∧ Ext w wr) (fun i _ => N - (intOf i).toNat)
  case atStart => exact ⟨0, Z, by omega, rfl, HZ.out.1, HZ.out.2, fun j hj => by omega, HM.out, HXM.out⟩
  case round =>
    obtain ⟨i, out, hi, rfl, hol, hod, hz, hL, hxx⟩ := hrel
    have hNN := HN.out
    by_cases hlt : i < N
    · have b0 : (i : Int) < (N : Int) := by omega
      obtain ⟨g2, o2, rfl⟩ := HA.out.some_ (by omega)
      have k1 := (HA.out.ext hxx).dig (k + i) (by omega)
      have k4 := Lb.free hL i
      have k3 := Lb.cell hL i (by omega)
      have h1 := DA.out.at32 (k + i)
      have h2 := DA.out.at32 (k + i + 1)
      have HO := Kp.mk (show ∀ T, T = dg a (k + i) + BB * dg a (k + i + 1) → ∀ j, j < i + 1 → dg (out.set i (T / 2 ^ x % BB)) j = (dg a (k + j) + BB * dg a (k + j + 1)) / 2 ^ x % BB from fun T hT j hj => by
        rw [dg_set _ _ _ _ (by omega)]
        by_cases he : j = i
        · rw [if_pos he, hT, he]
        · rw [if_neg he]; exact hz j (by omega))
      have HD := Kp.mk (fun T => hod.set i (T / 2 ^ x % BB) (Nat.mod_lt _ (by decide)))
      have HL := Kp.mk (fun y => Lb.set hL i y)
      have HX := Kp.mk hxx
      have d1 : (k : Int) + (i : Int) < (n : Int) := by omega
      have HC := Kp.mk (show ∀ T : Nat, (T : Int) / 2 ^ x % 4294967296 = ((T / 2 ^ x % 4294967296 : Nat) : Int) from fun T => by simp)
      unfold vL at k1
      clear hod hz hxx
      by_cases hlt2 : k + i + 1 < n
      · have d2 : (k : Int) + (i : Int) + 1 < (n : Int) := by omega
        have k2 := (HA.out.ext HX.out).dig (k + i + 1) (by omega)
        unfold vL at k2
        have e1 := or_down' (dg a (k + i)) (dg a (k + i + 1)) h1 h2
        have HT := Kp.mk (HO.out _ rfl)
        have HTB := Kp.mk (show dg a (k + i) + 4294967296 * dg a (k + i + 1) < 18446744073709551616 by omega)
        change bits _ _ _ _ = ((dg a (k + i) + BB * dg a (k + i + 1) : Nat) : Int) at e1
        generalize dg a (k + i) + BB * dg a (k + i + 1) = T at *
        generalize dg a (k + i) = y at *
        generalize dg a (k + i + 1) = z at *
        clear hL hNN
        go_wp2_with fail
        go_roundw
        case rel =>
          rw [HC.out]
          exact ⟨i + 1, _, by omega, by go_num, by rw [List.length_set]; exact hol, HD.out T, HT.out, HL.out _, HX.out.setCell (p := ⟨w.heap.size, i, none⟩) (Nat.le_refl _) _⟩
        case measure => simp [intOf]; omega
      · have d2 : (n : Int) ≤ (k : Int) + (i : Int) + 1 := by omega
        have HT := Kp.mk (HO.out (dg a (k + i)) (by rw [dg_out a (k + i + 1) (by omega), Nat.mul_zero, Nat.add_zero]))
        generalize dg a (k + i) = y at *
        clear hL hNN h2 HO
        go_wp2_with fail
        go_roundw
        case rel =>
          rw [HC.out]
          exact ⟨i + 1, _, by omega, by go_num, by rw [List.length_set]; exact hol, HD.out y, HT.out, HL.out _, HX.out.setCell (p := ⟨w.heap.size, i, none⟩) (Nat.le_refl _) _⟩
        case measure => simp [intOf]; omega
    · obtain rfl : i = N := by omega
      have hv : vl BB out = vl BB a / 2 ^ s := by
        rw [HS.out]
        refine vl_of_dg (by decide) out _ (fun j hj => ?_) ?_
        · rw [shd_dg DA.out k x j hx]
          exact hz j (by omega)
        · have h := shd_lt DA.out k x
          rw [hla, ← HN.out, ← hol] at h
          exact h
      have HC := Kp.mk (FreshL.of_counted (Lb.own hL (Nat.le_refl _) hol (by unfold maxLen; omega)) hod (by omega) hv hxx)
      clear hod hz hL hxx hNN hv hol
      go_wp2_with (first | (go_at_call 19; refine HC.out.mono ?_; rintro e w4 ⟨A4, n4, c4, rfl, ho4, hx4⟩) | fail)
      go_ret
      exact ⟨A4, n4, c4, rfl, ho4, hx4⟩
end Go.Proofs.YtpmoaccaknfodaaDoor
