/-
  nat: sum.
-/
import Derived.Test.YtpmoaccaknfodaaDoorNs
namespace Go.Proofs.YtpmoaccaknfodaaDoor
open Go Go.RowKit

theorem sum_room {B va vb vo cr k j : Nat} (hB : 2 ≤ B) (ha : va < B ^ k) (hb : vb < B ^ j) (hjk : j ≤ k) (hcr : cr ≤ 1) (hv : vo + B ^ (k + 1) * cr = va + vb) : vo = va + vb := by
  have h3 : B ^ j ≤ B ^ k := Nat.pow_le_pow_right (by omega) hjk
  rw [Nat.pow_succ] at hv
  rcases Nat.eq_zero_or_pos cr with h | h
  · subst h
    omega
  · obtain rfl : cr = 1 := by omega
    rw [Nat.mul_one] at hv
    have h4 : B ^ k * 2 ≤ B ^ k * B := Nat.mul_le_mul_left _ hB
    omega
set_option maxHeartbeats 1000000 in
theorem sum_any {a b : List Nat} {A B : Option Addr} {n c m d : Nat} {w : World} (ha : Rd vL w A n c a) (hb : Rd vL w B m d b) (da : Dg BB a) (db : Dg BB b) (hn : n ≤ 1000000000) (hm : m ≤ 1000000000) :
    Calls Tryd.prog 42 #[.slice A n c, .slice B m d] w (FreshL w (vl BB a + vl BB b)) := by
  have hla := ha.len
  have hlb := hb.len
  have HA := Kp.mk ha
  have HB := Kp.mk hb
  have DA := Kp.mk da
  have DB := Kp.mk db
  clear ha hb da db
  by_cases hnm : m ≤ n
  · have b0 : (m : Int) ≤ (n : Int) := by omega
    have hmk := run_makeL (n + 1) ((n : Int) + 1) (by omega) (by omega)
    have HM := Kp.mk (Lb.new w (zl (n + 1)))
    have HXM := Kp.mk (show Ext w (w.alloc (.cells (lv (zl (n + 1))) ut)) from (by (repeat (first | assumption | exact Ext.refl _ | apply Ext.drew | apply Ext.drewN | apply Ext.alloc | refine Ext.trans ?_ (by assumption))); first | done | fail))
    have HZ := Kp.mk (zl_len (n + 1))
    have HZ0 := Kp.mk (show (zl (n + 1)).drop n = zl 1 by unfold zl; rw [List.drop_replicate]; congr 1; omega)
    have HO := Kp.mk (HB.out.outs (G := [w.heap.size]) (by simp))
    generalize zl (n + 1) = Z at *
    have hk1 : n + 1 ≤ 1000000000001 := by omega
    obtain ⟨w2, z, hcp, hL2, hm2⟩ := run_copy_L (K := a ++ zl 1) (cd := n + 1) 3 HM.out HZ.out (HA.out.ext HXM.out) (by rw [List.take_of_length_le (by omega), HZ0.out])
    have hx2 : Ext w w2 := hm2.ext HXM.out (by simp)
    have HLL := Kp.mk hla
    have hKl : (a ++ zl 1).length = n + 1 := by rw [List.length_append, zl_len, hla]
    have hKd : Dg BB (a ++ zl 1) := DA.out.append (zl_dg 1)
    have hKv := vl_append0 a 1
    have hKlt := vl_lt (by decide) DA.out
    have hKlt2 := vl_lt (by decide) DB.out
    generalize a ++ zl 1 = K at *
    have HT := Kp.mk (addTo_any (pre := []) (post := []) (o := 0) (c := n + 1) (by simpa using hL2) rfl hKl (HB.out.ext hx2) HO.out hKd DB.out (by omega) (by omega))
    have HK := Kp.mk (And.intro hKl (And.intro hKv (And.intro hKlt hKlt2)))
    clear hL2 hKl hKd hKv hKlt hKlt2
    go_enter Tryd.func42, Tryd.ntmps42
    go_wp2_with (first | (go_at_call 52; refine HT.out.mono ?_; rintro e w3 ⟨out, cr, rfl, hol, hod, hcr, hv, hL3, hm3⟩) | fail)
    obtain ⟨hKl, hKv, hKlt, hKlt2⟩ := HK.out
    have hx3 : Ext w w3 := hm3.ext hx2 (by simp)
    have hvv : vl BB out = vl BB a + vl BB b := by
      rw [hKv, hKl, ← HLL.out] at hv
      exact sum_room (by decide) hKlt hKlt2 (by omega) hcr hv
    have hown : Rw ut vL w3 w.heap.size (.slice (some ⟨w.heap.size, 0, none⟩) (n + 1) (n + 1)) (n + 1) out := Lb.own (by simpa using hL3) (Nat.le_refl _) (by omega) (by unfold maxLen; omega)
    have HC := Kp.mk (FreshL.of_counted hown hod (by omega) hvv hx3)
    clear hm2 hx2 HT hv hL3 hm3 hod hown hvv hol HK hKl hKv hKlt hKlt2 hcr
    go_wp2_with (first | (go_at_call 19; refine HC.out.mono ?_; rintro e w4 ⟨A4, n4, c4, rfl, ho4, hx4⟩) | fail)
    go_ret
    exact ⟨A4, n4, c4, rfl, ho4, hx4⟩
  · have b0 : (n : Int) < (m : Int) := by omega
    have hmk := run_makeL (m + 1) ((m : Int) + 1) (by omega) (by omega)
    have HM := Kp.mk (Lb.new w (zl (m + 1)))
    have HXM := Kp.mk (show Ext w (w.alloc (.cells (lv (zl (m + 1))) ut)) from (by (repeat (first | assumption | exact Ext.refl _ | apply Ext.drew | apply Ext.drewN | apply Ext.alloc | refine Ext.trans ?_ (by assumption))); first | done | fail))
    have HZ := Kp.mk (zl_len (m + 1))
    have HZ0 := Kp.mk (show (zl (m + 1)).drop m = zl 1 by unfold zl; rw [List.drop_replicate]; congr 1; omega)
    have HO := Kp.mk (HA.out.outs (G := [w.heap.size]) (by simp))
    generalize zl (m + 1) = Z at *
    have hk1 : m + 1 ≤ 1000000000001 := by omega
    obtain ⟨w2, z, hcp, hL2, hm2⟩ := run_copy_L (K := b ++ zl 1) (cd := m + 1) 3 HM.out HZ.out (HB.out.ext HXM.out) (by rw [List.take_of_length_le (by omega), HZ0.out])
    have hx2 : Ext w w2 := hm2.ext HXM.out (by simp)
    have HLL := Kp.mk hlb
    have hKl : (b ++ zl 1).length = m + 1 := by rw [List.length_append, zl_len, hlb]
    have hKd : Dg BB (b ++ zl 1) := DB.out.append (zl_dg 1)
    have hKv := vl_append0 b 1
    have hKlt := vl_lt (by decide) DB.out
    have hKlt2 := vl_lt (by decide) DA.out
    generalize b ++ zl 1 = K at *
    have HT := Kp.mk (addTo_any (pre := []) (post := []) (o := 0) (c := m + 1) (by simpa using hL2) rfl hKl (HA.out.ext hx2) HO.out hKd DA.out (by omega) (by omega))
    have HK := Kp.mk (And.intro hKl (And.intro hKv (And.intro hKlt hKlt2)))
    clear hL2 hKl hKd hKv hKlt hKlt2
    go_enter Tryd.func42, Tryd.ntmps42
    go_wp2_with (first | (go_at_call 52; refine HT.out.mono ?_; rintro e w3 ⟨out, cr, rfl, hol, hod, hcr, hv, hL3, hm3⟩) | fail)
    obtain ⟨hKl, hKv, hKlt, hKlt2⟩ := HK.out
    have hx3 : Ext w w3 := hm3.ext hx2 (by simp)
    have hvv : vl BB out = vl BB a + vl BB b := by
      rw [hKv, hKl, ← HLL.out] at hv
      rw [Nat.add_comm (vl BB a)]
      exact sum_room (by decide) hKlt hKlt2 (by omega) hcr hv
    have hown : Rw ut vL w3 w.heap.size (.slice (some ⟨w.heap.size, 0, none⟩) (m + 1) (m + 1)) (m + 1) out := Lb.own (by simpa using hL3) (Nat.le_refl _) (by omega) (by unfold maxLen; omega)
    have HC := Kp.mk (FreshL.of_counted hown hod (by omega) hvv hx3)
    clear hm2 hx2 HT hv hL3 hm3 hod hown hvv hol HK hKl hKv hKlt hKlt2 hcr
    go_wp2_with (first | (go_at_call 19; refine HC.out.mono ?_; rintro e w4 ⟨A4, n4, c4, rfl, ho4, hx4⟩) | fail)
    go_ret
    exact ⟨A4, n4, c4, rfl, ho4, hx4⟩
end Go.Proofs.YtpmoaccaknfodaaDoor
