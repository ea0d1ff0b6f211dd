/-
  nat: ringOf, take, multiply of a ring; hasBit, bitsOf.
-/
import Derived.Test.YtpmoaccaknfodaaDoorNz
import Derived.RegionTactic
namespace Go.Proofs.YtpmoaccaknfodaaDoor
open Go Go.RowKit

abbrev rt : TypeId := 71
theorem lit_lb (w : World) (L : List Nat) (g : Nat) (hg : g = w.heap.size) : Lb (w.alloc (.cells (lv L) ut)) g L := by
  subst hg
  exact Lb.new w L
theorem zl_drop (m n : Nat) (h : n ≤ m) : (zl m).drop n = zl (m - n) := by unfold zl; rw [List.drop_replicate]
theorem ringOf_any {A : Option Addr} {n c : Nat} {w : World} (hn : n ≤ 1000000000) :
    Calls Tryd.prog 36 #[.slice A n c] w fun e w' => ∃ g1 g2, e = .returned (.agg #[.slice A n c, .slice (some ⟨g1, 0, none⟩) (2 * n) (2 * n), .slice (some ⟨g2, 0, none⟩) n n]) ∧ g1 ≠ g2 ∧ w.heap.size ≤ g1 ∧ w.heap.size ≤ g2 ∧ Lb w' g1 (zl (2 * n)) ∧ Lb w' g2 (zl n) ∧ Ext w w' := by
  have hm1 := run_makeL (2 * n) (2 * (n : Int)) (by omega) (by omega)
  have hm2 := run_makeL n (n : Int) rfl (by omega)
  have e1 : IntKind.i64.wrap (2 * (n : Int)) = 2 * (n : Int) := by rw [IntKind.wrap_i64]; omega
  go_enter Tryd.func36, Tryd.ntmps36
  go_wp2_with fail
  go_region
  · go_wp2_with fail
    refine bodyPost_ret (by simp [results, Tryd.results36, go_sem]; try rfl) rfl ?_
    exact ⟨w.heap.size + 1, w.heap.size + 1 + 1, rfl, by omega, by omega, by omega, (lit_lb (w.alloc (.cells #[.slice A n c, .slice (some ⟨w.heap.size + 1, 0, none⟩) (2 * n) (2 * n), .slice (some ⟨w.heap.size + 1 + 1, 0, none⟩) n n] rt)) (zl (2 * n)) (w.heap.size + 1) (by simp)).ext (by (repeat (first | assumption | exact Ext.refl _ | apply Ext.drew | apply Ext.drewN | apply Ext.alloc | refine Ext.trans ?_ (by assumption))); first | done | fail), (lit_lb ((w.alloc (.cells #[.slice A n c, .slice (some ⟨w.heap.size + 1, 0, none⟩) (2 * n) (2 * n), .slice (some ⟨w.heap.size + 1 + 1, 0, none⟩) n n] rt)).alloc (.cells (lv (zl (2 * n))) ut)) (zl n) (w.heap.size + 1 + 1) (by simp)).ext (by (repeat (first | assumption | exact Ext.refl _ | apply Ext.drew | apply Ext.drewN | apply Ext.alloc | refine Ext.trans ?_ (by assumption))); first | done | fail), (by (repeat (first | assumption | exact Ext.refl _ | apply Ext.drew | apply Ext.drewN | apply Ext.alloc | refine Ext.trans ?_ (by assumption))); first | done | fail)⟩
  · go_wp2_with fail
    refine bodyPost_ret (by simp [results, Tryd.results36, go_sem]; try rfl) rfl ?_
    exact ⟨w.heap.size + 1 + 1, w.heap.size + 1, rfl, by omega, by omega, by omega, (lit_lb ((w.alloc (.cells #[.slice A n c, .slice (some ⟨w.heap.size + 1 + 1, 0, none⟩) (2 * n) (2 * n), .slice (some ⟨w.heap.size + 1, 0, none⟩) n n] rt)).alloc (.cells (lv (zl n)) ut)) (zl (2 * n)) (w.heap.size + 1 + 1) (by simp)).ext (by (repeat (first | assumption | exact Ext.refl _ | apply Ext.drew | apply Ext.drewN | apply Ext.alloc | refine Ext.trans ?_ (by assumption))); first | done | fail), (lit_lb (w.alloc (.cells #[.slice A n c, .slice (some ⟨w.heap.size + 1 + 1, 0, none⟩) (2 * n) (2 * n), .slice (some ⟨w.heap.size + 1, 0, none⟩) n n] rt)) (zl n) (w.heap.size + 1) (by simp)).ext (by (repeat (first | assumption | exact Ext.refl _ | apply Ext.drew | apply Ext.drewN | apply Ext.alloc | refine Ext.trans ?_ (by assumption))); first | done | fail), (by (repeat (first | assumption | exact Ext.refl _ | apply Ext.drew | apply Ext.drewN | apply Ext.alloc | refine Ext.trans ?_ (by assumption))); first | done | fail)⟩
set_option maxHeartbeats 1000000 in
theorem take_any {a : List Nat} {A R0 R1 R2 : Option Addr} {n c m0 m1 m2 d0 d1 d2 : Nat} {w : World} (ha : Rd vL w A n c a) (da : Dg BB a) (hn : n ≤ m0) (hm : m0 ≤ 1000000000) :
    Calls Tryd.prog 37 #[.agg #[.slice R0 m0 d0, .slice R1 m1 d1, .slice R2 m2 d2], .slice A n c] w fun e w' => ∃ g out, e = .returned (.slice (some ⟨g, 0, none⟩) m0 m0) ∧ w.heap.size ≤ g ∧ out.length = m0 ∧ Dg BB out ∧ vl BB out = vl BB a ∧ Lb w' g out ∧ Ext w w' := by
  have hla := ha.len
  have hmk := run_makeL m0 (m0 : Int) rfl (by omega)
  obtain ⟨W, hW⟩ : ∃ W, w.alloc (.cells #[.slice R0 m0 d0, .slice R1 m1 d1, .slice R2 m2 d2] rt) = W := ⟨_, rfl⟩
  have hxW : Ext w W := by rw [← hW]; exact (by (repeat (first | assumption | exact Ext.refl _ | apply Ext.drew | apply Ext.drewN | apply Ext.alloc | refine Ext.trans ?_ (by assumption))); first | done | fail)
  have HM := lit_lb W (zl m0) _ rfl
  have HXM : Ext w (W.alloc (.cells (lv (zl m0)) ut)) := hxW.trans (by (repeat (first | assumption | exact Ext.refl _ | apply Ext.drew | apply Ext.drewN | apply Ext.alloc | refine Ext.trans ?_ (by assumption))); first | done | fail)
  have hd := zl_drop m0 n hn
  obtain ⟨w2, z, hcp, hL2, hm2⟩ := run_copy_L (K := a ++ zl (m0 - n)) (cd := m0) 3 HM (zl_len m0) (ha.ext HXM) (by rw [List.take_of_length_le (by omega), hd])
  have hx2 : Ext w w2 := hm2.ext HXM (by simp; have := hxW.size; omega)
  have HF := Kp.mk (show ∃ g out, Ending.returned (.slice (some ⟨W.heap.size, 0, none⟩) m0 m0) = .returned (.slice (some ⟨g, 0, none⟩) m0 m0) ∧ w.heap.size ≤ g ∧ out.length = m0 ∧ Dg BB out ∧ vl BB out = vl BB a ∧ Lb w2 g out ∧ Ext w w2 from
    ⟨_, _, rfl, hxW.size, by rw [List.length_append, zl_len]; omega, da.append (zl_dg _), vl_append0 a _, hL2, hx2⟩)
  clear ha da HM HXM hd hm2 hL2 hx2 hla hn
  generalize zl m0 = Z at *
  go_enter Tryd.func37, Tryd.ntmps37
  have hsz : W.heap.size = w.heap.size + 1 := by rw [← hW]; simp
  rw [hsz] at HF hcp
  clear hsz
  subst hW
  go_wp2_with fail
  go_ret
  exact HF.out
/-- what a product modulo a number leaves in a's place -/
def RMul (w : World) (ga gw gt m V v : Nat) (e : Ending) (w' : World) : Prop :=
  ∃ a LW LT, e = .returned (.tuple #[]) ∧ a.length = m ∧ Dg BB a ∧ vl BB a = v % V ∧ Lb w' ga a ∧ LW.length = 2 * m ∧ Lb w' gw LW ∧ LT.length = m ∧ Dg BB LT ∧ Lb w' gt LT ∧ Mds [ga, gw, gt] w w'
theorem vl_take_low {L : List Nat} {m : Nat} (h : vl BB L < BB ^ m) (hm : m ≤ L.length) : vl BB (L.take m) = vl BB L := by
  have e := congrArg (vl BB) (List.take_append_drop m L)
  rw [vl_append, List.length_take, Nat.min_eq_left hm] at e
  have h0 : vl BB (L.drop m) = 0 := by
    rcases Nat.eq_zero_or_pos (vl BB (L.drop m)) with h1 | h1
    · exact h1
    · have h2 : BB ^ m * 1 ≤ BB ^ m * vl BB (L.drop m) := Nat.mul_le_mul_left _ h1
      omega
  rw [h0, Nat.mul_zero, Nat.add_zero] at e
  exact e
set_option maxHeartbeats 2000000 in
theorem rmul_any {M a b LW LT : List Nat} {ga gw gt m d ca cb : Nat} {R B : Option Addr} {w : World} (hR : Rd vL w R m d M) (dM : Dg BB M) (hm : 2 ≤ m) (ht : dg M (m - 1) ≠ 0) (hlim : m ≤ 1000000)
    (hW : Lb w gw LW) (hWl : LW.length = 2 * m) (hT : Lb w gt LT) (hTl : LT.length = m) (dT : Dg BB LT) (ha : Lb w ga a) (hal : a.length = m) (hca : m ≤ ca) (da : Dg BB a) (hb : Rd vL w B m cb b) (db : Dg BB b)
    (h1 : ga ≠ gw) (h2 : ga ≠ gt) (h3 : gw ≠ gt) (hoB : Out B [gw]) (hoR : Out R [gw, gt]) (hlt : vl BB a * vl BB b < vl BB M * BB ^ m) :
    Calls Tryd.prog 38 #[.agg #[.slice R m d, .slice (some ⟨gw, 0, none⟩) (2 * m) (2 * m), .slice (some ⟨gt, 0, none⟩) m m], .slice (some ⟨ga, 0, none⟩) m ca, .slice B m cb] w (RMul w ga gw gt m (vl BB M) (vl BB a * vl BB b)) := by
  have hbl := hb.len
  obtain ⟨w0, hw0⟩ : ∃ w0, w.alloc (.cells #[.slice R m d, .slice (some ⟨gw, 0, none⟩) (2 * m) (2 * m), .slice (some ⟨gt, 0, none⟩) m m] rt) = w0 := ⟨_, rfl⟩
  have hx0 : Ext w w0 := by rw [← hw0]; exact (by (repeat (first | assumption | exact Ext.refl _ | apply Ext.drew | apply Ext.drewN | apply Ext.alloc | refine Ext.trans ?_ (by assumption))); first | done | fail)
  have C1 := Kp.mk (multiply_any (N := 2 * m) (cN := 2 * m) (hW.ext hx0) hWl (by omega) (Nat.le_refl _) ((ha.whole m ca hal.symm hca).ext hx0) (hb.ext hx0) (fun _ => Out.some (by simpa using h1)) (fun _ => hoB) da db (by omega))
  have HR := Kp.mk (And.intro hR (And.intro dM ht))
  have HT := Kp.mk (And.intro hT (And.intro hTl dT))
  have HA := Kp.mk (And.intro ha hal)
  have HX0 := Kp.mk hx0
  have HLT := Kp.mk hlt
  have HO := Kp.mk hoR
  have HBl := Kp.mk hbl
  have HG := Kp.mk (And.intro hW.lt hT.lt)
  clear hR dM ht hT hTl dT ha hb hW hWl da db hlt hoR hoB hx0 hbl hal
  go_enter Tryd.func38, Tryd.ntmps38
  have hbox : Blk w0 w.heap.size rt #[.slice R m d, .slice (some ⟨gw, 0, none⟩) (2 * m) (2 * m), .slice (some ⟨gt, 0, none⟩) m m] := by rw [← hw0]; exact Blk.new w rt _
  have HBX := Kp.mk hbox
  have hgw := HG.out.1
  have hgt := HG.out.2
  have f1 : w0.cell? ⟨w.heap.size, 1, none⟩ = some (.slice (some ⟨gw, 0, none⟩) (2 * m) (2 * m)) := hbox.h.cell 1
  clear hbox
  subst hw0
  go_wp2_with fail
  refine C1.out.mono ?_
  rintro e w1 ⟨out, rfl, hol, hod, hv, hO1, hm1⟩
  have hbx1 := HBX.out.mds hm1 (by simp; omega)
  have e1 : w1.cell? ⟨w.heap.size, 0, none⟩ = some (.slice R m d) := hbx1.h.cell 0
  have e2 : w1.cell? ⟨w.heap.size, 1, none⟩ = some (.slice (some ⟨gw, 0, none⟩) (2 * m) (2 * m)) := hbx1.h.cell 1
  have e3 : w1.cell? ⟨w.heap.size, 2, none⟩ = some (.slice (some ⟨gt, 0, none⟩) m m) := hbx1.h.cell 2
  rw [HA.out.2, HBl.out] at hol
  have hR1 := (HR.out.1.ext HX0.out).mds hm1 (fun _ => HO.out.mono (by simp))
  have hT1 := (HT.out.1.ext HX0.out).mds hm1 (by simp; omega)
  have hA1 := (HA.out.1.ext HX0.out).mds hm1 (by simpa using h1)
  have C2 := Kp.mk (reduce_any (K := m) (cK := m) (N := 2 * m) (cN := 2 * m) hO1 (by omega) (Nat.le_refl _) hT1 HT.out.2.1 (by omega) h3 hR1 (fun _ => HO.out) hod HT.out.2.2 HR.out.2.1 hm HR.out.2.2 (by omega) (by rw [hv]; exact HLT.out) (by omega))
  rw [hv] at C2
  have HA1 := Kp.mk hA1
  have HB1 := Kp.mk hbx1
  have HM1 := Kp.mk ((HX0.out.mds [gw]).trans hm1)
  clear C1 hol hod hv hO1 hm1 hbx1 hR1 hT1 hA1 f1
  go_wp2_with fail
  refine C2.out.mono ?_
  rintro e w2 ⟨L', T', rfl, hLl, hTl, hLd, hTd, hTv, hLv, hL2, hT2, hm2⟩
  have hbx2 := HB1.out.mds hm2 (by simp; omega)
  have e2' : w2.cell? ⟨w.heap.size, 1, none⟩ = some (.slice (some ⟨gw, 0, none⟩) (2 * m) (2 * m)) := hbx2.h.cell 1
  have hA2 := HA1.out.mds hm2 (by simp; omega)
  obtain ⟨w3, z, hcp, hA3, hm3⟩ := run_copy_L (K := L'.take m) (cd := ca) 3 hA2 HA.out.2 (hL2.whole (2 * m) (2 * m) hLl.symm (Nat.le_refl _)) (by rw [List.drop_eq_nil_of_le (by rw [HA.out.2]; omega), List.append_nil])
  have hvM : vl BB M < BB ^ m := by
    have h := vl_lt (by decide) HR.out.2.1
    rwa [HR.out.1.len] at h
  have hM0 : 0 < vl BB M := by
    have h := top_lo (m := m - 1) (b := M) (by have := HR.out.1.len; omega) HR.out.2.2
    exact Nat.lt_of_lt_of_le (Nat.pow_pos (by decide)) h
  have hlow : vl BB (L'.take m) = vl BB a * vl BB b % vl BB M := by
    rw [vl_take_low (by rw [hLv]; exact Nat.lt_trans (Nat.mod_lt _ hM0) hvM) (by omega), hLv]
  have HF := Kp.mk (show RMul w ga gw gt m (vl BB M) (vl BB a * vl BB b) (.returned (.tuple #[])) w3 from
    ⟨_, L', T', rfl, by rw [List.length_take]; omega, hLd.take m, hlow, hA3, hLl, hL2.mds hm3 (by simpa using fun e => h1 e.symm), hTl, hTd, hT2.mds hm3 (by simpa using fun e => h2 e.symm),
      ((HM1.out.mono (by simp)).trans (hm2.mono (by simp))).trans (hm3.mono (by simp))⟩)
  clear C2 hLl hTl hLd hTd hTv hLv hL2 hT2 hm2 hbx2 hA2 hA3 hm3 hvM hM0 hlow e1 e2 e3
  go_wp2_with fail
  go_end0
  exact HF.out
end Go.Proofs.YtpmoaccaknfodaaDoor
