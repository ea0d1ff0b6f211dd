/-
  nat: ringOf, take, multiply of a ring; hasBit, bitsOf.
  nat: Cmp.
  nat: Add, Sub, Mul, Div.
  nat: Mul, Sub, Div.
-/
import Derived.Test.YtkdjhklnlnfhfaaGreatDoorM18
import Derived.RegionTactic
import Derived.Test.YtkdjhklnlnfhfaaGreatDoorM16
import Derived.Test.YtkdjhklnlnfhfaaGreatDoorM5
namespace Go.Proofs.YtkdjhklnlnfhfaaGreatDoor
open Go Go.RowKit
set_option maxRecDepth 4000

abbrev rt : TypeId := 240
theorem lit_lb (w : World) (L : List Nat) (g : Nat) (hg : g = w.heap.size) : Lb (w.alloc (.cells (lv L) ut)) g L := by
  subst hg
  exact Lb.new w L
theorem zl_drop (m n : Nat) (_h : n ≤ m) : (zl m).drop n = zl (m - n) := by unfold zl; rw [List.drop_replicate]
theorem ringOf_any {A : Option Addr} {n c : Nat} {w : World} (hn : n ≤ 1000000000) :
    Calls Tryz.prog 212 #[.slice A n c] w fun e w' => ∃ g1 g2, e = .returned (.agg #[.slice A n c, .slice (some ⟨g1, 0, none⟩) (2 * n) (2 * n), .slice (some ⟨g2, 0, none⟩) n n]) ∧ g1 ≠ g2 ∧ w.heap.size ≤ g1 ∧ w.heap.size ≤ g2 ∧ Lb w' g1 (zl (2 * n)) ∧ Lb w' g2 (zl n) ∧ Ext w w' := by
  have hm1 := run_makeL (2 * n) (2 * (n : Int)) (by omega) (by omega)
  have hm2 := run_makeL n (n : Int) rfl (by omega)
  have e1 : IntKind.i64.wrap (2 * (n : Int)) = 2 * (n : Int) := by rw [IntKind.wrap_i64]; omega
  go_enter Tryz.func212, Tryz.ntmps212
  go_wp2_with fail
  go_region
  · go_wp2_with fail
    refine bodyPost_ret (by simp [results, Tryz.results212, go_sem]; try rfl) rfl ?_
    exact ⟨w.heap.size + 1, w.heap.size + 1 + 1, rfl, by omega, by omega, by omega, (lit_lb (w.alloc (.cells #[.slice A n c, .slice (some ⟨w.heap.size + 1, 0, none⟩) (2 * n) (2 * n), .slice (some ⟨w.heap.size + 1 + 1, 0, none⟩) n n] rt)) (zl (2 * n)) (w.heap.size + 1) (by simp)).ext (by (repeat (first | assumption | exact Ext.refl _ | apply Ext.drew | apply Ext.drewN | apply Ext.alloc | refine Ext.trans ?_ (by assumption))); first | done | fail), (lit_lb ((w.alloc (.cells #[.slice A n c, .slice (some ⟨w.heap.size + 1, 0, none⟩) (2 * n) (2 * n), .slice (some ⟨w.heap.size + 1 + 1, 0, none⟩) n n] rt)).alloc (.cells (lv (zl (2 * n))) ut)) (zl n) (w.heap.size + 1 + 1) (by simp)).ext (by (repeat (first | assumption | exact Ext.refl _ | apply Ext.drew | apply Ext.drewN | apply Ext.alloc | refine Ext.trans ?_ (by assumption))); first | done | fail), (by (repeat (first | assumption | exact Ext.refl _ | apply Ext.drew | apply Ext.drewN | apply Ext.alloc | refine Ext.trans ?_ (by assumption))); first | done | fail)⟩
  · go_wp2_with fail
    refine bodyPost_ret (by simp [results, Tryz.results212, go_sem]; try rfl) rfl ?_
    exact ⟨w.heap.size + 1 + 1, w.heap.size + 1, rfl, by omega, by omega, by omega, (lit_lb ((w.alloc (.cells #[.slice A n c, .slice (some ⟨w.heap.size + 1 + 1, 0, none⟩) (2 * n) (2 * n), .slice (some ⟨w.heap.size + 1, 0, none⟩) n n] rt)).alloc (.cells (lv (zl n)) ut)) (zl (2 * n)) (w.heap.size + 1 + 1) (by simp)).ext (by (repeat (first | assumption | exact Ext.refl _ | apply Ext.drew | apply Ext.drewN | apply Ext.alloc | refine Ext.trans ?_ (by assumption))); first | done | fail), (lit_lb (w.alloc (.cells #[.slice A n c, .slice (some ⟨w.heap.size + 1 + 1, 0, none⟩) (2 * n) (2 * n), .slice (some ⟨w.heap.size + 1, 0, none⟩) n n] rt)) (zl n) (w.heap.size + 1) (by simp)).ext (by (repeat (first | assumption | exact Ext.refl _ | apply Ext.drew | apply Ext.drewN | apply Ext.alloc | refine Ext.trans ?_ (by assumption))); first | done | fail), (by (repeat (first | assumption | exact Ext.refl _ | apply Ext.drew | apply Ext.drewN | apply Ext.alloc | refine Ext.trans ?_ (by assumption))); first | done | fail)⟩
set_option maxHeartbeats 1000000 in
theorem take_any {a : List Nat} {A R0 R1 R2 : Option Addr} {n c m0 m1 m2 d0 d1 d2 : Nat} {w : World} (ha : Rd vL w A n c a) (da : Dg BB a) (hn : n ≤ m0) (hm : m0 ≤ 1000000000) :
    Calls Tryz.prog 216 #[.agg #[.slice R0 m0 d0, .slice R1 m1 d1, .slice R2 m2 d2], .slice A n c] w fun e w' => ∃ g out, e = .returned (.slice (some ⟨g, 0, none⟩) m0 m0) ∧ w.heap.size ≤ g ∧ out.length = m0 ∧ Dg BB out ∧ vl BB out = vl BB a ∧ Lb w' g out ∧ Ext w w' := by
  have hla := ha.len
  have hmk := run_makeL m0 (m0 : Int) rfl (by omega)
  obtain ⟨W, hW⟩ : ∃ W, w.alloc (.cells #[.slice R0 m0 d0, .slice R1 m1 d1, .slice R2 m2 d2] rt) = W := ⟨_, rfl⟩
  have hxW : Ext w W := by rw [← hW]; exact (by (repeat (first | assumption | exact Ext.refl _ | apply Ext.drew | apply Ext.drewN | apply Ext.alloc | refine Ext.trans ?_ (by assumption))); first | done | fail)
  have HM := lit_lb W (zl m0) _ rfl
  have HXM : Ext w (W.alloc (.cells (lv (zl m0)) ut)) := hxW.trans (by (repeat (first | assumption | exact Ext.refl _ | apply Ext.drew | apply Ext.drewN | apply Ext.alloc | refine Ext.trans ?_ (by assumption))); first | done | fail)
  have hd := zl_drop m0 n hn
  obtain ⟨w2, z, hcp, hL2, hm2⟩ := run_copy_L (K := a ++ zl (m0 - n)) (cd := m0) 3 HM (zl_len m0) (ha.ext HXM) (by rw [List.take_of_length_le (by omega), hd])
  have hx2 : Ext w w2 := hm2.ext HXM (by simp; have := hxW.size; omega)
  have HF := Kp.mk (show ∃ g out, Ending.returned (.slice (some ⟨W.heap.size, 0, none⟩) m0 m0) = .returned (.slice (some ⟨g, 0, none⟩) m0 m0) ∧ w.heap.size ≤ g ∧ out.length = m0 ∧ Dg BB out ∧ vl BB out = vl BB a ∧ Lb w2 g out ∧ Ext w w2 from
    ⟨_, _, rfl, hxW.size, by rw [List.length_append, zl_len]; omega, da.append (zl_dg _), vl_append0 a _, hL2, hx2⟩)
  clear ha da HM HXM hd hm2 hL2 hx2 hla hn
  generalize zl m0 = Z at *
  go_enter Tryz.func216, Tryz.ntmps216
  have hsz : W.heap.size = w.heap.size + 1 := by rw [← hW]; simp
  rw [hsz] at HF hcp
  clear hsz
  subst hW
  go_wp2_with fail
  go_ret
  exact HF.out
/-- what a product modulo a number leaves in a's place -/
def RMul (w : World) (ga gw gt m V v : Nat) (e : Ending) (w' : World) : Prop :=
  ∃ a LW LT, e = .returned (.tuple #[]) ∧ a.length = m ∧ Dg BB a ∧ vl BB a = v % V ∧ Lb w' ga a ∧ LW.length = 2 * m ∧ Lb w' gw LW ∧ LT.length = m ∧ Dg BB LT ∧ Lb w' gt LT ∧ Mds [ga, gw, gt] w w'
theorem vl_take_low {L : List Nat} {m : Nat} (h : vl BB L < BB ^ m) (hm : m ≤ L.length) : vl BB (L.take m) = vl BB L := by
  have e := congrArg (vl BB) (List.take_append_drop m L)
  rw [vl_append, List.length_take, Nat.min_eq_left hm] at e
  have h0 : vl BB (L.drop m) = 0 := by
    rcases Nat.eq_zero_or_pos (vl BB (L.drop m)) with h1 | h1
    · exact h1
    · have h2 : BB ^ m * 1 ≤ BB ^ m * vl BB (L.drop m) := Nat.mul_le_mul_left _ h1
      omega
  rw [h0, Nat.mul_zero, Nat.add_zero] at e
  exact e
set_option maxHeartbeats 2000000 in
theorem rmul_any {M a b LW LT : List Nat} {ga gw gt m d ca cb : Nat} {R B : Option Addr} {w : World} (hR : Rd vL w R m d M) (dM : Dg BB M) (hm : 2 ≤ m) (ht : dg M (m - 1) ≠ 0) (hlim : m ≤ 1000000)
    (hW : Lb w gw LW) (hWl : LW.length = 2 * m) (hT : Lb w gt LT) (hTl : LT.length = m) (dT : Dg BB LT) (ha : Lb w ga a) (hal : a.length = m) (hca : m ≤ ca) (da : Dg BB a) (hb : Rd vL w B m cb b) (db : Dg BB b)
    (h1 : ga ≠ gw) (h2 : ga ≠ gt) (h3 : gw ≠ gt) (hoB : Out B [gw]) (hoR : Out R [gw, gt]) (hlt : vl BB a * vl BB b < vl BB M * BB ^ m) :
    Calls Tryz.prog 217 #[.agg #[.slice R m d, .slice (some ⟨gw, 0, none⟩) (2 * m) (2 * m), .slice (some ⟨gt, 0, none⟩) m m], .slice (some ⟨ga, 0, none⟩) m ca, .slice B m cb] w (RMul w ga gw gt m (vl BB M) (vl BB a * vl BB b)) := by
  have hbl := hb.len
  obtain ⟨w0, hw0⟩ : ∃ w0, w.alloc (.cells #[.slice R m d, .slice (some ⟨gw, 0, none⟩) (2 * m) (2 * m), .slice (some ⟨gt, 0, none⟩) m m] rt) = w0 := ⟨_, rfl⟩
  have hx0 : Ext w w0 := by rw [← hw0]; exact (by (repeat (first | assumption | exact Ext.refl _ | apply Ext.drew | apply Ext.drewN | apply Ext.alloc | refine Ext.trans ?_ (by assumption))); first | done | fail)
  have C1 := Kp.mk (multiply_any (N := 2 * m) (cN := 2 * m) (hW.ext hx0) hWl (by omega) (Nat.le_refl _) ((ha.whole m ca hal.symm hca).ext hx0) (hb.ext hx0) (fun _ => Out.some (by simpa using h1)) (fun _ => hoB) da db (by omega))
  have HR := Kp.mk (And.intro hR (And.intro dM ht))
  have HT := Kp.mk (And.intro hT (And.intro hTl dT))
  have HA := Kp.mk (And.intro ha hal)
  have HX0 := Kp.mk hx0
  have HLT := Kp.mk hlt
  have HO := Kp.mk hoR
  have HBl := Kp.mk hbl
  have HG := Kp.mk (And.intro hW.lt hT.lt)
  clear hR dM ht hT hTl dT ha hb hW hWl da db hlt hoR hoB hx0 hbl hal
  go_enter Tryz.func217, Tryz.ntmps217
  have hbox : Blk w0 w.heap.size rt #[.slice R m d, .slice (some ⟨gw, 0, none⟩) (2 * m) (2 * m), .slice (some ⟨gt, 0, none⟩) m m] := by rw [← hw0]; exact Blk.new w rt _
  have HBX := Kp.mk hbox
  have hgw := HG.out.1
  have hgt := HG.out.2
  have f1 : w0.cell? ⟨w.heap.size, 1, none⟩ = some (.slice (some ⟨gw, 0, none⟩) (2 * m) (2 * m)) := hbox.h.cell 1
  clear hbox
  subst hw0
  go_wp2_with fail
  refine C1.out.mono ?_
  rintro e w1 ⟨out, rfl, hol, hod, hv, hO1, hm1⟩
  have hbx1 := HBX.out.mds hm1 (by simp; omega)
  have e1 : w1.cell? ⟨w.heap.size, 0, none⟩ = some (.slice R m d) := hbx1.h.cell 0
  have e2 : w1.cell? ⟨w.heap.size, 1, none⟩ = some (.slice (some ⟨gw, 0, none⟩) (2 * m) (2 * m)) := hbx1.h.cell 1
  have e3 : w1.cell? ⟨w.heap.size, 2, none⟩ = some (.slice (some ⟨gt, 0, none⟩) m m) := hbx1.h.cell 2
  rw [HA.out.2, HBl.out] at hol
  have hR1 := (HR.out.1.ext HX0.out).mds hm1 (fun _ => HO.out.mono (by simp))
  have hT1 := (HT.out.1.ext HX0.out).mds hm1 (by simp; omega)
  have hA1 := (HA.out.1.ext HX0.out).mds hm1 (by simpa using h1)
  have C2 := Kp.mk (reduce_any (K := m) (cK := m) (N := 2 * m) (cN := 2 * m) hO1 (by omega) (Nat.le_refl _) hT1 HT.out.2.1 (by omega) h3 hR1 (fun _ => HO.out) hod HT.out.2.2 HR.out.2.1 hm HR.out.2.2 (by omega) (by rw [hv]; exact HLT.out) (by omega))
  rw [hv] at C2
  have HA1 := Kp.mk hA1
  have HB1 := Kp.mk hbx1
  have HM1 := Kp.mk ((HX0.out.mds [gw]).trans hm1)
  clear C1 hol hod hv hO1 hm1 hbx1 hR1 hT1 hA1 f1
  go_wp2_with fail
  refine C2.out.mono ?_
  rintro e w2 ⟨L', T', rfl, hLl, hTl, hLd, hTd, hTv, hLv, hL2, hT2, hm2⟩
  have hbx2 := HB1.out.mds hm2 (by simp; omega)
  have e2' : w2.cell? ⟨w.heap.size, 1, none⟩ = some (.slice (some ⟨gw, 0, none⟩) (2 * m) (2 * m)) := hbx2.h.cell 1
  have hA2 := HA1.out.mds hm2 (by simp; omega)
  obtain ⟨w3, z, hcp, hA3, hm3⟩ := run_copy_L (K := L'.take m) (cd := ca) 3 hA2 HA.out.2 (hL2.whole (2 * m) (2 * m) hLl.symm (Nat.le_refl _)) (by rw [List.drop_eq_nil_of_le (by rw [HA.out.2]; omega), List.append_nil])
  have hvM : vl BB M < BB ^ m := by
    have h := vl_lt (by decide) HR.out.2.1
    rwa [HR.out.1.len] at h
  have hM0 : 0 < vl BB M := by
    have h := top_lo (m := m - 1) (b := M) (by have := HR.out.1.len; omega) HR.out.2.2
    exact Nat.lt_of_lt_of_le (Nat.pow_pos (by decide)) h
  have hlow : vl BB (L'.take m) = vl BB a * vl BB b % vl BB M := by
    rw [vl_take_low (by rw [hLv]; exact Nat.lt_trans (Nat.mod_lt _ hM0) hvM) (by omega), hLv]
  have HF := Kp.mk (show RMul w ga gw gt m (vl BB M) (vl BB a * vl BB b) (.returned (.tuple #[])) w3 from
    ⟨_, L', T', rfl, by rw [List.length_take]; omega, hLd.take m, hlow, hA3, hLl, hL2.mds hm3 (by simpa using fun e => h1 e.symm), hTl, hTd, hT2.mds hm3 (by simpa using fun e => h2 e.symm),
      ((HM1.out.mono (by simp)).trans (hm2.mono (by simp))).trans (hm3.mono (by simp))⟩)
  clear C2 hLl hTl hLd hTd hTv hLv hL2 hT2 hm2 hbx2 hA2 hA3 hm3 hvM hM0 hlow e1 e2 e3
  go_wp2_with fail
  go_end0
  exact HF.out
end Go.Proofs.YtkdjhklnlnfhfaaGreatDoor
namespace Go.Proofs.YtkdjhklnlnfhfaaGreatDoor
open Go Go.RowKit
set_option maxRecDepth 4000

set_option maxHeartbeats 2000000 in
theorem CmpN_any {a b : List Nat} {A B : Option Addr} {n c m d : Nat} {w : World} (ha : Rd vL w A n c a) (hb : Rd vL w B m d b) (da : Dg BB a) (db : Dg BB b) (hn : n ≤ 1000000000) (hm : m ≤ 1000000000) :
    Calls Tryz.prog 121 #[.slice A n c, .slice B m d] w fun e w' => e = .returned (.int .i64 (cmpI (vl BB a) (vl BB b))) ∧ Ext w w' := by
  have C1 := Kp.mk (counted_rd ha da (by omega))
  have C2 := Kp.mk (counted_rd hb db (by omega))
  obtain ⟨va, hva⟩ : ∃ v, vl BB a = v := ⟨_, rfl⟩
  obtain ⟨vb, hvb⟩ : ∃ v, vl BB b = v := ⟨_, rfl⟩
  rw [hva] at C1 ⊢
  rw [hvb] at C2 ⊢
  clear ha hb da db hva hvb
  go_enter Tryz.func121, Tryz.ntmps121
  go_wp2_with fail
  refine C1.out.mono ?_
  rintro e w1 ⟨rfl, l1, r1, rfl⟩
  have R1 : Kp (Rd vL w1 A (nl va) c (dgs BB va)) := Kp.mk r1
  clear r1
  go_wp2_with fail
  refine C2.out.mono ?_
  rintro e w2 ⟨rfl, l2, r2, rfl⟩
  have R2 : Kp (Rd vL w2 B (nl vb) d (dgs BB vb)) := Kp.mk r2
  clear r2 C1 C2
  have ca := Kp.mk (cn_dgs (B := BB) (by decide) va)
  have cb := Kp.mk (cn_dgs (B := BB) (by decide) vb)
  have va1 := Kp.mk (vl_dgs (B := BB) (by decide) va)
  have vb1 := Kp.mk (vl_dgs (B := BB) (by decide) vb)
  have hla : (dgs BB va).length = nl va := rfl
  have hlb : (dgs BB vb).length = nl vb := rfl
  generalize dgs BB va = a at *
  generalize dgs BB vb = b at *
  generalize nl va = N at *
  generalize nl vb = M at *
  rcases Nat.lt_trichotomy N M with hq | hq | hq
  · have q1 : ¬ (N : Int) = (M : Int) := by omega
    have hlt := cn_len_lt (by decide) ca.out cb.out (by omega)
    rw [va1.out, vb1.out] at hlt
    have HC := Kp.mk (Compare_any N M)
    have HE := Kp.mk (show cmpI N M = cmpI va vb by rw [cmpI_lt hlt, cmpI_lt hq])
    generalize cmpI N M = z at *
    clear hlt
    go_wp2_with fail
    refine (HC.out _).mono ?_
    rintro e w3 ⟨rfl, rfl⟩
    go_wp2_with fail
    go_ret
    exact ⟨by rw [HE.out]; rfl, Ext.refl _⟩
  · subst hq
    go_wp2_with fail
    go_loopw [23] (fun iv wr => ∃ i : Nat, i ≤ N ∧ iv = .int .i64 (i : Int) ∧ a.drop (N - i) = b.drop (N - i) ∧ Ext w2 wr) (fun iv _ => N - (intOf iv).toNat)
    case atStart => exact ⟨0, by omega, rfl, by rw [List.drop_eq_nil_of_le (by omega), List.drop_eq_nil_of_le (by omega)], Ext.refl _⟩
    case round =>
      obtain ⟨i, hi, rfl, hdr, hx⟩ := hrel
      by_cases hlt : i < N
      · obtain ⟨p, hp⟩ : ∃ p, N - i = p + 1 := ⟨N - i - 1, by omega⟩
        rw [hp] at hdr
        have HD := Kp.mk hdr
        have e1 : (N : Int) - 1 - (i : Int) = (p : Int) := by omega
        have b0 : (i : Int) < (N : Int) := by omega
        have b1 : (p : Int) < (N : Int) := by omega
        obtain ⟨g1, o1, rfl⟩ := R1.out.some_ (by omega)
        obtain ⟨g2, o2, rfl⟩ := R2.out.some_ (by omega)
        have k1 := (R1.out.ext hx).dig p (by omega)
        have k2 := (R2.out.ext hx).dig p (by omega)
        have m1 := fun (w' : World) (h : Ext wr.drew w') => (R1.out.ext (hx.trans ((Ext.refl wr).drew.trans h))).dig p (by omega)
        have m2 := fun (w' : World) (h : Ext wr.drew w') => (R2.out.ext (hx.trans ((Ext.refl wr).drew.trans h))).dig p (by omega)
        unfold vL at k1 k2 m1 m2
        clear hdr
        rcases Nat.lt_trichotomy (dg a p) (dg b p) with hq | hq | hq
        · have hl := vl_lt_at (by decide) ca.out.d p (by omega) (by omega) HD.out hq
          rw [va1.out, vb1.out] at hl
          have HC := Kp.mk (Compareu_any (dg a p) (dg b p))
          have HE := Kp.mk (show cmpI (dg a p) (dg b p) = cmpI va vb by rw [cmpI_lt hl, cmpI_lt hq])
          have q1 : ((dg a p : Int) != (dg b p : Int)) = true := bne_iff_ne.2 (by omega)
          clear hl hq
          generalize cmpI (dg a p) (dg b p) = z at *
          generalize dg a p = x at *
          generalize dg b p = y at *
          go_wp2_with fail
          go_region
          go_wp2_with fail
          refine wp_region_held_drew (S := fun w' => Ext wr.drew w') (by kernel_rfl) (Ext.refl wr.drew).drew (fun hHeld => ?_)
          refine wpAnyH_take (i := 0) (oi := ⟨some 40, _, _, _, _, _⟩) (v := ?_) rfl (by kernel_rfl) (by kernel_rfl) (by kernel_rfl) (fun _ _ _ h => h) (Or.inl ⟨by rfl, ?_⟩) (by assumption) ?_
          rotate_left
          · (intro w hSw; (try dsimp only at hSw); go_simp; try with_reducible rfl)
          try simp only [Act.put, List.setIfInBounds_toArray, List.set_cons_zero, List.set_cons_succ]
          refine wpAnyH_take (i := 1) (oi := ⟨some 41, _, _, _, _, _⟩) (v := ?_) rfl (by kernel_rfl) (by kernel_rfl) (by kernel_rfl) (fun _ _ _ h => h) (Or.inl ⟨by rfl, ?_⟩) (by assumption) ?_
          rotate_left
          · (intro w hSw; (try dsimp only at hSw); go_simp; try with_reducible rfl)
          try simp only [Act.put, List.setIfInBounds_toArray, List.set_cons_zero, List.set_cons_succ]
          refine wpAnyH_take (i := 2) (oi := ⟨some 42, _, _, _, _, _⟩) (v := ?_) rfl (by kernel_rfl) (by kernel_rfl) (by kernel_rfl) (fun _ _ _ h => h) (Or.inl ⟨by rfl, ?_⟩) (by assumption) ?_
          rotate_left
          · (intro w hSw; (try dsimp only at hSw); go_simp; try with_reducible rfl)
          try simp only [Act.put, List.setIfInBounds_toArray, List.set_cons_zero, List.set_cons_succ]
          refine wpAnyH_take (i := 3) (oi := ⟨some 43, _, _, _, _, _⟩) (v := ?_) rfl (by kernel_rfl) (by kernel_rfl) (by kernel_rfl) (fun _ _ _ h => h) (Or.inl ⟨by rfl, ?_⟩) (by assumption) ?_
          rotate_left
          · (intro w hSw; (try dsimp only at hSw); go_simp; try with_reducible rfl)
          try simp only [Act.put, List.setIfInBounds_toArray, List.set_cons_zero, List.set_cons_succ]
          refine wpAnyH_take (i := 4) (oi := ⟨some 44, _, _, _, _, _⟩) (v := ?_) rfl (by kernel_rfl) (by kernel_rfl) (by kernel_rfl) (fun _ _ _ h => h) (Or.inl ⟨by rfl, ?_⟩) (by assumption) ?_
          rotate_left
          · (intro w hSw; (try dsimp only at hSw); go_simp; try with_reducible rfl)
          try simp only [Act.put, List.setIfInBounds_toArray, List.set_cons_zero, List.set_cons_succ]
          refine wpAnyH_take (i := 5) (oi := ⟨some 45, _, _, _, _, _⟩) (v := ?_) rfl (by kernel_rfl) (by kernel_rfl) (by kernel_rfl) (fun _ _ _ h => h) (Or.inl ⟨by rfl, ?_⟩) (by assumption) ?_
          rotate_left
          · (intro w hSw; (try dsimp only at hSw); go_simp; try with_reducible rfl)
          try simp only [Act.put, List.setIfInBounds_toArray, List.set_cons_zero, List.set_cons_succ]
          refine wpAnyH_take (i := 6) (oi := ⟨some 46, _, _, _, _, _⟩) (v := ?_) rfl (by kernel_rfl) (by kernel_rfl) (by kernel_rfl) (fun _ _ _ h => h) (Or.inl ⟨by rfl, ?_⟩) (by assumption) ?_
          rotate_left
          · (intro w hSw; (try dsimp only at hSw); go_simp; try with_reducible rfl)
          try simp only [Act.put, List.setIfInBounds_toArray, List.set_cons_zero, List.set_cons_succ]
          refine wpAnyH_take (i := 7) (oi := ⟨some 47, _, _, _, _, _⟩) (v := ?_) rfl (by kernel_rfl) (by kernel_rfl) (by kernel_rfl) (fun _ _ _ h => h) (Or.inl ⟨by rfl, ?_⟩) (by assumption) ?_
          rotate_left
          · (intro w hSw; (try dsimp only at hSw); go_simp; try with_reducible rfl)
          try simp only [Act.put, List.setIfInBounds_toArray, List.set_cons_zero, List.set_cons_succ]
          refine next_one 8 (by kernel_rfl) rfl (by rfl) fun K' HK' => ?_
          go_simp
          refine (HC.out _).mono ?_
          rintro e w3 ⟨rfl, hw3⟩
          have hx3 : Ext wr.drew.drew w3 := by rw [hw3]; exact Ext.refl _
          clear hw3
          have hS2 := Ext.trans hHeld hx3
          refine held_go HK' hS2 (fun _ => ?_)
          clear HK'
          refine held_more (S' := fun w' => Ext w3 w') (fun _ h => Ext.trans hS2 h) _ _ _ _ ?_
          clear hHeld hS2
          have hHeld : Ext w3 w3 := Ext.refl _
          try simp only [Act.put, List.setIfInBounds_toArray, List.set_cons_zero, List.set_cons_succ]
          refine wpAnyH_take (i := 9) (oi := ⟨some 4, _, _, _, _, _⟩) (v := ?_) rfl (by kernel_rfl) (by kernel_rfl) (by kernel_rfl) (fun _ _ _ h => h) (Or.inl ⟨by rfl, ?_⟩) (by assumption) ?_
          rotate_left
          · (intro w hSw; (try dsimp only at hSw); go_simp; try with_reducible rfl)
          try simp only [Act.put, List.setIfInBounds_toArray, List.set_cons_zero, List.set_cons_succ]
          refine wpAnyH_done (by kernel_rfl) ?_ _
          go_wp2_with fail
          go_ret
          exact ⟨by rw [HE.out]; rfl, hx.trans ((Ext.refl wr).drew.drew.trans hx3)⟩
        · have HDR := Kp.mk (drop_dg a b p (by omega) (by omega) HD.out hq)
          have q1 : ((dg a p : Int) != (dg b p : Int)) = false := by rw [bne_eq_false_iff_eq]; omega
          clear hq
          generalize dg a p = x at *
          generalize dg b p = y at *
          go_wp2_with fail
          go_region
          go_wp2_with fail
          go_roundw
          case rel => exact ⟨i + 1, by omega, by go_num, by rw [show N - (i + 1) = p by omega]; exact HDR.out, hx.drew⟩
          case measure => simp [intOf]; omega
        · have hl := vl_lt_at (by decide) cb.out.d p (by omega) (by omega) HD.out.symm hq
          rw [va1.out, vb1.out] at hl
          have HC := Kp.mk (Compareu_any (dg a p) (dg b p))
          have HE := Kp.mk (show cmpI (dg a p) (dg b p) = cmpI va vb by rw [cmpI_gt hl, cmpI_gt hq])
          have q1 : ((dg a p : Int) != (dg b p : Int)) = true := bne_iff_ne.2 (by omega)
          clear hl hq
          generalize cmpI (dg a p) (dg b p) = z at *
          generalize dg a p = x at *
          generalize dg b p = y at *
          go_wp2_with fail
          go_region
          go_wp2_with fail
          refine wp_region_held_drew (S := fun w' => Ext wr.drew w') (by kernel_rfl) (Ext.refl wr.drew).drew (fun hHeld => ?_)
          refine wpAnyH_take (i := 0) (oi := ⟨some 40, _, _, _, _, _⟩) (v := ?_) rfl (by kernel_rfl) (by kernel_rfl) (by kernel_rfl) (fun _ _ _ h => h) (Or.inl ⟨by rfl, ?_⟩) (by assumption) ?_
          rotate_left
          · (intro w hSw; (try dsimp only at hSw); go_simp; try with_reducible rfl)
          try simp only [Act.put, List.setIfInBounds_toArray, List.set_cons_zero, List.set_cons_succ]
          refine wpAnyH_take (i := 1) (oi := ⟨some 41, _, _, _, _, _⟩) (v := ?_) rfl (by kernel_rfl) (by kernel_rfl) (by kernel_rfl) (fun _ _ _ h => h) (Or.inl ⟨by rfl, ?_⟩) (by assumption) ?_
          rotate_left
          · (intro w hSw; (try dsimp only at hSw); go_simp; try with_reducible rfl)
          try simp only [Act.put, List.setIfInBounds_toArray, List.set_cons_zero, List.set_cons_succ]
          refine wpAnyH_take (i := 2) (oi := ⟨some 42, _, _, _, _, _⟩) (v := ?_) rfl (by kernel_rfl) (by kernel_rfl) (by kernel_rfl) (fun _ _ _ h => h) (Or.inl ⟨by rfl, ?_⟩) (by assumption) ?_
          rotate_left
          · (intro w hSw; (try dsimp only at hSw); go_simp; try with_reducible rfl)
          try simp only [Act.put, List.setIfInBounds_toArray, List.set_cons_zero, List.set_cons_succ]
          refine wpAnyH_take (i := 3) (oi := ⟨some 43, _, _, _, _, _⟩) (v := ?_) rfl (by kernel_rfl) (by kernel_rfl) (by kernel_rfl) (fun _ _ _ h => h) (Or.inl ⟨by rfl, ?_⟩) (by assumption) ?_
          rotate_left
          · (intro w hSw; (try dsimp only at hSw); go_simp; try with_reducible rfl)
          try simp only [Act.put, List.setIfInBounds_toArray, List.set_cons_zero, List.set_cons_succ]
          refine wpAnyH_take (i := 4) (oi := ⟨some 44, _, _, _, _, _⟩) (v := ?_) rfl (by kernel_rfl) (by kernel_rfl) (by kernel_rfl) (fun _ _ _ h => h) (Or.inl ⟨by rfl, ?_⟩) (by assumption) ?_
          rotate_left
          · (intro w hSw; (try dsimp only at hSw); go_simp; try with_reducible rfl)
          try simp only [Act.put, List.setIfInBounds_toArray, List.set_cons_zero, List.set_cons_succ]
          refine wpAnyH_take (i := 5) (oi := ⟨some 45, _, _, _, _, _⟩) (v := ?_) rfl (by kernel_rfl) (by kernel_rfl) (by kernel_rfl) (fun _ _ _ h => h) (Or.inl ⟨by rfl, ?_⟩) (by assumption) ?_
          rotate_left
          · (intro w hSw; (try dsimp only at hSw); go_simp; try with_reducible rfl)
          try simp only [Act.put, List.setIfInBounds_toArray, List.set_cons_zero, List.set_cons_succ]
          refine wpAnyH_take (i := 6) (oi := ⟨some 46, _, _, _, _, _⟩) (v := ?_) rfl (by kernel_rfl) (by kernel_rfl) (by kernel_rfl) (fun _ _ _ h => h) (Or.inl ⟨by rfl, ?_⟩) (by assumption) ?_
          rotate_left
          · (intro w hSw; (try dsimp only at hSw); go_simp; try with_reducible rfl)
          try simp only [Act.put, List.setIfInBounds_toArray, List.set_cons_zero, List.set_cons_succ]
          refine wpAnyH_take (i := 7) (oi := ⟨some 47, _, _, _, _, _⟩) (v := ?_) rfl (by kernel_rfl) (by kernel_rfl) (by kernel_rfl) (fun _ _ _ h => h) (Or.inl ⟨by rfl, ?_⟩) (by assumption) ?_
          rotate_left
          · (intro w hSw; (try dsimp only at hSw); go_simp; try with_reducible rfl)
          try simp only [Act.put, List.setIfInBounds_toArray, List.set_cons_zero, List.set_cons_succ]
          refine next_one 8 (by kernel_rfl) rfl (by rfl) fun K' HK' => ?_
          go_simp
          refine (HC.out _).mono ?_
          rintro e w3 ⟨rfl, hw3⟩
          have hx3 : Ext wr.drew.drew w3 := by rw [hw3]; exact Ext.refl _
          clear hw3
          have hS2 := Ext.trans hHeld hx3
          refine held_go HK' hS2 (fun _ => ?_)
          clear HK'
          refine held_more (S' := fun w' => Ext w3 w') (fun _ h => Ext.trans hS2 h) _ _ _ _ ?_
          clear hHeld hS2
          have hHeld : Ext w3 w3 := Ext.refl _
          try simp only [Act.put, List.setIfInBounds_toArray, List.set_cons_zero, List.set_cons_succ]
          refine wpAnyH_take (i := 9) (oi := ⟨some 4, _, _, _, _, _⟩) (v := ?_) rfl (by kernel_rfl) (by kernel_rfl) (by kernel_rfl) (fun _ _ _ h => h) (Or.inl ⟨by rfl, ?_⟩) (by assumption) ?_
          rotate_left
          · (intro w hSw; (try dsimp only at hSw); go_simp; try with_reducible rfl)
          try simp only [Act.put, List.setIfInBounds_toArray, List.set_cons_zero, List.set_cons_succ]
          refine wpAnyH_done (by kernel_rfl) ?_ _
          go_wp2_with fail
          go_ret
          exact ⟨by rw [HE.out]; rfl, hx.trans ((Ext.refl wr).drew.drew.trans hx3)⟩
      · obtain rfl : i = N := by omega
        rw [Nat.sub_self, List.drop_zero, List.drop_zero] at hdr
        have hvv : va = vb := by rw [← va1.out, ← vb1.out, hdr]
        have HE := Kp.mk (show (0 : Int) = cmpI va vb by rw [hvv, cmpI_eq])
        clear hdr hvv
        go_wp2_with fail
        go_ret
        exact ⟨by rw [← HE.out]; rfl, hx⟩
  · have q1 : ¬ (N : Int) = (M : Int) := by omega
    have hlt := cn_len_lt (by decide) cb.out ca.out (by omega)
    rw [va1.out, vb1.out] at hlt
    have HC := Kp.mk (Compare_any N M)
    have HE := Kp.mk (show cmpI N M = cmpI va vb by rw [cmpI_gt hlt, cmpI_gt hq])
    generalize cmpI N M = z at *
    clear hlt
    go_wp2_with fail
    refine (HC.out _).mono ?_
    rintro e w3 ⟨rfl, rfl⟩
    go_wp2_with fail
    go_ret
    exact ⟨by rw [HE.out]; rfl, Ext.refl _⟩
end Go.Proofs.YtkdjhklnlnfhfaaGreatDoor
namespace Go.Proofs.YtkdjhklnlnfhfaaGreatDoor
open Go Go.RowKit
set_option maxRecDepth 4000

instance (v : Nat) : Decidable (lng v) := inferInstanceAs (Decidable (64 < nl v))
theorem lit_sl (w : World) (t : TypeId) (xs : List Sli) (cs : Array Value) (h : cs = (xs.map eS).toArray) (n : Nat) (hn : xs.length = n) (hm : n ≤ maxLen) : Rd eS (w.alloc (.cells cs t)) (some ⟨w.heap.size, 0, none⟩) n n xs := by
  subst h
  exact (Rw.has (B := 0) (T := t) (Has.new w t _ _ rfl) hn (Nat.zero_le _) hm).rd
theorem anyLong_at (w : World) (t : TypeId) (xs : List Sli) (cs : Array Value) (h : cs = (xs.map eS).toArray) (n : Nat) (hn : xs.length = n) (hm : n ≤ 3) (hx : ∀ s ∈ xs, SliOk w s) (b : Bool) (hb : b = true ↔ ∃ s ∈ xs, lng (vl BB s.l)) :
    Calls Tryz.prog 169 #[.slice (some ⟨w.heap.size, 0, none⟩) n n] (w.alloc (.cells cs t)) fun e w' => e = .returned (.bool b) ∧ w' = w.alloc (.cells cs t) := by
  refine (anyLong_any (lit_sl w t xs cs h n hn (by unfold maxLen; omega)) (by omega) (fun s hs => (hx s hs).ext (by (repeat (first | assumption | exact Ext.refl _ | apply Ext.drew | apply Ext.drewN | apply Ext.alloc | refine Ext.trans ?_ (by assumption))); first | done | fail))).mono ?_
  rintro e w' ⟨b', rfl, hb', rfl⟩
  refine ⟨?_, rfl⟩
  rw [Bool.eq_iff_iff.2 (hb'.trans hb.symm)]
/-- a number that is handed in -/
structure In1 (w : World) (A : Option Addr) (n c : Nat) (a : List Nat) : Prop where
  r : Rd vL w A n c a
  d : Dg BB a
  n : n ≤ 1000000
theorem In1.ok {w : World} {A : Option Addr} {n c : Nat} {a : List Nat} (h : In1 w A n c a) : SliOk w ⟨A, n, c, a⟩ := ⟨h.r, h.d, by have := h.n; show n ≤ 1000000000000; omega⟩
theorem In1.ext {w w' : World} {A : Option Addr} {n c : Nat} {a : List Nat} (h : In1 w A n c a) (hx : Ext w w') : In1 w' A n c a := ⟨h.r.ext hx, h.d, h.n⟩
theorem In1.counted {w : World} {A : Option Addr} {n c : Nat} {a : List Nat} (h : In1 w A n c a) :
    Calls Tryz.prog 165 #[.slice A n c] w fun e w' => e = .returned (.slice A (nl (vl BB a)) c) ∧ nl (vl BB a) ≤ n ∧ Rd vL w A (nl (vl BB a)) c (dgs BB (vl BB a)) ∧ w' = w := counted_rd h.r h.d (by have := h.n; omega)
/-- an error of a code alone; a number and no error -/
def Bad1 (w : World) (k : Int) (e : Ending) (w' : World) : Prop := e = .returned (.tuple #[.slice none 0 0, err k]) ∧ Ext w w'
def Ok1 (w : World) (v : Nat) (e : Ending) (w' : World) : Prop := ∃ A n c, e = .returned (.tuple #[.slice A n c, .nilIface]) ∧ Rw ut vL w' w.heap.size (.slice A n c) n (dgs BB v) ∧ Ext w w'
def Bad2 (w : World) (k : Int) (e : Ending) (w' : World) : Prop := e = .returned (.tuple #[.slice none 0 0, .slice none 0 0, err k]) ∧ Ext w w'
def Ok2 (w : World) (q r : Nat) (e : Ending) (w' : World) : Prop :=
  ∃ A n c A' n' c', e = .returned (.tuple #[.slice A n c, .slice A' n' c', .nilIface]) ∧ Rw ut vL w' w.heap.size (.slice A n c) n (dgs BB q) ∧ Rw ut vL w' w.heap.size (.slice A' n' c') n' (dgs BB r) ∧ Ext w w'
section
variable {w : World} {A B : Option Addr} {n c m d : Nat} {a b : List Nat}
theorem two_long (ha : In1 w A n c a) (hb : In1 w B m d b) (h : lng (vl BB a) ∨ lng (vl BB b)) :
    Calls Tryz.prog 169 #[.slice (some ⟨w.heap.size, 0, none⟩) 2 2] (w.alloc (.cells #[.slice A n c, .slice B m d] nt)) fun e w' => e = .returned (.bool true) ∧ w' = w.alloc (.cells #[.slice A n c, .slice B m d] nt) :=
  anyLong_at w nt [⟨A, n, c, a⟩, ⟨B, m, d, b⟩] _ rfl 2 rfl (by omega) (by simp [ha.ok, hb.ok]) true (by simpa using h)
theorem two_short (ha : In1 w A n c a) (hb : In1 w B m d b) (h1 : ¬ lng (vl BB a)) (h2 : ¬ lng (vl BB b)) :
    Calls Tryz.prog 169 #[.slice (some ⟨w.heap.size, 0, none⟩) 2 2] (w.alloc (.cells #[.slice A n c, .slice B m d] nt)) fun e w' => e = .returned (.bool false) ∧ w' = w.alloc (.cells #[.slice A n c, .slice B m d] nt) :=
  anyLong_at w nt [⟨A, n, c, a⟩, ⟨B, m, d, b⟩] _ rfl 2 rfl (by omega) (by simp [ha.ok, hb.ok]) false (by simp [h1, h2])
end
end Go.Proofs.YtkdjhklnlnfhfaaGreatDoor
namespace Go.Proofs.YtkdjhklnlnfhfaaGreatDoor
open Go Go.RowKit
set_option maxRecDepth 4000

theorem nl_mono {a b : Nat} (h : a ≤ b) : nl a ≤ nl b := by
  rcases Nat.lt_or_ge (nl b) (nl a) with h1 | h1
  · have := cn_len_lt (B := BB) (by decide) (cn_dgs (by decide) b) (cn_dgs (by decide) a) h1
    rw [vl_dgs (by decide), vl_dgs (by decide)] at this
    omega
  · exact h1
section
variable {w : World} {A B : Option Addr} {n c m d : Nat} {a b : List Nat}
end
end Go.Proofs.YtkdjhklnlnfhfaaGreatDoor
