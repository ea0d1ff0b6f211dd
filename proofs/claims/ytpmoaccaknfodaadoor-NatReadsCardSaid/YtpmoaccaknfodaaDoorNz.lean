/-
  nat: divide.
-/
import Derived.Test.YtpmoaccaknfodaaDoorNy
namespace Go.Proofs.YtpmoaccaknfodaaDoor
open Go Go.RowKit

theorem nl_eq {V L : Nat} (h1 : BB ^ L ≤ V) (h2 : V < BB ^ (L + 1)) : nl V = L + 1 := by
  have hc := cn_dgs (B := BB) (by decide) V
  have hv := vl_dgs (B := BB) (by decide) V
  have a1 := vl_lt (by decide) hc.d
  rw [hv] at a1
  have hne : dgs BB V ≠ [] := fun e => by
    have h3 := (dgs_nil (by decide) V).1 e
    have h4 : 0 < BB ^ L := Nat.pow_pos (by decide)
    omega
  have a2 := cn_lo (by decide) hc hne
  rw [hv] at a2
  show (dgs BB V).length = L + 1
  have hn : 0 < (dgs BB V).length := List.length_pos_iff.2 hne
  generalize (dgs BB V).length = M at *
  have c1 : L < M := by
    rcases Nat.lt_or_ge L M with h | h
    · exact h
    · have := Nat.pow_le_pow_right (n := BB) (by decide) h
      omega
  have c2 : M - 1 < L + 1 := by
    rcases Nat.lt_or_ge (M - 1) (L + 1) with h | h
    · exact h
    · have := Nat.pow_le_pow_right (n := BB) (by decide) h
      omega
  omega
/-- what is asked of a number to divide by -/
theorem top_lo {b : List Nat} {m : Nat} (hl : b.length = m + 1) (ht : dg b m ≠ 0) : BB ^ m ≤ vl BB b := by
  have h1 := vl_split BB b m (by omega)
  have h3 : BB ^ m * 1 ≤ BB ^ m * (dg b m + BB * vl BB (b.drop (m + 1))) := Nat.mul_le_mul_left _ (by omega)
  omega
theorem top_hi {b : List Nat} {m x : Nat} (hl : b.length = m + 1) (db : Dg BB b) (hx : x < 32) (ht : dg b m * 2 ^ x < 4294967296) : vl BB b * 2 ^ x < BB ^ (m + 1) := by
  have h1 := vl_split BB b m (by omega)
  rw [List.drop_eq_nil_of_le (by omega)] at h1
  simp only [vl, Nat.mul_zero, Nat.add_zero] at h1
  have h2 := vl_lt (by decide) (db.take m)
  rw [List.length_take, Nat.min_eq_left (by omega)] at h2
  have e : (4294967296 : Nat) = 2 ^ (32 - x) * 2 ^ x := by rw [← Nat.pow_add, show 32 - x + x = 32 by omega]
  have h3 : dg b m < 2 ^ (32 - x) := by
    rw [e] at ht
    exact Nat.lt_of_mul_lt_mul_right ht
  have h4 : vl BB b < BB ^ m * (dg b m + 1) := by rw [Nat.mul_succ]; omega
  have h5 : BB ^ m * (dg b m + 1) ≤ BB ^ m * 2 ^ (32 - x) := Nat.mul_le_mul_left _ h3
  have h6 : vl BB b * 2 ^ x < BB ^ m * 2 ^ (32 - x) * 2 ^ x := Nat.mul_lt_mul_of_pos_right (by omega) (Nat.pow_pos (by decide))
  rw [Nat.mul_assoc, ← e] at h6
  rw [Nat.pow_succ]
  exact h6
theorem shift_nl {b : List Nat} {m k x s : Nat} (hl : b.length = m + 1) (db : Dg BB b) (ht : dg b m ≠ 0) (hs : s = 32 * k + x) (hx : x < 32) (hh : dg b m * 2 ^ x < 4294967296) : nl (vl BB b * 2 ^ s) = m + k + 1 := by
  have h1 := top_lo hl ht
  have h2 := top_hi hl db hx hh
  have e : (2 : Nat) ^ s = 2 ^ x * BB ^ k := by rw [hs, Nat.add_comm, Nat.pow_add, Nat.pow_mul]
  rw [e, ← Nat.mul_assoc]
  refine nl_eq ?_ ?_
  · rw [Nat.pow_add]
    refine Nat.mul_le_mul_right _ (Nat.le_trans h1 ?_)
    exact Nat.le_mul_of_pos_right _ (Nat.pow_pos (by decide))
  · rw [show m + k + 1 = m + 1 + k by omega, Nat.pow_add]
    exact Nat.mul_lt_mul_of_pos_right h2 (Nat.pow_pos (by decide))
/-- what a call leaves that makes two numbers -/
def FreshL2 (w : World) (q r : Nat) (e : Ending) (w' : World) : Prop :=
  ∃ A n c A' n' c', e = .returned (.tuple #[.slice A n c, .slice A' n' c']) ∧ Rw ut vL w' w.heap.size (.slice A n c) n (dgs BB q) ∧ Rw ut vL w' w.heap.size (.slice A' n' c') n' (dgs BB r) ∧ Ext w w'
theorem top_dgs {V : Nat} (hV : V ≠ 0) : dg (dgs BB V) (nl V - 1) ≠ 0 := by
  have hc := cn_dgs (B := BB) (by decide) V
  have hne : dgs BB V ≠ [] := fun e => hV ((dgs_nil (by decide) V).1 e)
  have hn : 0 < (dgs BB V).length := List.length_pos_iff.2 hne
  intro e
  refine hc.t ?_
  rw [List.getLast?_eq_getElem?, dg_in _ _ (by omega)]
  exact congrArg some e
set_option maxHeartbeats 2000000 in
theorem divide_any {a b : List Nat} {A B : Option Addr} {n c m d : Nat} {w : World} (ha : Rd vL w A n c a) (hb : Rd vL w B (m + 1) d b) (da : Dg BB a) (db : Dg BB b) (hn : n ≤ 100000000) (hm : m ≤ 100000000) (ht : dg b m ≠ 0) :
    Calls Tryd.prog 20 #[.slice A n c, .slice B (m + 1) d] w (FreshL2 w (vl BB a / vl BB b) (vl BB a % vl BB b)) := by
  have hla := ha.len
  have hlb := hb.len
  have HA := Kp.mk ha
  have HB := Kp.mk hb
  have DA := Kp.mk da
  have DB := Kp.mk db
  have HT := Kp.mk ht
  have HH := Kp.mk (headroom_any hb db (by omega) ht (by omega))
  clear ha hb da db ht
  go_enter Tryd.func20, Tryd.ntmps20
  go_wp2_with fail
  refine HH.out.mono ?_
  rintro e w1 ⟨s, k, x, rfl, hs, hx, hk, hh, hm1, hm2, rfl⟩
  have HS := Kp.mk (And.intro hs (And.intro hh (And.intro hm1 hm2)))
  obtain ⟨N, hN⟩ : ∃ N, n + k + 1 = N := ⟨_, rfl⟩
  obtain ⟨M1, hM1⟩ : ∃ M1, m + 1 + k + 1 = M1 := ⟨_, rfl⟩
  obtain ⟨M, hM⟩ : ∃ M, m + k + 1 = M := ⟨_, rfl⟩
  obtain ⟨K, hK⟩ : ∃ K, K = N - M := ⟨_, rfl⟩
  obtain ⟨V, hV⟩ : ∃ V, vl BB b * 2 ^ s = V := ⟨_, rfl⟩
  have C1 := Kp.mk (shiftUp_any HA.out DA.out hs hx (by omega) hk)
  have C2 := Kp.mk (fun w' (h : Ext w1 w') => shiftUp_any (HB.out.ext h) DB.out hs hx (by omega) hk)
  rw [hN] at C1
  rw [hM1, hV] at C2
  have hnl : nl V = M := by rw [← hV, ← hM]; exact shift_nl hlb DB.out HT.out hs hx hh
  have hVlo : BB ^ (M - 1) ≤ V := by
    rw [← hV, ← hM, Nat.add_sub_cancel, hs, Nat.pow_add, Nat.pow_add, Nat.pow_mul, show (2 : Nat) ^ 32 = BB from rfl]
    have h1 := top_lo hlb HT.out
    have h2 : BB ^ m * (BB ^ k * 1) ≤ vl BB b * (BB ^ k * 2 ^ x) := Nat.mul_le_mul h1 (Nat.mul_le_mul_left _ (Nat.pow_pos (by decide)))
    rwa [Nat.mul_one] at h2
  have hb0 : 0 < vl BB b := Nat.lt_of_lt_of_le (Nat.pow_pos (by decide)) (top_lo hlb HT.out)
  have hvlt : vl BB a * 2 ^ s < V * BB ^ K := by
    have h1 := vl_lt (by decide) DA.out
    rw [hla] at h1
    have h2 : BB ^ n ≤ vl BB b * BB ^ K := by
      have h3 : BB ^ n ≤ BB ^ m * BB ^ K := by rw [← Nat.pow_add]; exact Nat.pow_le_pow_right (by decide) (by omega)
      exact Nat.le_trans h3 (Nat.mul_le_mul_right _ (top_lo hlb HT.out))
    rw [← hV, Nat.mul_right_comm]
    exact Nat.mul_lt_mul_of_pos_right (by omega) (Nat.pow_pos (by decide))
  have hM2 : 2 ≤ M := by
    by_cases h : m = 0
    · have := hm1 (by omega); omega
    · omega
  have hs0 : 0 < 2 ^ s := Nat.pow_pos (by decide)
  have HV := Kp.mk (And.intro hnl (And.intro hVlo (And.intro hvlt (And.intro hV (And.intro hb0 hs0)))))
  have HN := Kp.mk (And.intro hN (And.intro hM (And.intro hM1 hK)))
  have HS := Kp.mk (And.intro hs (And.intro hx hk))
  have hNb : N ≤ 100000002 := by omega
  have hMb : M ≤ 100000002 := by omega
  have hM1b : M1 ≤ 100000003 := by omega
  have q3 : max (0 : Int) ((N : Int) - (M : Int)) = (K : Int) := by omega
  have hmk := run_makeL K (K : Int) rfl (by omega)
  clear HH hs hh hm1 hm2 hN hM hM1 hnl hVlo hvlt hV hK
  go_wp2_with fail
  refine C1.out.mono ?_
  rintro e w2 ⟨L, rfl, hLl, hLd, hLv, hL2, hx2⟩
  have HL := Kp.mk (And.intro hLl (And.intro hLd (And.intro hLv (And.intro hL2 hx2))))
  clear hLl hLd hLv hL2
  go_wp2_with fail
  refine (C2.out w2 hx2).mono ?_
  rintro e w3 ⟨P, rfl, hPl, hPd, hPv, hP3, hx3⟩
  have C3 := Kp.mk (counted_own (B := w2.heap.size) (hP3.own (Nat.le_refl _) hPl (by unfold maxLen; omega)) hPd (by omega))
  rw [hPv, HV.out.1] at C3
  have HX3 := Kp.mk (And.intro hx3 hP3.lt)
  clear hPl hPd hPv hP3 C1 C2
  go_wp2_with fail
  refine C3.out.mono ?_
  rintro e w4 ⟨rfl, _, hPo, rfl⟩
  have hL4 : Lb (w4.alloc (.cells (lv (zl K)) ut)) w1.heap.size L := HL.out.2.2.2.1.ext (HX3.out.1.trans (by (repeat (first | assumption | exact Ext.refl _ | apply Ext.drew | apply Ext.drewN | apply Ext.alloc | refine Ext.trans ?_ (by assumption))); first | done | fail))
  have hlt1 : w1.heap.size < w2.heap.size := HL.out.2.2.2.1.lt
  have hlt2 : w2.heap.size < w4.heap.size := HX3.out.2
  have C4 := Kp.mk (reduce_any (K := K) (cK := K) (cN := N) hL4 HL.out.1 (Nat.le_refl _) (Lb.new w4 (zl K)) (zl_len K) HN.out.2.2.2 (by omega) (hPo.rd.ext (by (repeat (first | assumption | exact Ext.refl _ | apply Ext.drew | apply Ext.drewN | apply Ext.alloc | refine Ext.trans ?_ (by assumption))); first | done | fail)) (fun _ => Out.some (by simp; omega)) HL.out.2.1 (zl_dg K) (cn_dgs (by decide) V).d hM2
    (by have := top_dgs (V := V) (by have := HV.out.2.1; have h4 : 0 < BB ^ (M - 1) := Nat.pow_pos (by decide); omega); rwa [HV.out.1] at this) (by omega) (by rw [HL.out.2.2.1, vl_dgs (by decide)]; exact HV.out.2.2.1) (by omega))
  rw [HL.out.2.2.1, vl_dgs (B := BB) (by decide)] at C4
  have HXA := Kp.mk (show Ext w1 (w4.alloc (.cells (lv (zl K)) ut)) from (hx2.trans HX3.out.1).trans (by (repeat (first | assumption | exact Ext.refl _ | apply Ext.drew | apply Ext.drewN | apply Ext.alloc | refine Ext.trans ?_ (by assumption))); first | done | fail))
  clear hL4 hPo
  generalize zl K = Z at *
  go_wp2_with fail
  refine C4.out.mono ?_
  rintro e w5 ⟨L', T', rfl, hLl, hTl, hLd, hTd, hTv, hLv, hL5, hT5, hm5⟩
  have hx5 : Ext w1 w5 := hm5.ext HXA.out (by simp; omega)
  obtain ⟨_, _, _, hV, hb0, hs0⟩ := HV.out
  have hqv : vl BB T' = vl BB a / vl BB b := by rw [hTv, ← hV, Nat.mul_div_mul_right _ _ hs0]
  have hrv : vl BB L' / 2 ^ s = vl BB a % vl BB b := by rw [hLv, ← hV, Nat.mul_mod_mul_right, Nat.mul_div_cancel _ hs0]
  have C5 := Kp.mk (counted_own (B := w1.heap.size) (hT5.own (by omega) hTl (by unfold maxLen; omega)) hTd (by omega))
  have C6 := Kp.mk (shiftDown_any (n := N) (c := N) (Lb.whole hL5 N N hLl.symm (Nat.le_refl _)) hLd HS.out.1 HS.out.2.1 (by omega) HS.out.2.2)
  rw [hqv] at C5
  rw [hrv] at C6
  have HX5 := Kp.mk hx5
  clear hLl hTl hLd hTd hTv hLv hL5 hT5 hm5 hqv hrv C4 hx5 HV hV hb0 hs0
  go_wp2_with fail
  refine C5.out.mono ?_
  rintro e w6 ⟨rfl, _, hQo, rfl⟩
  have HQO := Kp.mk hQo
  clear hQo
  go_wp2_with fail
  refine C6.out.mono ?_
  rintro e w7 ⟨A7, n7, c7, rfl, hRo, hx7⟩
  have HF := Kp.mk (show FreshL2 w1 (vl BB a / vl BB b) (vl BB a % vl BB b) (.returned (.tuple #[.slice (some ⟨w4.heap.size, 0, none⟩) (nl (vl BB a / vl BB b)) K, .slice A7 n7 c7])) w7 from
    ⟨_, _, _, _, _, _, rfl, HQO.out.ext hx7, hRo.lower HX5.out.size, HX5.out.trans hx7⟩)
  clear hRo hx7
  go_wp2_with fail
  go_ret2
  exact HF.out
end Go.Proofs.YtpmoaccaknfodaaDoor
