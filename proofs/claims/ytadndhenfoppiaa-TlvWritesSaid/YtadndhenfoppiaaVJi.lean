/-
  The reference's writer: Close; an error's number.
-/
import Derived.Test.YtadndhenfoppiaaVJh
namespace Go.Proofs.Ytadndhenfoppiaa
open Go Go.RowKit
set_option maxRecDepth 4000

section
variable {w : World} {q : Nat} {G : List Nat}
set_option maxHeartbeats 8000000 in
theorem refClose_any {s : TWs} (h : Rg w q G s) (hv : VW s) (hf : szW s ≤ 10000000000000) : Calls Try.prog 20 #[.pointer (some ⟨q, 0, none⟩)] w (RgR w q G (closeS s)) := by
  cases s with
  | bad k =>
    cases h with
    | @bad vm vb _ h =>
      have hc := fun (w' : World) (hx : Ext w w') => h.cell hx 2
      have hn : ((k : Int) == 0) = false := beq_eq_false_iff_ne.2 (by have := hv.1; omega)
      have hn' : ¬ (k : Int) = 0 := by have := hv.1; omega
      have hn2 : ¬ k = 0 := by have := hv.1; omega
      have H := Kp.mk h
      clear h hv hf
      go_enter Try.func20, Try.ntmps20
      go_wp2_with fail
      refine bodyPost_ret (results_none rfl _ _ _) rfl ?_
      exact ⟨rfl, _, .bad H.out, Mvs.refl _ _⟩
  | ok cur st =>
    cases st with
    | nil =>
      rw [show closeS (.ok cur []) = .bad 17 from rfl]
      cases h with
      | @ok vm vb ts cur st h =>
        obtain ⟨Am, cm, rfl⟩ := h.om.form
        have hc := fun (w' : World) (hx : Ext w w') => h.blk.cell hx 2
        have hc0 : ∀ (w' : World), Ext w w' → w'.cell? ⟨q, 0, none⟩ = some (.slice Am 0 cm) := fun (w' : World) (hx : Ext w w') => h.blk.cell hx 0
        have hfz := fun (w' : World) (hx : Ext w w') => h.blk.free hx 2
        have R : Kp (∀ (w1 : World) (hx : Ext w w1), ∃ G', Rg (w1.setCell ⟨q, 2, none⟩ (.int .i64 ((17 : Nat) : Int))) q G' (.bad 17) ∧ Mvs (fpF q (.slice Am ([] : List (BitVec 8 × List (BitVec 8))).length cm) vb ts) G' w (w1.setCell ⟨q, 2, none⟩ (.int .i64 ((17 : Nat) : Int)))) := ⟨fun (w1 : World) (hx : Ext w w1) => bad_of (h.blk.ext hx) hx (mem_fpF.2 (.inl rfl)) 17⟩
        clear h hv hf
        go_enter Try.func20, Try.ntmps20
        go_wp2_with fail
        refine bodyPost_ret (results_none rfl _ _ _) rfl ?_
        exact ⟨rfl, R.out _ (Ext.refl _)⟩
    | cons x st =>
      obtain ⟨m, out⟩ := x
      rw [show closeS (.ok cur ((m, out) :: st)) = (if cur.length ≤ 65535 then .ok (out ++ elm m cur) st else .bad 4) from rfl]
      have hsl : st.length < 24 := by have := hv.1; rw [List.length_cons] at this; omega
      have hol : out.length ≤ 10000000000000 := by
        have h1 : (flatT cur ((m, out) :: st)).length ≤ 10000000000000 := hf
        rw [flatT_len] at h1
        have := cur_le out st
        omega
      cases h with
      | @ok vm vb ts cur st' h =>
        obtain ⟨Am, cm, rfl⟩ := h.om.form
        obtain ⟨Ab, cb, rfl⟩ := h.ob.form
        rw [List.length_cons] at h ⊢
        have HLS := Kp.mk h.less
        obtain ⟨A0, c0, h0, o0⟩ := h.at2 (st.length + 1) cur (bods_last cur ((m, out) :: st))
        obtain ⟨gm, rfl, _, _⟩ := h.om.some_ (by simp)
        obtain ⟨gb', rfl, _, _⟩ := h.ob.some_ (by simp)
        have hcm : ∀ (w' : World), Ext w w' → w'.cell? ⟨gm, st.length, none⟩ = some (.int .u8 (ub m)) := fun w' hx => by
          have h1 := (h.ext hx).om
          have h2 := h1.cell st.length (by simp)
          rw [show gb (mks ((m, out) :: st)) st.length = m by
            have h3 := mks_last m out st
            unfold gb
            rw [List.getD_eq_getElem?_getD, h3]; rfl] at h2
          exact h2
        have hcb : ∀ (w' : World), Ext w w' → w'.cell? ⟨gb', st.length + 1, none⟩ = some (.slice A0 cur.length c0) := fun w' hx => (h.ext hx).ob.cell (st.length + 1) _ h0
        have hcap1 : st.length + 1 ≤ cm := h.om.bs.cap
        have hcap2 : st.length + 1 + 1 ≤ cb := h.ob.rd.cap
        have AD := Kp.mk (fun (u : World) (G1 : List Nat) (hr : Rg u q G1 (.ok out st)) (hb : Bs u A0 cur.length c0 cur) => add_any (m := m) hr (by omega) hb hol)
        have HB0 := Kp.mk (fun (u : World) (hm : Mds [q] w u) => (o0.rw.mds hm (fun k hk hk2 => o0.rw.ne h.blk (by decide) (by rwa [List.mem_singleton.1 hk2] at hk))).own.bs)
        have hc := fun (w' : World) (hx : Ext w w') => h.blk.cell hx 2
        have hc0 := fun (w' : World) (hx : Ext w w') => h.blk.cell hx 0
        have hc1 := fun (w' : World) (hx : Ext w w') => h.blk.cell hx 1
        have hf0 := fun (w' : World) (hx : Ext w w') => h.blk.free hx 0
        have hf1 := fun (w' : World) (hx : Ext w w') => h.blk.free hx 1
        obtain ⟨D, hD⟩ : ∃ D, st.length = D := ⟨_, rfl⟩
        obtain ⟨K, hK⟩ : ∃ K, D + 1 = K := ⟨_, rfl⟩
        obtain ⟨M, hM⟩ : ∃ M, K + 1 = M := ⟨_, rfl⟩
        obtain ⟨N, hN⟩ : ∃ N, cur.length = N := ⟨_, rfl⟩
        rw [hD] at HLS hcm hcb hcap1 hcap2 ⊢
        simp only [hD] at hc0 hc1
        rw [hK] at HLS hcb hcap1 hcap2 ⊢
        simp only [hK] at hc0 hc1
        rw [hM] at HLS hcap2 ⊢
        simp only [hM] at hc0 hc1
        rw [hN] at hcb AD HB0 ⊢
        have b1 : IntKind.i64.wrap ((K : Int) - 1) = (D : Int) := by rw [IntKind.wrap_i64]; omega
        have b2 : ((K : Int) == 0) = false := beq_eq_false_iff_ne.2 (by omega)
        have b2' : ¬ K = 0 := by omega
        have b3 : (D : Int) < (K : Int) := by omega
        have b4 : (K : Int) < (M : Int) := by omega
        have hs1 := fun W => run_upto (P := Try.prog) (some ⟨gm, 0, none⟩) K cm 23 5 Try.underlying23 szB D (D : Int) rfl (by omega) W
        have hs2 := fun W => run_upto (P := Try.prog) (some ⟨gb', 0, none⟩) M cb 61 23 Try.underlying61 szSl K (K : Int) rfl (by omega) W
        have hm1 : Kp (Mds [q] w ((w.setCell ⟨q, 0, none⟩ (.slice (some ⟨gm, 0, none⟩) D cm)).setCell ⟨q, 1, none⟩ (.slice (some ⟨gb', 0, none⟩) K cb))) := ⟨((Mds.refl [q] w).setCell (p := ⟨q, 0, none⟩) (by simp) _).setCell (p := ⟨q, 1, none⟩) (by simp) _⟩
        clear h h0 o0 hv hf hsl hol hcap1 hcap2 hD hK hM hN
        generalize (if N ≤ 65535 then TWs.ok (out ++ elm m cur) st else TWs.bad 4) = s' at *
        go_enter Try.func20, Try.ntmps20
        go_wp2_with fail
        refine (AD.out _ _ (.ok HLS.out.1) (HB0.out _ hm1.out)).mono ?_
        rintro e w2 ⟨rfl, G2, k1, k2⟩
        go_wp2_with fail
        first | go_end0 | refine bodyPost_ret (results_none rfl _ _ _) rfl ?_
        exact ⟨rfl, G2, k1, HLS.out.2.trans k2⟩
end
set_option maxHeartbeats 2000000 in
/-- an error's number -/
theorem Code_any (n : Nat) (hn : n ≤ 17) (w : World) : Calls Try.prog 23 #[errV n] w fun e w' => e = .returned (.int .i64 (n : Int)) ∧ Ext w w' := by
  unfold errV
  by_cases h0 : n = 0
  · rw [if_pos h0]
    subst h0
    clear hn
    go_enter Try.func23, Try.ntmps23
    go_wp2_with fail
    go_ret
    exact ⟨rfl, (by (repeat (first | assumption | exact Ext.refl _ | apply Ext.drew | apply Ext.drewN | apply Ext.alloc | refine Ext.trans ?_ (by assumption))); first | done | fail)⟩
  · rw [if_neg h0]
    have HN := Kp.mk hn
    have H0 := Kp.mk h0
    clear hn h0
    go_enter Try.func23, Try.ntmps23
    go_wp2_with fail
    go_loopw [3] (fun cv wr => ∃ j : Nat, 1 ≤ j ∧ j ≤ n ∧ cv = .int .i64 (j : Int) ∧ Ext w wr) (fun cv _ => 18 - (intOf cv).toNat)
    case atStart => exact ⟨1, Nat.le_refl _, by have := H0.out; omega, rfl, (by (repeat (first | assumption | exact Ext.refl _ | apply Ext.drew | apply Ext.drewN | apply Ext.alloc | refine Ext.trans ?_ (by assumption))); first | done | fail)⟩
    case round =>
      obtain ⟨j, h1, h2, rfl, hx⟩ := hrel
      have HX := Kp.mk hx
      have b1 : (j : Int) ≤ 17 := by have := HN.out; omega
      have ee := code_eq (n : Int) (j : Int)
      clear hx
      by_cases hj : j = n
      · subst hj
        rw [show ((j : Int) == (j : Int)) = true from beq_self_eq_true _] at ee
        clear h1 h2
        go_wp2_with fail
        go_ret
        exact ⟨rfl, HX.out.trans (by (repeat (first | assumption | exact Ext.refl _ | apply Ext.drew | apply Ext.drewN | apply Ext.alloc | refine Ext.trans ?_ (by assumption))); first | done | fail)⟩
      · rw [show ((n : Int) == (j : Int)) = false from beq_eq_false_iff_ne.2 (by omega)] at ee
        have b2 : IntKind.i64.wrap ((j : Int) + 1) = (j : Int) + 1 := by rw [IntKind.wrap_i64]; omega
        have HJ := Kp.mk (show j + 1 ≤ n by omega)
        have HJ1 := Kp.mk h1
        clear h1 h2 hj
        go_wp2_with fail
        go_roundw
        case rel => exact ⟨j + 1, by omega, HJ.out, by go_num, HX.out.trans (by (repeat (first | assumption | exact Ext.refl _ | apply Ext.drew | apply Ext.drewN | apply Ext.alloc | refine Ext.trans ?_ (by assumption))); first | done | fail)⟩
        case measure => have := HJ.out; have := HN.out; simp [intOf]; omega
end Go.Proofs.Ytadndhenfoppiaa
