/-
  The reference's writer: Put, Open, Close, whatever it holds.
-/
import Derived.Test.YtadndhenfoppiaaVJg
import Derived.Test.YtadndhenfoppiaaM11
namespace Go.Proofs.Ytadndhenfoppiaa
open Go Go.RowKit
set_option maxRecDepth 4000

section
variable {w : World} {q : Nat} {m : BitVec 8} {b : List (BitVec 8)} {A : Option Addr} {n c : Nat} {G : List Nat}
theorem cur_le (cur : List (BitVec 8)) (st : List (BitVec 8 × List (BitVec 8))) : cur.length ≤ (flatT cur st).length := by rw [flatT_eq, List.length_append]; omega
theorem part_cases (m : BitVec 8) (h : isP m = false) : mkB m = false ∨ (mkB m = true ∧ whB m = true) := by
  unfold isP at h
  cases h1 : mkB m <;> cases h2 : whB m <;> simp [h1, h2] at h ⊢
theorem part_true (m : BitVec 8) (h : isP m = true) : mkB m = true ∧ whB m = false := by
  unfold isP at h
  cases h1 : mkB m <;> cases h2 : whB m <;> simp [h1, h2] at h ⊢
theorem whole_cases (m : BitVec 8) (h : isW m = false) : mkB m = false ∨ (mkB m = true ∧ whB m = false) := by
  unfold isW at h
  cases h1 : mkB m <;> cases h2 : whB m <;> simp [h1, h2] at h ⊢
theorem whole_true (m : BitVec 8) (h : isW m = true) : mkB m = true ∧ whB m = true := by
  unfold isW at h
  cases h1 : mkB m <;> cases h2 : whB m <;> simp [h1, h2] at h ⊢
set_option maxHeartbeats 4000000 in
theorem refPut_any {s : TWs} (h : Rg w q G s) (hv : VW s) (hbs : Bs w A n c b) (hf : szW s ≤ 10000000000000) : Calls Try.prog 16 #[.pointer (some ⟨q, 0, none⟩), .int .u8 (ub m), .slice A n c] w (RgR w q G (putS m b s)) := by
  cases s with
  | bad k =>
    cases h with
    | @bad vm vb _ h =>
      have hc := fun (w' : World) (hx : Ext w w') => h.cell hx 2
      have hn : ((k : Int) == 0) = false := beq_eq_false_iff_ne.2 (by have := hv.1; omega)
      have hn' : ¬ (k : Int) = 0 := by have := hv.1; omega
      have hn2 : ¬ k = 0 := by have := hv.1; omega
      have H := Kp.mk h
      clear h hbs hf hv
      go_enter Try.func16, Try.ntmps16
      go_wp2_with fail
      refine bodyPost_ret (results_none rfl _ _ _) rfl ?_
      exact ⟨rfl, _, .bad H.out, Mvs.refl _ _⟩
  | ok cur st =>
    cases hm : isP m with
    | false =>
      rw [show putS m b (.ok cur st) = .bad 1 by simp [putS, hm]]
      cases h with
      | @ok vm vb ts cur st h =>
        have hc := fun (w' : World) (hx : Ext w w') => h.blk.cell hx 2
        have hfz := fun (w' : World) (hx : Ext w w') => h.blk.free hx 2
        have R := Kp.mk (fun (w1 : World) (hx : Ext w w1) => bad_of (G := fpF q vm vb ts) (h.blk.ext hx) hx (mem_fpF.2 (.inl rfl)) 1)
        clear h hbs hf hv
        rcases part_cases m hm with hk | ⟨hk, hw⟩
        · go_enter Try.func16, Try.ntmps16
          go_wp2_with fail
          refine (refMark_any m false hk _).mono ?_
          rintro e w1 ⟨rfl, rfl⟩
          go_wp2_with fail
          refine bodyPost_ret (results_none rfl _ _ _) rfl ?_
          exact ⟨rfl, R.out _ (Ext.refl _)⟩
        · go_enter Try.func16, Try.ntmps16
          go_wp2_with fail
          refine (refMark_any m true hk _).mono ?_
          rintro e w1 ⟨rfl, rfl⟩
          go_wp2_with fail
          refine (refIsWhole_any m true hw _).mono ?_
          rintro e w1' ⟨rfl, rfl⟩
          go_wp2_with fail
          refine bodyPost_ret (results_none rfl _ _ _) rfl ?_
          exact ⟨rfl, R.out _ (Ext.refl _)⟩
    | true =>
      rw [show putS m b (.ok cur st) = (if b.length ≤ 65535 then .ok (cur ++ elm m b) st else .bad 4) by simp [putS, hm]]
      have C := Kp.mk (add_any (m := m) h (by have := hv.1; omega) hbs (Nat.le_trans (cur_le cur st) hf))
      obtain ⟨hk, hw⟩ := part_true m hm
      generalize (if b.length ≤ 65535 then TWs.ok (cur ++ elm m b) st else TWs.bad 4) = s' at *
      cases h with
      | @ok vm vb ts cur st h =>
        have hc := fun (w' : World) (hx : Ext w w') => h.blk.cell hx 2
        clear h hbs hf hv
        go_enter Try.func16, Try.ntmps16
        go_wp2_with fail
        refine (refMark_any m true hk _).mono ?_
        rintro e w1 ⟨rfl, rfl⟩
        go_wp2_with fail
        refine (refIsWhole_any m false hw _).mono ?_
        rintro e w1' ⟨rfl, rfl⟩
        go_wp2_with fail
        refine C.out.mono ?_
        rintro e w2 ⟨rfl, hg⟩
        go_wp2_with fail
        first | go_end0 | refine bodyPost_ret (results_none rfl _ _ _) rfl ?_
        exact ⟨rfl, hg⟩
set_option maxHeartbeats 8000000 in
theorem refOpen_any {s : TWs} (h : Rg w q G s) (hv : VW s) : Calls Try.prog 18 #[.pointer (some ⟨q, 0, none⟩), .int .u8 (ub m)] w (RgR w q G (openS m s)) := by
  cases s with
  | bad k =>
    cases h with
    | @bad vm vb _ h =>
      have hc := fun (w' : World) (hx : Ext w w') => h.cell hx 2
      have hn : ((k : Int) == 0) = false := beq_eq_false_iff_ne.2 (by have := hv.1; omega)
      have hn' : ¬ (k : Int) = 0 := by have := hv.1; omega
      have hn2 : ¬ k = 0 := by have := hv.1; omega
      have H := Kp.mk h
      clear h hv
      go_enter Try.func18, Try.ntmps18
      go_wp2_with fail
      refine bodyPost_ret (results_none rfl _ _ _) rfl ?_
      exact ⟨rfl, _, .bad H.out, Mvs.refl _ _⟩
  | ok cur st =>
    cases hm : isW m with
    | false =>
      rw [show openS m (.ok cur st) = .bad 1 by simp [openS, hm]]
      cases h with
      | @ok vm vb ts cur st h =>
        have hc := fun (w' : World) (hx : Ext w w') => h.blk.cell hx 2
        have hfz := fun (w' : World) (hx : Ext w w') => h.blk.free hx 2
        have R := Kp.mk (fun (w1 : World) (hx : Ext w w1) => bad_of (G := fpF q vm vb ts) (h.blk.ext hx) hx (mem_fpF.2 (.inl rfl)) 1)
        clear h hv
        rcases whole_cases m hm with hk | ⟨hk, hw⟩
        · go_enter Try.func18, Try.ntmps18
          go_wp2_with fail
          refine (refMark_any m false hk _).mono ?_
          rintro e w1 ⟨rfl, rfl⟩
          go_wp2_with fail
          refine bodyPost_ret (results_none rfl _ _ _) rfl ?_
          exact ⟨rfl, R.out _ (Ext.refl _)⟩
        · go_enter Try.func18, Try.ntmps18
          go_wp2_with fail
          refine (refMark_any m true hk _).mono ?_
          rintro e w1 ⟨rfl, rfl⟩
          go_wp2_with fail
          refine (refIsWhole_any m false hw _).mono ?_
          rintro e w1' ⟨rfl, rfl⟩
          go_wp2_with fail
          refine bodyPost_ret (results_none rfl _ _ _) rfl ?_
          exact ⟨rfl, R.out _ (Ext.refl _)⟩
    | true =>
      obtain ⟨hk, hw⟩ := whole_true m hm
      by_cases hl : st.length < 24
      · rw [show openS m (.ok cur st) = .ok [] ((m, cur) :: st) by simp [openS, hm, hl]]
        cases h with
        | @ok vm vb ts cur st h =>
          obtain ⟨Am, cm, rfl⟩ := h.om.form
          obtain ⟨Ab, cb, rfl⟩ := h.ob.form
          have hc := fun (w' : World) (hx : Ext w w') => h.blk.cell hx 2
          have hc0 := fun (w' : World) (hx : Ext w w') => h.blk.cell hx 0
          have hml := mks_len st
          obtain ⟨D, hD⟩ : ∃ D, st.length = D := ⟨_, rfl⟩
          obtain ⟨ms, hms⟩ : ∃ ms, mks st = ms := ⟨_, rfl⟩
          obtain ⟨M, hM⟩ : ∃ M, D + 1 = M := ⟨_, rfl⟩
          have MO := Kp.mk (fun (u w1 w2 w3 : World) (vm' vb' : Value) (x0 : Ext w u) (a1 : Apd u w1 (.slice Am D cm) vm') (o1 : Own w1 0 vm' (D + 1) (ms ++ [m])) (x2 : Ext (w1.setCell ⟨q, 0, none⟩ vm') w2) (a3 : Apd w2 w3 (.slice Ab M cb) vb') (o3 : Rw 23 eSl w3 0 vb' (M + 1) (ts ++ [(none, 0, 0)])) => (by subst hD hms hM; exact (h.ext x0).more a1 o1 x2 a3 o3 : Rf (w3.setCell ⟨q, 1, none⟩ vb') q vm' vb' (ts ++ [(none, 0, 0)]) [] ((m, cur) :: st) ∧ Mvs (fpF q (.slice Am D cm) (.slice Ab M cb) ts) (fpF q vm' vb' (ts ++ [(none, 0, 0)])) u (w3.setCell ⟨q, 1, none⟩ vb')))
          have HOM : Kp (Own w 0 (.slice Am D cm) D ms) := ⟨by subst hD hms; exact h.om⟩
          have HOB : Kp (Rw 23 eSl w 0 (.slice Ab M cb) M ts) := ⟨by subst hD hM; exact h.ob⟩
          have HBL : Kp (Blk w q rwt #[.slice Am D cm, .slice Ab M cb, .int .i64 0]) := ⟨by subst hD hM; exact h.blk⟩
          rw [hD] at hc hc0 hl ⊢
          rw [hM] at hc hc0 ⊢
          have b1 : decide ((24 : Int) ≤ (D : Int)) = false := decide_eq_false (by omega)
          have b1' : decide (24 ≤ D) = false := decide_eq_false (by omega)
          have b2 : D + 1 ≤ 140737488355328 := by omega
          have b3 : (M + 1) * 24 ≤ 140737488355328 := by omega
          clear h hml hD hms hM hv hl
          go_enter Try.func18, Try.ntmps18
          go_wp2_with fail
          refine (refMark_any m true hk _).mono ?_
          rintro e w1 ⟨rfl, rfl⟩
          go_wp2_with fail
          refine (refIsWhole_any m true hw _).mono ?_
          rintro e w1' ⟨rfl, rfl⟩
          have XL : Kp (Ext w1' (w1'.alloc (.cells #[.int .u8 (ub m)] 5))) := ⟨(by (repeat (first | assumption | exact Ext.refl _ | apply Ext.drew | apply Ext.drewN | apply Ext.alloc | refine Ext.trans ?_ (by assumption))); first | done | fail)⟩
          go_wp2_with (first | ((with_reducible refine at_call_to 36 ?_); refine wpList_append_m rfl (.tmp 33) (.tmp 35) rfl (.slice Am D cm) D ms rfl (HOM.out.ext XL.out) _ 1 1 [m] rfl (one_bs _ m) b2 (D + 1) rfl (ms ++ [m]) rfl ?_; intro A4 c4 w4 o4 a4; have A4K := Kp.mk a4; have O4K := Kp.mk o4; have B4 := Kp.mk ((HBL.out.ext XL.out).mds a4.mds ((HOM.out.ext XL.out).rw.ne (HBL.out.ext XL.out) (by decide))); have c40 := B4.out.h.cell 0; have c41 := B4.out.h.cell 1; have f40 := B4.out.h.frozen 0; have f41 := B4.out.h.frozen 1; have B6 : Kp (Blk (w4.setCell ⟨q, 0, none⟩ (.slice A4 (D + 1) c4)) q rwt #[(.slice A4 (D + 1) c4), .slice Ab M cb, .int .i64 0]) := ⟨B4.out.set_ 0 _⟩; have O6 : Kp (Rw 23 eSl (w4.setCell ⟨q, 0, none⟩ (.slice A4 (D + 1) c4)) 0 (.slice Ab M cb) M ts) := ⟨((HOB.out.ext XL.out).mds a4.mds ((HOB.out.ext XL.out).apart (HOM.out.ext XL.out).rw (by decide))).far (p := ⟨q, 0, none⟩) (fun e => (HOB.out.ext XL.out).ne (HBL.out.ext XL.out) (by decide) (mem_fpv.2 e)) _⟩; clear o4 a4) | ((with_reducible refine at_call_to 45 ?_); refine wpList_append_r 61 (.slice none 0 0) 24 Try.underlying61 inR rfl (by decide) eSl_one rfl (.tmp 43) (.tmp 44) rfl (.slice Ab M cb) M ts rfl (O6.out.ext (by (repeat (first | assumption | exact Ext.refl _ | apply Ext.drew | apply Ext.drewN | apply Ext.alloc | refine Ext.trans ?_ (by assumption))); first | done | fail)) _ 1 1 [(none, 0, 0)] rfl (lit_rd _ none 0 0 _ (by simp)) b3 (M + 1) rfl (ts ++ [(none, 0, 0)]) rfl ?_; intro A5 c5 w5 o5 a5; have A5K := Kp.mk a5; have O5K := Kp.mk o5; have B5 := Kp.mk ((B6.out.ext (by (repeat (first | assumption | exact Ext.refl _ | apply Ext.drew | apply Ext.drewN | apply Ext.alloc | refine Ext.trans ?_ (by assumption))); first | done | fail)).mds a5.mds ((O6.out.ext (by (repeat (first | assumption | exact Ext.refl _ | apply Ext.drew | apply Ext.drewN | apply Ext.alloc | refine Ext.trans ?_ (by assumption))); first | done | fail)).ne (B6.out.ext (by (repeat (first | assumption | exact Ext.refl _ | apply Ext.drew | apply Ext.drewN | apply Ext.alloc | refine Ext.trans ?_ (by assumption))); first | done | fail)) (by decide))); have c51 := B5.out.h.cell 1; have f51 := B5.out.h.frozen 1; clear o5 a5) | fail)
          first | go_end0 | refine bodyPost_ret (results_none rfl _ _ _) rfl ?_
          have h5 := MO.out _ _ _ _ _ _ XL.out A4K.out O4K.out ((by (repeat (first | assumption | exact Ext.refl _ | apply Ext.drew | apply Ext.drewN | apply Ext.alloc | refine Ext.trans ?_ (by assumption))); first | done | fail)) A5K.out O5K.out
          exact ⟨rfl, _, .ok h5.1, h5.2.pre XL.out⟩
      · rw [show openS m (.ok cur st) = .bad 5 by simp [openS, hm, hl]]
        cases h with
        | @ok vm vb ts cur st h =>
          obtain ⟨Am, cm, rfl⟩ := h.om.form
          have hc := fun (w' : World) (hx : Ext w w') => h.blk.cell hx 2
          have hc0 := fun (w' : World) (hx : Ext w w') => h.blk.cell hx 0
          have hfz := fun (w' : World) (hx : Ext w w') => h.blk.free hx 2
          have R := Kp.mk (fun (w1 : World) (hx : Ext w w1) => bad_of (G := fpF q (.slice Am st.length cm) vb ts) (h.blk.ext hx) hx (mem_fpF.2 (.inl rfl)) 5)
          have b1 : (24 : Int) ≤ (st.length : Int) := by omega
          have b1' : 24 ≤ st.length := by omega
          generalize st.length = D at *
          clear h hv hl
          go_enter Try.func18, Try.ntmps18
          go_wp2_with fail
          refine (refMark_any m true hk _).mono ?_
          rintro e w1 ⟨rfl, rfl⟩
          go_wp2_with fail
          refine (refIsWhole_any m true hw _).mono ?_
          rintro e w1' ⟨rfl, rfl⟩
          go_wp2_with fail
          refine bodyPost_ret (results_none rfl _ _ _) rfl ?_
          exact ⟨rfl, R.out _ (Ext.refl _)⟩
end
end Go.Proofs.Ytadndhenfoppiaa
