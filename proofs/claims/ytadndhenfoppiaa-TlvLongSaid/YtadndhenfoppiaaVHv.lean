/-
  tlv's reader: Enter.
-/
import Derived.Test.YtadndhenfoppiaaVHu
namespace Go.Proofs.Ytadndhenfoppiaa
open Go Go.RowKit
set_option maxRecDepth 4000

/-- what stands there, and what stands behind, both turned -/
theorem Rt.both {w w' : World} {p : Nat} {ds : List Nat} {A A' : Option Addr} {n c n' c' : Nat} {vb vb' : Value} {rest rest' : List (BitVec 8)} {ts ts' : List (Option Addr × Nat × Nat)} {bs bs' : List (List (BitVec 8))} (h : Rt w p ds A n c vb rest ts bs)
    (hr : Bs w A' n' c' rest') (hi : In A' n' ds) (hm : Mvs (fpv vb) (fpv vb') w w') (ho : Rw 23 eSl w' 0 vb' ts'.length ts') (hlen : ts'.length = bs'.length)
    (he : ∀ (j : Nat) (t : Option Addr × Nat × Nat) (l : List (BitVec 8)), ts'[j]? = some t → bs'[j]? = some l → Bs w t.1 t.2.1 t.2.2 l ∧ In t.1 t.2.1 ds) :
    Rt ((w'.setCell ⟨p, 0, none⟩ (.slice A' n' c')).setCell ⟨p, 1, none⟩ vb') p ds A' n' c' vb' rest' ts' bs' ∧ Mvs (fpR p vb ds) (fpR p vb' ds) w ((w'.setCell ⟨p, 0, none⟩ (.slice A' n' c')).setCell ⟨p, 1, none⟩ vb') := by
  have hm2 : Mds (p :: fpv vb) w ((w'.setCell ⟨p, 0, none⟩ (.slice A' n' c')).setCell ⟨p, 1, none⟩ vb') := ((hm.m.mono fun k hk => List.mem_cons_of_mem _ hk).setCell (p := ⟨p, 0, none⟩) (by simp) _).setCell (p := ⟨p, 1, none⟩) (by simp) _
  have h1 := h.blk.mds hm.m (h.bo.ne h.blk (by decide))
  have hne : vb'.ownBlock ≠ some p := fun e => ho.ne h1 (by decide) (mem_fpv.2 e)
  refine ⟨⟨(h1.set_ 0 _).set_ 1 _, hr.mds hm2 (hi.off h.apd), hi, (ho.far (p := ⟨p, 0, none⟩) hne _).far (p := ⟨p, 1, none⟩) hne _, hlen, fun j t l h2 h3 => ?_, fun k hk hk2 => ?_, h.hid.mono hm2.size⟩, hm2.mono fun k hk => ?_, fun k hk => ?_⟩
  · obtain ⟨h4, h5⟩ := he j t l h2 h3
    exact ⟨h4.mds hm2 (h5.off h.apd), h5⟩
  · rcases List.mem_cons.1 hk2 with e | e
    · exact h.apd k hk (e ▸ by simp)
    · rcases hm.f k e with e2 | e2
      · exact h.apd k hk (List.mem_cons_of_mem _ e2)
      · have := h.hid k hk; omega
  · rcases List.mem_cons.1 hk with e | e
    · exact mem_fpR.2 (.inl e)
    · exact mem_fpR.2 (.inr (.inl e))
  · rcases mem_fpR.1 hk with e | e | e
    · exact .inl (mem_fpR.2 (.inl e))
    · rcases hm.f k e with e2 | e2
      · exact .inl (mem_fpR.2 (.inr (.inl e2)))
      · exact .inr e2
    · exact .inl (mem_fpR.2 (.inr (.inr e)))
theorem lit_rd (w : World) (A : Option Addr) (n c g : Nat) (hg : g = w.heap.size) : Rd eSl (w.alloc (.cells #[.slice A n c] 23)) (some ⟨g, 0, none⟩) 1 1 [(A, n, c)] := by
  subst hg
  refine ⟨rfl, Nat.le_refl _, (fun e => by cases e), fun _ => ⟨w.heap.size, 0, rfl, fun j y hj => ?_⟩⟩
  have hj0 : j = 0 := by have := (List.getElem?_eq_some_iff.1 hj).1; simp at this; exact this
  subst hj0
  obtain rfl : (A, n, c) = y := by simpa using hj
  exact (Blk.new w 23 #[.slice A n c]).h.cell 0
section
variable {w : World} {p : Nat} {m : BitVec 8} {G : List Nat} {rest : List (BitVec 8)} {bs : List (List (BitVec 8))}
set_option maxHeartbeats 2000000 in
theorem Enter_err (h : Rr w p G rest bs) (hx : rest.length ≤ 1000000000000) (he : ¬ (isW m = true ∧ ∃ x r, El rest m x r)) : Calls Try.prog 28 #[.pointer (some ⟨p, 0, none⟩), .int .u8 (ub m)] w fun e w' => e = .returned (err (erC rest m)) ∧ Ext w w' := by
  have C := Kp.mk (marked_bad (m := m) (isW m) h hx he)
  generalize erC rest m = k at *
  obtain ⟨kd, hk⟩ : ∃ kd, isW m = kd := ⟨_, rfl⟩
  rw [hk] at C
  clear h hx he
  go_enter Try.func28, Try.ntmps28
  go_wp2_with (first | (go_at_call 36; refine (isWhole_any m kd hk _).mono ?_; rintro e w1 ⟨rfl, rfl⟩) | (go_at_call 39; refine C.out.mono ?_; rintro e w2 ⟨rfl, hx2⟩; have HX2 := Kp.mk hx2; have HN2 := Kp.mk (Blk.new w2 elt #[.slice none 0 0, .slice none 0 0, .slice none 0 0]); clear hx2) | ((with_reducible refine at_store 5 13 ?_); refine wpList_store_row rfl elt _ _ rfl w2.heap.size #[.slice none 0 0, .slice none 0 0, .slice none 0 0] rfl rfl elt _ HN2.out.h szEl rfl (one_three _ _ _ _ _ _ _ _ _) ?_) | fail)
  go_ret
  exact ⟨rfl, HX2.out.trans (Ext.setRow ((by (repeat (first | assumption | exact Ext.refl _ | apply Ext.drew | apply Ext.drewN | apply Ext.alloc | refine Ext.trans ?_ (by assumption))); first | done | fail) : Ext w2 (w2.alloc (.cells #[.slice none 0 0, .slice none 0 0, .slice none 0 0] elt))) (Nat.le_refl _) _)⟩
set_option maxHeartbeats 4000000 in
theorem Enter_deep {x r : List (BitVec 8)} (h : Rr w p G rest bs) (hx : rest.length ≤ 1000000000000) (hm : isW m = true) (he : El rest m x r) (hd : 24 ≤ bs.length) : Calls Try.prog 28 #[.pointer (some ⟨p, 0, none⟩), .int .u8 (ub m)] w fun e w' => e = .returned (err 5) ∧ Ext w w' := by
  obtain ⟨ds, A, n, c, vb, ts, h, rfl⟩ := h
  have C := Kp.mk (marked_ok h hx he)
  obtain ⟨Ab, cb, rfl⟩ := h.bo.form
  have hln := h.len
  obtain ⟨M, hM⟩ : ∃ M, ts.length = M := ⟨_, rfl⟩
  have hc1 := fun (w' : World) (hx : Ext w w') => h.blk.cell hx 1
  rw [hM] at hln hc1
  have b1 : (24 : Int) ≤ (M : Int) := by omega
  have b1' : 24 ≤ M := by omega
  clear h hx he hln hM hd
  go_enter Try.func28, Try.ntmps28
  go_wp2_with (first | (go_at_call 36; refine (isWhole_any m true hm _).mono ?_; rintro e w1 ⟨rfl, rfl⟩) | (go_at_call 39; refine C.out.mono ?_; rintro e w2 ⟨A1, n1, c1, A2, n2, c2, A3, n3, c3, rfl, q1, q2, q3, j1, j2, j3, hx2⟩; have HX2 := Kp.mk hx2; have HN2 := Kp.mk (Blk.new w2 elt #[.slice none 0 0, .slice none 0 0, .slice none 0 0]); have HN3 := Kp.mk ((Blk.new w2 elt #[.slice none 0 0, .slice none 0 0, .slice none 0 0]).row #[.slice A1 n1 c1, .slice A2 n2 c2, .slice A3 n3 c3]); have HY3 := Kp.mk (Ext.setRow ((by (repeat (first | assumption | exact Ext.refl _ | apply Ext.drew | apply Ext.drewN | apply Ext.alloc | refine Ext.trans ?_ (by assumption))); first | done | fail) : Ext w2 (w2.alloc (.cells #[.slice none 0 0, .slice none 0 0, .slice none 0 0] elt))) (Nat.le_refl _) #[.slice A1 n1 c1, .slice A2 n2 c2, .slice A3 n3 c3]); have Q2 := Kp.mk q2; have Q3 := Kp.mk q3; have J2 := Kp.mk j2; have J3 := Kp.mk j3; clear q1 q2 q3 j1 j2 j3 hx2) | ((with_reducible refine at_store 5 13 ?_); refine wpList_store_row rfl elt _ _ rfl w2.heap.size #[.slice A1 n1 c1, .slice A2 n2 c2, .slice A3 n3 c3] rfl rfl elt _ HN2.out.h szEl rfl (one_three _ _ _ _ _ _ _ _ _) ?_; generalize (w2.alloc (.cells #[.slice none 0 0, .slice none 0 0, .slice none 0 0] elt)).setRow w2.heap.size #[.slice A1 n1 c1, .slice A2 n2 c2, .slice A3 n3 c3] = w3 at *; have HX3 := Kp.mk (HX2.out.trans HY3.out); have hc31 := hc1 w3 HX3.out) | fail)
  go_ret
  exact ⟨rfl, HX3.out⟩
set_option maxHeartbeats 4000000 in
theorem Enter_ok {x r : List (BitVec 8)} (h : Rr w p G rest bs) (hx : rest.length ≤ 1000000000000) (hm : isW m = true) (he : El rest m x r) (hd : bs.length < 24) : Calls Try.prog 28 #[.pointer (some ⟨p, 0, none⟩), .int .u8 (ub m)] w fun e w' => e = .returned .nilIface ∧ ∃ G', Rr w' p G' x (bs ++ [r]) ∧ Mvs G G' w w' := by
  obtain ⟨ds, A, n, c, vb, ts, h, rfl⟩ := h
  have C := Kp.mk (marked_ok h hx he)
  obtain ⟨Ab, cb, rfl⟩ := h.bo.form
  have hln := h.len
  obtain ⟨M, hM⟩ : ∃ M, ts.length = M := ⟨_, rfl⟩
  rw [hM] at h hln ⊢
  have hc1 := fun (w' : World) (hx : Ext w w') => h.blk.cell hx 1
  have hlo : ∀ (w3 : World), Ext w w3 → ∀ (w' : World), Mds (fpv (.slice Ab M cb)) w3 w' → Blk w' p rdt #[.slice A n c, .slice Ab M cb] := fun w3 hx w' hm => (h.ext hx).blk.mds hm ((h.ext hx).bo.ne (h.ext hx).blk (by decide))
  have b1 : decide ((24 : Int) ≤ (M : Int)) = false := decide_eq_false (by omega)
  have b2 : decide (24 ≤ M) = false := decide_eq_false (by omega)
  have b3 : (M + 1) * 24 ≤ 140737488355328 := by omega
  have H := Kp.mk h
  have HM := Kp.mk hM
  have HLN := Kp.mk hln
  have HLO := Kp.mk hlo
  have HFP : Kp (∀ k, k ∈ fpv (.slice Ab M cb) → k < w.heap.size) := ⟨h.bo.fp_lt⟩
  clear h hx he hln hM hd hlo
  go_enter Try.func28, Try.ntmps28
  go_wp2_with (first | (go_at_call 36; refine (isWhole_any m true hm _).mono ?_; rintro e w1 ⟨rfl, rfl⟩) | (go_at_call 39; refine C.out.mono ?_; rintro e w2 ⟨A1, n1, c1, A2, n2, c2, A3, n3, c3, rfl, q1, q2, q3, j1, j2, j3, hx2⟩; have HX2 := Kp.mk hx2; have HN2 := Kp.mk (Blk.new w2 elt #[.slice none 0 0, .slice none 0 0, .slice none 0 0]); have HN3 := Kp.mk ((Blk.new w2 elt #[.slice none 0 0, .slice none 0 0, .slice none 0 0]).row #[.slice A1 n1 c1, .slice A2 n2 c2, .slice A3 n3 c3]); have HY3 := Kp.mk (Ext.setRow ((by (repeat (first | assumption | exact Ext.refl _ | apply Ext.drew | apply Ext.drewN | apply Ext.alloc | refine Ext.trans ?_ (by assumption))); first | done | fail) : Ext w2 (w2.alloc (.cells #[.slice none 0 0, .slice none 0 0, .slice none 0 0] elt))) (Nat.le_refl _) #[.slice A1 n1 c1, .slice A2 n2 c2, .slice A3 n3 c3]); have Q2 := Kp.mk q2; have Q3 := Kp.mk q3; have J2 := Kp.mk j2; have J3 := Kp.mk j3; clear q1 q2 q3 j1 j2 j3 hx2) | ((with_reducible refine at_store 5 13 ?_); refine wpList_store_row rfl elt _ _ rfl w2.heap.size #[.slice A1 n1 c1, .slice A2 n2 c2, .slice A3 n3 c3] rfl rfl elt _ HN2.out.h szEl rfl (one_three _ _ _ _ _ _ _ _ _) ?_; generalize (w2.alloc (.cells #[.slice none 0 0, .slice none 0 0, .slice none 0 0] elt)).setRow w2.heap.size #[.slice A1 n1 c1, .slice A2 n2 c2, .slice A3 n3 c3] = w3 at *; have HX3 := Kp.mk (HX2.out.trans HY3.out); have hc31 := hc1 w3 HX3.out) | fail)
  have hl0 := fun (w' : World) (hm : Mds (fpv (.slice Ab M cb)) w3 w') => (HLO.out w3 HX3.out w' hm).h.cell 0
  have hl1 := fun (w' : World) (hm : Mds (fpv (.slice Ab M cb)) w3 w') => (HLO.out w3 HX3.out w' hm).h.cell 1
  have hfe : w2.heap.size ∉ fpv (.slice Ab M cb) := fun hk => Nat.lt_irrefl _ (Nat.lt_of_lt_of_le (HFP.out _ hk) HX2.out.size)
  have he1 := fun (w' : World) (hm : Mds (fpv (.slice Ab M cb)) w3 w') => (HN3.out.mds hm hfe).h.cell 1
  have he2 := fun (w' : World) (hm : Mds (fpv (.slice Ab M cb)) w3 w') => (HN3.out.mds hm hfe).h.cell 2
  refine wp_region_R (st := fun s => s == 14 || s == 17) (R := fun w' => Mds (fpv (.slice Ab M cb)) w3 w') (by kernel_rfl) (Mds.refl _ _).drew (fun hR => ?_)
  refine wpAnyR_take0 (i := 0) (oi := ⟨some 25, _, _, _, _, _⟩) (v := ?_) rfl (by kernel_rfl) (by kernel_rfl) (by kernel_rfl) rfl (fun _ _ _ h => h) (Or.inl ⟨by rfl, ?_⟩) (by first | exact .inr (by assumption) | exact .inl (by kernel_rfl)) ?_
  rotate_left
  · (intro w hSw; (try dsimp only at hSw); go_simp; try with_reducible rfl)
  try simp only [Act.put, List.setIfInBounds_toArray, List.set_cons_zero, List.set_cons_succ]
  refine wpAnyR_take0 (i := 1) (oi := ⟨some 26, _, _, _, _, _⟩) (v := ?_) rfl (by kernel_rfl) (by kernel_rfl) (by kernel_rfl) rfl (fun _ _ _ h => h) (Or.inl ⟨by rfl, ?_⟩) (by first | exact .inr (by assumption) | exact .inl (by kernel_rfl)) ?_
  rotate_left
  · (intro w hSw; (try dsimp only at hSw); go_simp; try with_reducible rfl)
  try simp only [Act.put, List.setIfInBounds_toArray, List.set_cons_zero, List.set_cons_succ]
  refine wpAnyR_take0 (i := 2) (oi := ⟨some 27, _, _, _, _, _⟩) (v := ?_) rfl (by kernel_rfl) (by kernel_rfl) (by kernel_rfl) rfl (fun _ _ _ h => h) (Or.inl ⟨by rfl, ?_⟩) (by first | exact .inr (by assumption) | exact .inl (by kernel_rfl)) ?_
  rotate_left
  · (intro w hSw; (try dsimp only at hSw); go_simp; try with_reducible rfl)
  try simp only [Act.put, List.setIfInBounds_toArray, List.set_cons_zero, List.set_cons_succ]
  refine wpAnyR_take (i := 3) (oi := ⟨some 28, _, _, _, _, _⟩) (v := ?_) rfl (by kernel_rfl) (by kernel_rfl) (by kernel_rfl) rfl (by kernel_rfl) (by kernel_rfl) (fun _ _ _ h => h) (Or.inl ⟨by rfl, ?_⟩) (by assumption) ?_
  rotate_left
  · (intro w hSw; (try dsimp only at hSw); go_simp; try with_reducible rfl)
  try simp only [Act.put, List.setIfInBounds_toArray, List.set_cons_zero, List.set_cons_succ]
  refine wpAnyR_take0 (i := 4) (oi := ⟨some 29, _, _, _, _, _⟩) (v := ?_) rfl (by kernel_rfl) (by kernel_rfl) (by kernel_rfl) rfl (fun _ _ _ h => h) (Or.inl ⟨by rfl, ?_⟩) (by first | exact .inr (by assumption) | exact .inl (by kernel_rfl)) ?_
  rotate_left
  · (intro w hSw; (try dsimp only at hSw); go_simp; try with_reducible rfl)
  try simp only [Act.put, List.setIfInBounds_toArray, List.set_cons_zero, List.set_cons_succ]
  refine wpAnyR_take0 (i := 5) (oi := ⟨some 30, _, _, _, _, _⟩) (v := ?_) rfl (by kernel_rfl) (by kernel_rfl) (by kernel_rfl) rfl (fun _ _ _ h => h) (Or.inl ⟨by rfl, ?_⟩) (by first | exact .inr (by assumption) | exact .inl (by kernel_rfl)) ?_
  rotate_left
  · (intro w hSw; (try dsimp only at hSw); go_simp; try with_reducible rfl)
  try simp only [Act.put, List.setIfInBounds_toArray, List.set_cons_zero, List.set_cons_succ]
  refine wpAnyR_take0 (i := 6) (oi := ⟨some 31, _, _, _, _, _⟩) (v := ?_) rfl (by kernel_rfl) (by kernel_rfl) (by kernel_rfl) rfl (fun _ _ _ h => h) (Or.inl ⟨by rfl, ?_⟩) (by first | exact .inr (by assumption) | exact .inl (by kernel_rfl)) ?_
  rotate_left
  · (intro w hSw; (try dsimp only at hSw); go_simp; try with_reducible rfl)
  try simp only [Act.put, List.setIfInBounds_toArray, List.set_cons_zero, List.set_cons_succ]
  refine wpAnyR_take (i := 7) (oi := ⟨some 32, _, _, _, _, _⟩) (v := ?_) rfl (by kernel_rfl) (by kernel_rfl) (by kernel_rfl) rfl (by kernel_rfl) (by kernel_rfl) (fun _ _ _ h => h) (Or.inl ⟨by rfl, ?_⟩) (by assumption) ?_
  rotate_left
  · (intro w hSw; (try dsimp only at hSw); go_simp; try with_reducible rfl)
  try simp only [Act.put, List.setIfInBounds_toArray, List.set_cons_zero, List.set_cons_succ]
  refine wpAnyR_take0 (i := 8) (oi := ⟨some 33, _, _, _, _, _⟩) (v := ?_) rfl (by kernel_rfl) (by kernel_rfl) (by kernel_rfl) rfl (fun _ _ _ h => h) (Or.inl ⟨by rfl, ?_⟩) (by first | exact .inr (by assumption) | exact .inl (by kernel_rfl)) ?_
  rotate_left
  · (intro w hSw; (try dsimp only at hSw); go_simp; try with_reducible rfl)
  try simp only [Act.put, List.setIfInBounds_toArray, List.set_cons_zero, List.set_cons_succ]
  have hev := he2 _ hR
  refine nextR 9 (by kernel_rfl) rfl (by rfl) fun K' HK' => ?_
  go_simp
  refine held_go HK' (.inr (hR)) (fun _ => ?_)
  clear HK'
  try simp only [Act.put, List.setIfInBounds_toArray, List.set_cons_zero, List.set_cons_succ]
  have HR := Kp.mk hR
  clear hR
  refine nextR 10 (by kernel_rfl) rfl (by rfl) fun K' HK' => ?_
  go_simp
  refine held_go HK' (.inr (HR.out.alloc _)) (fun _ => ?_)
  clear HK'
  try simp only [Act.put, List.setIfInBounds_toArray, List.set_cons_zero, List.set_cons_succ]
  refine nextR 11 (by kernel_rfl) rfl (by rfl) fun K' HK' => ?_
  have hx4 : Ext w3 ((w3.alloc (.cells #[.slice A3 n3 c3] 23)).drew) := (by (repeat (first | assumption | exact Ext.refl _ | apply Ext.drew | apply Ext.drewN | apply Ext.alloc | refine Ext.trans ?_ (by assumption))); first | done | fail)
  refine wp_append_r 61 (.slice none 0 0) 24 Try.underlying61 inR rfl (by decide) eSl_one (.tmp 32) (.tmp 35) rfl (.slice Ab M cb) M ts rfl (by have h := (H.out.ext (HX3.out.trans hx4)).bo; rw [HM.out] at h; exact h) _ 1 1 [(A3, n3, c3)] rfl ((lit_rd w3 A3 n3 c3 _ rfl).ext (by (repeat (first | assumption | exact Ext.refl _ | apply Ext.drew | apply Ext.drewN | apply Ext.alloc | refine Ext.trans ?_ (by assumption))); first | done | fail)) b3 (M + 1) rfl (ts ++ [(A3, n3, c3)]) rfl ?_
  intro A4 c4 w4 ho4 ha4
  have m4 := (hx4.mds (fpv (.slice Ab M cb))).trans ha4.mds
  have v4 : Mvs (fpv (.slice Ab M cb)) (fpv (.slice A4 (M + 1) c4)) w3 w4 := ha4.mv.pre hx4
  have HO4 := Kp.mk ho4
  have HV4 := Kp.mk v4
  have HX4 := Kp.mk hx4
  clear ho4 ha4 v4 hx4
  refine held_go HK' (.inr (m4)) (fun _ => ?_)
  clear HK'
  try simp only [Act.put, List.setIfInBounds_toArray, List.set_cons_zero, List.set_cons_succ]
  refine nextR 12 (by kernel_rfl) rfl (by rfl) fun K' HK' => ?_
  go_simp
  refine held_go HK' (.inr (m4)) (fun _ => ?_)
  clear HK'
  try simp only [Act.put, List.setIfInBounds_toArray, List.set_cons_zero, List.set_cons_succ]
  refine nextR 13 (by kernel_rfl) rfl (by rfl) fun K' HK' => ?_
  go_simp
  refine held_go HK' (.inr (m4)) (fun _ => ?_)
  clear HK'
  try simp only [Act.put, List.setIfInBounds_toArray, List.set_cons_zero, List.set_cons_succ]
  have hcd := hl0 w4 m4
  have hcd1 := hl1 w4 m4
  have hfd := (HLO.out w3 HX3.out w4 m4).h.frozen 0
  have hfd1 := (HLO.out w3 HX3.out w4 m4).h.frozen 1
  refine nextR 14 (by kernel_rfl) rfl (by rfl) fun K' HK' => ?_
  go_simp
  refine held_go HK' (.inl (by kernel_rfl)) (fun _ => ?_)
  clear HK'
  try simp only [Act.put, List.setIfInBounds_toArray, List.set_cons_zero, List.set_cons_succ]
  refine nextR 15 (by kernel_rfl) rfl (by rfl) fun K' HK' => ?_
  go_simp
  refine held_go HK' (.inl (by kernel_rfl)) (fun _ => ?_)
  clear HK'
  try simp only [Act.put, List.setIfInBounds_toArray, List.set_cons_zero, List.set_cons_succ]
  refine nextR 16 (by kernel_rfl) rfl (by rfl) fun K' HK' => ?_
  go_simp
  refine held_go HK' (.inl (by kernel_rfl)) (fun _ => ?_)
  clear HK'
  try simp only [Act.put, List.setIfInBounds_toArray, List.set_cons_zero, List.set_cons_succ]
  refine nextR 17 (by kernel_rfl) rfl (by rfl) fun K' HK' => ?_
  go_simp
  refine held_go HK' (.inl (by kernel_rfl)) (fun _ => ?_)
  clear HK'
  try simp only [Act.put, List.setIfInBounds_toArray, List.set_cons_zero, List.set_cons_succ]
  refine wpAnyR_done (by kernel_rfl) ?_ _
  clear hl0 hl1 he1 he2 hcd hcd1 hfd hfd1 hc1
  go_wp2_with fail
  go_ret
  have P := (H.out.ext HX3.out).both (bs' := bs ++ [r]) (ts' := ts ++ [(A3, n3, c3)]) (Q2.out.ext HY3.out) J2.out HV4.out (by rw [List.length_append, HM.out]; exact HO4.out) (by rw [List.length_append, List.length_append, HM.out, HLN.out]; rfl) (fun j t l h1 h2 => by
    by_cases hj : j < M
    · rw [List.getElem?_append_left (by rw [HM.out]; exact hj)] at h1
      rw [List.getElem?_append_left (by rw [← HLN.out]; exact hj)] at h2
      exact (H.out.ext HX3.out).each j t l h1 h2
    · rw [List.getElem?_append_right (by rw [HM.out]; omega)] at h1
      rw [List.getElem?_append_right (by rw [← HLN.out]; omega)] at h2
      have hj0 : j - ts.length = 0 := by have := (List.getElem?_eq_some_iff.1 h1).1; simp at this; omega
      have hj1 : j - bs.length = 0 := by have := (List.getElem?_eq_some_iff.1 h2).1; simp at this; omega
      rw [hj0] at h1
      rw [hj1] at h2
      obtain rfl : (A3, n3, c3) = t := by simpa using h1
      obtain rfl : r = l := by simpa using h2
      exact ⟨Q3.out.ext HY3.out, J3.out⟩)
  exact ⟨rfl, _, ⟨_, _, _, _, _, _, P.1.ext (by (repeat (first | assumption | exact Ext.refl _ | apply Ext.drew | apply Ext.drewN | apply Ext.alloc | refine Ext.trans ?_ (by assumption))); first | done | fail), rfl⟩, (P.2.post (by (repeat (first | assumption | exact Ext.refl _ | apply Ext.drew | apply Ext.drewN | apply Ext.alloc | refine Ext.trans ?_ (by assumption))); first | done | fail)).pre HX3.out⟩
end
end Go.Proofs.Ytadndhenfoppiaa
