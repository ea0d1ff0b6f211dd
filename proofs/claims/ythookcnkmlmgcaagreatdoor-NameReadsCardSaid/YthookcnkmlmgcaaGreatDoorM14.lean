/-
  tlv's reader: Enter.
  prim: Int.
  prim: withGroups; the reference's group.
  prim: Oid; the reference's OidBody.
-/
import Derived.Test.YthookcnkmlmgcaaGreatDoorM13
import Derived.Test.YthookcnkmlmgcaaGreatDoorM7
import Derived.Shelf.Strconv.Itoa0
import Derived.Shelf.Small.Bits
namespace Go.Proofs.YthookcnkmlmgcaaGreatDoor
open Go Go.RowKit
set_option maxRecDepth 4000

/-- what stands there, and what stands behind, both turned -/
theorem Rt.both {w w' : World} {p : Nat} {ds : List Nat} {A A' : Option Addr} {n c n' c' : Nat} {vb vb' : Value} {rest rest' : List (BitVec 8)} {ts ts' : List (Option Addr × Nat × Nat)} {bs bs' : List (List (BitVec 8))} (h : Rt w p ds A n c vb rest ts bs)
    (hr : Bs w A' n' c' rest') (hi : In A' n' ds) (hm : Mvs (fpv vb) (fpv vb') w w') (ho : Rw 22 eSl w' 0 vb' ts'.length ts') (hlen : ts'.length = bs'.length)
    (he : ∀ (j : Nat) (t : Option Addr × Nat × Nat) (l : List (BitVec 8)), ts'[j]? = some t → bs'[j]? = some l → Bs w t.1 t.2.1 t.2.2 l ∧ In t.1 t.2.1 ds) :
    Rt ((w'.setCell ⟨p, 0, none⟩ (.slice A' n' c')).setCell ⟨p, 1, none⟩ vb') p ds A' n' c' vb' rest' ts' bs' ∧ Mvs (fpR p vb ds) (fpR p vb' ds) w ((w'.setCell ⟨p, 0, none⟩ (.slice A' n' c')).setCell ⟨p, 1, none⟩ vb') := by
  have hm2 : Mds (p :: fpv vb) w ((w'.setCell ⟨p, 0, none⟩ (.slice A' n' c')).setCell ⟨p, 1, none⟩ vb') := ((hm.m.mono fun k hk => List.mem_cons_of_mem _ hk).setCell (p := ⟨p, 0, none⟩) (by simp) _).setCell (p := ⟨p, 1, none⟩) (by simp) _
  have h1 := h.blk.mds hm.m (h.bo.ne h.blk (by decide))
  have hne : vb'.ownBlock ≠ some p := fun e => ho.ne h1 (by decide) (mem_fpv.2 e)
  refine ⟨⟨(h1.set_ 0 _).set_ 1 _, hr.mds hm2 (hi.off h.apd), hi, (ho.far (p := ⟨p, 0, none⟩) hne _).far (p := ⟨p, 1, none⟩) hne _, hlen, fun j t l h2 h3 => ?_, fun k hk hk2 => ?_, h.hid.mono hm2.size⟩, hm2.mono fun k hk => ?_, fun k hk => ?_⟩
  · obtain ⟨h4, h5⟩ := he j t l h2 h3
    exact ⟨h4.mds hm2 (h5.off h.apd), h5⟩
  · rcases List.mem_cons.1 hk2 with e | e
    · exact h.apd k hk (e ▸ by simp)
    · rcases hm.f k e with e2 | e2
      · exact h.apd k hk (List.mem_cons_of_mem _ e2)
      · have := h.hid k hk; omega
  · rcases List.mem_cons.1 hk with e | e
    · exact mem_fpR.2 (.inl e)
    · exact mem_fpR.2 (.inr (.inl e))
  · rcases mem_fpR.1 hk with e | e | e
    · exact .inl (mem_fpR.2 (.inl e))
    · rcases hm.f k e with e2 | e2
      · exact .inl (mem_fpR.2 (.inr (.inl e2)))
      · exact .inr e2
    · exact .inl (mem_fpR.2 (.inr (.inr e)))
theorem lit_rd (w : World) (A : Option Addr) (n c g : Nat) (hg : g = w.heap.size) : Rd eSl (w.alloc (.cells #[.slice A n c] 22)) (some ⟨g, 0, none⟩) 1 1 [(A, n, c)] := by
  subst hg
  refine ⟨rfl, Nat.le_refl _, (fun e => by cases e), fun _ => ⟨w.heap.size, 0, rfl, fun j y hj => ?_⟩⟩
  have hj0 : j = 0 := by have := (List.getElem?_eq_some_iff.1 hj).1; simp at this; exact this
  subst hj0
  obtain rfl : (A, n, c) = y := by simpa using hj
  exact (Blk.new w 22 #[.slice A n c]).h.cell 0
section
variable {w : World} {p : Nat} {m : BitVec 8} {G : List Nat} {rest : List (BitVec 8)} {bs : List (List (BitVec 8))}
set_option maxHeartbeats 2000000 in
theorem Enter_err (h : Rr w p G rest bs) (hx : rest.length ≤ 1000000000000) (he : ¬ (isW m = true ∧ ∃ x r, El rest m x r)) : Calls Tryz.prog 23 #[.pointer (some ⟨p, 0, none⟩), .int .u8 (ub m)] w fun e w' => e = .returned (err (erC rest m)) ∧ Ext w w' := by
  have C := Kp.mk (marked_bad (m := m) (isW m) h hx he)
  generalize erC rest m = k at *
  obtain ⟨kd, hk⟩ : ∃ kd, isW m = kd := ⟨_, rfl⟩
  rw [hk] at C
  clear h hx he
  go_enter Tryz.func23, Tryz.ntmps23
  go_wp2_with (first | (go_at_call 37; refine (isWhole_any m kd hk _).mono ?_; rintro e w1 ⟨rfl, rfl⟩) | (go_at_call 36; refine C.out.mono ?_; rintro e w2 ⟨rfl, hx2⟩; have HX2 := Kp.mk hx2; have HN2 := Kp.mk (Blk.new w2 elt #[.slice none 0 0, .slice none 0 0, .slice none 0 0]); clear hx2) | ((with_reducible refine at_store 5 13 ?_); refine wpList_store_row rfl elt _ _ rfl w2.heap.size #[.slice none 0 0, .slice none 0 0, .slice none 0 0] rfl rfl elt _ HN2.out.h szEl rfl (one_three _ _ _ _ _ _ _ _ _) ?_) | fail)
  go_ret
  exact ⟨rfl, HX2.out.trans (Ext.setRow ((by (repeat (first | assumption | exact Ext.refl _ | apply Ext.drew | apply Ext.drewN | apply Ext.alloc | refine Ext.trans ?_ (by assumption))); first | done | fail) : Ext w2 (w2.alloc (.cells #[.slice none 0 0, .slice none 0 0, .slice none 0 0] elt))) (Nat.le_refl _) _)⟩
set_option maxHeartbeats 4000000 in
theorem Enter_deep {x r : List (BitVec 8)} (h : Rr w p G rest bs) (hx : rest.length ≤ 1000000000000) (hm : isW m = true) (he : El rest m x r) (hd : 24 ≤ bs.length) : Calls Tryz.prog 23 #[.pointer (some ⟨p, 0, none⟩), .int .u8 (ub m)] w fun e w' => e = .returned (err 5) ∧ Ext w w' := by
  obtain ⟨ds, A, n, c, vb, ts, h, rfl⟩ := h
  have C := Kp.mk (marked_ok h hx he)
  obtain ⟨Ab, cb, rfl⟩ := h.bo.form
  have hln := h.len
  obtain ⟨M, hM⟩ : ∃ M, ts.length = M := ⟨_, rfl⟩
  have hc1 := fun (w' : World) (hx : Ext w w') => h.blk.cell hx 1
  rw [hM] at hln hc1
  have b1 : (24 : Int) ≤ (M : Int) := by omega
  have b1' : 24 ≤ M := by omega
  clear h hx he hln hM hd
  go_enter Tryz.func23, Tryz.ntmps23
  go_wp2_with (first | (go_at_call 37; refine (isWhole_any m true hm _).mono ?_; rintro e w1 ⟨rfl, rfl⟩) | (go_at_call 36; refine C.out.mono ?_; rintro e w2 ⟨A1, n1, c1, A2, n2, c2, A3, n3, c3, rfl, q1, q2, q3, j1, j2, j3, hx2⟩; have HX2 := Kp.mk hx2; have HN2 := Kp.mk (Blk.new w2 elt #[.slice none 0 0, .slice none 0 0, .slice none 0 0]); have HN3 := Kp.mk ((Blk.new w2 elt #[.slice none 0 0, .slice none 0 0, .slice none 0 0]).row #[.slice A1 n1 c1, .slice A2 n2 c2, .slice A3 n3 c3]); have HY3 := Kp.mk (Ext.setRow ((by (repeat (first | assumption | exact Ext.refl _ | apply Ext.drew | apply Ext.drewN | apply Ext.alloc | refine Ext.trans ?_ (by assumption))); first | done | fail) : Ext w2 (w2.alloc (.cells #[.slice none 0 0, .slice none 0 0, .slice none 0 0] elt))) (Nat.le_refl _) #[.slice A1 n1 c1, .slice A2 n2 c2, .slice A3 n3 c3]); have Q2 := Kp.mk q2; have Q3 := Kp.mk q3; have J2 := Kp.mk j2; have J3 := Kp.mk j3; clear q1 q2 q3 j1 j2 j3 hx2) | ((with_reducible refine at_store 5 13 ?_); refine wpList_store_row rfl elt _ _ rfl w2.heap.size #[.slice A1 n1 c1, .slice A2 n2 c2, .slice A3 n3 c3] rfl rfl elt _ HN2.out.h szEl rfl (one_three _ _ _ _ _ _ _ _ _) ?_; generalize (w2.alloc (.cells #[.slice none 0 0, .slice none 0 0, .slice none 0 0] elt)).setRow w2.heap.size #[.slice A1 n1 c1, .slice A2 n2 c2, .slice A3 n3 c3] = w3 at *; have HX3 := Kp.mk (HX2.out.trans HY3.out); have hc31 := hc1 w3 HX3.out) | fail)
  go_ret
  exact ⟨rfl, HX3.out⟩
set_option maxHeartbeats 4000000 in
theorem Enter_ok {x r : List (BitVec 8)} (h : Rr w p G rest bs) (hx : rest.length ≤ 1000000000000) (hm : isW m = true) (he : El rest m x r) (hd : bs.length < 24) : Calls Tryz.prog 23 #[.pointer (some ⟨p, 0, none⟩), .int .u8 (ub m)] w fun e w' => e = .returned .nilIface ∧ ∃ G', Rr w' p G' x (bs ++ [r]) ∧ Mvs G G' w w' := by
  obtain ⟨ds, A, n, c, vb, ts, h, rfl⟩ := h
  have C := Kp.mk (marked_ok h hx he)
  obtain ⟨Ab, cb, rfl⟩ := h.bo.form
  have hln := h.len
  obtain ⟨M, hM⟩ : ∃ M, ts.length = M := ⟨_, rfl⟩
  rw [hM] at h hln ⊢
  have hc1 := fun (w' : World) (hx : Ext w w') => h.blk.cell hx 1
  have hlo : ∀ (w3 : World), Ext w w3 → ∀ (w' : World), Mds (fpv (.slice Ab M cb)) w3 w' → Blk w' p rdt #[.slice A n c, .slice Ab M cb] := fun w3 hx w' hm => (h.ext hx).blk.mds hm ((h.ext hx).bo.ne (h.ext hx).blk (by decide))
  have b1 : decide ((24 : Int) ≤ (M : Int)) = false := decide_eq_false (by omega)
  have b2 : decide (24 ≤ M) = false := decide_eq_false (by omega)
  have b3 : (M + 1) * 24 ≤ 140737488355328 := by omega
  have H := Kp.mk h
  have HM := Kp.mk hM
  have HLN := Kp.mk hln
  have HLO := Kp.mk hlo
  have HFP : Kp (∀ k, k ∈ fpv (.slice Ab M cb) → k < w.heap.size) := ⟨h.bo.fp_lt⟩
  clear h hx he hln hM hd hlo
  go_enter Tryz.func23, Tryz.ntmps23
  go_wp2_with (first | (go_at_call 37; refine (isWhole_any m true hm _).mono ?_; rintro e w1 ⟨rfl, rfl⟩) | (go_at_call 36; refine C.out.mono ?_; rintro e w2 ⟨A1, n1, c1, A2, n2, c2, A3, n3, c3, rfl, q1, q2, q3, j1, j2, j3, hx2⟩; have HX2 := Kp.mk hx2; have HN2 := Kp.mk (Blk.new w2 elt #[.slice none 0 0, .slice none 0 0, .slice none 0 0]); have HN3 := Kp.mk ((Blk.new w2 elt #[.slice none 0 0, .slice none 0 0, .slice none 0 0]).row #[.slice A1 n1 c1, .slice A2 n2 c2, .slice A3 n3 c3]); have HY3 := Kp.mk (Ext.setRow ((by (repeat (first | assumption | exact Ext.refl _ | apply Ext.drew | apply Ext.drewN | apply Ext.alloc | refine Ext.trans ?_ (by assumption))); first | done | fail) : Ext w2 (w2.alloc (.cells #[.slice none 0 0, .slice none 0 0, .slice none 0 0] elt))) (Nat.le_refl _) #[.slice A1 n1 c1, .slice A2 n2 c2, .slice A3 n3 c3]); have Q2 := Kp.mk q2; have Q3 := Kp.mk q3; have J2 := Kp.mk j2; have J3 := Kp.mk j3; clear q1 q2 q3 j1 j2 j3 hx2) | ((with_reducible refine at_store 5 13 ?_); refine wpList_store_row rfl elt _ _ rfl w2.heap.size #[.slice A1 n1 c1, .slice A2 n2 c2, .slice A3 n3 c3] rfl rfl elt _ HN2.out.h szEl rfl (one_three _ _ _ _ _ _ _ _ _) ?_; generalize (w2.alloc (.cells #[.slice none 0 0, .slice none 0 0, .slice none 0 0] elt)).setRow w2.heap.size #[.slice A1 n1 c1, .slice A2 n2 c2, .slice A3 n3 c3] = w3 at *; have HX3 := Kp.mk (HX2.out.trans HY3.out); have hc31 := hc1 w3 HX3.out) | fail)
  have hl0 := fun (w' : World) (hm : Mds (fpv (.slice Ab M cb)) w3 w') => (HLO.out w3 HX3.out w' hm).h.cell 0
  have hl1 := fun (w' : World) (hm : Mds (fpv (.slice Ab M cb)) w3 w') => (HLO.out w3 HX3.out w' hm).h.cell 1
  have hfe : w2.heap.size ∉ fpv (.slice Ab M cb) := fun hk => Nat.lt_irrefl _ (Nat.lt_of_lt_of_le (HFP.out _ hk) HX2.out.size)
  have he1 := fun (w' : World) (hm : Mds (fpv (.slice Ab M cb)) w3 w') => (HN3.out.mds hm hfe).h.cell 1
  have he2 := fun (w' : World) (hm : Mds (fpv (.slice Ab M cb)) w3 w') => (HN3.out.mds hm hfe).h.cell 2
  refine wp_region_R (st := fun s => s == 14 || s == 17) (R := fun w' => Mds (fpv (.slice Ab M cb)) w3 w') (by kernel_rfl) (Mds.refl _ _).drew (fun hR => ?_)
  refine wpAnyR_take0 (i := 0) (oi := ⟨some 25, _, _, _, _, _⟩) (v := ?_) rfl (by kernel_rfl) (by kernel_rfl) (by kernel_rfl) rfl (fun _ _ _ h => h) (Or.inl ⟨by rfl, ?_⟩) (by first | exact .inr (by assumption) | exact .inl (by kernel_rfl)) ?_
  rotate_left
  · (intro w hSw; (try dsimp only at hSw); go_simp; try with_reducible rfl)
  try simp only [Act.put, List.setIfInBounds_toArray, List.set_cons_zero, List.set_cons_succ]
  refine wpAnyR_take0 (i := 1) (oi := ⟨some 26, _, _, _, _, _⟩) (v := ?_) rfl (by kernel_rfl) (by kernel_rfl) (by kernel_rfl) rfl (fun _ _ _ h => h) (Or.inl ⟨by rfl, ?_⟩) (by first | exact .inr (by assumption) | exact .inl (by kernel_rfl)) ?_
  rotate_left
  · (intro w hSw; (try dsimp only at hSw); go_simp; try with_reducible rfl)
  try simp only [Act.put, List.setIfInBounds_toArray, List.set_cons_zero, List.set_cons_succ]
  refine wpAnyR_take0 (i := 2) (oi := ⟨some 27, _, _, _, _, _⟩) (v := ?_) rfl (by kernel_rfl) (by kernel_rfl) (by kernel_rfl) rfl (fun _ _ _ h => h) (Or.inl ⟨by rfl, ?_⟩) (by first | exact .inr (by assumption) | exact .inl (by kernel_rfl)) ?_
  rotate_left
  · (intro w hSw; (try dsimp only at hSw); go_simp; try with_reducible rfl)
  try simp only [Act.put, List.setIfInBounds_toArray, List.set_cons_zero, List.set_cons_succ]
  refine wpAnyR_take (i := 3) (oi := ⟨some 28, _, _, _, _, _⟩) (v := ?_) rfl (by kernel_rfl) (by kernel_rfl) (by kernel_rfl) rfl (by kernel_rfl) (by kernel_rfl) (fun _ _ _ h => h) (Or.inl ⟨by rfl, ?_⟩) (by assumption) ?_
  rotate_left
  · (intro w hSw; (try dsimp only at hSw); go_simp; try with_reducible rfl)
  try simp only [Act.put, List.setIfInBounds_toArray, List.set_cons_zero, List.set_cons_succ]
  refine wpAnyR_take0 (i := 4) (oi := ⟨some 29, _, _, _, _, _⟩) (v := ?_) rfl (by kernel_rfl) (by kernel_rfl) (by kernel_rfl) rfl (fun _ _ _ h => h) (Or.inl ⟨by rfl, ?_⟩) (by first | exact .inr (by assumption) | exact .inl (by kernel_rfl)) ?_
  rotate_left
  · (intro w hSw; (try dsimp only at hSw); go_simp; try with_reducible rfl)
  try simp only [Act.put, List.setIfInBounds_toArray, List.set_cons_zero, List.set_cons_succ]
  refine wpAnyR_take0 (i := 5) (oi := ⟨some 30, _, _, _, _, _⟩) (v := ?_) rfl (by kernel_rfl) (by kernel_rfl) (by kernel_rfl) rfl (fun _ _ _ h => h) (Or.inl ⟨by rfl, ?_⟩) (by first | exact .inr (by assumption) | exact .inl (by kernel_rfl)) ?_
  rotate_left
  · (intro w hSw; (try dsimp only at hSw); go_simp; try with_reducible rfl)
  try simp only [Act.put, List.setIfInBounds_toArray, List.set_cons_zero, List.set_cons_succ]
  refine wpAnyR_take0 (i := 6) (oi := ⟨some 31, _, _, _, _, _⟩) (v := ?_) rfl (by kernel_rfl) (by kernel_rfl) (by kernel_rfl) rfl (fun _ _ _ h => h) (Or.inl ⟨by rfl, ?_⟩) (by first | exact .inr (by assumption) | exact .inl (by kernel_rfl)) ?_
  rotate_left
  · (intro w hSw; (try dsimp only at hSw); go_simp; try with_reducible rfl)
  try simp only [Act.put, List.setIfInBounds_toArray, List.set_cons_zero, List.set_cons_succ]
  refine wpAnyR_take (i := 7) (oi := ⟨some 32, _, _, _, _, _⟩) (v := ?_) rfl (by kernel_rfl) (by kernel_rfl) (by kernel_rfl) rfl (by kernel_rfl) (by kernel_rfl) (fun _ _ _ h => h) (Or.inl ⟨by rfl, ?_⟩) (by assumption) ?_
  rotate_left
  · (intro w hSw; (try dsimp only at hSw); go_simp; try with_reducible rfl)
  try simp only [Act.put, List.setIfInBounds_toArray, List.set_cons_zero, List.set_cons_succ]
  refine wpAnyR_take0 (i := 8) (oi := ⟨some 33, _, _, _, _, _⟩) (v := ?_) rfl (by kernel_rfl) (by kernel_rfl) (by kernel_rfl) rfl (fun _ _ _ h => h) (Or.inl ⟨by rfl, ?_⟩) (by first | exact .inr (by assumption) | exact .inl (by kernel_rfl)) ?_
  rotate_left
  · (intro w hSw; (try dsimp only at hSw); go_simp; try with_reducible rfl)
  try simp only [Act.put, List.setIfInBounds_toArray, List.set_cons_zero, List.set_cons_succ]
  have hev := he2 _ hR
  refine nextR 9 (by kernel_rfl) rfl (by rfl) fun K' HK' => ?_
  go_simp
  refine held_go HK' (.inr (hR)) (fun _ => ?_)
  clear HK'
  try simp only [Act.put, List.setIfInBounds_toArray, List.set_cons_zero, List.set_cons_succ]
  have HR := Kp.mk hR
  clear hR
  refine nextR 10 (by kernel_rfl) rfl (by rfl) fun K' HK' => ?_
  go_simp
  refine held_go HK' (.inr (HR.out.alloc _)) (fun _ => ?_)
  clear HK'
  try simp only [Act.put, List.setIfInBounds_toArray, List.set_cons_zero, List.set_cons_succ]
  refine nextR 11 (by kernel_rfl) rfl (by rfl) fun K' HK' => ?_
  have hx4 : Ext w3 ((w3.alloc (.cells #[.slice A3 n3 c3] 22)).drew) := (by (repeat (first | assumption | exact Ext.refl _ | apply Ext.drew | apply Ext.drewN | apply Ext.alloc | refine Ext.trans ?_ (by assumption))); first | done | fail)
  refine wp_append_r 49 (.slice none 0 0) 24 Tryz.underlying49 inR rfl (by decide) eSl_one (.tmp 32) (.tmp 35) rfl (.slice Ab M cb) M ts rfl (by have h := (H.out.ext (HX3.out.trans hx4)).bo; rw [HM.out] at h; exact h) _ 1 1 [(A3, n3, c3)] rfl ((lit_rd w3 A3 n3 c3 _ rfl).ext (by (repeat (first | assumption | exact Ext.refl _ | apply Ext.drew | apply Ext.drewN | apply Ext.alloc | refine Ext.trans ?_ (by assumption))); first | done | fail)) b3 (M + 1) rfl (ts ++ [(A3, n3, c3)]) rfl ?_
  intro A4 c4 w4 ho4 ha4
  have m4 := (hx4.mds (fpv (.slice Ab M cb))).trans ha4.mds
  have v4 : Mvs (fpv (.slice Ab M cb)) (fpv (.slice A4 (M + 1) c4)) w3 w4 := ha4.mv.pre hx4
  have HO4 := Kp.mk ho4
  have HV4 := Kp.mk v4
  have HX4 := Kp.mk hx4
  clear ho4 ha4 v4 hx4
  refine held_go HK' (.inr (m4)) (fun _ => ?_)
  clear HK'
  try simp only [Act.put, List.setIfInBounds_toArray, List.set_cons_zero, List.set_cons_succ]
  refine nextR 12 (by kernel_rfl) rfl (by rfl) fun K' HK' => ?_
  go_simp
  refine held_go HK' (.inr (m4)) (fun _ => ?_)
  clear HK'
  try simp only [Act.put, List.setIfInBounds_toArray, List.set_cons_zero, List.set_cons_succ]
  refine nextR 13 (by kernel_rfl) rfl (by rfl) fun K' HK' => ?_
  go_simp
  refine held_go HK' (.inr (m4)) (fun _ => ?_)
  clear HK'
  try simp only [Act.put, List.setIfInBounds_toArray, List.set_cons_zero, List.set_cons_succ]
  have hcd := hl0 w4 m4
  have hcd1 := hl1 w4 m4
  have hfd := (HLO.out w3 HX3.out w4 m4).h.frozen 0
  have hfd1 := (HLO.out w3 HX3.out w4 m4).h.frozen 1
  refine nextR 14 (by kernel_rfl) rfl (by rfl) fun K' HK' => ?_
  go_simp
  refine held_go HK' (.inl (by kernel_rfl)) (fun _ => ?_)
  clear HK'
  try simp only [Act.put, List.setIfInBounds_toArray, List.set_cons_zero, List.set_cons_succ]
  refine nextR 15 (by kernel_rfl) rfl (by rfl) fun K' HK' => ?_
  go_simp
  refine held_go HK' (.inl (by kernel_rfl)) (fun _ => ?_)
  clear HK'
  try simp only [Act.put, List.setIfInBounds_toArray, List.set_cons_zero, List.set_cons_succ]
  refine nextR 16 (by kernel_rfl) rfl (by rfl) fun K' HK' => ?_
  go_simp
  refine held_go HK' (.inl (by kernel_rfl)) (fun _ => ?_)
  clear HK'
  try simp only [Act.put, List.setIfInBounds_toArray, List.set_cons_zero, List.set_cons_succ]
  refine nextR 17 (by kernel_rfl) rfl (by rfl) fun K' HK' => ?_
  go_simp
  refine held_go HK' (.inl (by kernel_rfl)) (fun _ => ?_)
  clear HK'
  try simp only [Act.put, List.setIfInBounds_toArray, List.set_cons_zero, List.set_cons_succ]
  refine wpAnyR_done (by kernel_rfl) ?_ _
  clear hl0 hl1 he1 he2 hcd hcd1 hfd hfd1 hc1
  go_wp2_with fail
  go_ret
  have P := (H.out.ext HX3.out).both (bs' := bs ++ [r]) (ts' := ts ++ [(A3, n3, c3)]) (Q2.out.ext HY3.out) J2.out HV4.out (by rw [List.length_append, HM.out]; exact HO4.out) (by rw [List.length_append, List.length_append, HM.out, HLN.out]; rfl) (fun j t l h1 h2 => by
    by_cases hj : j < M
    · rw [List.getElem?_append_left (by rw [HM.out]; exact hj)] at h1
      rw [List.getElem?_append_left (by rw [← HLN.out]; exact hj)] at h2
      exact (H.out.ext HX3.out).each j t l h1 h2
    · rw [List.getElem?_append_right (by rw [HM.out]; omega)] at h1
      rw [List.getElem?_append_right (by rw [← HLN.out]; omega)] at h2
      have hj0 : j - ts.length = 0 := by have := (List.getElem?_eq_some_iff.1 h1).1; simp at this; omega
      have hj1 : j - bs.length = 0 := by have := (List.getElem?_eq_some_iff.1 h2).1; simp at this; omega
      rw [hj0] at h1
      rw [hj1] at h2
      obtain rfl : (A3, n3, c3) = t := by simpa using h1
      obtain rfl : r = l := by simpa using h2
      exact ⟨Q3.out.ext HY3.out, J3.out⟩)
  exact ⟨rfl, _, ⟨_, _, _, _, _, _, P.1.ext (by (repeat (first | assumption | exact Ext.refl _ | apply Ext.drew | apply Ext.drewN | apply Ext.alloc | refine Ext.trans ?_ (by assumption))); first | done | fail), rfl⟩, (P.2.post (by (repeat (first | assumption | exact Ext.refl _ | apply Ext.drew | apply Ext.drewN | apply Ext.alloc | refine Ext.trans ?_ (by assumption))); first | done | fail)).pre HX3.out⟩
end
end Go.Proofs.YthookcnkmlmgcaaGreatDoor
namespace Go.Proofs.YthookcnkmlmgcaaGreatDoor
open Go Go.RowKit Go.Shelf
set_option maxRecDepth 4000

def Len64Laid_ren : Go.Shelf.Ren := ⟨fun | 129 => 90 | n => n, fun | 53 => 134 | 3 => 3 | 4 => 4 | 46 => 107 | 5 => 5 | 9 => 9 | n => n, fun | n => n⟩
theorem Len64Laid : Go.Proofs.Lays.n129 Tryz.prog Len64Laid_ren := {
  mixed := by kernel_rfl
  f129 := Tryz.func90.trans (congrArg some (by kernel_rfl))
  t3 := Tryz.underlying3
  a3 := Tryz.isAgg3
  z3 := Tryz.sizeOf3
  v3 := Tryz.zeroValue3
  t4 := Tryz.underlying4
  a4 := Tryz.isAgg4
  z4 := Tryz.sizeOf4
  v4 := Tryz.zeroValue4
  t5 := Tryz.underlying5
  a5 := Tryz.isAgg5
  z5 := Tryz.sizeOf5
  v5 := Tryz.zeroValue5
  t9 := Tryz.underlying9
  a9 := Tryz.isAgg9
  z9 := Tryz.sizeOf9
  v9 := Tryz.zeroValue9
  t46 := Tryz.underlying107
  a46 := Tryz.isAgg107
  z46 := Tryz.sizeOf107
  v46 := Tryz.zeroValue107
  t53 := Tryz.underlying134
  a53 := Tryz.isAgg134
  z53 := Tryz.sizeOf134
  v53 := Tryz.zeroValue134 }
theorem Len64_any (x : Nat) (hx : x < 18446744073709551616) (w : World) : Calls Tryz.prog 90 #[.int .u64 (x : Int)] w fun e w' => e = .returned (.int .i64 (Lib.bitLen x : Int)) ∧ w' = w := by
  have h := Any.bits_Len64 Len64Laid (x : Int) w (by omega) (by omega)
  rw [Int.toNat_natCast] at h
  exact h
/-- the row that Int builds: zeros, then the lowest bytes -/
theorem intL_row (n : Int) (k j : Nat) (h : j < k) : (zb (k - j) ++ intL n j).set (k - 1 - j) (BitVec.ofNat 8 ((n / ((256 ^ j : Nat) : Int)) % 256).toNat) = zb (k - (j + 1)) ++ intL n (j + 1) := by
  obtain ⟨d, rfl⟩ : ∃ d, k = j + (d + 1) := ⟨k - j - 1, by omega⟩
  rw [show j + (d + 1) - j = d + 1 by omega, show j + (d + 1) - 1 - j = d by omega, show j + (d + 1) - (j + 1) = d by omega]
  rw [List.set_append_left _ _ (by rw [zb_len]; omega), intL]
  have e : zb (d + 1) = zb d ++ [0] := by unfold zb; rw [List.replicate_succ']
  rw [e, List.set_append_right _ _ (by rw [zb_len]; exact Nat.le_refl _), zb_len, Nat.sub_self]
  simp
theorem byte_shr (n : Int) (j : Nat) : IntKind.u8.wrap (n / ((256 ^ j : Nat) : Int)) = ub (BitVec.ofNat 8 ((n / ((256 ^ j : Nat) : Int)) % 256).toNat) := by
  unfold ub
  rw [byt_nat, IntKind.wrap_u8]
  omega
theorem pow_shr (j : Nat) : ((2 : Int) ^ (8 * j)) = ((256 ^ j : Nat) : Int) := by
  rw [Nat.pow_mul' 2 8 j |> fun h => (by rw [Nat.pow_mul] : (256 ^ j : Nat) = 2 ^ (8 * j))]
  exact (Int.natCast_pow 2 (8 * j)).symm
end Go.Proofs.YthookcnkmlmgcaaGreatDoor
namespace Go.Proofs.YthookcnkmlmgcaaGreatDoor
open Go Go.RowKit Go.Shelf
set_option maxRecDepth 4000

def Len32LaidK_ren : Go.Shelf.Ren := ⟨fun | 128 => 78 | n => n, fun | 51 => 69 | 3 => 3 | 4 => 4 | 46 => 107 | 5 => 5 | 9 => 9 | n => n, fun | n => n⟩
theorem Len32LaidK : Go.Proofs.Lays.n128 Tryz.prog Len32LaidK_ren := {
  mixed := by kernel_rfl
  f128 := Tryz.func78.trans (congrArg some (by kernel_rfl))
  t3 := Tryz.underlying3
  a3 := Tryz.isAgg3
  z3 := Tryz.sizeOf3
  v3 := Tryz.zeroValue3
  t4 := Tryz.underlying4
  a4 := Tryz.isAgg4
  z4 := Tryz.sizeOf4
  v4 := Tryz.zeroValue4
  t5 := Tryz.underlying5
  a5 := Tryz.isAgg5
  z5 := Tryz.sizeOf5
  v5 := Tryz.zeroValue5
  t9 := Tryz.underlying9
  a9 := Tryz.isAgg9
  z9 := Tryz.sizeOf9
  v9 := Tryz.zeroValue9
  t46 := Tryz.underlying107
  a46 := Tryz.isAgg107
  z46 := Tryz.sizeOf107
  v46 := Tryz.zeroValue107
  t51 := Tryz.underlying69
  a51 := Tryz.isAgg69
  z51 := Tryz.sizeOf69
  v51 := Tryz.zeroValue69 }
theorem Len32_anyK (x : Nat) (hx : x < 4294967296) (w : World) : Calls Tryz.prog 78 #[.int .u32 (x : Int)] w fun e w' => e = .returned (.int .i64 (Lib.bitLen x : Int)) ∧ w' = w := by
  have h := Any.bits_Len32 Len32LaidK (x : Int) w (by omega) (by omega)
  rw [Int.toNat_natCast] at h
  exact h
/-- how many groups are ahead of the last one -/
theorem ahead_of (n : Nat) (h : n < 4294967296) : ∃ a, (max (Lib.bitLen n) 1 - 1) / 7 = a ∧ a ≤ 4 ∧ n / 128 ^ (a + 1) = 0 ∧ ∀ j, j < a → n / 128 ^ (a - j) ≠ 0 := by
  obtain ⟨h1, h2⟩ := bitLen_pow n (by omega)
  have h3 := Lib.bitLen_le n 32 (by decide) (by omega)
  refine ⟨_, rfl, by omega, ?_, fun j hj => ?_⟩
  · refine Nat.div_eq_of_lt (Nat.lt_of_lt_of_le h1 ?_)
    rw [show (128 : Nat) = 2 ^ 7 from rfl, ← Nat.pow_mul]
    exact Nat.pow_le_pow_right (by decide) (by omega)
  · have hn : n ≠ 0 := by
      rintro rfl
      have : Lib.bitLen 0 = 0 := by unfold Lib.bitLen; exact Lib.bitLenAux_zero _
      omega
    have h4 : 128 ^ ((max (Lib.bitLen n) 1 - 1) / 7 - j) ≤ n := by
      refine Nat.le_trans ?_ (h2 hn)
      rw [show (128 : Nat) = 2 ^ 7 from rfl, ← Nat.pow_mul]
      exact Nat.pow_le_pow_right (by decide) (by omega)
    have := Nat.div_pos h4 (Nat.pow_pos (by decide))
    omega
theorem or128u (x : BitVec 8) : bits .or .u8 (ub x) 128 = ub (BitVec.ofNat 8 (x.toNat % 128 + 128)) := by
  revert x
  refine all8 ?_
  decide +kernel
theorem andnot128 (x : BitVec 8) : bits .andNot .u8 (ub x) 128 = ub (BitVec.ofNat 8 (x.toNat % 128)) := by
  revert x
  refine all8 ?_
  decide +kernel
theorem byt_of (m : Nat) : ((m : Int) % 256) = ub (BitVec.ofNat 8 m) := by
  unfold ub
  rw [BitVec.toNat_ofNat]
  omega
theorem grp_hi (m : Nat) : bits .or .u8 ((m : Int) % 256) 128 = ub (BitVec.ofNat 8 (m % 128 + 128)) := by
  rw [byt_of, or128u, BitVec.toNat_ofNat, Nat.mod_mod_of_dvd m (by decide : 128 ∣ 2 ^ 8)]
theorem grp_lo (m : Nat) : bits .andNot .u8 ((m : Int) % 256) 128 = ub (BitVec.ofNat 8 (m % 128)) := by
  rw [byt_of, andnot128, BitVec.toNat_ofNat, Nat.mod_mod_of_dvd m (by decide : 128 ∣ 2 ^ 8)]
/-- the groups ahead of the last one, from the highest on -/
theorem groups_up (n a : Nat) (hz : n / 128 ^ (a + 1) = 0) (hj : ∀ j, j < a → n / 128 ^ (a - j) ≠ 0) : ∃ f : Nat → List (BitVec 8), f 0 = [] ∧ f a ++ [BitVec.ofNat 8 (n % 128)] = g7 n ∧ (∀ j, (f j).length ≤ 5 + j) ∧ ∀ j, j < a → f (j + 1) = f j ++ [BitVec.ofNat 8 (n / 128 ^ (a - j) % 128 + 128)] ∧ (f (j + 1)).length = (f j).length + 1 := by
  have hs : ∀ j, j < a → g7hi (n / 128 ^ (a - (j + 1) + 1)) = g7hi (n / 128 ^ (a - j + 1)) ++ [BitVec.ofNat 8 (n / 128 ^ (a - j) % 128 + 128)] := by
    intro j h
    rw [show a - (j + 1) + 1 = a - j by omega, g7hi_pos _ (hj j h), Nat.div_div_eq_div_mul, Nat.pow_succ]
  have hf : ∀ j, (g7hi (n / 128 ^ (a - j + 1))).length ≤ 5 + j ∨ a < j := by
    intro j
    induction j with
    | zero => rw [Nat.sub_zero, hz, g7hi_zero]; exact .inl (Nat.zero_le _)
    | succ j ih =>
      rcases Nat.lt_or_ge a (j + 1) with h | h
      · exact .inr h
      · rcases ih with ih | ih
        · rw [hs j (by omega), List.length_append, List.length_singleton]
          exact .inl (by omega)
        · omega
  refine ⟨fun j => if a < j then [] else g7hi (n / 128 ^ (a - j + 1)), ?_, ?_, ?_, ?_⟩
  · show (if a < 0 then [] else _) = _
    rw [if_neg (Nat.not_lt_zero _), Nat.sub_zero, hz, g7hi_zero]
  · show (if a < a then [] else _) ++ _ = _
    rw [if_neg (Nat.lt_irrefl _), Nat.sub_self]
    unfold g7
    rw [Nat.zero_add, Nat.pow_one]
  · intro j
    show (if a < j then [] else _).length ≤ _
    split
    · exact Nat.zero_le _
    · rcases hf j with h | h
      · exact h
      · omega
  · intro j h
    have e : (if a < j + 1 then [] else g7hi (n / 128 ^ (a - (j + 1) + 1))) = (if a < j then [] else g7hi (n / 128 ^ (a - j + 1))) ++ [BitVec.ofNat 8 (n / 128 ^ (a - j) % 128 + 128)] := by
      rw [if_neg (by omega), if_neg (by omega), hs j h]
    refine ⟨e, ?_⟩
    show (if a < j + 1 then [] else _).length = _
    rw [e, List.length_append, List.length_singleton]
theorem shr7 (n d : Nat) : (n : Int) / 2 ^ (7 * d) = ((n / 128 ^ d : Nat) : Int) := by
  rw [show (128 : Nat) = 2 ^ 7 from rfl, ← Nat.pow_mul, Int.natCast_ediv, Int.natCast_pow]
  rfl
set_option maxHeartbeats 4000000 in
theorem withGroups_any {w0 w : World} {B : Nat} {v : Value} {m : Nat} {l : List (BitVec 8)} (ho : Own w B v m l) (hx0 : Ext w0 w) (hB0 : w0.heap.size ≤ B) (hBw : B ≤ w.heap.size) (hm : m ≤ 1000000) (n : Nat) (hn : n < 4294967296) (M : Nat) (hM : m + (g7 n).length = M) :
    Calls Tryz.prog 65 #[v, .int .u32 (n : Int)] w fun e w' => ∃ A c, e = .returned (.slice A M c) ∧ Own w' B (.slice A M c) M (l ++ g7 n) ∧ Ext w0 w' ∧ w.heap.size ≤ w'.heap.size := by
  obtain ⟨A, c, rfl⟩ := ho.form
  obtain ⟨a, ha, ha4, hz, hj⟩ := ahead_of n hn
  obtain ⟨f, f0, fa, fl, fs⟩ := groups_up n a hz hj
  have hL := Len32_anyK n hn
  have hl := ho.len
  have e1 : IntKind.i64.wrap (max (Lib.bitLen n : Int) 1 - 1) = ((max (Lib.bitLen n) 1 - 1 : Nat) : Int) := by
    have := Lib.bitLen_le n 32 (by decide) (by omega)
    rw [IntKind.wrap_i64]; omega
  have e2 : ((max (Lib.bitLen n) 1 - 1 : Nat) : Int).tdiv 7 = (a : Int) := by rw [Int.tdiv_eq_ediv_of_nonneg (by omega)]; omega
  have e3 : IntKind.i64.wrap (a : Int) = (a : Int) := by rw [IntKind.wrap_i64]; omega
  generalize Lib.bitLen n = L at *
  clear ha
  have HF := Kp.mk fs
  have HL := Kp.mk fl
  have HA := Kp.mk fa
  have HZ := Kp.mk f0
  have HO := Kp.mk ho
  have HX := Kp.mk hx0
  have HM := Kp.mk hM
  clear hM
  have e5 := grp_lo n
  have HD : ∀ d : Nat, bits .or .u8 ((n : Int) / 2 ^ (7 * d) % 256) 128 = ub (BitVec.ofNat 8 (n / 128 ^ d % 128 + 128)) := fun d => by rw [shr7, grp_hi]
  have HD' := Kp.mk HD
  clear hj hz ho hx0 fs fl fa f0 HD
  go_enter Tryz.func65, Tryz.ntmps65
  go_wp2_with (go_at_call 78; refine (hL _).mono ?_; rintro e w1 ⟨rfl, hw⟩; obtain rfl : w = w1 := hw.symm)
  clear hL e1 e2 e3
  go_loopw [0, 13] (fun v i wr => ∃ j N : Nat, ∃ A' c', j ≤ a ∧ N = m + (f j).length ∧ i = .int .i64 (j : Int) ∧ v = .slice A' N c' ∧ Own wr B (.slice A' N c') N (l ++ f j) ∧ Ext w0 wr ∧ w.heap.size ≤ wr.heap.size) (fun _ i _ => a - (intOf i).toNat)
  case atStart => exact ⟨0, m, A, c, Nat.zero_le _, by rw [HZ.out]; rfl, rfl, rfl, by rw [HZ.out, List.append_nil]; exact HO.out, HX.out, Nat.le_refl _⟩
  case round =>
    obtain ⟨j, N, A', c', hj, hN, rfl, rfl, ho, hx, hsz⟩ := hrel
    have hNm : N ≤ 2000000 := by have := HL.out j; omega
    have hBr : B ≤ wr.heap.size := Nat.le_trans hBw hsz
    by_cases hlt : j < a
    · obtain ⟨d, hd⟩ : ∃ d, d = a - j := ⟨_, rfl⟩
      have s1 : IntKind.i64.wrap ((a : Int) - (j : Int)) = (d : Int) := by rw [IntKind.wrap_i64]; omega
      have s2 : IntKind.i64.wrap (7 * (d : Int)) = ((7 * d : Nat) : Int) := by rw [IntKind.wrap_i64]; omega
      have b1 : (j : Int) < (a : Int) := by omega
      have hd4 : d ≤ 4 := by omega
      obtain ⟨g1, g2⟩ := HF.out j hlt
      rw [← hd] at g1
      have e4 := HD'.out d
      generalize BitVec.ofNat 8 (n / 128 ^ d % 128 + 128) = y at *
      have HN := Kp.mk (And.intro hN (And.intro g1 g2))
      have H1 := Kp.mk ho
      have H2 := Kp.mk hx
      have H3 := Kp.mk hsz
      clear hN g1 g2 ho hx hsz hd e5
      go_wp2_with (first | (at_builtin; refine wpList_append_bs rfl (.tmp 16) (.tmp 25) rfl B _ N (l ++ f j) rfl (H1.out.ext (by (repeat (first | assumption | exact Ext.refl _ | apply Ext.drew | apply Ext.drewN | apply Ext.alloc | refine Ext.trans ?_ (by assumption))); first | done | fail)) _ 1 1 [y] rfl (const_bs wr _ [y] 1 1 (0, 0) rfl rfl (by decide)) (by omega) (N + 1) rfl (l ++ f j ++ [y]) rfl w0 (H2.out.trans (by (repeat (first | assumption | exact Ext.refl _ | apply Ext.drew | apply Ext.drewN | apply Ext.alloc | refine Ext.trans ?_ (by assumption))); first | done | fail)) hB0 (Nat.le_trans hBr (by simp)) ?_; intro A4 c4 w4 ho4 hx4 hap4) | fail)
      go_roundw
      case rel =>
        obtain ⟨hN, g1, g2⟩ := HN.out
        refine ⟨j + 1, N + 1, A4, c4, by omega, by omega, by go_num, by first | rfl | (congr 1; omega), ?_, hx4, ?_⟩
        · rw [g1, ← List.append_assoc]; exact ho4
        · exact Nat.le_trans H3.out (Nat.le_trans (by simp) hap4.grown.size)
      case measure => simp [intOf]; omega
    · obtain rfl : j = a := by omega
      have b1 : ¬ (j : Int) < (j : Int) := by omega
      have hNl : N + 1 = m + (g7 n).length := by rw [← HA.out, List.length_append, List.length_singleton]; omega
      generalize hy : BitVec.ofNat 8 (n % 128) = y at *
      obtain rfl : N + 1 = M := by rw [← HM.out]; exact hNl
      have H1 := Kp.mk ho
      have H2 := Kp.mk hx
      have H3 := Kp.mk hsz
      clear hN ho hx hsz hNl
      go_wp2_with (first | (at_builtin; refine wpList_append_bs rfl (.tmp 28) (.tmp 32) rfl B _ N (l ++ f j) rfl (H1.out.ext (by (repeat (first | assumption | exact Ext.refl _ | apply Ext.drew | apply Ext.drewN | apply Ext.alloc | refine Ext.trans ?_ (by assumption))); first | done | fail)) _ 1 1 [y] rfl (const_bs wr _ [y] 1 1 (0, 0) rfl rfl (by decide)) (by omega) (N + 1) rfl (l ++ f j ++ [y]) rfl w0 (H2.out.trans (by (repeat (first | assumption | exact Ext.refl _ | apply Ext.drew | apply Ext.drewN | apply Ext.alloc | refine Ext.trans ?_ (by assumption))); first | done | fail)) hB0 (Nat.le_trans hBr (by simp)) ?_; intro A4 c4 w4 ho4 hx4 hap4) | fail)
      go_ret
      refine ⟨A4, c4, rfl, ?_, hx4, Nat.le_trans H3.out (Nat.le_trans (by simp) hap4.grown.size)⟩
      rw [← HA.out, ← List.append_assoc]
      exact ho4
set_option maxHeartbeats 4000000 in
/-- the reference's group, by the number of groups -/
theorem group_any : ∀ (n : Nat), n < 4294967296 → ∀ w : World, Calls Tryz.prog 44 #[.int .u32 (n : Int)] w fun e w' => Fresh w (g7 n).length (g7 n) e w' := by
  intro n
  induction n using Nat.strongRecOn with
  | ind n ih =>
    intro hn w
    by_cases h : n < 128
    · rw [g7_small n h]
      have b1 : decide ((n : Int) < 128) = true := decide_eq_true (by omega)
      have e1 := byt_of n
      generalize BitVec.ofNat 8 n = y at *
      have ho := Own.new w w.heap.size 1 [y] rfl (Nat.le_refl _) (by decide)
      clear ih h
      go_enter Tryz.func44, Tryz.ntmps44
      go_wp2_with fail
      go_ret
      exact ⟨_, _, rfl, ho.bs, ho, (by (repeat (first | assumption | exact Ext.refl _ | apply Ext.drew | apply Ext.drewN | apply Ext.alloc | refine Ext.trans ?_ (by assumption))); first | done | fail)⟩
    · have b1 : decide ((n : Int) < 128) = false := decide_eq_false (by omega)
      have hC := fun W => ih (n / 128) (by omega) (by omega) W
      have e1 : (n : Int).tdiv 128 = ((n / 128 : Nat) : Int) := by rw [Int.tdiv_eq_ediv_of_nonneg (by omega)]; omega
      have e2 : (n : Int).tmod 128 = ((n % 128 : Nat) : Int) := by rw [Int.tmod_eq_emod_of_nonneg (by omega)]; omega
      have e4 : IntKind.u32.wrap ((n / 128 : Nat) : Int) = ((n / 128 : Nat) : Int) := by rw [IntKind.wrap_u32]; omega
      have e5 : IntKind.u32.wrap ((n % 128 : Nat) : Int) = ((n % 128 : Nat) : Int) := by rw [IntKind.wrap_u32]; omega
      have e3 : ((n % 128 : Nat) : Int) % 256 = ub (BitVec.ofNat 8 (n % 128)) := byt_of _
      have hg : g7 n = g7hi (n / 128) ++ [BitVec.ofNat 8 (n % 128)] := rfl
      have hg2 : g7 (n / 128) = g7hi (n / 128 / 128) ++ [BitVec.ofNat 8 (n / 128 % 128)] := rfl
      have hg3 := g7hi_pos (n / 128) (by omega)
      have hlen := (g7_len (n / 128) (by omega)).2
      have hpos := (g7_len (n / 128) (by omega)).1
      obtain ⟨t, ht⟩ : ∃ t, BitVec.ofNat 8 (n / 128 % 128) = t := ⟨_, rfl⟩
      obtain ⟨u, hu⟩ : ∃ u, BitVec.ofNat 8 (n / 128 % 128 + 128) = u := ⟨_, rfl⟩
      have hup : IntKind.u8.wrap (ub t + 128) = ub u := by
        rw [← ht, ← hu]
        unfold ub
        rw [BitVec.toNat_ofNat, BitVec.toNat_ofNat, IntKind.wrap_u8]
        omega
      rw [ht] at hg2
      rw [hu] at hg3
      generalize hG : g7hi (n / 128 / 128) = G at *
      have hset : (g7 (n / 128)).set G.length u = g7hi (n / 128) := by rw [hg2, hg3, List.set_append_right _ _ (Nat.le_refl _), Nat.sub_self]; rfl
      have hgb : gb (g7 (n / 128)) G.length = t := by rw [hg2, gb_app, if_neg (Nat.lt_irrefl _), Nat.sub_self]; rfl
      have hl2 : (g7 (n / 128)).length = G.length + 1 := by rw [hg2, List.length_append]; rfl
      have hl3 : (g7hi (n / 128)).length = G.length + 1 := by rw [hg3, List.length_append]; rfl
      rw [hl2] at hlen
      generalize hq : G.length = q at *
      generalize g7hi (n / 128) = H at *
      have hlg : (g7 n).length = q + 2 := by rw [hg, List.length_append, hl3]; rfl
      rw [hlg]
      generalize g7 n = R at *
      generalize g7 (n / 128) = P at *
      generalize BitVec.ofNat 8 (n % 128) = y at *
      have HS := Kp.mk hset
      have HB := Kp.mk hgb
      have HE := Kp.mk hg
      rw [hl2] at hC
      have HC := Kp.mk hC
      have HL := Kp.mk (And.intro hl2 hl3)
      clear hC
      have hq4 : q ≤ 4 := by omega
      generalize n % 128 = n1 at *
      generalize n / 128 = n2 at *
      clear hset hgb hg hg2 hg3 hl2 hl3 hlg hpos hlen ht hu hG hq ih h
      go_enter Tryz.func44, Tryz.ntmps44
      go_wp2_with fail
      refine (HC.out _).mono ?_
      rintro e w1 ⟨A1, c1, rfl, hs1, ho1, hx1⟩
      obtain ⟨g, rfl, hg1, hg2⟩ := ho1.some_ (by omega)
      have k1 := ho1.cell q (by omega)
      rw [HB.out] at k1
      have k2 := ho1.free q
      have s1 : IntKind.i64.wrap (((q + 1 : Nat) : Int) - 1) = (q : Int) := by rw [IntKind.wrap_i64]; omega
      have b2 : (q : Int) < ((q + 1 : Nat) : Int) := by omega
      have ho2 := ho1.set q u
      rw [HS.out] at ho2
      have hx2 : Ext w (w1.setCell ⟨g, q, none⟩ (.int .u8 (ub u))) := hx1.setCell hg1 _
      obtain ⟨M, hM⟩ : ∃ M, M = q + 1 := ⟨_, rfl⟩
      have hM5 : M ≤ 5 := by omega
      rw [← hM] at ho2 s1 b2 ⊢
      have HM := Kp.mk hM
      have HO := Kp.mk ho2
      have HX := Kp.mk hx2
      clear hM ho1 hs1 hx1 ho2 hx2
      go_wp2_with (first | (at_builtin; refine wpList_append_bs rfl (.tmp 24) (.tmp 28) rfl w.heap.size _ M H rfl (HO.out.ext (by (repeat (first | assumption | exact Ext.refl _ | apply Ext.drew | apply Ext.drewN | apply Ext.alloc | refine Ext.trans ?_ (by assumption))); first | done | fail)) _ 1 1 [y] rfl (const_bs (w1.setCell ⟨g, q, none⟩ (.int .u8 (ub u))) _ [y] 1 1 (0, 0) (by simp) rfl (by decide)) (by omega) (M + 1) rfl (H ++ [y]) rfl w (HX.out.trans (by (repeat (first | assumption | exact Ext.refl _ | apply Ext.drew | apply Ext.drewN | apply Ext.alloc | refine Ext.trans ?_ (by assumption))); first | done | fail)) (Nat.le_refl _) (HX.out.trans (by (repeat (first | assumption | exact Ext.refl _ | apply Ext.drew | apply Ext.drewN | apply Ext.alloc | refine Ext.trans ?_ (by assumption))); first | done | fail)).size ?_; intro A4 c4 w4 ho4 hx4 hap4) | fail)
      go_ret
      rw [HE.out, show q + 2 = M + 1 by rw [HM.out]]
      exact ⟨A4, c4, rfl, ho4.bs, ho4, hx4⟩
end Go.Proofs.YthookcnkmlmgcaaGreatDoor
namespace Go.Proofs.YthookcnkmlmgcaaGreatDoor
open Go Go.RowKit
set_option maxRecDepth 4000

theorem szU : (Tryz.prog.info? 69).map (·.size) = some 1 := by kernel_rfl
theorem Rd.cut {α : Type} {e : α → Value} {w : World} {A : Option Addr} {n c : Nat} {l : List α} (h : Rd e w A n c l) (k : Nat) (hk : k ≤ n) : ∃ A', (if c = k then A else A.map (·.add k)) = A' ∧ Rd e w A' (n - k) (c - k) (l.drop k) := by
  have hl := h.len
  have hcap := h.cap
  refine ⟨_, rfl, by rw [List.length_drop, hl], by omega, fun e => ?_, fun hn => ?_⟩
  · have hA : A = none := by
      cases A with
      | none => rfl
      | some a => split at e <;> simp at e
    have := h.nul hA
    omega
  · obtain ⟨g, o, rfl, hc⟩ := h.at_ (by omega)
    rw [if_neg (by omega)]
    have hadd : (⟨g, o, none⟩ : Addr).add k = ⟨g, o + k, none⟩ := by unfold Addr.add; split <;> simp_all
    refine ⟨g, o + k, by simp [hadd], fun j x hj => ?_⟩
    rw [Nat.add_assoc]
    rw [List.getElem?_drop] at hj
    exact hc (k + j) x hj
theorem dg_dropK (l : List Nat) (k j : Nat) : dg (l.drop k) j = dg l (k + j) := by unfold dg; rw [List.getD_eq_getElem?_getD, List.getElem?_drop, ← List.getD_eq_getElem?_getD]
theorem g7s_app (a b : List Nat) : g7s (a ++ b) = g7s a ++ g7s b := by unfold g7s; rw [List.flatMap_append]
/-- an identifier's body, number by number -/
theorem oid_up {l : List Nat} (h : OidP l) : ∃ f : Nat → List (BitVec 8), f 0 = g7 (40 * dg l 0 + dg l 1) ∧ f (l.length - 2) = oidB l ∧ (∀ j, j ≤ l.length - 2 → (f j).length ≤ 5 * (j + 1)) ∧ ∀ j, j < l.length - 2 → f (j + 1) = f j ++ g7 (dg l (j + 2)) := by
  obtain ⟨a, b, r, rfl, h1, ha, hb, hc, hr⟩ := h
  have hf : ∀ j, ((a * 40 + b) :: r).take (j + 1) = (a * 40 + b) :: r.take j := fun j => by simp
  refine ⟨fun j => g7s ((40 * a + b) :: r.take j), ?_, ?_, ?_, ?_⟩
  · show g7 (40 * a + b) ++ g7s [] = g7 (40 * a + b)
    exact List.append_nil _
  · show g7s ((40 * a + b) :: r.take (r.length + 1 + 1 - 2)) = g7s ((40 * a + b) :: r)
    rw [show r.length + 1 + 1 - 2 = r.length by omega, List.take_length]
  · intro j hj
    have := (g7s_len ((40 * a + b) :: r.take j) fun n hn => by
      rcases List.mem_cons.1 hn with rfl | hn
      · omega
      · exact hr n (List.mem_of_mem_take hn)).2
    rw [List.length_cons, List.length_take] at this
    show (g7s ((40 * a + b) :: r.take j)).length ≤ _
    omega
  · intro j hj
    have hj' : j < r.length := by
      have : (a :: b :: r).length = r.length + 2 := rfl
      omega
    show g7s ((40 * a + b) :: r.take (j + 1)) = g7s ((40 * a + b) :: r.take j) ++ g7 (dg (a :: b :: r) (j + 2))
    have e1 : r.take (j + 1) = r.take j ++ [dg r j] := by
      rw [List.take_succ_eq_append_getElem hj']
      simp [dg, List.getD_eq_getElem?_getD, hj']
    have e2 : dg (a :: b :: r) (j + 2) = dg r j := rfl
    rw [e1, e2, ← List.cons_append, g7s_app]
    show _ ++ (g7 (dg r j) ++ []) = _
    rw [List.append_nil]
theorem oid_lt {l : List Nat} (h : OidP l) : 2 ≤ l.length ∧ l.length ≤ 16 ∧ 40 * dg l 0 + dg l 1 < 4294967296 ∧ ∀ j, j < l.length - 2 → dg l (j + 2) < 4294967296 := by
  obtain ⟨a, b, r, rfl, h1, ha, hb, hc, hr⟩ := h
  refine ⟨by simp, h1, ?_, fun j hj => ?_⟩
  · show 40 * a + b < _
    omega
  · have hj' : j < r.length := by
      have : (a :: b :: r).length = r.length + 2 := rfl
      omega
    have e2 : dg (a :: b :: r) (j + 2) = r[j] := by
      show dg r j = _
      simp [dg, List.getD_eq_getElem?_getD, hj']
    rw [e2]
    exact hr _ (List.getElem_mem hj')
set_option maxHeartbeats 4000000 in
theorem Oid_any {l : List Nat} {A : Option Addr} {n c : Nat} {w : World} (h : Rd vL w A n c l) (hd : Dg 4294967296 l) :
    Calls Tryz.prog 53 #[.slice A n c] w fun e w' => (¬ OidP l ∧ e = .returned (.tuple #[.slice none 0 0, err 1]) ∧ Ext w w') ∨ (OidP l ∧ FreshE w (oidB l).length (oidB l) e w') := by
  have hK := isOid_any h
  by_cases hP : OidP l
  · rw [(oidK_iff hd).2 hP] at hK
    refine Calls.mono (R := fun e w' => FreshE w (oidB l).length (oidB l) e w') ?_ fun _ _ h => .inr ⟨hP, h⟩
    obtain ⟨f, f0, fa, fl, fs⟩ := oid_up hP
    obtain ⟨n2, n16, n0, nr⟩ := oid_lt hP
    have hl := h.len
    rw [hl] at fa fl fs n2 n16 nr
    obtain ⟨A', hA', hD⟩ := h.cut 2 n2
    have hcut := run_from (P := Tryz.prog) A n c 36 69 Tryz.underlying36 szU 2 2 rfl n2
    rw [hA'] at hcut
    obtain ⟨g, o, rfl⟩ := h.some_ (by omega)
    have c0 : ∀ w', Ext w w' → w'.cell? ⟨g, o, none⟩ = some (.int .u32 (dg l 0 : Int)) := fun w' hx => by
      have := (h.ext hx).dig 0 (by omega)
      rwa [Nat.add_zero] at this
    have c1 : ∀ w', Ext w w' → w'.cell? ⟨g, o + 1, none⟩ = some (.int .u32 (dg l 1 : Int)) := fun w' hx => (h.ext hx).dig 1 (by omega)
    have b0 : (0 : Int) < (n : Int) := by omega
    have b1 : (1 : Int) < (n : Int) := by omega
    have b2 : 0 < n := by omega
    have b3 : 1 < n := by omega
    have e1 : IntKind.u32.wrap (40 * (dg l 0 : Int)) = ((40 * dg l 0 : Nat) : Int) := by rw [IntKind.wrap_u32]; omega
    have e2 : IntKind.u32.wrap (((40 * dg l 0 : Nat) : Int) + (dg l 1 : Int)) = ((40 * dg l 0 + dg l 1 : Nat) : Int) := by rw [IntKind.wrap_u32]; omega
    have hl0 := fl 0 (Nat.zero_le _)
    rw [f0] at hl0
    generalize dg l 0 = x at *
    generalize dg l 1 = y at *
    generalize hz : 40 * x = x40 at *
    generalize x40 + y = z at *
    have HF := Kp.mk fs
    have HL := Kp.mk fl
    have HA := Kp.mk fa
    have HZ := Kp.mk f0
    have HR := Kp.mk nr
    have HD := Kp.mk hD
    generalize hB : oidB l = ob at *
    have HG := Kp.mk (fun j => dg_dropK l 2 j)
    clear fs fl fa f0 nr hD h hd hP hA' hl hz hB
    go_enter Tryz.func53, Tryz.ntmps53
    go_wp2_with (go_at_call 64; refine hK.mono ?_; rintro e w1 ⟨rfl, hw⟩; obtain rfl : w = w1 := hw.symm)
    refine wp_region_held_drew (S := fun w' => Ext w w') (by kernel_rfl) (Ext.refl w).drew (fun hHeld => ?_)
    refine wpAnyH_take (i := 0) (oi := ⟨some 11, _, _, _, _, _⟩) (v := ?_) rfl (by kernel_rfl) (by kernel_rfl) (by kernel_rfl) (fun _ _ _ h => h) (Or.inl ⟨by rfl, ?_⟩) (by assumption) ?_
    rotate_left
    · (intro w hSw; (try dsimp only at hSw); go_simp; try with_reducible rfl)
    try simp only [Act.put, List.setIfInBounds_toArray, List.set_cons_zero, List.set_cons_succ]
    refine wpAnyH_take (i := 1) (oi := ⟨some 12, _, _, _, _, _⟩) (v := ?_) rfl (by kernel_rfl) (by kernel_rfl) (by kernel_rfl) (fun _ _ _ h => h) (Or.inl ⟨by rfl, ?_⟩) (by assumption) ?_
    rotate_left
    · (intro w hSw; (try dsimp only at hSw); go_simp; try with_reducible rfl)
    try simp only [Act.put, List.setIfInBounds_toArray, List.set_cons_zero, List.set_cons_succ]
    refine wpAnyH_take (i := 2) (oi := ⟨some 13, _, _, _, _, _⟩) (v := ?_) rfl (by kernel_rfl) (by kernel_rfl) (by kernel_rfl) (fun _ _ _ h => h) (Or.inl ⟨by rfl, ?_⟩) (by assumption) ?_
    rotate_left
    · (intro w hSw; (try dsimp only at hSw); go_simp; try with_reducible rfl)
    try simp only [Act.put, List.setIfInBounds_toArray, List.set_cons_zero, List.set_cons_succ]
    refine wpAnyH_take (i := 3) (oi := ⟨some 14, _, _, _, _, _⟩) (v := ?_) rfl (by kernel_rfl) (by kernel_rfl) (by kernel_rfl) (fun _ _ _ h => h) (Or.inl ⟨by rfl, ?_⟩) (by assumption) ?_
    rotate_left
    · (intro w hSw; (try dsimp only at hSw); go_simp; try with_reducible rfl)
    try simp only [Act.put, List.setIfInBounds_toArray, List.set_cons_zero, List.set_cons_succ]
    refine wpAnyH_take (i := 4) (oi := ⟨some 15, _, _, _, _, _⟩) (v := ?_) rfl (by kernel_rfl) (by kernel_rfl) (by kernel_rfl) (fun _ _ _ h => h) (Or.inl ⟨by rfl, ?_⟩) (by assumption) ?_
    rotate_left
    · (intro w hSw; (try dsimp only at hSw); go_simp; try with_reducible rfl)
    try simp only [Act.put, List.setIfInBounds_toArray, List.set_cons_zero, List.set_cons_succ]
    refine wpAnyH_take (i := 5) (oi := ⟨some 16, _, _, _, _, _⟩) (v := ?_) rfl (by kernel_rfl) (by kernel_rfl) (by kernel_rfl) (fun _ _ _ h => h) (Or.inl ⟨by rfl, ?_⟩) (by assumption) ?_
    rotate_left
    · (intro w hSw; (try dsimp only at hSw); go_simp; try with_reducible rfl)
    try simp only [Act.put, List.setIfInBounds_toArray, List.set_cons_zero, List.set_cons_succ]
    refine wpAnyH_take (i := 6) (oi := ⟨some 17, _, _, _, _, _⟩) (v := ?_) rfl (by kernel_rfl) (by kernel_rfl) (by kernel_rfl) (fun _ _ _ h => h) (Or.inl ⟨by rfl, ?_⟩) (by assumption) ?_
    rotate_left
    · (intro w hSw; (try dsimp only at hSw); go_simp; try with_reducible rfl)
    try simp only [Act.put, List.setIfInBounds_toArray, List.set_cons_zero, List.set_cons_succ]
    refine wpAnyH_take (i := 7) (oi := ⟨some 18, _, _, _, _, _⟩) (v := ?_) rfl (by kernel_rfl) (by kernel_rfl) (by kernel_rfl) (fun _ _ _ h => h) (Or.inl ⟨by rfl, ?_⟩) (by assumption) ?_
    rotate_left
    · (intro w hSw; (try dsimp only at hSw); go_simp; try with_reducible rfl)
    try simp only [Act.put, List.setIfInBounds_toArray, List.set_cons_zero, List.set_cons_succ]
    refine next_one 8 (by kernel_rfl) rfl (by rfl) fun K' HK' => ?_
    go_simp
    refine (withGroups_any (w0 := w.drew) (B := w.heap.size) (Own.nil _ _) (Ext.refl _) (by simp) (by simp) (by omega) z n0 _ rfl).mono ?_
    rintro e w1 ⟨A1, c1', rfl, ho1, hx1, hz1⟩
    have hx1' : Ext w w1 := (by (repeat (first | assumption | exact Ext.refl _ | apply Ext.drew | apply Ext.drewN | apply Ext.alloc | refine Ext.trans ?_ (by assumption))); first | done | fail)
    have hS2 := Ext.trans hHeld hx1
    refine held_go HK' hS2 (fun _ => ?_)
    clear HK'
    refine held_more (S' := fun w' => Ext w1 w') (fun _ h => Ext.trans hS2 h) _ _ _ _ ?_
    clear hHeld hS2
    have hHeld : Ext w1 w1 := Ext.refl _
    try simp only [Act.put, List.setIfInBounds_toArray, List.set_cons_zero, List.set_cons_succ]
    refine wpAnyH_take (i := 9) (oi := ⟨some 4, _, _, _, _, _⟩) (v := ?_) rfl (by kernel_rfl) (by kernel_rfl) (by kernel_rfl) (fun _ _ _ h => h) (Or.inl ⟨by rfl, ?_⟩) (by assumption) ?_
    rotate_left
    · (intro w hSw; (try dsimp only at hSw); go_simp; try with_reducible rfl)
    try simp only [Act.put, List.setIfInBounds_toArray, List.set_cons_zero, List.set_cons_succ]
    refine wpAnyH_done (by kernel_rfl) ?_ _
    rw [Nat.zero_add, ← HZ.out] at ho1
    rw [List.nil_append] at ho1
    rw [Nat.zero_add, ← HZ.out]
    obtain ⟨M, hM⟩ : ∃ M, M = (f 0).length := ⟨_, rfl⟩
    rw [← hM] at ho1 ⊢
    have H0 := Kp.mk hM
    have H1 := Kp.mk ho1
    have H2 := Kp.mk hx1'
    clear hM ho1 hx1 hx1' hz1 c0 c1 hK e1 e2
    go_wp2_with fail
    clear hcut
    go_loopw [4, 23] (fun v i wr => ∃ j N : Nat, ∃ A2 c2, j ≤ n - 2 ∧ N = (f j).length ∧ i = .int .i64 (j : Int) ∧ v = .slice A2 N c2 ∧ Own wr w.heap.size (.slice A2 N c2) N (f j) ∧ Ext w wr) (fun _ i _ => n - 2 - (intOf i).toNat)
    case atStart => exact ⟨0, M, A1, c1', Nat.zero_le _, H0.out, rfl, rfl, H1.out, H2.out⟩
    case round =>
      obtain ⟨j, N, A2, c2, hj, hN, rfl, rfl, ho, hx⟩ := hrel
      have hNl : N ≤ 1000000 := by have := HL.out j hj; omega
      by_cases hlt : j < n - 2
      · have b4 : (j : Int) < ((n - 2 : Nat) : Int) := by omega
        obtain ⟨g2, o2, rfl⟩ := HD.out.some_ (by omega)
        have k1 := (HD.out.ext hx).dig j (by omega)
        rw [HG.out, Nat.add_comm 2 j] at k1
        have k2 := HF.out j hlt
        have k3 := HR.out j hlt
        unfold vL at k1
        generalize dg l (j + 2) = d at *
        have H3 := Kp.mk (And.intro hN k2)
        have H4 := Kp.mk ho
        have H5 := Kp.mk hx
        clear hN k2 ho hx
        go_wp2_with fail
        refine (withGroups_any (w0 := w) (B := w.heap.size) H4.out H5.out (Nat.le_refl _) H5.out.size (by omega) d k3 _ rfl).mono ?_
        rintro e w3 ⟨A3, c3, rfl, ho3, hx3, hz3⟩
        have e5 : N + (g7 d).length = (f (j + 1)).length := by rw [H3.out.2, List.length_append, ← H3.out.1]
        rw [← H3.out.2, e5] at ho3
        rw [e5]
        obtain ⟨N3, hN3⟩ : ∃ N3, N3 = (f (j + 1)).length := ⟨_, rfl⟩
        rw [← hN3] at ho3 ⊢
        have H6 := Kp.mk hN3
        have H7 := Kp.mk ho3
        have H8 := Kp.mk hx3
        clear hN3 ho3 hx3 e5 hz3 k1
        go_wp2_with fail
        go_roundw
        case rel => exact ⟨j + 1, N3, A3, c3, hlt, H6.out, by go_num, rfl, H7.out, H8.out⟩
        case measure => simp [intOf]; omega
      · obtain rfl : j = n - 2 := by omega
        have b4 : ¬ ((n - 2 : Nat) : Int) < ((n - 2 : Nat) : Int) := by omega
        rw [HA.out] at ho hN
        have H3 := Kp.mk ho
        have H4 := Kp.mk hx
        subst hN
        clear ho hx
        go_wp2_with fail
        go_ret2
        exact ⟨_, _, rfl, H3.out.bs, H3.out, H4.out⟩
  · have hK2 : oidK l = false := by
      cases hq : oidK l with
      | false => rfl
      | true => exact absurd ((oidK_iff hd).1 hq) hP
    rw [hK2] at hK
    refine Calls.mono (R := fun e w' => e = .returned (.tuple #[.slice none 0 0, err 1]) ∧ Ext w w') ?_ fun _ _ h => .inl ⟨hP, h⟩
    clear h hd hP hK2
    go_enter Tryz.func53, Tryz.ntmps53
    go_wp2_with (go_at_call 64; refine hK.mono ?_; rintro e w1 ⟨rfl, rfl⟩)
    go_ret2
    exact ⟨rfl, (by (repeat (first | assumption | exact Ext.refl _ | apply Ext.drew | apply Ext.drewN | apply Ext.alloc | refine Ext.trans ?_ (by assumption))); first | done | fail)⟩
set_option maxHeartbeats 4000000 in
theorem OidBody_any {l : List Nat} {A : Option Addr} {n c : Nat} {w : World} (h : Rd vL w A n c l) (hP : OidP l) :
    Calls Tryz.prog 31 #[.slice A n c] w fun e w' => Fresh w (oidB l).length (oidB l) e w' := by
  obtain ⟨f, f0, fa, fl, fs⟩ := oid_up hP
  obtain ⟨n2, n16, n0, nr⟩ := oid_lt hP
  have hl := h.len
  rw [hl] at fa fl fs n2 n16 nr
  obtain ⟨g, o, rfl⟩ := h.some_ (by omega)
  have c0 : ∀ w', Ext w w' → w'.cell? ⟨g, o, none⟩ = some (.int .u32 (dg l 0 : Int)) := fun w' hx => by
    have := (h.ext hx).dig 0 (by omega)
    rwa [Nat.add_zero] at this
  have c1 : ∀ w', Ext w w' → w'.cell? ⟨g, o + 1, none⟩ = some (.int .u32 (dg l 1 : Int)) := fun w' hx => (h.ext hx).dig 1 (by omega)
  have b0 : (0 : Int) < (n : Int) := by omega
  have b1 : (1 : Int) < (n : Int) := by omega
  have b2 : 0 < n := by omega
  have b3 : 1 < n := by omega
  have e1 : IntKind.u32.wrap (40 * (dg l 0 : Int)) = ((40 * dg l 0 : Nat) : Int) := by rw [IntKind.wrap_u32]; omega
  have e2 : IntKind.u32.wrap (((40 * dg l 0 : Nat) : Int) + (dg l 1 : Int)) = ((40 * dg l 0 + dg l 1 : Nat) : Int) := by rw [IntKind.wrap_u32]; omega
  generalize dg l 0 = x at *
  generalize dg l 1 = y at *
  generalize hz : 40 * x = x40 at *
  generalize x40 + y = z at *
  have HF := Kp.mk fs
  have HL := Kp.mk fl
  have HA := Kp.mk fa
  have HZ := Kp.mk f0
  have HR := Kp.mk nr
  have HD := Kp.mk h
  generalize hB : oidB l = ob at *
  clear fs fl fa f0 nr h hP hl hz hB
  go_enter Tryz.func31, Tryz.ntmps31
  go_wp2_with fail
  refine wp_region_held_drew (S := fun w' => Ext w w') (by kernel_rfl) (Ext.refl w).drew (fun hHeld => ?_)
  refine wpAnyH_take (i := 0) (oi := ⟨some 5, _, _, _, _, _⟩) (v := ?_) rfl (by kernel_rfl) (by kernel_rfl) (by kernel_rfl) (fun _ _ _ h => h) (Or.inl ⟨by rfl, ?_⟩) (by assumption) ?_
  rotate_left
  · (intro w hSw; (try dsimp only at hSw); go_simp; try with_reducible rfl)
  try simp only [Act.put, List.setIfInBounds_toArray, List.set_cons_zero, List.set_cons_succ]
  refine wpAnyH_take (i := 1) (oi := ⟨some 6, _, _, _, _, _⟩) (v := ?_) rfl (by kernel_rfl) (by kernel_rfl) (by kernel_rfl) (fun _ _ _ h => h) (Or.inl ⟨by rfl, ?_⟩) (by assumption) ?_
  rotate_left
  · (intro w hSw; (try dsimp only at hSw); go_simp; try with_reducible rfl)
  try simp only [Act.put, List.setIfInBounds_toArray, List.set_cons_zero, List.set_cons_succ]
  refine wpAnyH_take (i := 2) (oi := ⟨some 7, _, _, _, _, _⟩) (v := ?_) rfl (by kernel_rfl) (by kernel_rfl) (by kernel_rfl) (fun _ _ _ h => h) (Or.inl ⟨by rfl, ?_⟩) (by assumption) ?_
  rotate_left
  · (intro w hSw; (try dsimp only at hSw); go_simp; try with_reducible rfl)
  try simp only [Act.put, List.setIfInBounds_toArray, List.set_cons_zero, List.set_cons_succ]
  refine wpAnyH_take (i := 3) (oi := ⟨some 8, _, _, _, _, _⟩) (v := ?_) rfl (by kernel_rfl) (by kernel_rfl) (by kernel_rfl) (fun _ _ _ h => h) (Or.inl ⟨by rfl, ?_⟩) (by assumption) ?_
  rotate_left
  · (intro w hSw; (try dsimp only at hSw); go_simp; try with_reducible rfl)
  try simp only [Act.put, List.setIfInBounds_toArray, List.set_cons_zero, List.set_cons_succ]
  refine wpAnyH_take (i := 4) (oi := ⟨some 9, _, _, _, _, _⟩) (v := ?_) rfl (by kernel_rfl) (by kernel_rfl) (by kernel_rfl) (fun _ _ _ h => h) (Or.inl ⟨by rfl, ?_⟩) (by assumption) ?_
  rotate_left
  · (intro w hSw; (try dsimp only at hSw); go_simp; try with_reducible rfl)
  try simp only [Act.put, List.setIfInBounds_toArray, List.set_cons_zero, List.set_cons_succ]
  refine wpAnyH_take (i := 5) (oi := ⟨some 10, _, _, _, _, _⟩) (v := ?_) rfl (by kernel_rfl) (by kernel_rfl) (by kernel_rfl) (fun _ _ _ h => h) (Or.inl ⟨by rfl, ?_⟩) (by assumption) ?_
  rotate_left
  · (intro w hSw; (try dsimp only at hSw); go_simp; try with_reducible rfl)
  try simp only [Act.put, List.setIfInBounds_toArray, List.set_cons_zero, List.set_cons_succ]
  refine wpAnyH_take (i := 6) (oi := ⟨some 11, _, _, _, _, _⟩) (v := ?_) rfl (by kernel_rfl) (by kernel_rfl) (by kernel_rfl) (fun _ _ _ h => h) (Or.inl ⟨by rfl, ?_⟩) (by assumption) ?_
  rotate_left
  · (intro w hSw; (try dsimp only at hSw); go_simp; try with_reducible rfl)
  try simp only [Act.put, List.setIfInBounds_toArray, List.set_cons_zero, List.set_cons_succ]
  refine wpAnyH_take (i := 7) (oi := ⟨some 12, _, _, _, _, _⟩) (v := ?_) rfl (by kernel_rfl) (by kernel_rfl) (by kernel_rfl) (fun _ _ _ h => h) (Or.inl ⟨by rfl, ?_⟩) (by assumption) ?_
  rotate_left
  · (intro w hSw; (try dsimp only at hSw); go_simp; try with_reducible rfl)
  try simp only [Act.put, List.setIfInBounds_toArray, List.set_cons_zero, List.set_cons_succ]
  refine next_one 8 (by kernel_rfl) rfl (by rfl) fun K' HK' => ?_
  go_simp
  refine (group_any z n0 _).mono ?_
  rintro e w1 ⟨A1, c1', rfl, hs1, ho1, hx1⟩
  have hS2 := Ext.trans hHeld hx1
  refine held_go HK' hS2 (fun _ => ?_)
  clear HK'
  refine held_more (S' := fun w' => Ext w1 w') (fun _ h => Ext.trans hS2 h) _ _ _ _ ?_
  clear hHeld hS2
  have hHeld : Ext w1 w1 := Ext.refl _
  try simp only [Act.put, List.setIfInBounds_toArray, List.set_cons_zero, List.set_cons_succ]
  refine wpAnyH_take (i := 9) (oi := ⟨some 3, _, _, _, _, _⟩) (v := ?_) rfl (by kernel_rfl) (by kernel_rfl) (by kernel_rfl) (fun _ _ _ h => h) (Or.inl ⟨by rfl, ?_⟩) (by assumption) ?_
  rotate_left
  · (intro w hSw; (try dsimp only at hSw); go_simp; try with_reducible rfl)
  try simp only [Act.put, List.setIfInBounds_toArray, List.set_cons_zero, List.set_cons_succ]
  refine wpAnyH_done (by kernel_rfl) ?_ _
  have ho1' := ho1.lower (B' := w.heap.size) (by simp)
  have hx1' : Ext w w1 := (by (repeat (first | assumption | exact Ext.refl _ | apply Ext.drew | apply Ext.drewN | apply Ext.alloc | refine Ext.trans ?_ (by assumption))); first | done | fail)
  rw [← HZ.out] at ho1' ⊢
  obtain ⟨M, hM⟩ : ∃ M, M = (f 0).length := ⟨_, rfl⟩
  rw [← hM] at ho1' ⊢
  have H0 := Kp.mk hM
  have H1 := Kp.mk ho1'
  have H2 := Kp.mk hx1'
  clear hM ho1 hx1 hs1 c0 c1 e1 e2 ho1' hx1'
  go_wp2_with fail
  go_loopw [3, 4] (fun v i wr => ∃ j N : Nat, ∃ A2 c2, j ≤ n - 2 ∧ N = (f j).length ∧ i = .int .i64 ((j + 2 : Nat) : Int) ∧ v = .slice A2 N c2 ∧ Own wr w.heap.size (.slice A2 N c2) N (f j) ∧ Ext w wr) (fun _ i _ => n - (intOf i).toNat)
  case atStart => exact ⟨0, M, A1, c1', Nat.zero_le _, H0.out, rfl, rfl, H1.out, H2.out⟩
  case round =>
    obtain ⟨j, N, A2, c2, hj, hN, rfl, rfl, ho, hx⟩ := hrel
    have hNl : N ≤ 1000000 := by have := HL.out j hj; omega
    obtain ⟨i, hi⟩ : ∃ i, i = j + 2 := ⟨_, rfl⟩
    by_cases hlt : j < n - 2
    · have k1 := (HD.out.ext hx).dig (j + 2) (by omega)
      have k2 := HF.out j hlt
      have k3 := HR.out j hlt
      rw [← hi] at k1 ⊢
      have b4 : (i : Int) < (n : Int) := by omega
      have s1 : IntKind.i64.wrap ((i : Int) + 1) = (i : Int) + 1 := by rw [IntKind.wrap_i64]; omega
      unfold vL at k1
      rw [← hi] at k2 k3
      generalize dg l i = d at *
      have H3 := Kp.mk (And.intro hN k2)
      have H4 := Kp.mk ho
      have H5 := Kp.mk hx
      have H9 := Kp.mk hi
      clear hN k2 ho hx hi
      go_wp2_with fail
      refine (group_any d k3 _).mono ?_
      rintro e w3 ⟨A3, c3, rfl, hs3, ho3, hx3⟩
      have hx3' := H5.out.trans hx3
      have H4' := Kp.mk (H4.out.ext hx3)
      have e5 : N + (g7 d).length = (f (j + 1)).length := by rw [H3.out.2, List.length_append, ← H3.out.1]
      have e6 : f j ++ g7 d = f (j + 1) := H3.out.2.symm
      have hgl := (g7_len d k3).2
      obtain ⟨q, hq⟩ : ∃ q, q = (g7 d).length := ⟨_, rfl⟩
      rw [← hq] at hs3 e5 hgl ⊢
      generalize g7 d = gd at *
      have H6 := Kp.mk hs3
      have H7 := Kp.mk hx3'
      have H8 := Kp.mk (And.intro e5 e6)
      clear hq hs3 hx3' e5 e6 hx3 ho3 k1
      go_wp2_with (first | (at_builtin; refine wpList_append_bs rfl (.tmp 20) (.tmp 25) rfl w.heap.size _ N (f j) rfl H4'.out _ q c3 gd rfl H6.out (by omega) (N + q) rfl (f j ++ gd) rfl w H7.out (Nat.le_refl _) H7.out.size ?_; intro A4 c4 w4 ho4 hx4 hap4) | fail)
      go_roundw
      case rel =>
        rw [H8.out.2] at ho4
        exact ⟨j + 1, N + q, A4, c4, hlt, H8.out.1, by have := H9.out; subst this; go_num, by first | rfl | (congr 1; omega), ho4, hx4⟩
      case measure => simp [intOf]; omega
    · obtain rfl : j = n - 2 := by omega
      rw [← hi]
      have b4 : ¬ (i : Int) < (n : Int) := by omega
      rw [HA.out] at ho hN
      have H3 := Kp.mk ho
      have H4 := Kp.mk hx
      subst hN
      clear ho hx hi
      go_wp2_with fail
      go_ret
      exact ⟨_, _, rfl, H3.out.bs, H3.out, H4.out⟩
end Go.Proofs.YthookcnkmlmgcaaGreatDoor
