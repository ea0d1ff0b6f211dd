/-
  tlv's reader: Enter.
  A writer and a reader beside one another; the laws' head up.
  What the rows' readings give the walks: arrays of words and of bytes, slices of bytes.
-/
import Derived.Test.YtadndhenfoppiaaM10
import Derived.Test.YtadndhenfoppiaaM7
import Derived.Test.YtadndhenfoppiaaM8
import Derived.Test.YtadndhenfoppiaaRows
import Derived.Test.YtadndhenfoppiaaM1
import Derived.ProofKit
import Derived.LaidMore
import Derived.OpenShut
import Derived.Lay
import Derived.MakeChecks
import Derived.ChangeOld
import Derived.Stop.Joined
import Derived.SizedLaws
namespace Go.Proofs.Ytadndhenfoppiaa
open Go Go.RowKit
set_option maxRecDepth 4000

/-- what stands there, and what stands behind, both turned -/
theorem Rt.both {w w' : World} {p : Nat} {ds : List Nat} {A A' : Option Addr} {n c n' c' : Nat} {vb vb' : Value} {rest rest' : List (BitVec 8)} {ts ts' : List (Option Addr × Nat × Nat)} {bs bs' : List (List (BitVec 8))} (h : Rt w p ds A n c vb rest ts bs)
    (hr : Bs w A' n' c' rest') (hi : In A' n' ds) (hm : Mvs (fpv vb) (fpv vb') w w') (ho : Rw 23 eSl w' 0 vb' ts'.length ts') (hlen : ts'.length = bs'.length)
    (he : ∀ (j : Nat) (t : Option Addr × Nat × Nat) (l : List (BitVec 8)), ts'[j]? = some t → bs'[j]? = some l → Bs w t.1 t.2.1 t.2.2 l ∧ In t.1 t.2.1 ds) :
    Rt ((w'.setCell ⟨p, 0, none⟩ (.slice A' n' c')).setCell ⟨p, 1, none⟩ vb') p ds A' n' c' vb' rest' ts' bs' ∧ Mvs (fpR p vb ds) (fpR p vb' ds) w ((w'.setCell ⟨p, 0, none⟩ (.slice A' n' c')).setCell ⟨p, 1, none⟩ vb') := by
  have hm2 : Mds (p :: fpv vb) w ((w'.setCell ⟨p, 0, none⟩ (.slice A' n' c')).setCell ⟨p, 1, none⟩ vb') := ((hm.m.mono fun k hk => List.mem_cons_of_mem _ hk).setCell (p := ⟨p, 0, none⟩) (by simp) _).setCell (p := ⟨p, 1, none⟩) (by simp) _
  have h1 := h.blk.mds hm.m (h.bo.ne h.blk (by decide))
  have hne : vb'.ownBlock ≠ some p := fun e => ho.ne h1 (by decide) (mem_fpv.2 e)
  refine ⟨⟨(h1.set_ 0 _).set_ 1 _, hr.mds hm2 (hi.off h.apd), hi, (ho.far (p := ⟨p, 0, none⟩) hne _).far (p := ⟨p, 1, none⟩) hne _, hlen, fun j t l h2 h3 => ?_, fun k hk hk2 => ?_, h.hid.mono hm2.size⟩, hm2.mono fun k hk => ?_, fun k hk => ?_⟩
  · obtain ⟨h4, h5⟩ := he j t l h2 h3
    exact ⟨h4.mds hm2 (h5.off h.apd), h5⟩
  · rcases List.mem_cons.1 hk2 with e | e
    · exact h.apd k hk (e ▸ by simp)
    · rcases hm.f k e with e2 | e2
      · exact h.apd k hk (List.mem_cons_of_mem _ e2)
      · have := h.hid k hk; omega
  · rcases List.mem_cons.1 hk with e | e
    · exact mem_fpR.2 (.inl e)
    · exact mem_fpR.2 (.inr (.inl e))
  · rcases mem_fpR.1 hk with e | e | e
    · exact .inl (mem_fpR.2 (.inl e))
    · rcases hm.f k e with e2 | e2
      · exact .inl (mem_fpR.2 (.inr (.inl e2)))
      · exact .inr e2
    · exact .inl (mem_fpR.2 (.inr (.inr e)))
theorem lit_rd (w : World) (A : Option Addr) (n c g : Nat) (hg : g = w.heap.size) : Rd eSl (w.alloc (.cells #[.slice A n c] 23)) (some ⟨g, 0, none⟩) 1 1 [(A, n, c)] := by
  subst hg
  refine ⟨rfl, Nat.le_refl _, (fun e => by cases e), fun _ => ⟨w.heap.size, 0, rfl, fun j y hj => ?_⟩⟩
  have hj0 : j = 0 := by have := (List.getElem?_eq_some_iff.1 hj).1; simp at this; exact this
  subst hj0
  obtain rfl : (A, n, c) = y := by simpa using hj
  exact (Blk.new w 23 #[.slice A n c]).h.cell 0
section
variable {w : World} {p : Nat} {m : BitVec 8} {G : List Nat} {rest : List (BitVec 8)} {bs : List (List (BitVec 8))}
set_option maxHeartbeats 2000000 in
theorem Enter_err (h : Rr w p G rest bs) (hx : rest.length ≤ 1000000000000) (he : ¬ (isW m = true ∧ ∃ x r, El rest m x r)) : Calls Try.prog 28 #[.pointer (some ⟨p, 0, none⟩), .int .u8 (ub m)] w fun e w' => e = .returned (err (erC rest m)) ∧ Ext w w' := by
  have C := Kp.mk (marked_bad (m := m) (isW m) h hx he)
  generalize erC rest m = k at *
  obtain ⟨kd, hk⟩ : ∃ kd, isW m = kd := ⟨_, rfl⟩
  rw [hk] at C
  clear h hx he
  go_enter Try.func28, Try.ntmps28
  go_wp2_with (first | (go_at_call 36; refine (isWhole_any m kd hk _).mono ?_; rintro e w1 ⟨rfl, rfl⟩) | (go_at_call 39; refine C.out.mono ?_; rintro e w2 ⟨rfl, hx2⟩; have HX2 := Kp.mk hx2; have HN2 := Kp.mk (Blk.new w2 elt #[.slice none 0 0, .slice none 0 0, .slice none 0 0]); clear hx2) | ((with_reducible refine at_store 5 13 ?_); refine wpList_store_row rfl elt _ _ rfl w2.heap.size #[.slice none 0 0, .slice none 0 0, .slice none 0 0] rfl rfl elt _ HN2.out.h szEl rfl (one_three _ _ _ _ _ _ _ _ _) ?_) | fail)
  go_ret
  exact ⟨rfl, HX2.out.trans (Ext.setRow ((by (repeat (first | assumption | exact Ext.refl _ | apply Ext.drew | apply Ext.drewN | apply Ext.alloc | refine Ext.trans ?_ (by assumption))); first | done | fail) : Ext w2 (w2.alloc (.cells #[.slice none 0 0, .slice none 0 0, .slice none 0 0] elt))) (Nat.le_refl _) _)⟩
set_option maxHeartbeats 4000000 in
theorem Enter_deep {x r : List (BitVec 8)} (h : Rr w p G rest bs) (hx : rest.length ≤ 1000000000000) (hm : isW m = true) (he : El rest m x r) (hd : 24 ≤ bs.length) : Calls Try.prog 28 #[.pointer (some ⟨p, 0, none⟩), .int .u8 (ub m)] w fun e w' => e = .returned (err 5) ∧ Ext w w' := by
  obtain ⟨ds, A, n, c, vb, ts, h, rfl⟩ := h
  have C := Kp.mk (marked_ok h hx he)
  obtain ⟨Ab, cb, rfl⟩ := h.bo.form
  have hln := h.len
  obtain ⟨M, hM⟩ : ∃ M, ts.length = M := ⟨_, rfl⟩
  have hc1 := fun (w' : World) (hx : Ext w w') => h.blk.cell hx 1
  rw [hM] at hln hc1
  have b1 : (24 : Int) ≤ (M : Int) := by omega
  have b1' : 24 ≤ M := by omega
  clear h hx he hln hM hd
  go_enter Try.func28, Try.ntmps28
  go_wp2_with (first | (go_at_call 36; refine (isWhole_any m true hm _).mono ?_; rintro e w1 ⟨rfl, rfl⟩) | (go_at_call 39; refine C.out.mono ?_; rintro e w2 ⟨A1, n1, c1, A2, n2, c2, A3, n3, c3, rfl, q1, q2, q3, j1, j2, j3, hx2⟩; have HX2 := Kp.mk hx2; have HN2 := Kp.mk (Blk.new w2 elt #[.slice none 0 0, .slice none 0 0, .slice none 0 0]); have HN3 := Kp.mk ((Blk.new w2 elt #[.slice none 0 0, .slice none 0 0, .slice none 0 0]).row #[.slice A1 n1 c1, .slice A2 n2 c2, .slice A3 n3 c3]); have HY3 := Kp.mk (Ext.setRow ((by (repeat (first | assumption | exact Ext.refl _ | apply Ext.drew | apply Ext.drewN | apply Ext.alloc | refine Ext.trans ?_ (by assumption))); first | done | fail) : Ext w2 (w2.alloc (.cells #[.slice none 0 0, .slice none 0 0, .slice none 0 0] elt))) (Nat.le_refl _) #[.slice A1 n1 c1, .slice A2 n2 c2, .slice A3 n3 c3]); have Q2 := Kp.mk q2; have Q3 := Kp.mk q3; have J2 := Kp.mk j2; have J3 := Kp.mk j3; clear q1 q2 q3 j1 j2 j3 hx2) | ((with_reducible refine at_store 5 13 ?_); refine wpList_store_row rfl elt _ _ rfl w2.heap.size #[.slice A1 n1 c1, .slice A2 n2 c2, .slice A3 n3 c3] rfl rfl elt _ HN2.out.h szEl rfl (one_three _ _ _ _ _ _ _ _ _) ?_; generalize (w2.alloc (.cells #[.slice none 0 0, .slice none 0 0, .slice none 0 0] elt)).setRow w2.heap.size #[.slice A1 n1 c1, .slice A2 n2 c2, .slice A3 n3 c3] = w3 at *; have HX3 := Kp.mk (HX2.out.trans HY3.out); have hc31 := hc1 w3 HX3.out) | fail)
  go_ret
  exact ⟨rfl, HX3.out⟩
set_option maxHeartbeats 4000000 in
theorem Enter_ok {x r : List (BitVec 8)} (h : Rr w p G rest bs) (hx : rest.length ≤ 1000000000000) (hm : isW m = true) (he : El rest m x r) (hd : bs.length < 24) : Calls Try.prog 28 #[.pointer (some ⟨p, 0, none⟩), .int .u8 (ub m)] w fun e w' => e = .returned .nilIface ∧ ∃ G', Rr w' p G' x (bs ++ [r]) ∧ Mvs G G' w w' := by
  obtain ⟨ds, A, n, c, vb, ts, h, rfl⟩ := h
  have C := Kp.mk (marked_ok h hx he)
  obtain ⟨Ab, cb, rfl⟩ := h.bo.form
  have hln := h.len
  obtain ⟨M, hM⟩ : ∃ M, ts.length = M := ⟨_, rfl⟩
  rw [hM] at h hln ⊢
  have hc1 := fun (w' : World) (hx : Ext w w') => h.blk.cell hx 1
  have hlo : ∀ (w3 : World), Ext w w3 → ∀ (w' : World), Mds (fpv (.slice Ab M cb)) w3 w' → Blk w' p rdt #[.slice A n c, .slice Ab M cb] := fun w3 hx w' hm => (h.ext hx).blk.mds hm ((h.ext hx).bo.ne (h.ext hx).blk (by decide))
  have b1 : decide ((24 : Int) ≤ (M : Int)) = false := decide_eq_false (by omega)
  have b2 : decide (24 ≤ M) = false := decide_eq_false (by omega)
  have b3 : (M + 1) * 24 ≤ 140737488355328 := by omega
  have H := Kp.mk h
  have HM := Kp.mk hM
  have HLN := Kp.mk hln
  have HLO := Kp.mk hlo
  have HFP : Kp (∀ k, k ∈ fpv (.slice Ab M cb) → k < w.heap.size) := ⟨h.bo.fp_lt⟩
  clear h hx he hln hM hd hlo
  go_enter Try.func28, Try.ntmps28
  go_wp2_with (first | (go_at_call 36; refine (isWhole_any m true hm _).mono ?_; rintro e w1 ⟨rfl, rfl⟩) | (go_at_call 39; refine C.out.mono ?_; rintro e w2 ⟨A1, n1, c1, A2, n2, c2, A3, n3, c3, rfl, q1, q2, q3, j1, j2, j3, hx2⟩; have HX2 := Kp.mk hx2; have HN2 := Kp.mk (Blk.new w2 elt #[.slice none 0 0, .slice none 0 0, .slice none 0 0]); have HN3 := Kp.mk ((Blk.new w2 elt #[.slice none 0 0, .slice none 0 0, .slice none 0 0]).row #[.slice A1 n1 c1, .slice A2 n2 c2, .slice A3 n3 c3]); have HY3 := Kp.mk (Ext.setRow ((by (repeat (first | assumption | exact Ext.refl _ | apply Ext.drew | apply Ext.drewN | apply Ext.alloc | refine Ext.trans ?_ (by assumption))); first | done | fail) : Ext w2 (w2.alloc (.cells #[.slice none 0 0, .slice none 0 0, .slice none 0 0] elt))) (Nat.le_refl _) #[.slice A1 n1 c1, .slice A2 n2 c2, .slice A3 n3 c3]); have Q2 := Kp.mk q2; have Q3 := Kp.mk q3; have J2 := Kp.mk j2; have J3 := Kp.mk j3; clear q1 q2 q3 j1 j2 j3 hx2) | ((with_reducible refine at_store 5 13 ?_); refine wpList_store_row rfl elt _ _ rfl w2.heap.size #[.slice A1 n1 c1, .slice A2 n2 c2, .slice A3 n3 c3] rfl rfl elt _ HN2.out.h szEl rfl (one_three _ _ _ _ _ _ _ _ _) ?_; generalize (w2.alloc (.cells #[.slice none 0 0, .slice none 0 0, .slice none 0 0] elt)).setRow w2.heap.size #[.slice A1 n1 c1, .slice A2 n2 c2, .slice A3 n3 c3] = w3 at *; have HX3 := Kp.mk (HX2.out.trans HY3.out); have hc31 := hc1 w3 HX3.out) | fail)
  have hl0 := fun (w' : World) (hm : Mds (fpv (.slice Ab M cb)) w3 w') => (HLO.out w3 HX3.out w' hm).h.cell 0
  have hl1 := fun (w' : World) (hm : Mds (fpv (.slice Ab M cb)) w3 w') => (HLO.out w3 HX3.out w' hm).h.cell 1
  have hfe : w2.heap.size ∉ fpv (.slice Ab M cb) := fun hk => Nat.lt_irrefl _ (Nat.lt_of_lt_of_le (HFP.out _ hk) HX2.out.size)
  have he1 := fun (w' : World) (hm : Mds (fpv (.slice Ab M cb)) w3 w') => (HN3.out.mds hm hfe).h.cell 1
  have he2 := fun (w' : World) (hm : Mds (fpv (.slice Ab M cb)) w3 w') => (HN3.out.mds hm hfe).h.cell 2
  refine wp_region_R (st := fun s => s == 14 || s == 17) (R := fun w' => Mds (fpv (.slice Ab M cb)) w3 w') (by kernel_rfl) (Mds.refl _ _).drew (fun hR => ?_)
  refine wpAnyR_take0 (i := 0) (oi := ⟨some 25, _, _, _, _, _⟩) (v := ?_) rfl (by kernel_rfl) (by kernel_rfl) (by kernel_rfl) rfl (fun _ _ _ h => h) (Or.inl ⟨by rfl, ?_⟩) (by first | exact .inr (by assumption) | exact .inl (by kernel_rfl)) ?_
  rotate_left
  · (intro w hSw; (try dsimp only at hSw); go_simp; try with_reducible rfl)
  try simp only [Act.put, List.setIfInBounds_toArray, List.set_cons_zero, List.set_cons_succ]
  refine wpAnyR_take0 (i := 1) (oi := ⟨some 26, _, _, _, _, _⟩) (v := ?_) rfl (by kernel_rfl) (by kernel_rfl) (by kernel_rfl) rfl (fun _ _ _ h => h) (Or.inl ⟨by rfl, ?_⟩) (by first | exact .inr (by assumption) | exact .inl (by kernel_rfl)) ?_
  rotate_left
  · (intro w hSw; (try dsimp only at hSw); go_simp; try with_reducible rfl)
  try simp only [Act.put, List.setIfInBounds_toArray, List.set_cons_zero, List.set_cons_succ]
  refine wpAnyR_take0 (i := 2) (oi := ⟨some 27, _, _, _, _, _⟩) (v := ?_) rfl (by kernel_rfl) (by kernel_rfl) (by kernel_rfl) rfl (fun _ _ _ h => h) (Or.inl ⟨by rfl, ?_⟩) (by first | exact .inr (by assumption) | exact .inl (by kernel_rfl)) ?_
  rotate_left
  · (intro w hSw; (try dsimp only at hSw); go_simp; try with_reducible rfl)
  try simp only [Act.put, List.setIfInBounds_toArray, List.set_cons_zero, List.set_cons_succ]
  refine wpAnyR_take (i := 3) (oi := ⟨some 28, _, _, _, _, _⟩) (v := ?_) rfl (by kernel_rfl) (by kernel_rfl) (by kernel_rfl) rfl (by kernel_rfl) (by kernel_rfl) (fun _ _ _ h => h) (Or.inl ⟨by rfl, ?_⟩) (by assumption) ?_
  rotate_left
  · (intro w hSw; (try dsimp only at hSw); go_simp; try with_reducible rfl)
  try simp only [Act.put, List.setIfInBounds_toArray, List.set_cons_zero, List.set_cons_succ]
  refine wpAnyR_take0 (i := 4) (oi := ⟨some 29, _, _, _, _, _⟩) (v := ?_) rfl (by kernel_rfl) (by kernel_rfl) (by kernel_rfl) rfl (fun _ _ _ h => h) (Or.inl ⟨by rfl, ?_⟩) (by first | exact .inr (by assumption) | exact .inl (by kernel_rfl)) ?_
  rotate_left
  · (intro w hSw; (try dsimp only at hSw); go_simp; try with_reducible rfl)
  try simp only [Act.put, List.setIfInBounds_toArray, List.set_cons_zero, List.set_cons_succ]
  refine wpAnyR_take0 (i := 5) (oi := ⟨some 30, _, _, _, _, _⟩) (v := ?_) rfl (by kernel_rfl) (by kernel_rfl) (by kernel_rfl) rfl (fun _ _ _ h => h) (Or.inl ⟨by rfl, ?_⟩) (by first | exact .inr (by assumption) | exact .inl (by kernel_rfl)) ?_
  rotate_left
  · (intro w hSw; (try dsimp only at hSw); go_simp; try with_reducible rfl)
  try simp only [Act.put, List.setIfInBounds_toArray, List.set_cons_zero, List.set_cons_succ]
  refine wpAnyR_take0 (i := 6) (oi := ⟨some 31, _, _, _, _, _⟩) (v := ?_) rfl (by kernel_rfl) (by kernel_rfl) (by kernel_rfl) rfl (fun _ _ _ h => h) (Or.inl ⟨by rfl, ?_⟩) (by first | exact .inr (by assumption) | exact .inl (by kernel_rfl)) ?_
  rotate_left
  · (intro w hSw; (try dsimp only at hSw); go_simp; try with_reducible rfl)
  try simp only [Act.put, List.setIfInBounds_toArray, List.set_cons_zero, List.set_cons_succ]
  refine wpAnyR_take (i := 7) (oi := ⟨some 32, _, _, _, _, _⟩) (v := ?_) rfl (by kernel_rfl) (by kernel_rfl) (by kernel_rfl) rfl (by kernel_rfl) (by kernel_rfl) (fun _ _ _ h => h) (Or.inl ⟨by rfl, ?_⟩) (by assumption) ?_
  rotate_left
  · (intro w hSw; (try dsimp only at hSw); go_simp; try with_reducible rfl)
  try simp only [Act.put, List.setIfInBounds_toArray, List.set_cons_zero, List.set_cons_succ]
  refine wpAnyR_take0 (i := 8) (oi := ⟨some 33, _, _, _, _, _⟩) (v := ?_) rfl (by kernel_rfl) (by kernel_rfl) (by kernel_rfl) rfl (fun _ _ _ h => h) (Or.inl ⟨by rfl, ?_⟩) (by first | exact .inr (by assumption) | exact .inl (by kernel_rfl)) ?_
  rotate_left
  · (intro w hSw; (try dsimp only at hSw); go_simp; try with_reducible rfl)
  try simp only [Act.put, List.setIfInBounds_toArray, List.set_cons_zero, List.set_cons_succ]
  have hev := he2 _ hR
  refine nextR 9 (by kernel_rfl) rfl (by rfl) fun K' HK' => ?_
  go_simp
  refine held_go HK' (.inr (hR)) (fun _ => ?_)
  clear HK'
  try simp only [Act.put, List.setIfInBounds_toArray, List.set_cons_zero, List.set_cons_succ]
  have HR := Kp.mk hR
  clear hR
  refine nextR 10 (by kernel_rfl) rfl (by rfl) fun K' HK' => ?_
  go_simp
  refine held_go HK' (.inr (HR.out.alloc _)) (fun _ => ?_)
  clear HK'
  try simp only [Act.put, List.setIfInBounds_toArray, List.set_cons_zero, List.set_cons_succ]
  refine nextR 11 (by kernel_rfl) rfl (by rfl) fun K' HK' => ?_
  have hx4 : Ext w3 ((w3.alloc (.cells #[.slice A3 n3 c3] 23)).drew) := (by (repeat (first | assumption | exact Ext.refl _ | apply Ext.drew | apply Ext.drewN | apply Ext.alloc | refine Ext.trans ?_ (by assumption))); first | done | fail)
  refine wp_append_r 61 (.slice none 0 0) 24 Try.underlying61 inR rfl (by decide) eSl_one (.tmp 32) (.tmp 35) rfl (.slice Ab M cb) M ts rfl (by have h := (H.out.ext (HX3.out.trans hx4)).bo; rw [HM.out] at h; exact h) _ 1 1 [(A3, n3, c3)] rfl ((lit_rd w3 A3 n3 c3 _ rfl).ext (by (repeat (first | assumption | exact Ext.refl _ | apply Ext.drew | apply Ext.drewN | apply Ext.alloc | refine Ext.trans ?_ (by assumption))); first | done | fail)) b3 (M + 1) rfl (ts ++ [(A3, n3, c3)]) rfl ?_
  intro A4 c4 w4 ho4 ha4
  have m4 := (hx4.mds (fpv (.slice Ab M cb))).trans ha4.mds
  have v4 : Mvs (fpv (.slice Ab M cb)) (fpv (.slice A4 (M + 1) c4)) w3 w4 := ha4.mv.pre hx4
  have HO4 := Kp.mk ho4
  have HV4 := Kp.mk v4
  have HX4 := Kp.mk hx4
  clear ho4 ha4 v4 hx4
  refine held_go HK' (.inr (m4)) (fun _ => ?_)
  clear HK'
  try simp only [Act.put, List.setIfInBounds_toArray, List.set_cons_zero, List.set_cons_succ]
  refine nextR 12 (by kernel_rfl) rfl (by rfl) fun K' HK' => ?_
  go_simp
  refine held_go HK' (.inr (m4)) (fun _ => ?_)
  clear HK'
  try simp only [Act.put, List.setIfInBounds_toArray, List.set_cons_zero, List.set_cons_succ]
  refine nextR 13 (by kernel_rfl) rfl (by rfl) fun K' HK' => ?_
  go_simp
  refine held_go HK' (.inr (m4)) (fun _ => ?_)
  clear HK'
  try simp only [Act.put, List.setIfInBounds_toArray, List.set_cons_zero, List.set_cons_succ]
  have hcd := hl0 w4 m4
  have hcd1 := hl1 w4 m4
  have hfd := (HLO.out w3 HX3.out w4 m4).h.frozen 0
  have hfd1 := (HLO.out w3 HX3.out w4 m4).h.frozen 1
  refine nextR 14 (by kernel_rfl) rfl (by rfl) fun K' HK' => ?_
  go_simp
  refine held_go HK' (.inl (by kernel_rfl)) (fun _ => ?_)
  clear HK'
  try simp only [Act.put, List.setIfInBounds_toArray, List.set_cons_zero, List.set_cons_succ]
  refine nextR 15 (by kernel_rfl) rfl (by rfl) fun K' HK' => ?_
  go_simp
  refine held_go HK' (.inl (by kernel_rfl)) (fun _ => ?_)
  clear HK'
  try simp only [Act.put, List.setIfInBounds_toArray, List.set_cons_zero, List.set_cons_succ]
  refine nextR 16 (by kernel_rfl) rfl (by rfl) fun K' HK' => ?_
  go_simp
  refine held_go HK' (.inl (by kernel_rfl)) (fun _ => ?_)
  clear HK'
  try simp only [Act.put, List.setIfInBounds_toArray, List.set_cons_zero, List.set_cons_succ]
  refine nextR 17 (by kernel_rfl) rfl (by rfl) fun K' HK' => ?_
  go_simp
  refine held_go HK' (.inl (by kernel_rfl)) (fun _ => ?_)
  clear HK'
  try simp only [Act.put, List.setIfInBounds_toArray, List.set_cons_zero, List.set_cons_succ]
  refine wpAnyR_done (by kernel_rfl) ?_ _
  clear hl0 hl1 he1 he2 hcd hcd1 hfd hfd1 hc1
  go_wp2_with fail
  go_ret
  have P := (H.out.ext HX3.out).both (bs' := bs ++ [r]) (ts' := ts ++ [(A3, n3, c3)]) (Q2.out.ext HY3.out) J2.out HV4.out (by rw [List.length_append, HM.out]; exact HO4.out) (by rw [List.length_append, List.length_append, HM.out, HLN.out]; rfl) (fun j t l h1 h2 => by
    by_cases hj : j < M
    · rw [List.getElem?_append_left (by rw [HM.out]; exact hj)] at h1
      rw [List.getElem?_append_left (by rw [← HLN.out]; exact hj)] at h2
      exact (H.out.ext HX3.out).each j t l h1 h2
    · rw [List.getElem?_append_right (by rw [HM.out]; omega)] at h1
      rw [List.getElem?_append_right (by rw [← HLN.out]; omega)] at h2
      have hj0 : j - ts.length = 0 := by have := (List.getElem?_eq_some_iff.1 h1).1; simp at this; omega
      have hj1 : j - bs.length = 0 := by have := (List.getElem?_eq_some_iff.1 h2).1; simp at this; omega
      rw [hj0] at h1
      rw [hj1] at h2
      obtain rfl : (A3, n3, c3) = t := by simpa using h1
      obtain rfl : r = l := by simpa using h2
      exact ⟨Q3.out.ext HY3.out, J3.out⟩)
  exact ⟨rfl, _, ⟨_, _, _, _, _, _, P.1.ext (by (repeat (first | assumption | exact Ext.refl _ | apply Ext.drew | apply Ext.drewN | apply Ext.alloc | refine Ext.trans ?_ (by assumption))); first | done | fail), rfl⟩, (P.2.post (by (repeat (first | assumption | exact Ext.refl _ | apply Ext.drew | apply Ext.drewN | apply Ext.alloc | refine Ext.trans ?_ (by assumption))); first | done | fail)).pre HX3.out⟩
end
end Go.Proofs.Ytadndhenfoppiaa
namespace Go.Proofs.Ytadndhenfoppiaa
open Go Go.RowKit
set_option maxRecDepth 4000

/-- a writer and a reader, apart, behind block b -/
structure Pr2 (b : Nat) (w : World) (p q : Nat) (s : TWs) (rest : List (BitVec 8)) (bs : List (List (BitVec 8))) : Prop where
  ex : ∃ G H, Wr w p G s ∧ Rr w q H rest bs ∧ Ap G H ∧ Lo b G ∧ Lo b H ∧ b ≤ w.heap.size
section
variable {b : Nat} {w w' : World} {p q : Nat} {s s' : TWs} {rest rest' : List (BitVec 8)} {bs bs' : List (List (BitVec 8))} {G G' : List Nat}
theorem Pr2.ext (h : Pr2 b w p q s rest bs) (hx : Ext w w') : Pr2 b w' p q s rest bs := by
  obtain ⟨G, H, h1, h2, h3, h4, h5, h6⟩ := h.ex
  exact ⟨⟨G, H, h1.ext hx, h2.ext hx, h3, h4, h5, Nat.le_trans h6 hx.size⟩⟩
/-- look at the writer -/
theorem Pr2.wr (h : Pr2 b w p q s rest bs) : ∃ G, Wr w p G s ∧ Lo b G ∧ ∀ (w' : World) (s' : TWs), (∃ G', Wr w' p G' s' ∧ Mvs G G' w w') → Pr2 b w' p q s' rest bs ∧ ∀ w0 : World, Ext w0 w → w0.heap.size ≤ b → Ext w0 w' := by
  obtain ⟨G, H, h1, h2, h3, h4, h5, h6⟩ := h.ex
  refine ⟨G, h1, h4, fun w' s' ⟨G', k1, k2⟩ => ⟨⟨G', H, k1, h2.mds k2.m h3.symm, k2.ap h2.hi h3, k2.lo h6 h4, h5, Nat.le_trans h6 k2.m.size⟩, fun w0 hx hb => k2.ext hx (h4.mono hb)⟩⟩
/-- look at the reader -/
theorem Pr2.rd (h : Pr2 b w p q s rest bs) : ∃ H, Rr w q H rest bs ∧ Lo b H ∧ ∀ (w' : World) (rest' : List (BitVec 8)) (bs' : List (List (BitVec 8))), (∃ H', Rr w' q H' rest' bs' ∧ Mvs H H' w w') → Pr2 b w' p q s rest' bs' ∧ ∀ w0 : World, Ext w0 w → w0.heap.size ≤ b → Ext w0 w' := by
  obtain ⟨G, H, h1, h2, h3, h4, h5, h6⟩ := h.ex
  refine ⟨H, h2, h5, fun w' rest' bs' ⟨H', k1, k2⟩ => ⟨⟨G, H', h1.mds k2.m h3, k1, (k2.ap h1.hi h3.symm).symm, h4, k2.lo h6 h5, Nat.le_trans h6 k2.m.size⟩, fun w0 hx hb => k2.ext hx (h5.mono hb)⟩⟩
end
/-- what each of these functions needs to be called -/
theorem Pr2.put {b : Nat} {w0 w : World} {p q : Nat} {s : TWs} {rest : List (BitVec 8)} {bs : List (List (BitVec 8))} (h : Pr2 b w0 p q s rest bs) (hx0 : Ext w0 w) (m : BitVec 8) {x : List (BitVec 8)} {A : Option Addr} {n c : Nat} (hx : Bs w A n c x) (ho : ∀ G, Lo b G → Hi w0 G → Off A n G) (hf : szW s ≤ 10000000000000) :
    Calls Try.prog 15 #[.pointer (some ⟨p, 0, none⟩), .int .u8 (ub m), .slice A n c] w fun e w' => e = .returned (.tuple #[]) ∧ Pr2 b w' p q (putS m x s) rest bs ∧ ∀ w1 : World, Ext w1 w → w1.heap.size ≤ b → Ext w1 w' := by
  obtain ⟨G, H, h1, h2, h3, h4, h5, h6⟩ := h.ex
  refine (Put_any (h1.ext hx0) hx (ho G h4 h1.hi) hf).mono ?_
  rintro e w' ⟨rfl, G', k1, k2⟩
  exact ⟨rfl, ⟨G', H, k1, (h2.ext hx0).mds k2.m h3.symm, k2.ap (h2.ext hx0).hi h3, k2.lo (Nat.le_trans h6 hx0.size) h4, h5, Nat.le_trans h6 (Nat.le_trans hx0.size k2.m.size)⟩, fun w1 hx hb => k2.ext hx (h4.mono hb)⟩
theorem off_lit {G : List Nat} {w : World} (hi : Hi w G) (n o : Nat) : Off (some ⟨w.heap.size, o, none⟩) n G := fun ad _ e hk => by
  cases e
  exact Nat.lt_irrefl _ (hi _ hk)
theorem off_own {G : List Nat} {w0 w : World} {A : Option Addr} {n c : Nat} {x : List (BitVec 8)} (hi : Hi w0 G) (hx : Own w w0.heap.size (.slice A n c) n x) : Off A n G := hx.off fun k hk h4 => by
  have h5 := hx.rw.base k (mem_fpv.1 hk)
  have h6 := hi k h4
  omega
theorem Pr2.open_ {b : Nat} {w : World} {p q : Nat} {s : TWs} {rest : List (BitVec 8)} {bs : List (List (BitVec 8))} (h : Pr2 b w p q s rest bs) (m : BitVec 8) (hf : szW s ≤ 10000000000000) :
    Calls Try.prog 17 #[.pointer (some ⟨p, 0, none⟩), .int .u8 (ub m)] w fun e w' => e = .returned (.tuple #[]) ∧ Pr2 b w' p q (openS m s) rest bs ∧ ∀ w0 : World, Ext w0 w → w0.heap.size ≤ b → Ext w0 w' := by
  obtain ⟨G, h1, h2, h3⟩ := h.wr
  refine (Open_any h1 hf).mono ?_
  rintro e w' ⟨rfl, hg⟩
  exact ⟨rfl, h3 w' _ hg⟩
theorem Pr2.close {b : Nat} {w : World} {p q : Nat} {s : TWs} {rest : List (BitVec 8)} {bs : List (List (BitVec 8))} (h : Pr2 b w p q s rest bs) (hv : VW s) (hf : szW s ≤ 10000000000000) :
    Calls Try.prog 19 #[.pointer (some ⟨p, 0, none⟩)] w fun e w' => e = .returned (.tuple #[]) ∧ Pr2 b w' p q (closeS s) rest bs ∧ ∀ w0 : World, Ext w0 w → w0.heap.size ≤ b → Ext w0 w' := by
  obtain ⟨G, h1, h2, h3⟩ := h.wr
  refine (Close_any h1 hv hf).mono ?_
  rintro e w' ⟨rfl, hg⟩
  exact ⟨rfl, h3 w' _ hg⟩
theorem Pr2.bytes {b : Nat} {w : World} {p q : Nat} {s : TWs} {rest : List (BitVec 8)} {bs : List (List (BitVec 8))} (h : Pr2 b w p q s rest bs) (hv : VW s) (hf : szW s ≤ 10000000000000) :
    Calls Try.prog 21 #[.pointer (some ⟨p, 0, none⟩)] w (BytR w s) := by
  obtain ⟨G, h1, h2, h3⟩ := h.wr
  exact Bytes_any h1 hv hf
theorem no_el : ¬ (isP 2 = true ∧ ∃ x r, El [2, 129, 1, 5] 2 x r) := by
  rintro ⟨_, x, r, h⟩
  have h1 := lnOf_el h
  have h2 := (el_parts h).2.1
  rw [← h1] at h2
  exact absurd h2 (by decide)
theorem up7_list : doneL (closeS (putS 2 [5] (openS 48 (.ok [] [])))) = [48, 3, 2, 1, 5] := by decide
theorem up7_code : errV (doneC (closeS (putS 2 [5] (openS 48 (.ok [] []))))) = .nilIface := by
  have : doneC (closeS (putS 2 [5] (openS 48 (.ok [] [])))) = 0 := by decide
  rw [this]; rfl
theorem up7_str : strOf [48, 3, 2, 1, 5] = ⟨#[48, 3, 2, 1, 5]⟩ := rfl
set_option maxHeartbeats 4000000 in
theorem up7_any (w : World) : Calls Try.prog 8 #[] w fun e w' => e = .returned (.bool true) ∧ Ext w w' := by
  have ee := code_eq 2 2
  go_enter Try.func8, Try.ntmps8
  go_wp2_with fail
  refine (NewWriter_any w).mono ?_
  rintro e w1 ⟨rfl, ⟨G, hW, hG⟩, x1⟩
  have HW := Kp.mk hW
  have HG := Kp.mk hG
  have X1 := Kp.mk x1
  clear hW hG x1
  go_wp2_with fail
  refine (NewReader_any (b := [2, 129, 1, 5]) (w := w1.alloc (.cells #[.int .u8 2, .int .u8 129, .int .u8 1, .int .u8 5] 5)) ((Blk.new w1 5 (bv [2, 129, 1, 5])).bs 0 4 4 (by decide) (by decide)) (by decide)).mono ?_
  rintro e w2 ⟨q, rfl, ⟨H, hR, hH⟩, x2⟩
  have X2 := Kp.mk (Ext.trans ((by (repeat (first | assumption | exact Ext.refl _ | apply Ext.drew | apply Ext.drewN | apply Ext.alloc | refine Ext.trans ?_ (by assumption))); first | done | fail) : Ext w1 (w1.alloc (.cells #[.int .u8 2, .int .u8 129, .int .u8 1, .int .u8 5] 5))) x2)
  have P2 := Kp.mk (Pr2.mk ⟨G, H, HW.out.ext X2.out, hR, (Ap.of_lo (hH.mono (show w1.heap.size ≤ _ by simp)) HW.out.hi).symm, HG.out, hH.mono (Nat.le_trans X1.out.size (by simp)), Nat.le_trans X1.out.size X2.out.size⟩ : Pr2 w.heap.size w2 w.heap.size q (.ok [] []) [2, 129, 1, 5] [])
  have E2 := Kp.mk (X1.out.trans X2.out)
  clear hR hH x2
  go_wp2_with fail
  refine (P2.out.open_ 48 (by decide)).mono ?_
  rintro e w3 ⟨rfl, p3, x3⟩
  have P3 := Kp.mk p3
  have E3 := Kp.mk (x3 w E2.out (Nat.le_refl _))
  clear p3 x3
  go_wp2_with fail
  have x3' : Ext w3 (w3.alloc (.cells #[.int .u8 5] 5)) := (by (repeat (first | assumption | exact Ext.refl _ | apply Ext.drew | apply Ext.drewN | apply Ext.alloc | refine Ext.trans ?_ (by assumption))); first | done | fail)
  refine (P3.out.put x3' 2 (num_bs w3 5 5 rfl) (fun G _ hi => off_lit hi _ _) (by decide)).mono ?_
  rintro e w4 ⟨rfl, p4, x4⟩
  have P4 := Kp.mk p4
  have E4 := Kp.mk (x4 w (E3.out.trans x3') (Nat.le_refl _))
  clear p4 x4 x3'
  go_wp2_with fail
  refine (P4.out.close ⟨by decide, by decide⟩ (by decide)).mono ?_
  rintro e w5 ⟨rfl, p5, x5⟩
  have P5 := Kp.mk p5
  have E5 := Kp.mk (x5 w E4.out (Nat.le_refl _))
  clear p5 x5
  go_wp2_with fail
  refine (P5.out.bytes ⟨by decide, by decide⟩ (by decide)).mono ?_
  rintro e w6 ⟨A6, n6, c6, rfl, ho6, x6⟩
  rw [up7_list] at ho6
  rw [up7_code]
  have P6 := Kp.mk (P5.out.ext x6)
  have E6 := Kp.mk (E5.out.trans x6)
  have S6 := fun (w' : World) (hx : Ext w6 w') => ho6.bs.str hx
  rw [up7_str] at S6
  clear ho6 x6
  go_wp2_with fail
  obtain ⟨H6, r6, _, _⟩ := P6.out.rd
  refine (Take_err (m := 2) r6 (by decide) no_el).mono ?_
  rintro e w7 ⟨rfl, x7⟩
  have E7 := Kp.mk (E6.out.trans x7)
  have hs7 := S6 _ x7
  rw [show ((erC [2, 129, 1, 5] 2 : Nat) : Int) = 2 from rfl]
  go_wp2_with fail
  go_ret
  exact ⟨rfl, E7.out⟩
end Go.Proofs.Ytadndhenfoppiaa
namespace Go.Proofs.Ytadndhenfoppiaa
open Go Go.ChangeShapes Go.WideShapes Go.ChangeAt Go.RowKit
set_option maxRecDepth 4000

theorem ownKnob_none : ownKnob Try.prog.godebug = none := by kernel_rfl
theorem laidOut : laidOutB Try.prog = true := by kernel_rfl

section
variable {H : Type} {enc : TypeId × Value → H} {P : Program} {w : World} {base : Nat} {spare : Nat → Bool} {held : Bool}
theorem wf_u32 {n : Int} (h : (Lit.int .u32 n).wf = true) : ∃ x : BitVec 32, n = un x := by
  have hb := bounds_u32 h
  refine ⟨BitVec.ofNat 32 n.toNat, ?_⟩
  rw [un_ofNat _ (by omega)]; omega
theorem wf_u8 {n : Int} (h : (Lit.int .u8 n).wf = true) : ∃ x : BitVec 8, n = ub x := by
  have hb := bounds_u8 h
  refine ⟨BitVec.ofNat 8 n.toNat, ?_⟩
  rw [ub_ofNat]; omega
/-- cells that read as integers -/
theorem list_of_cells {α : Type} (f : α → Value) : ∀ (n : Nat) (cs : List Value), cs.length = n → (∀ i, i < n → ∃ x, cs[i]? = some (f x)) → ∃ l : List α, cs = l.map f ∧ l.length = n
  | 0, [], _, _ => ⟨[], rfl, rfl⟩
  | n + 1, c :: cs, hl, h => by
    obtain ⟨x, hx⟩ := h 0 (by omega)
    obtain ⟨l, rfl, hl2⟩ := list_of_cells f n cs (by simpa using hl) (fun i hi => by
      obtain ⟨y, hy⟩ := h (i + 1) (by omega)
      exact ⟨y, by simpa using hy⟩)
    have e : c = f x := by simpa using hx
    exact ⟨x :: l, by rw [e]; rfl, by simp [hl2]⟩
  | 0, _ :: _, hl, _ => by simp at hl
  | _ + 1, [], hl, _ => by simp at hl
theorem words_of_trod {t e n fuel : Nat} {cs : List Value} {x : DataW H × List MemPlace} (ht : P.underlying t = some (.array n e)) (he : P.underlying e = some (.int .u32)) (hce : P.cellsOf e = 1) (hct : P.cellsOf t = n)
    (h : DataW.trod enc P w base spare held fuel t cs = some x) : ∃ l : List (BitVec 32), cs = l.map vu ∧ l.length = n := by
  obtain ⟨xs, m, _, _, hl, hn, hel⟩ := DataW.trod_array ht h
  refine list_of_cells vu n cs (hl.trans hct) fun i hi => ?_
  have hE := hel i hi
  rw [hce, Nat.mul_one, List.getElem?_eq_getElem (by omega)] at hE
  obtain ⟨z, e1, _, hw⟩ := DataW.trod_int he hE
  obtain ⟨y, rfl⟩ := wf_u32 hw
  refine ⟨y, ?_⟩
  have := congrArg (fun q : List Value => q[0]?) e1
  simpa [List.getElem?_take, List.getElem?_drop] using this
theorem bytes_of_trod {t e n fuel : Nat} {cs : List Value} {x : DataW H × List MemPlace} (ht : P.underlying t = some (.array n e)) (he : P.underlying e = some (.int .u8)) (hce : P.cellsOf e = 1) (hct : P.cellsOf t = n)
    (h : DataW.trod enc P w base spare held fuel t cs = some x) : ∃ l : List (BitVec 8), cs = l.map vb ∧ l.length = n := by
  obtain ⟨xs, m, _, _, hl, hn, hel⟩ := DataW.trod_array ht h
  refine list_of_cells vb n cs (hl.trans hct) fun i hi => ?_
  have hE := hel i hi
  rw [hce, Nat.mul_one, List.getElem?_eq_getElem (by omega)] at hE
  obtain ⟨z, e1, _, hw⟩ := DataW.trod_int he hE
  obtain ⟨y, rfl⟩ := wf_u8 hw
  refine ⟨y, ?_⟩
  have := congrArg (fun q : List Value => q[0]?) e1
  simpa [List.getElem?_take, List.getElem?_drop] using this
/-- an array of words by value -/
theorem open_words {t e n base' : Nat} {v : Value} {d : DataW H} {p : List MemPlace} (ht : P.underlying t = some (.array n e)) (he : P.underlying e = some (.int .u32)) (hce : P.cellsOf e = 1) (hct : P.cellsOf t = n)
    (hv : Value.okWide P w .any base' t v) (h : DataW.Trod enc P w base spare held t v d p) : ∃ l : List (BitVec 32), v = .agg (wv l) ∧ l.length = n := by
  obtain ⟨cs, rfl, _, _⟩ : ∃ cs, v = .agg cs ∧ cs.size = P.cellsOf t ∧ Row.okWide P w .any base' t cs := by
    simpa [Value.okWide, ht] using hv
  obtain ⟨fuel, hf⟩ := h
  obtain ⟨l, e1, hl⟩ := words_of_trod ht he hce hct hf
  refine ⟨l, ?_, hl⟩
  congr 1
  apply Array.ext'
  simpa [wv, Value.cells] using e1
/-- an array of bytes by value -/
theorem open_block {t e n base' : Nat} {v : Value} {d : DataW H} {p : List MemPlace} (ht : P.underlying t = some (.array n e)) (he : P.underlying e = some (.int .u8)) (hce : P.cellsOf e = 1) (hct : P.cellsOf t = n)
    (hv : Value.okWide P w .any base' t v) (h : DataW.Trod enc P w base spare held t v d p) : ∃ l : List (BitVec 8), v = .agg (bv l) ∧ l.length = n := by
  obtain ⟨cs, rfl, _, _⟩ : ∃ cs, v = .agg cs ∧ cs.size = P.cellsOf t ∧ Row.okWide P w .any base' t cs := by
    simpa [Value.okWide, ht] using hv
  obtain ⟨fuel, hf⟩ := h
  obtain ⟨l, e1, hl⟩ := bytes_of_trod ht he hce hct hf
  refine ⟨l, ?_, hl⟩
  congr 1
  apply Array.ext'
  simpa [bv, Value.cells] using e1
/-- a slice of bytes that came in -/
theorem open_bytes {t e base' : Nat} {v : Value} {d : DataW H} {p : List MemPlace} (ht : P.underlying t = some (.slice e)) (he : P.underlying e = some (.int .u8)) (hce : P.cellsOf e = 1)
    (hv : Value.okWide P w .any base' t v) (h : DataW.Trod enc P w 0 (fun _ => true) held t v d p) : ∃ A n c l, v = .slice A n c ∧ Sl w A n c l ∧ c ≤ maxLen := by
  obtain ⟨a0, len, cap, rfl⟩ := okWide_slice ht hv
  obtain ⟨fuel, hf⟩ := h
  rcases open_ints ht he hce hf with ⟨hcs, _⟩ | ⟨a, len', cap', zs, hcs, _, hl, hm, hz, _, hcell, hwz⟩
  · simp [Value.cells] at hcs
    obtain ⟨rfl, rfl, rfl⟩ := hcs
    exact ⟨none, 0, 0, [], rfl, Sl.nil _, Nat.zero_le _⟩
  · simp [Value.cells] at hcs
    obtain ⟨rfl, rfl, rfl⟩ := hcs
    simp only [if_true] at hz
    have hx : ∀ i, i < zs.length → ∃ x : BitVec 8, (zs.map (Value.int .u8))[i]? = some (vb x) := fun i hi => by
      obtain ⟨y, hy⟩ := wf_u8 (hwz _ (List.getElem_mem hi))
      exact ⟨y, by simp [hi, hy]⟩
    obtain ⟨l, hl1, hl2⟩ := list_of_cells vb zs.length (zs.map (Value.int .u8)) (by simp) hx
    refine ⟨some a, len, cap, l.take len, rfl, ⟨by rw [List.length_take]; omega, hl, (fun e => by cases e), fun hn => ?_⟩, hm⟩
    obtain ⟨b, off, rfl, hc⟩ := ints_at hcell (by omega)
    refine ⟨b, off, rfl, fun j hj => ?_⟩
    rw [gb_take _ _ _ hj, hc j (by omega)]
    have e1 := congrArg (fun q : List Value => q[j]?) hl1
    have hjz : j < zs.length := by omega
    have hjl : j < l.length := by omega
    simp only [List.getElem?_map, List.getElem?_eq_getElem hjz, List.getElem?_eq_getElem hjl, Option.map_some] at e1
    simp only [List.getD_eq_getElem?_getD, List.getElem?_eq_getElem hjz, Option.getD_some, e1]
    simp [gb, hjl]
/-- a slice of bytes that came in, with what its data weighs -/
theorem open_bytes_z {t e base' : Nat} {v : Value} {d : DataW H} {p : List MemPlace} (ht : P.underlying t = some (.slice e)) (he : P.underlying e = some (.int .u8)) (hce : P.cellsOf e = 1)
    (hv : Value.okWide P w .any base' t v) (h : DataW.Trod enc P w 0 (fun _ => true) held t v d p) : ∃ A n c l, v = .slice A n c ∧ Sl w A n c l ∧ c ≤ maxLen ∧ (n = 0 ∨ ∃ es ss, d = .slice es ss ∧ n ≤ es.length + ss.length) := by
  obtain ⟨A, n, c, l, rfl, hs, hm⟩ := open_bytes ht he hce hv h
  refine ⟨A, n, c, l, rfl, hs, hm, ?_⟩
  obtain ⟨fuel, hf⟩ := h
  rcases open_ints ht he hce hf with ⟨hcs, _⟩ | ⟨a, len', cap', zs, hcs, _, hl, _, hz, hx, _, _⟩
  · simp [Value.cells] at hcs
    exact .inl hcs.2.1
  · simp [Value.cells] at hcs
    obtain ⟨rfl, rfl, rfl⟩ := hcs
    simp only [if_true] at hz
    refine .inr ⟨_, _, (congrArg Prod.fst hx), ?_⟩
    simp only [lits, List.length_map, List.length_take, List.length_drop]
    omega
theorem sized_bytes {ts : List TypeId} {ds : List (DataW H)} (h : (DataW.weightsEach P ts ds).all (· ≤ reachBytes) = true) {j t e n : Nat} {d : DataW H} (ht : ts[j]? = some t) (hd : ds[j]? = some d) (hu : P.underlying t = some (.slice e)) (hb : P.bytesOf e = 1)
    (hq : n = 0 ∨ ∃ es ss, d = .slice es ss ∧ n ≤ es.length + ss.length) : n ≤ 140737488355328 := by
  rcases hq with rfl | ⟨es, ss, rfl, hn⟩
  · omega
  · have h1 := sized_slice h ht hd hu
    have h2 := reachBytes_lt
    rw [hb] at h1
    omega
end
end Go.Proofs.Ytadndhenfoppiaa
