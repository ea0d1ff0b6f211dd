/-
  tlv's reader: Leave.
-/
import Derived.Test.YtadndhenfoppiaaVHr
import Derived.Test.YtadndhenfoppiaaVHb
namespace Go.Proofs.Ytadndhenfoppiaa
open Go Go.RowKit
set_option maxRecDepth 4000

section
variable {w : World} {p : Nat} {G : List Nat} {rest : List (BitVec 8)} {bs : List (List (BitVec 8))}
set_option maxHeartbeats 1000000 in
theorem Leave_none (h : Rr w p G rest []) : Calls Try.prog 29 #[.pointer (some ⟨p, 0, none⟩)] w fun e w' => e = .returned (err 17) ∧ w' = w := by
  obtain ⟨ds, A, n, c, vb, ts, h, rfl⟩ := h
  obtain ⟨Ab, cb, rfl⟩ := h.bo.form
  have hc1 := fun (w' : World) (hx : Ext w w') => h.blk.cell hx 1
  have hl2 := h.len
  rw [show ts.length = 0 from hl2] at hc1
  clear h hl2
  go_enter Try.func29, Try.ntmps29
  go_wp2_with fail
  go_ret
  exact ⟨rfl, rfl⟩
set_option maxHeartbeats 1000000 in
theorem Leave_more {x : List (BitVec 8)} (h : Rr w p G rest (bs ++ [x])) (hr : rest ≠ []) (hlt : bs.length < 1000000) : Calls Try.prog 29 #[.pointer (some ⟨p, 0, none⟩)] w fun e w' => e = .returned (err 3) ∧ w' = w := by
  obtain ⟨ds, A, n, c, vb, ts, h, rfl⟩ := h
  obtain ⟨Ab, cb, rfl⟩ := h.bo.form
  have hc0 := fun (w' : World) (hx : Ext w w') => h.blk.cell hx 0
  have hc1 := fun (w' : World) (hx : Ext w w') => h.blk.cell hx 1
  have hl2 := h.len
  have hl := h.rs.len
  have hn : 0 < n := by
    have := List.length_pos_iff.2 hr
    omega
  rw [List.length_append, List.length_singleton] at hl2
  obtain ⟨M, hM⟩ : ∃ M, ts.length = M := ⟨_, rfl⟩
  rw [hM] at hl2 hc1
  have b1 : IntKind.i64.wrap ((M : Int) - 1) = (bs.length : Int) := by rw [IntKind.wrap_i64]; omega
  have b2 : decide ((bs.length : Int) < 0) = false := decide_eq_false (by omega)
  have b3 : 0 < (n : Int) := by omega
  generalize bs.length = D at *
  clear h hl2 hl hM hn
  go_enter Try.func29, Try.ntmps29
  go_wp2_with fail
  go_ret
  exact ⟨rfl, rfl⟩
theorem szSl' : (Try.prog.info? 23).map (·.size) = some 1 := szSl
set_option maxHeartbeats 4000000 in
theorem Leave_ok {x : List (BitVec 8)} (h : Rr w p G [] (bs ++ [x])) (hlt : bs.length < 1000000) : Calls Try.prog 29 #[.pointer (some ⟨p, 0, none⟩)] w fun e w' => e = .returned .nilIface ∧ ∃ G', Rr w' p G' x bs ∧ Mvs G G' w w' := by
  obtain ⟨ds, A, n, c, vb, ts, h, rfl⟩ := h
  obtain ⟨Ab, cb, rfl⟩ := h.bo.form
  have hl2 := h.len
  rw [List.length_append, List.length_singleton] at hl2
  obtain rfl : n = 0 := by have := h.rs.len; simpa using this.symm
  obtain ⟨M, hM⟩ : ∃ M, ts.length = M := ⟨_, rfl⟩
  obtain ⟨D, hD⟩ : ∃ D, bs.length = D := ⟨_, rfl⟩
  have hDM : D < M := by omega
  obtain ⟨t, ht⟩ : ∃ t, ts[D]? = some t := ⟨ts[D]'(by omega), by simp [show D < ts.length by omega]⟩
  obtain ⟨At, nt, ct⟩ := t
  have hx := h.each D (At, nt, ct) x ht (by rw [List.getElem?_append_right (by omega), ← hD, Nat.sub_self]; rfl)
  rw [hM] at h hl2 ⊢
  rw [hD] at hl2 hlt
  obtain ⟨gb', rfl, _, _⟩ := (by have h1 := h.bo; rw [hM] at h1; exact h1.some_ (by omega) : ∃ g, Ab = some ⟨g, 0, none⟩ ∧ 0 ≤ g ∧ g < w.heap.size)
  have hcap : M ≤ cb := by
    have h1 := h.bo
    rw [hM] at h1
    exact h1.rd.cap
  have hc0 := fun (w' : World) (hx : Ext w w') => h.blk.cell hx 0
  have hc1 := fun (w' : World) (hx : Ext w w') => h.blk.cell hx 1
  have hcb : ∀ (w' : World), Ext w w' → w'.cell? ⟨gb', D, none⟩ = some (.slice At nt ct) := fun w' hx => by
    have h1 := (h.ext hx).bo
    rw [hM] at h1
    exact h1.cell D (At, nt, ct) ht
  have b1 : IntKind.i64.wrap ((M : Int) - 1) = (D : Int) := by rw [IntKind.wrap_i64]; omega
  have b2 : decide ((D : Int) < 0) = false := decide_eq_false (by omega)
  have b3 : (D : Int) < (M : Int) := by omega
  have hs1 := fun W => run_upto (P := Try.prog) (some ⟨gb', 0, none⟩) M cb 61 23 Try.underlying61 szSl' D (D : Int) rfl (by omega) W
  have H := Kp.mk h
  have HX := Kp.mk hx
  have HM := Kp.mk hM
  have HD := Kp.mk hD
  have HDM : Kp (D ≤ M) := ⟨by omega⟩
  have f0 := fun (w' : World) (hx : Ext w w') => h.blk.free hx 0
  have f1 := fun (w' : World) (hx : Ext w w') => h.blk.free hx 1
  clear h hx hM hD hDM hl2 ht hcap hlt
  go_enter Try.func29, Try.ntmps29
  go_wp2_with fail
  refine wp_region_R (st := fun s => s == 17 || s == 20) (R := fun w' => Ext w w') (by kernel_rfl) (Ext.refl w).drew (fun hR => ?_)
  refine wpAnyR_take0 (i := 0) (oi := ⟨some 20, _, _, _, _, _⟩) (v := ?_) rfl (by kernel_rfl) (by kernel_rfl) (by kernel_rfl) rfl (fun _ _ _ h => h) (Or.inl ⟨by rfl, ?_⟩) (by first | exact .inr (by assumption) | exact .inl (by kernel_rfl)) ?_
  rotate_left
  · (intro w hSw; (try dsimp only at hSw); go_simp; try with_reducible rfl)
  try simp only [Act.put, List.setIfInBounds_toArray, List.set_cons_zero, List.set_cons_succ]
  refine wpAnyR_take0 (i := 1) (oi := ⟨some 21, _, _, _, _, _⟩) (v := ?_) rfl (by kernel_rfl) (by kernel_rfl) (by kernel_rfl) rfl (fun _ _ _ h => h) (Or.inl ⟨by rfl, ?_⟩) (by first | exact .inr (by assumption) | exact .inl (by kernel_rfl)) ?_
  rotate_left
  · (intro w hSw; (try dsimp only at hSw); go_simp; try with_reducible rfl)
  try simp only [Act.put, List.setIfInBounds_toArray, List.set_cons_zero, List.set_cons_succ]
  refine wpAnyR_take0 (i := 2) (oi := ⟨some 22, _, _, _, _, _⟩) (v := ?_) rfl (by kernel_rfl) (by kernel_rfl) (by kernel_rfl) rfl (fun _ _ _ h => h) (Or.inl ⟨by rfl, ?_⟩) (by first | exact .inr (by assumption) | exact .inl (by kernel_rfl)) ?_
  rotate_left
  · (intro w hSw; (try dsimp only at hSw); go_simp; try with_reducible rfl)
  try simp only [Act.put, List.setIfInBounds_toArray, List.set_cons_zero, List.set_cons_succ]
  refine wpAnyR_take0 (i := 3) (oi := ⟨some 23, _, _, _, _, _⟩) (v := ?_) rfl (by kernel_rfl) (by kernel_rfl) (by kernel_rfl) rfl (fun _ _ _ h => h) (Or.inl ⟨by rfl, ?_⟩) (by first | exact .inr (by assumption) | exact .inl (by kernel_rfl)) ?_
  rotate_left
  · (intro w hSw; (try dsimp only at hSw); go_simp; try with_reducible rfl)
  try simp only [Act.put, List.setIfInBounds_toArray, List.set_cons_zero, List.set_cons_succ]
  refine wpAnyR_take0 (i := 4) (oi := ⟨some 24, _, _, _, _, _⟩) (v := ?_) rfl (by kernel_rfl) (by kernel_rfl) (by kernel_rfl) rfl (fun _ _ _ h => h) (Or.inl ⟨by rfl, ?_⟩) (by first | exact .inr (by assumption) | exact .inl (by kernel_rfl)) ?_
  rotate_left
  · (intro w hSw; (try dsimp only at hSw); go_simp; try with_reducible rfl)
  try simp only [Act.put, List.setIfInBounds_toArray, List.set_cons_zero, List.set_cons_succ]
  refine wpAnyR_take (i := 5) (oi := ⟨some 25, _, _, _, _, _⟩) (v := ?_) rfl (by kernel_rfl) (by kernel_rfl) (by kernel_rfl) rfl (by kernel_rfl) (by kernel_rfl) (fun _ _ _ h => h) (Or.inl ⟨by rfl, ?_⟩) (by assumption) ?_
  rotate_left
  · (intro w hSw; (try dsimp only at hSw); go_simp; try with_reducible rfl)
  try simp only [Act.put, List.setIfInBounds_toArray, List.set_cons_zero, List.set_cons_succ]
  refine wpAnyR_take0 (i := 6) (oi := ⟨some 26, _, _, _, _, _⟩) (v := ?_) rfl (by kernel_rfl) (by kernel_rfl) (by kernel_rfl) rfl (fun _ _ _ h => h) (Or.inl ⟨by rfl, ?_⟩) (by first | exact .inr (by assumption) | exact .inl (by kernel_rfl)) ?_
  rotate_left
  · (intro w hSw; (try dsimp only at hSw); go_simp; try with_reducible rfl)
  try simp only [Act.put, List.setIfInBounds_toArray, List.set_cons_zero, List.set_cons_succ]
  refine wpAnyR_take0 (i := 7) (oi := ⟨some 27, _, _, _, _, _⟩) (v := ?_) rfl (by kernel_rfl) (by kernel_rfl) (by kernel_rfl) rfl (fun _ _ _ h => h) (Or.inl ⟨by rfl, ?_⟩) (by first | exact .inr (by assumption) | exact .inl (by kernel_rfl)) ?_
  rotate_left
  · (intro w hSw; (try dsimp only at hSw); go_simp; try with_reducible rfl)
  try simp only [Act.put, List.setIfInBounds_toArray, List.set_cons_zero, List.set_cons_succ]
  refine wpAnyR_take (i := 8) (oi := ⟨some 28, _, _, _, _, _⟩) (v := ?_) rfl (by kernel_rfl) (by kernel_rfl) (by kernel_rfl) rfl (by kernel_rfl) (by kernel_rfl) (fun _ _ _ h => h) (Or.inl ⟨by rfl, ?_⟩) (by assumption) ?_
  rotate_left
  · (intro w hSw; (try dsimp only at hSw); go_simp; try with_reducible rfl)
  try simp only [Act.put, List.setIfInBounds_toArray, List.set_cons_zero, List.set_cons_succ]
  refine wpAnyR_take0 (i := 9) (oi := ⟨some 29, _, _, _, _, _⟩) (v := ?_) rfl (by kernel_rfl) (by kernel_rfl) (by kernel_rfl) rfl (fun _ _ _ h => h) (Or.inl ⟨by rfl, ?_⟩) (by first | exact .inr (by assumption) | exact .inl (by kernel_rfl)) ?_
  rotate_left
  · (intro w hSw; (try dsimp only at hSw); go_simp; try with_reducible rfl)
  try simp only [Act.put, List.setIfInBounds_toArray, List.set_cons_zero, List.set_cons_succ]
  refine wpAnyR_take0 (i := 10) (oi := ⟨some 30, _, _, _, _, _⟩) (v := ?_) rfl (by kernel_rfl) (by kernel_rfl) (by kernel_rfl) rfl (fun _ _ _ h => h) (Or.inl ⟨by rfl, ?_⟩) (by first | exact .inr (by assumption) | exact .inl (by kernel_rfl)) ?_
  rotate_left
  · (intro w hSw; (try dsimp only at hSw); go_simp; try with_reducible rfl)
  try simp only [Act.put, List.setIfInBounds_toArray, List.set_cons_zero, List.set_cons_succ]
  refine wpAnyR_take0 (i := 11) (oi := ⟨some 31, _, _, _, _, _⟩) (v := ?_) rfl (by kernel_rfl) (by kernel_rfl) (by kernel_rfl) rfl (fun _ _ _ h => h) (Or.inl ⟨by rfl, ?_⟩) (by first | exact .inr (by assumption) | exact .inl (by kernel_rfl)) ?_
  rotate_left
  · (intro w hSw; (try dsimp only at hSw); go_simp; try with_reducible rfl)
  try simp only [Act.put, List.setIfInBounds_toArray, List.set_cons_zero, List.set_cons_succ]
  refine wpAnyR_take (i := 12) (oi := ⟨some 32, _, _, _, _, _⟩) (v := ?_) rfl (by kernel_rfl) (by kernel_rfl) (by kernel_rfl) rfl (by kernel_rfl) (by kernel_rfl) (fun _ _ _ h => h) (Or.inl ⟨by rfl, ?_⟩) (by assumption) ?_
  rotate_left
  · (intro w hSw; (try dsimp only at hSw); go_simp; try with_reducible rfl)
  try simp only [Act.put, List.setIfInBounds_toArray, List.set_cons_zero, List.set_cons_succ]
  refine wpAnyR_take0 (i := 13) (oi := ⟨some 33, _, _, _, _, _⟩) (v := ?_) rfl (by kernel_rfl) (by kernel_rfl) (by kernel_rfl) rfl (fun _ _ _ h => h) (Or.inl ⟨by rfl, ?_⟩) (by first | exact .inr (by assumption) | exact .inl (by kernel_rfl)) ?_
  rotate_left
  · (intro w hSw; (try dsimp only at hSw); go_simp; try with_reducible rfl)
  try simp only [Act.put, List.setIfInBounds_toArray, List.set_cons_zero, List.set_cons_succ]
  refine wpAnyR_take0 (i := 14) (oi := ⟨some 34, _, _, _, _, _⟩) (v := ?_) rfl (by kernel_rfl) (by kernel_rfl) (by kernel_rfl) rfl (fun _ _ _ h => h) (Or.inl ⟨by rfl, ?_⟩) (by first | exact .inr (by assumption) | exact .inl (by kernel_rfl)) ?_
  rotate_left
  · (intro w hSw; (try dsimp only at hSw); go_simp; try with_reducible rfl)
  try simp only [Act.put, List.setIfInBounds_toArray, List.set_cons_zero, List.set_cons_succ]
  refine nextR 15 (by kernel_rfl) rfl (by rfl) fun K' HK' => ?_
  go_simp
  refine held_go HK' (.inr (hR)) (fun _ => ?_)
  clear HK'
  try simp only [Act.put, List.setIfInBounds_toArray, List.set_cons_zero, List.set_cons_succ]
  refine nextR 16 (by kernel_rfl) rfl (by rfl) fun K' HK' => ?_
  go_simp
  refine held_go HK' (.inr (hR)) (fun _ => ?_)
  clear HK'
  try simp only [Act.put, List.setIfInBounds_toArray, List.set_cons_zero, List.set_cons_succ]
  have hcd := hc0 _ hR
  have hfd := f0 _ hR
  have hcd1 := hc1 _ hR
  have hfd1 := f1 _ hR
  refine nextR 17 (by kernel_rfl) rfl (by rfl) fun K' HK' => ?_
  go_simp
  refine held_go HK' (.inl (by kernel_rfl)) (fun _ => ?_)
  clear HK'
  try simp only [Act.put, List.setIfInBounds_toArray, List.set_cons_zero, List.set_cons_succ]
  refine nextR 18 (by kernel_rfl) rfl (by rfl) fun K' HK' => ?_
  go_simp
  refine held_go HK' (.inl (by kernel_rfl)) (fun _ => ?_)
  clear HK'
  try simp only [Act.put, List.setIfInBounds_toArray, List.set_cons_zero, List.set_cons_succ]
  refine nextR 19 (by kernel_rfl) rfl (by rfl) fun K' HK' => ?_
  go_simp
  refine held_go HK' (.inl (by kernel_rfl)) (fun _ => ?_)
  clear HK'
  try simp only [Act.put, List.setIfInBounds_toArray, List.set_cons_zero, List.set_cons_succ]
  refine nextR 20 (by kernel_rfl) rfl (by rfl) fun K' HK' => ?_
  go_simp
  refine held_go HK' (.inl (by kernel_rfl)) (fun _ => ?_)
  clear HK'
  try simp only [Act.put, List.setIfInBounds_toArray, List.set_cons_zero, List.set_cons_succ]
  refine wpAnyR_done (by kernel_rfl) ?_ _
  clear hc0 hc1 hcb f0 f1 hcd hfd hcd1 hfd1 hR
  go_wp2_with fail
  go_ret
  have P1 := H.out.put HX.out.1 HX.out.2
  have P2 := P1.1.hold (vb' := .slice (some ⟨gb', 0, none⟩) D cb) (ts' := ts.take D) (bs' := bs) (Mvs.same (.inl rfl)) (by
    have h1 := P1.1.bo
    rw [HM.out] at h1
    have h2 := h1.take HDM.out
    rw [show (ts.take D).length = D by rw [List.length_take, HM.out]; exact Nat.min_eq_left HDM.out]
    exact h2) (by rw [List.length_take, HM.out, HD.out]; exact Nat.min_eq_left HDM.out) (fun j t l h1 h2 => by
    have hj : j < D := by have := (List.getElem?_eq_some_iff.1 h2).1; rwa [HD.out] at this
    rw [List.getElem?_take, if_pos hj] at h1
    exact P1.1.each j t l h1 (by rw [List.getElem?_append_left (by rw [HD.out]; exact hj)]; exact h2))
  refine ⟨rfl, _, ⟨_, _, _, _, _, _, P2.1.ext (by (repeat (first | assumption | exact Ext.refl _ | apply Ext.drew | apply Ext.drewN | apply Ext.alloc | refine Ext.trans ?_ (by assumption))); first | done | fail), rfl⟩, (P1.2.trans P2.2).post (by (repeat (first | assumption | exact Ext.refl _ | apply Ext.drew | apply Ext.drewN | apply Ext.alloc | refine Ext.trans ?_ (by assumption))); first | done | fail)⟩
end
end Go.Proofs.Ytadndhenfoppiaa
