/-
  prim: Oid; the reference's OidBody.
-/
import Derived.Test.YthookcnkmlmgcaaDoorVKi
namespace Go.Proofs.YthookcnkmlmgcaaDoor
open Go Go.RowKit
set_option maxRecDepth 4000

theorem szU : (Tryd.prog.info? 72).map (·.size) = some 1 := by kernel_rfl
theorem Rd.cut {α : Type} {e : α → Value} {w : World} {A : Option Addr} {n c : Nat} {l : List α} (h : Rd e w A n c l) (k : Nat) (hk : k ≤ n) : ∃ A', (if c = k then A else A.map (·.add k)) = A' ∧ Rd e w A' (n - k) (c - k) (l.drop k) := by
  have hl := h.len
  have hcap := h.cap
  refine ⟨_, rfl, by rw [List.length_drop, hl], by omega, fun e => ?_, fun hn => ?_⟩
  · have hA : A = none := by
      cases A with
      | none => rfl
      | some a => split at e <;> simp at e
    have := h.nul hA
    omega
  · obtain ⟨g, o, rfl, hc⟩ := h.at_ (by omega)
    rw [if_neg (by omega)]
    have hadd : (⟨g, o, none⟩ : Addr).add k = ⟨g, o + k, none⟩ := by unfold Addr.add; split <;> simp_all
    refine ⟨g, o + k, by simp [hadd], fun j x hj => ?_⟩
    rw [Nat.add_assoc]
    rw [List.getElem?_drop] at hj
    exact hc (k + j) x hj
theorem dg_dropK (l : List Nat) (k j : Nat) : dg (l.drop k) j = dg l (k + j) := by unfold dg; rw [List.getD_eq_getElem?_getD, List.getElem?_drop, ← List.getD_eq_getElem?_getD]
theorem g7s_app (a b : List Nat) : g7s (a ++ b) = g7s a ++ g7s b := by unfold g7s; rw [List.flatMap_append]
/-- an identifier's body, number by number -/
theorem oid_up {l : List Nat} (h : OidP l) : ∃ f : Nat → List (BitVec 8), f 0 = g7 (40 * dg l 0 + dg l 1) ∧ f (l.length - 2) = oidB l ∧ (∀ j, j ≤ l.length - 2 → (f j).length ≤ 5 * (j + 1)) ∧ ∀ j, j < l.length - 2 → f (j + 1) = f j ++ g7 (dg l (j + 2)) := by
  obtain ⟨a, b, r, rfl, h1, ha, hb, hc, hr⟩ := h
  have hf : ∀ j, ((a * 40 + b) :: r).take (j + 1) = (a * 40 + b) :: r.take j := fun j => by simp
  refine ⟨fun j => g7s ((40 * a + b) :: r.take j), ?_, ?_, ?_, ?_⟩
  · show g7 (40 * a + b) ++ g7s [] = g7 (40 * a + b)
    exact List.append_nil _
  · show g7s ((40 * a + b) :: r.take (r.length + 1 + 1 - 2)) = g7s ((40 * a + b) :: r)
    rw [show r.length + 1 + 1 - 2 = r.length by omega, List.take_length]
  · intro j hj
    have := (g7s_len ((40 * a + b) :: r.take j) fun n hn => by
      rcases List.mem_cons.1 hn with rfl | hn
      · omega
      · exact hr n (List.mem_of_mem_take hn)).2
    rw [List.length_cons, List.length_take] at this
    show (g7s ((40 * a + b) :: r.take j)).length ≤ _
    omega
  · intro j hj
    have hj' : j < r.length := by
      have : (a :: b :: r).length = r.length + 2 := rfl
      omega
    show g7s ((40 * a + b) :: r.take (j + 1)) = g7s ((40 * a + b) :: r.take j) ++ g7 (dg (a :: b :: r) (j + 2))
    have e1 : r.take (j + 1) = r.take j ++ [dg r j] := by
      rw [List.take_succ_eq_append_getElem hj']
      simp [dg, List.getD_eq_getElem?_getD, hj']
    have e2 : dg (a :: b :: r) (j + 2) = dg r j := rfl
    rw [e1, e2, ← List.cons_append, g7s_app]
    show _ ++ (g7 (dg r j) ++ []) = _
    rw [List.append_nil]
theorem oid_lt {l : List Nat} (h : OidP l) : 2 ≤ l.length ∧ l.length ≤ 16 ∧ 40 * dg l 0 + dg l 1 < 4294967296 ∧ ∀ j, j < l.length - 2 → dg l (j + 2) < 4294967296 := by
  obtain ⟨a, b, r, rfl, h1, ha, hb, hc, hr⟩ := h
  refine ⟨by simp, h1, ?_, fun j hj => ?_⟩
  · show 40 * a + b < _
    omega
  · have hj' : j < r.length := by
      have : (a :: b :: r).length = r.length + 2 := rfl
      omega
    have e2 : dg (a :: b :: r) (j + 2) = r[j] := by
      show dg r j = _
      simp [dg, List.getD_eq_getElem?_getD, hj']
    rw [e2]
    exact hr _ (List.getElem_mem hj')
set_option maxHeartbeats 4000000 in
theorem Oid_any {l : List Nat} {A : Option Addr} {n c : Nat} {w : World} (h : Rd vL w A n c l) (hd : Dg 4294967296 l) :
    Calls Tryd.prog 41 #[.slice A n c] w fun e w' => (¬ OidP l ∧ e = .returned (.tuple #[.slice none 0 0, err 1]) ∧ Ext w w') ∨ (OidP l ∧ FreshE w (oidB l).length (oidB l) e w') := by
  have hK := isOid_any h
  by_cases hP : OidP l
  · rw [(oidK_iff hd).2 hP] at hK
    refine Calls.mono (R := fun e w' => FreshE w (oidB l).length (oidB l) e w') ?_ fun _ _ h => .inr ⟨hP, h⟩
    obtain ⟨f, f0, fa, fl, fs⟩ := oid_up hP
    obtain ⟨n2, n16, n0, nr⟩ := oid_lt hP
    have hl := h.len
    rw [hl] at fa fl fs n2 n16 nr
    obtain ⟨A', hA', hD⟩ := h.cut 2 n2
    have hcut := run_from (P := Tryd.prog) A n c 40 72 Tryd.underlying40 szU 2 2 rfl n2
    rw [hA'] at hcut
    obtain ⟨g, o, rfl⟩ := h.some_ (by omega)
    have c0 : ∀ w', Ext w w' → w'.cell? ⟨g, o, none⟩ = some (.int .u32 (dg l 0 : Int)) := fun w' hx => by
      have := (h.ext hx).dig 0 (by omega)
      rwa [Nat.add_zero] at this
    have c1 : ∀ w', Ext w w' → w'.cell? ⟨g, o + 1, none⟩ = some (.int .u32 (dg l 1 : Int)) := fun w' hx => (h.ext hx).dig 1 (by omega)
    have b0 : (0 : Int) < (n : Int) := by omega
    have b1 : (1 : Int) < (n : Int) := by omega
    have b2 : 0 < n := by omega
    have b3 : 1 < n := by omega
    have e1 : IntKind.u32.wrap (40 * (dg l 0 : Int)) = ((40 * dg l 0 : Nat) : Int) := by rw [IntKind.wrap_u32]; omega
    have e2 : IntKind.u32.wrap (((40 * dg l 0 : Nat) : Int) + (dg l 1 : Int)) = ((40 * dg l 0 + dg l 1 : Nat) : Int) := by rw [IntKind.wrap_u32]; omega
    have hl0 := fl 0 (Nat.zero_le _)
    rw [f0] at hl0
    generalize dg l 0 = x at *
    generalize dg l 1 = y at *
    generalize hz : 40 * x = x40 at *
    generalize x40 + y = z at *
    have HF := Kp.mk fs
    have HL := Kp.mk fl
    have HA := Kp.mk fa
    have HZ := Kp.mk f0
    have HR := Kp.mk nr
    have HD := Kp.mk hD
    generalize hB : oidB l = ob at *
    have HG := Kp.mk (fun j => dg_dropK l 2 j)
    clear fs fl fa f0 nr hD h hd hP hA' hl hz hB
    go_enter Tryd.func41, Tryd.ntmps41
    go_wp2_with (go_at_call 59; refine hK.mono ?_; rintro e w1 ⟨rfl, hw⟩; obtain rfl : w = w1 := hw.symm)
    refine wp_region_held_drew (S := fun w' => Ext w w') (by kernel_rfl) (Ext.refl w).drew (fun hHeld => ?_)
    refine wpAnyH_take (i := 0) (oi := ⟨some 11, _, _, _, _, _⟩) (v := ?_) rfl (by kernel_rfl) (by kernel_rfl) (by kernel_rfl) (fun _ _ _ h => h) (Or.inl ⟨by rfl, ?_⟩) (by assumption) ?_
    rotate_left
    · (intro w hSw; (try dsimp only at hSw); go_simp; try with_reducible rfl)
    try simp only [Act.put, List.setIfInBounds_toArray, List.set_cons_zero, List.set_cons_succ]
    refine wpAnyH_take (i := 1) (oi := ⟨some 12, _, _, _, _, _⟩) (v := ?_) rfl (by kernel_rfl) (by kernel_rfl) (by kernel_rfl) (fun _ _ _ h => h) (Or.inl ⟨by rfl, ?_⟩) (by assumption) ?_
    rotate_left
    · (intro w hSw; (try dsimp only at hSw); go_simp; try with_reducible rfl)
    try simp only [Act.put, List.setIfInBounds_toArray, List.set_cons_zero, List.set_cons_succ]
    refine wpAnyH_take (i := 2) (oi := ⟨some 13, _, _, _, _, _⟩) (v := ?_) rfl (by kernel_rfl) (by kernel_rfl) (by kernel_rfl) (fun _ _ _ h => h) (Or.inl ⟨by rfl, ?_⟩) (by assumption) ?_
    rotate_left
    · (intro w hSw; (try dsimp only at hSw); go_simp; try with_reducible rfl)
    try simp only [Act.put, List.setIfInBounds_toArray, List.set_cons_zero, List.set_cons_succ]
    refine wpAnyH_take (i := 3) (oi := ⟨some 14, _, _, _, _, _⟩) (v := ?_) rfl (by kernel_rfl) (by kernel_rfl) (by kernel_rfl) (fun _ _ _ h => h) (Or.inl ⟨by rfl, ?_⟩) (by assumption) ?_
    rotate_left
    · (intro w hSw; (try dsimp only at hSw); go_simp; try with_reducible rfl)
    try simp only [Act.put, List.setIfInBounds_toArray, List.set_cons_zero, List.set_cons_succ]
    refine wpAnyH_take (i := 4) (oi := ⟨some 15, _, _, _, _, _⟩) (v := ?_) rfl (by kernel_rfl) (by kernel_rfl) (by kernel_rfl) (fun _ _ _ h => h) (Or.inl ⟨by rfl, ?_⟩) (by assumption) ?_
    rotate_left
    · (intro w hSw; (try dsimp only at hSw); go_simp; try with_reducible rfl)
    try simp only [Act.put, List.setIfInBounds_toArray, List.set_cons_zero, List.set_cons_succ]
    refine wpAnyH_take (i := 5) (oi := ⟨some 16, _, _, _, _, _⟩) (v := ?_) rfl (by kernel_rfl) (by kernel_rfl) (by kernel_rfl) (fun _ _ _ h => h) (Or.inl ⟨by rfl, ?_⟩) (by assumption) ?_
    rotate_left
    · (intro w hSw; (try dsimp only at hSw); go_simp; try with_reducible rfl)
    try simp only [Act.put, List.setIfInBounds_toArray, List.set_cons_zero, List.set_cons_succ]
    refine wpAnyH_take (i := 6) (oi := ⟨some 17, _, _, _, _, _⟩) (v := ?_) rfl (by kernel_rfl) (by kernel_rfl) (by kernel_rfl) (fun _ _ _ h => h) (Or.inl ⟨by rfl, ?_⟩) (by assumption) ?_
    rotate_left
    · (intro w hSw; (try dsimp only at hSw); go_simp; try with_reducible rfl)
    try simp only [Act.put, List.setIfInBounds_toArray, List.set_cons_zero, List.set_cons_succ]
    refine wpAnyH_take (i := 7) (oi := ⟨some 18, _, _, _, _, _⟩) (v := ?_) rfl (by kernel_rfl) (by kernel_rfl) (by kernel_rfl) (fun _ _ _ h => h) (Or.inl ⟨by rfl, ?_⟩) (by assumption) ?_
    rotate_left
    · (intro w hSw; (try dsimp only at hSw); go_simp; try with_reducible rfl)
    try simp only [Act.put, List.setIfInBounds_toArray, List.set_cons_zero, List.set_cons_succ]
    refine next_one 8 (by kernel_rfl) rfl (by rfl) fun K' HK' => ?_
    go_simp
    refine (withGroups_any (w0 := w.drew) (B := w.heap.size) (Own.nil _ _) (Ext.refl _) (by simp) (by simp) (by omega) z n0 _ rfl).mono ?_
    rintro e w1 ⟨A1, c1', rfl, ho1, hx1, hz1⟩
    have hx1' : Ext w w1 := (by (repeat (first | assumption | exact Ext.refl _ | apply Ext.drew | apply Ext.drewN | apply Ext.alloc | refine Ext.trans ?_ (by assumption))); first | done | fail)
    have hS2 := Ext.trans hHeld hx1
    refine held_go HK' hS2 (fun _ => ?_)
    clear HK'
    refine held_more (S' := fun w' => Ext w1 w') (fun _ h => Ext.trans hS2 h) _ _ _ _ ?_
    clear hHeld hS2
    have hHeld : Ext w1 w1 := Ext.refl _
    try simp only [Act.put, List.setIfInBounds_toArray, List.set_cons_zero, List.set_cons_succ]
    refine wpAnyH_take (i := 9) (oi := ⟨some 4, _, _, _, _, _⟩) (v := ?_) rfl (by kernel_rfl) (by kernel_rfl) (by kernel_rfl) (fun _ _ _ h => h) (Or.inl ⟨by rfl, ?_⟩) (by assumption) ?_
    rotate_left
    · (intro w hSw; (try dsimp only at hSw); go_simp; try with_reducible rfl)
    try simp only [Act.put, List.setIfInBounds_toArray, List.set_cons_zero, List.set_cons_succ]
    refine wpAnyH_done (by kernel_rfl) ?_ _
    rw [Nat.zero_add, ← HZ.out] at ho1
    rw [List.nil_append] at ho1
    rw [Nat.zero_add, ← HZ.out]
    obtain ⟨M, hM⟩ : ∃ M, M = (f 0).length := ⟨_, rfl⟩
    rw [← hM] at ho1 ⊢
    have H0 := Kp.mk hM
    have H1 := Kp.mk ho1
    have H2 := Kp.mk hx1'
    clear hM ho1 hx1 hx1' hz1 c0 c1 hK e1 e2
    go_wp2_with fail
    clear hcut
    go_loopw [4, 23] (fun v i wr => ∃ j N : Nat, ∃ A2 c2, j ≤ n - 2 ∧ N = (f j).length ∧ i = .int .i64 (j : Int) ∧ v = .slice A2 N c2 ∧ Own wr w.heap.size (.slice A2 N c2) N (f j) ∧ Ext w wr) (fun _ i _ => n - 2 - (intOf i).toNat)
    case atStart => exact ⟨0, M, A1, c1', Nat.zero_le _, H0.out, rfl, rfl, H1.out, H2.out⟩
    case round =>
      obtain ⟨j, N, A2, c2, hj, hN, rfl, rfl, ho, hx⟩ := hrel
      have hNl : N ≤ 1000000 := by have := HL.out j hj; omega
      by_cases hlt : j < n - 2
      · have b4 : (j : Int) < ((n - 2 : Nat) : Int) := by omega
        obtain ⟨g2, o2, rfl⟩ := HD.out.some_ (by omega)
        have k1 := (HD.out.ext hx).dig j (by omega)
        rw [HG.out, Nat.add_comm 2 j] at k1
        have k2 := HF.out j hlt
        have k3 := HR.out j hlt
        unfold vL at k1
        generalize dg l (j + 2) = d at *
        have H3 := Kp.mk (And.intro hN k2)
        have H4 := Kp.mk ho
        have H5 := Kp.mk hx
        clear hN k2 ho hx
        go_wp2_with fail
        refine (withGroups_any (w0 := w) (B := w.heap.size) H4.out H5.out (Nat.le_refl _) H5.out.size (by omega) d k3 _ rfl).mono ?_
        rintro e w3 ⟨A3, c3, rfl, ho3, hx3, hz3⟩
        have e5 : N + (g7 d).length = (f (j + 1)).length := by rw [H3.out.2, List.length_append, ← H3.out.1]
        rw [← H3.out.2, e5] at ho3
        rw [e5]
        obtain ⟨N3, hN3⟩ : ∃ N3, N3 = (f (j + 1)).length := ⟨_, rfl⟩
        rw [← hN3] at ho3 ⊢
        have H6 := Kp.mk hN3
        have H7 := Kp.mk ho3
        have H8 := Kp.mk hx3
        clear hN3 ho3 hx3 e5 hz3 k1
        go_wp2_with fail
        go_roundw
        case rel => exact ⟨j + 1, N3, A3, c3, hlt, H6.out, by go_num, rfl, H7.out, H8.out⟩
        case measure => simp [intOf]; omega
      · obtain rfl : j = n - 2 := by omega
        have b4 : ¬ ((n - 2 : Nat) : Int) < ((n - 2 : Nat) : Int) := by omega
        rw [HA.out] at ho hN
        have H3 := Kp.mk ho
        have H4 := Kp.mk hx
        subst hN
        clear ho hx
        go_wp2_with fail
        go_ret2
        exact ⟨_, _, rfl, H3.out.bs, H3.out, H4.out⟩
  · have hK2 : oidK l = false := by
      cases hq : oidK l with
      | false => rfl
      | true => exact absurd ((oidK_iff hd).1 hq) hP
    rw [hK2] at hK
    refine Calls.mono (R := fun e w' => e = .returned (.tuple #[.slice none 0 0, err 1]) ∧ Ext w w') ?_ fun _ _ h => .inl ⟨hP, h⟩
    clear h hd hP hK2
    go_enter Tryd.func41, Tryd.ntmps41
    go_wp2_with (go_at_call 59; refine hK.mono ?_; rintro e w1 ⟨rfl, rfl⟩)
    go_ret2
    exact ⟨rfl, (by (repeat (first | assumption | exact Ext.refl _ | apply Ext.drew | apply Ext.drewN | apply Ext.alloc | refine Ext.trans ?_ (by assumption))); first | done | fail)⟩
set_option maxHeartbeats 4000000 in
theorem OidBody_any {l : List Nat} {A : Option Addr} {n c : Nat} {w : World} (h : Rd vL w A n c l) (hP : OidP l) :
    Calls Tryd.prog 31 #[.slice A n c] w fun e w' => Fresh w (oidB l).length (oidB l) e w' := by
  obtain ⟨f, f0, fa, fl, fs⟩ := oid_up hP
  obtain ⟨n2, n16, n0, nr⟩ := oid_lt hP
  have hl := h.len
  rw [hl] at fa fl fs n2 n16 nr
  obtain ⟨g, o, rfl⟩ := h.some_ (by omega)
  have c0 : ∀ w', Ext w w' → w'.cell? ⟨g, o, none⟩ = some (.int .u32 (dg l 0 : Int)) := fun w' hx => by
    have := (h.ext hx).dig 0 (by omega)
    rwa [Nat.add_zero] at this
  have c1 : ∀ w', Ext w w' → w'.cell? ⟨g, o + 1, none⟩ = some (.int .u32 (dg l 1 : Int)) := fun w' hx => (h.ext hx).dig 1 (by omega)
  have b0 : (0 : Int) < (n : Int) := by omega
  have b1 : (1 : Int) < (n : Int) := by omega
  have b2 : 0 < n := by omega
  have b3 : 1 < n := by omega
  have e1 : IntKind.u32.wrap (40 * (dg l 0 : Int)) = ((40 * dg l 0 : Nat) : Int) := by rw [IntKind.wrap_u32]; omega
  have e2 : IntKind.u32.wrap (((40 * dg l 0 : Nat) : Int) + (dg l 1 : Int)) = ((40 * dg l 0 + dg l 1 : Nat) : Int) := by rw [IntKind.wrap_u32]; omega
  generalize dg l 0 = x at *
  generalize dg l 1 = y at *
  generalize hz : 40 * x = x40 at *
  generalize x40 + y = z at *
  have HF := Kp.mk fs
  have HL := Kp.mk fl
  have HA := Kp.mk fa
  have HZ := Kp.mk f0
  have HR := Kp.mk nr
  have HD := Kp.mk h
  generalize hB : oidB l = ob at *
  clear fs fl fa f0 nr h hP hl hz hB
  go_enter Tryd.func31, Tryd.ntmps31
  go_wp2_with fail
  refine wp_region_held_drew (S := fun w' => Ext w w') (by kernel_rfl) (Ext.refl w).drew (fun hHeld => ?_)
  refine wpAnyH_take (i := 0) (oi := ⟨some 5, _, _, _, _, _⟩) (v := ?_) rfl (by kernel_rfl) (by kernel_rfl) (by kernel_rfl) (fun _ _ _ h => h) (Or.inl ⟨by rfl, ?_⟩) (by assumption) ?_
  rotate_left
  · (intro w hSw; (try dsimp only at hSw); go_simp; try with_reducible rfl)
  try simp only [Act.put, List.setIfInBounds_toArray, List.set_cons_zero, List.set_cons_succ]
  refine wpAnyH_take (i := 1) (oi := ⟨some 6, _, _, _, _, _⟩) (v := ?_) rfl (by kernel_rfl) (by kernel_rfl) (by kernel_rfl) (fun _ _ _ h => h) (Or.inl ⟨by rfl, ?_⟩) (by assumption) ?_
  rotate_left
  · (intro w hSw; (try dsimp only at hSw); go_simp; try with_reducible rfl)
  try simp only [Act.put, List.setIfInBounds_toArray, List.set_cons_zero, List.set_cons_succ]
  refine wpAnyH_take (i := 2) (oi := ⟨some 7, _, _, _, _, _⟩) (v := ?_) rfl (by kernel_rfl) (by kernel_rfl) (by kernel_rfl) (fun _ _ _ h => h) (Or.inl ⟨by rfl, ?_⟩) (by assumption) ?_
  rotate_left
  · (intro w hSw; (try dsimp only at hSw); go_simp; try with_reducible rfl)
  try simp only [Act.put, List.setIfInBounds_toArray, List.set_cons_zero, List.set_cons_succ]
  refine wpAnyH_take (i := 3) (oi := ⟨some 8, _, _, _, _, _⟩) (v := ?_) rfl (by kernel_rfl) (by kernel_rfl) (by kernel_rfl) (fun _ _ _ h => h) (Or.inl ⟨by rfl, ?_⟩) (by assumption) ?_
  rotate_left
  · (intro w hSw; (try dsimp only at hSw); go_simp; try with_reducible rfl)
  try simp only [Act.put, List.setIfInBounds_toArray, List.set_cons_zero, List.set_cons_succ]
  refine wpAnyH_take (i := 4) (oi := ⟨some 9, _, _, _, _, _⟩) (v := ?_) rfl (by kernel_rfl) (by kernel_rfl) (by kernel_rfl) (fun _ _ _ h => h) (Or.inl ⟨by rfl, ?_⟩) (by assumption) ?_
  rotate_left
  · (intro w hSw; (try dsimp only at hSw); go_simp; try with_reducible rfl)
  try simp only [Act.put, List.setIfInBounds_toArray, List.set_cons_zero, List.set_cons_succ]
  refine wpAnyH_take (i := 5) (oi := ⟨some 10, _, _, _, _, _⟩) (v := ?_) rfl (by kernel_rfl) (by kernel_rfl) (by kernel_rfl) (fun _ _ _ h => h) (Or.inl ⟨by rfl, ?_⟩) (by assumption) ?_
  rotate_left
  · (intro w hSw; (try dsimp only at hSw); go_simp; try with_reducible rfl)
  try simp only [Act.put, List.setIfInBounds_toArray, List.set_cons_zero, List.set_cons_succ]
  refine wpAnyH_take (i := 6) (oi := ⟨some 11, _, _, _, _, _⟩) (v := ?_) rfl (by kernel_rfl) (by kernel_rfl) (by kernel_rfl) (fun _ _ _ h => h) (Or.inl ⟨by rfl, ?_⟩) (by assumption) ?_
  rotate_left
  · (intro w hSw; (try dsimp only at hSw); go_simp; try with_reducible rfl)
  try simp only [Act.put, List.setIfInBounds_toArray, List.set_cons_zero, List.set_cons_succ]
  refine wpAnyH_take (i := 7) (oi := ⟨some 12, _, _, _, _, _⟩) (v := ?_) rfl (by kernel_rfl) (by kernel_rfl) (by kernel_rfl) (fun _ _ _ h => h) (Or.inl ⟨by rfl, ?_⟩) (by assumption) ?_
  rotate_left
  · (intro w hSw; (try dsimp only at hSw); go_simp; try with_reducible rfl)
  try simp only [Act.put, List.setIfInBounds_toArray, List.set_cons_zero, List.set_cons_succ]
  refine next_one 8 (by kernel_rfl) rfl (by rfl) fun K' HK' => ?_
  go_simp
  refine (group_any z n0 _).mono ?_
  rintro e w1 ⟨A1, c1', rfl, hs1, ho1, hx1⟩
  have hS2 := Ext.trans hHeld hx1
  refine held_go HK' hS2 (fun _ => ?_)
  clear HK'
  refine held_more (S' := fun w' => Ext w1 w') (fun _ h => Ext.trans hS2 h) _ _ _ _ ?_
  clear hHeld hS2
  have hHeld : Ext w1 w1 := Ext.refl _
  try simp only [Act.put, List.setIfInBounds_toArray, List.set_cons_zero, List.set_cons_succ]
  refine wpAnyH_take (i := 9) (oi := ⟨some 3, _, _, _, _, _⟩) (v := ?_) rfl (by kernel_rfl) (by kernel_rfl) (by kernel_rfl) (fun _ _ _ h => h) (Or.inl ⟨by rfl, ?_⟩) (by assumption) ?_
  rotate_left
  · (intro w hSw; (try dsimp only at hSw); go_simp; try with_reducible rfl)
  try simp only [Act.put, List.setIfInBounds_toArray, List.set_cons_zero, List.set_cons_succ]
  refine wpAnyH_done (by kernel_rfl) ?_ _
  have ho1' := ho1.lower (B' := w.heap.size) (by simp)
  have hx1' : Ext w w1 := (by (repeat (first | assumption | exact Ext.refl _ | apply Ext.drew | apply Ext.drewN | apply Ext.alloc | refine Ext.trans ?_ (by assumption))); first | done | fail)
  rw [← HZ.out] at ho1' ⊢
  obtain ⟨M, hM⟩ : ∃ M, M = (f 0).length := ⟨_, rfl⟩
  rw [← hM] at ho1' ⊢
  have H0 := Kp.mk hM
  have H1 := Kp.mk ho1'
  have H2 := Kp.mk hx1'
  clear hM ho1 hx1 hs1 c0 c1 e1 e2 ho1' hx1'
  go_wp2_with fail
  go_loopw [3, 4] (fun v i wr => ∃ j N : Nat, ∃ A2 c2, j ≤ n - 2 ∧ N = (f j).length ∧ i = .int .i64 ((j + 2 : Nat) : Int) ∧ v = .slice A2 N c2 ∧ Own wr w.heap.size (.slice A2 N c2) N (f j) ∧ Ext w wr) (fun _ i _ => n - (intOf i).toNat)
  case atStart => exact ⟨0, M, A1, c1', Nat.zero_le _, H0.out, rfl, rfl, H1.out, H2.out⟩
  case round =>
    obtain ⟨j, N, A2, c2, hj, hN, rfl, rfl, ho, hx⟩ := hrel
    have hNl : N ≤ 1000000 := by have := HL.out j hj; omega
    obtain ⟨i, hi⟩ : ∃ i, i = j + 2 := ⟨_, rfl⟩
    by_cases hlt : j < n - 2
    · have k1 := (HD.out.ext hx).dig (j + 2) (by omega)
      have k2 := HF.out j hlt
      have k3 := HR.out j hlt
      rw [← hi] at k1 ⊢
      have b4 : (i : Int) < (n : Int) := by omega
      have s1 : IntKind.i64.wrap ((i : Int) + 1) = (i : Int) + 1 := by rw [IntKind.wrap_i64]; omega
      unfold vL at k1
      rw [← hi] at k2 k3
      generalize dg l i = d at *
      have H3 := Kp.mk (And.intro hN k2)
      have H4 := Kp.mk ho
      have H5 := Kp.mk hx
      have H9 := Kp.mk hi
      clear hN k2 ho hx hi
      go_wp2_with fail
      refine (group_any d k3 _).mono ?_
      rintro e w3 ⟨A3, c3, rfl, hs3, ho3, hx3⟩
      have hx3' := H5.out.trans hx3
      have H4' := Kp.mk (H4.out.ext hx3)
      have e5 : N + (g7 d).length = (f (j + 1)).length := by rw [H3.out.2, List.length_append, ← H3.out.1]
      have e6 : f j ++ g7 d = f (j + 1) := H3.out.2.symm
      have hgl := (g7_len d k3).2
      obtain ⟨q, hq⟩ : ∃ q, q = (g7 d).length := ⟨_, rfl⟩
      rw [← hq] at hs3 e5 hgl ⊢
      generalize g7 d = gd at *
      have H6 := Kp.mk hs3
      have H7 := Kp.mk hx3'
      have H8 := Kp.mk (And.intro e5 e6)
      clear hq hs3 hx3' e5 e6 hx3 ho3 k1
      go_wp2_with (first | (at_builtin; refine wpList_append_bs rfl (.tmp 20) (.tmp 25) rfl w.heap.size _ N (f j) rfl H4'.out _ q c3 gd rfl H6.out (by omega) (N + q) rfl (f j ++ gd) rfl w H7.out (Nat.le_refl _) H7.out.size ?_; intro A4 c4 w4 ho4 hx4 hap4) | fail)
      go_roundw
      case rel =>
        rw [H8.out.2] at ho4
        exact ⟨j + 1, N + q, A4, c4, hlt, H8.out.1, by have := H9.out; subst this; go_num, by first | rfl | (congr 1; omega), ho4, hx4⟩
      case measure => simp [intOf]; omega
    · obtain rfl : j = n - 2 := by omega
      rw [← hi]
      have b4 : ¬ (i : Int) < (n : Int) := by omega
      rw [HA.out] at ho hN
      have H3 := Kp.mk ho
      have H4 := Kp.mk hx
      subst hN
      clear ho hx hi
      go_wp2_with fail
      go_ret
      exact ⟨_, _, rfl, H3.out.bs, H3.out, H4.out⟩
end Go.Proofs.YthookcnkmlmgcaaDoor
