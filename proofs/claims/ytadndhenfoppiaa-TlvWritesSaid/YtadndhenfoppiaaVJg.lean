/-
  The reference's writer: add, Put, Open, Close.
-/
import Derived.Test.YtadndhenfoppiaaVJf
import Derived.Test.YtadndhenfoppiaaM9
namespace Go.Proofs.Ytadndhenfoppiaa
open Go Go.RowKit
set_option maxRecDepth 4000

section
variable {w : World} {q : Nat} {m : BitVec 8} {b : List (BitVec 8)} {A : Option Addr} {n c : Nat} {G : List Nat}
set_option maxHeartbeats 1000000 in
theorem add_long {cur : List (BitVec 8)} {st : List (BitVec 8 × List (BitVec 8))} (h : Rg w q G (.ok cur st)) (hb : 65535 < n) : Calls Try.prog 35 #[.pointer (some ⟨q, 0, none⟩), .int .u8 (ub m), .slice A n c] w (RgR w q G (.bad 4)) := by
  cases h with
  | @ok vm vb ts cur st h =>
    have hc2 := fun (w' : World) (hx : Ext w w') => h.blk.cell hx 2
    have f2 := fun (w' : World) (hx : Ext w w') => h.blk.free hx 2
    have b1 : (65535 : Int) < (n : Int) := by omega
    have R := Kp.mk (fun (w1 : World) (hx : Ext w w1) => bad_of (G := fpF q vm vb ts) (h.blk.ext hx) hx (mem_fpF.2 (.inl rfl)) 4)
    clear h hb
    go_enter Try.func35, Try.ntmps35
    go_wp2_with fail
    first | go_end0 | refine bodyPost_ret (results_none rfl _ _ _) rfl ?_
    exact ⟨rfl, R.out w (Ext.refl w)⟩
set_option maxHeartbeats 8000000 in
theorem add_ok {cur : List (BitVec 8)} {st : List (BitVec 8 × List (BitVec 8))} (h : Rg w q G (.ok cur st)) (hs : st.length ≤ 100) (hbs : Bs w A n c b) (hb : n ≤ 65535) (hf : cur.length ≤ 10000000000000) : Calls Try.prog 35 #[.pointer (some ⟨q, 0, none⟩), .int .u8 (ub m), .slice A n c] w (RgR w q G (.ok (cur ++ elm m b) st)) := by
  cases h with
  | @ok vm vb ts cur st h =>
    obtain ⟨A0, c0, h0, o0⟩ := h.at2 st.length cur (bods_last cur st)
    obtain ⟨Ab, cb, rfl⟩ := h.ob.form
    obtain ⟨gb', rfl, _, _⟩ := h.ob.some_ (by omega)
    have b1 : decide ((65535 : Int) < (n : Int)) = false := decide_eq_false (by omega)
    have b1' : ¬ (65535 : Int) < (n : Int) := by omega
    have hhi := hdn_hi n
    obtain ⟨N, hN⟩ : ∃ N, cur.length = N := ⟨_, rfl⟩
    obtain ⟨K, hK⟩ : ∃ K, hdn n + n = K := ⟨_, rfl⟩
    have hN2 : N + K ≤ 140737488355328 := by omega
    have HL : Kp ((cur ++ elm m b).length = N + K) := ⟨by rw [List.length_append, elm_len, hbs.len, hN, hK]⟩
    have HS := Kp.mk (fun u (hx : Ext w u) => refElement_ok m (hbs.ext hx) hb)
    rw [hK] at HS
    have b2 : IntKind.i64.wrap (((st.length + 1 : Nat) : Int) - 1) = (st.length : Int) := by rw [IntKind.wrap_i64]; omega
    have TR := Kp.mk (fun (w1 w2 : World) (hx : Ext w w1) (A5 : Option Addr) (c5 : Nat) (ha : Apd w1 w2 (.slice A0 cur.length c0) (.slice A5 (N + K) c5)) (ho : Own w2 0 (.slice A5 (N + K) c5) (N + K) (cur ++ elm m b)) => (h.ext hx).turn (t0 := (A0, cur.length, c0)) (t1 := (A5, N + K, c5)) h0 ha (by rw [HL.out]; exact ho) rfl)
    have HO := Kp.mk o0
    rw [hN] at h0 HO TR
    obtain ⟨D, hD⟩ : ∃ D, st.length = D := ⟨_, rfl⟩
    obtain ⟨M, hM⟩ : ∃ M, st.length + 1 = M := ⟨_, rfl⟩
    have hrow : Kp (Rw 23 eSl w 0 (.slice (some ⟨gb', 0, none⟩) M cb) M ts) := ⟨by have := h.ob; rw [hM] at this; exact this⟩
    rw [hM] at h TR b2 ⊢
    rw [hD] at h0 TR b2
    have b3 : (D : Int) < (M : Int) := by omega
    -- what is read while the innermost body grows
    have hne : Kp (Ap (fpv (.slice A0 N c0)) [q] ∧ Ap (fpv (.slice A0 N c0)) [gb']) := ⟨fun k hk hk2 => HO.out.rw.ne h.blk (by decide) (by rwa [List.mem_singleton.1 hk2] at hk), fun k hk hk2 => HO.out.rw.apart hrow.out (by decide) k hk (by rw [List.mem_singleton.1 hk2, mem_fpv]; rfl)⟩
    have hq1 : ∀ (w' : World), Mds (fpv (.slice A0 N c0)) w w' → w'.cell? ⟨q, 1, none⟩ = some (.slice (some ⟨gb', 0, none⟩) M cb) := fun w' hm => (h.blk.mds hm (fun hk => hne.out.1 _ hk (by simp))).h.cell 1
    have hrd : ∀ (w' : World), Mds (fpv (.slice A0 N c0)) w w' → w'.cell? ⟨gb', D, none⟩ = some (.slice A0 N c0) := fun w' hm => (hrow.out.mds hm (fun k hk hk2 => hne.out.2 k hk2 (by rw [mem_fpv] at hk; simpa [Value.ownBlock] using hk.symm))).cell D _ h0
    have hfr : ∀ (w' : World), Mds (fpv (.slice A0 N c0)) w w' → w'.frozen? ⟨gb', D, none⟩ = false := fun w' hm => (hrow.out.mds hm (fun k hk hk2 => hne.out.2 k hk2 (by rw [mem_fpv] at hk; simpa [Value.ownBlock] using hk.symm))).free D
    have hc1 := fun (w' : World) (hx : Ext w w') => h.blk.cell hx 1
    clear h hbs hb hN hK hD hM h0 o0 hhi hf hs
    go_enter Try.func35, Try.ntmps35
    go_wp2_with fail
    refine wp_region_R (st := fun s => s == 17) (R := fun w' => Mds (fpv (.slice A0 N c0)) w w') (by kernel_rfl) (Mds.refl _ _).drew (fun hR => ?_)
    refine wpAnyR_take (i := 0) (oi := ⟨some 19, _, _, _, _, _⟩) (v := ?_) rfl (by kernel_rfl) (by kernel_rfl) (by kernel_rfl) rfl (by kernel_rfl) (by kernel_rfl) (fun _ _ _ h => h) (Or.inl ⟨by rfl, ?_⟩) (by assumption) ?_
    rotate_left
    · (intro w hSw; (try dsimp only at hSw); go_simp; try with_reducible rfl)
    try simp only [Act.put, List.setIfInBounds_toArray, List.set_cons_zero, List.set_cons_succ]
    refine wpAnyR_take (i := 1) (oi := ⟨some 20, _, _, _, _, _⟩) (v := ?_) rfl (by kernel_rfl) (by kernel_rfl) (by kernel_rfl) rfl (by kernel_rfl) (by kernel_rfl) (fun _ _ _ h => h) (Or.inl ⟨by rfl, ?_⟩) (by assumption) ?_
    rotate_left
    · (intro w hSw; (try dsimp only at hSw); go_simp; try with_reducible rfl)
    try simp only [Act.put, List.setIfInBounds_toArray, List.set_cons_zero, List.set_cons_succ]
    refine wpAnyR_take (i := 2) (oi := ⟨some 21, _, _, _, _, _⟩) (v := ?_) rfl (by kernel_rfl) (by kernel_rfl) (by kernel_rfl) rfl (by kernel_rfl) (by kernel_rfl) (fun _ _ _ h => h) (Or.inl ⟨by rfl, ?_⟩) (by assumption) ?_
    rotate_left
    · (intro w hSw; (try dsimp only at hSw); go_simp; try with_reducible rfl)
    try simp only [Act.put, List.setIfInBounds_toArray, List.set_cons_zero, List.set_cons_succ]
    refine wpAnyR_take (i := 3) (oi := ⟨some 22, _, _, _, _, _⟩) (v := ?_) rfl (by kernel_rfl) (by kernel_rfl) (by kernel_rfl) rfl (by kernel_rfl) (by kernel_rfl) (fun _ _ _ h => h) (Or.inl ⟨by rfl, ?_⟩) (by assumption) ?_
    rotate_left
    · (intro w hSw; (try dsimp only at hSw); go_simp; try with_reducible rfl)
    try simp only [Act.put, List.setIfInBounds_toArray, List.set_cons_zero, List.set_cons_succ]
    refine wpAnyR_take (i := 4) (oi := ⟨some 23, _, _, _, _, _⟩) (v := ?_) rfl (by kernel_rfl) (by kernel_rfl) (by kernel_rfl) rfl (by kernel_rfl) (by kernel_rfl) (fun _ _ _ h => h) (Or.inl ⟨by rfl, ?_⟩) (by assumption) ?_
    rotate_left
    · (intro w hSw; (try dsimp only at hSw); go_simp; try with_reducible rfl)
    try simp only [Act.put, List.setIfInBounds_toArray, List.set_cons_zero, List.set_cons_succ]
    refine wpAnyR_take (i := 5) (oi := ⟨some 24, _, _, _, _, _⟩) (v := ?_) rfl (by kernel_rfl) (by kernel_rfl) (by kernel_rfl) rfl (by kernel_rfl) (by kernel_rfl) (fun _ _ _ h => h) (Or.inl ⟨by rfl, ?_⟩) (by assumption) ?_
    rotate_left
    · (intro w hSw; (try dsimp only at hSw); go_simp; try with_reducible rfl)
    try simp only [Act.put, List.setIfInBounds_toArray, List.set_cons_zero, List.set_cons_succ]
    refine wpAnyR_take (i := 6) (oi := ⟨some 25, _, _, _, _, _⟩) (v := ?_) rfl (by kernel_rfl) (by kernel_rfl) (by kernel_rfl) rfl (by kernel_rfl) (by kernel_rfl) (fun _ _ _ h => h) (Or.inl ⟨by rfl, ?_⟩) (by assumption) ?_
    rotate_left
    · (intro w hSw; (try dsimp only at hSw); go_simp; try with_reducible rfl)
    try simp only [Act.put, List.setIfInBounds_toArray, List.set_cons_zero, List.set_cons_succ]
    refine wpAnyR_take (i := 7) (oi := ⟨some 26, _, _, _, _, _⟩) (v := ?_) rfl (by kernel_rfl) (by kernel_rfl) (by kernel_rfl) rfl (by kernel_rfl) (by kernel_rfl) (fun _ _ _ h => h) (Or.inl ⟨by rfl, ?_⟩) (by assumption) ?_
    rotate_left
    · (intro w hSw; (try dsimp only at hSw); go_simp; try with_reducible rfl)
    try simp only [Act.put, List.setIfInBounds_toArray, List.set_cons_zero, List.set_cons_succ]
    refine wpAnyR_take (i := 8) (oi := ⟨some 27, _, _, _, _, _⟩) (v := ?_) rfl (by kernel_rfl) (by kernel_rfl) (by kernel_rfl) rfl (by kernel_rfl) (by kernel_rfl) (fun _ _ _ h => h) (Or.inl ⟨by rfl, ?_⟩) (by assumption) ?_
    rotate_left
    · (intro w hSw; (try dsimp only at hSw); go_simp; try with_reducible rfl)
    try simp only [Act.put, List.setIfInBounds_toArray, List.set_cons_zero, List.set_cons_succ]
    refine wpAnyR_take (i := 9) (oi := ⟨some 28, _, _, _, _, _⟩) (v := ?_) rfl (by kernel_rfl) (by kernel_rfl) (by kernel_rfl) rfl (by kernel_rfl) (by kernel_rfl) (fun _ _ _ h => h) (Or.inl ⟨by rfl, ?_⟩) (by assumption) ?_
    rotate_left
    · (intro w hSw; (try dsimp only at hSw); go_simp; try with_reducible rfl)
    try simp only [Act.put, List.setIfInBounds_toArray, List.set_cons_zero, List.set_cons_succ]
    refine wpAnyR_take (i := 10) (oi := ⟨some 29, _, _, _, _, _⟩) (v := ?_) rfl (by kernel_rfl) (by kernel_rfl) (by kernel_rfl) rfl (by kernel_rfl) (by kernel_rfl) (fun _ _ _ h => h) (Or.inl ⟨by rfl, ?_⟩) (by assumption) ?_
    rotate_left
    · (intro w hSw; (try dsimp only at hSw); go_simp; try with_reducible rfl)
    try simp only [Act.put, List.setIfInBounds_toArray, List.set_cons_zero, List.set_cons_succ]
    refine wpAnyR_take (i := 11) (oi := ⟨some 30, _, _, _, _, _⟩) (v := ?_) rfl (by kernel_rfl) (by kernel_rfl) (by kernel_rfl) rfl (by kernel_rfl) (by kernel_rfl) (fun _ _ _ h => h) (Or.inl ⟨by rfl, ?_⟩) (by assumption) ?_
    rotate_left
    · (intro w hSw; (try dsimp only at hSw); go_simp; try with_reducible rfl)
    try simp only [Act.put, List.setIfInBounds_toArray, List.set_cons_zero, List.set_cons_succ]
    refine wpAnyR_take (i := 12) (oi := ⟨some 31, _, _, _, _, _⟩) (v := ?_) rfl (by kernel_rfl) (by kernel_rfl) (by kernel_rfl) rfl (by kernel_rfl) (by kernel_rfl) (fun _ _ _ h => h) (Or.inl ⟨by rfl, ?_⟩) (by assumption) ?_
    rotate_left
    · (intro w hSw; (try dsimp only at hSw); go_simp; try with_reducible rfl)
    try simp only [Act.put, List.setIfInBounds_toArray, List.set_cons_zero, List.set_cons_succ]
    refine wpAnyR_take (i := 13) (oi := ⟨some 32, _, _, _, _, _⟩) (v := ?_) rfl (by kernel_rfl) (by kernel_rfl) (by kernel_rfl) rfl (by kernel_rfl) (by kernel_rfl) (fun _ _ _ h => h) (Or.inl ⟨by rfl, ?_⟩) (by assumption) ?_
    rotate_left
    · (intro w hSw; (try dsimp only at hSw); go_simp; try with_reducible rfl)
    try simp only [Act.put, List.setIfInBounds_toArray, List.set_cons_zero, List.set_cons_succ]
    have HR := Kp.mk hR
    clear hR
    refine nextR 14 (by kernel_rfl) rfl (by rfl) fun K' HK' => ?_
    go_simp
    refine (HS.out _ (by (repeat (first | assumption | exact Ext.refl _ | apply Ext.drew | apply Ext.drewN | apply Ext.alloc | refine Ext.trans ?_ (by assumption))); first | done | fail)).mono ?_
    rintro e w3 ⟨A3, c3, rfl, s3, o3, x3⟩
    have X3 := Kp.mk (show Ext w w3 from (by (repeat (first | assumption | exact Ext.refl _ | apply Ext.drew | apply Ext.drewN | apply Ext.alloc | refine Ext.trans ?_ (by assumption))); first | done | fail))
    have S3 := Kp.mk s3
    clear s3 o3 x3
    refine held_go HK' (.inr (X3.out.mds _)) (fun _ => ?_)
    clear HK'
    try simp only [Act.put, List.setIfInBounds_toArray, List.set_cons_zero, List.set_cons_succ]
    refine nextR 15 (by kernel_rfl) rfl (by rfl) fun K' HK' => ?_
    refine wp_append_m (.tmp 30) (.tmp 33) rfl (.slice A0 N c0) N cur rfl ((HO.out.ext X3.out).ext (by (repeat (first | assumption | exact Ext.refl _ | apply Ext.drew | apply Ext.drewN | apply Ext.alloc | refine Ext.trans ?_ (by assumption))); first | done | fail)) A3 K c3 (elm m b) rfl (S3.out.ext (by (repeat (first | assumption | exact Ext.refl _ | apply Ext.drew | apply Ext.drewN | apply Ext.alloc | refine Ext.trans ?_ (by assumption))); first | done | fail)) hN2 (N + K) rfl (cur ++ elm m b) rfl ?_
    intro A5 c5 w5 o5 a5
    have T5 := Kp.mk (TR.out _ w5 X3.out A5 c5 a5 o5)
    have m5 := (X3.out.mds (fpv (.slice A0 N c0))).trans a5.mds
    have f5 := hfr w5 m5
    have d5 := hrd w5 m5
    clear a5 o5
    refine held_go HK' (.inr (m5)) (fun _ => ?_)
    clear HK'
    try simp only [Act.put, List.setIfInBounds_toArray, List.set_cons_zero, List.set_cons_succ]
    refine nextR 16 (by kernel_rfl) rfl (by rfl) fun K' HK' => ?_
    go_simp
    refine held_go HK' (.inr (m5)) (fun _ => ?_)
    clear HK'
    try simp only [Act.put, List.setIfInBounds_toArray, List.set_cons_zero, List.set_cons_succ]
    refine nextR 17 (by kernel_rfl) rfl (by rfl) fun K' HK' => ?_
    go_simp
    refine held_go HK' (.inl (by kernel_rfl)) (fun _ => ?_)
    clear HK'
    try simp only [Act.put, List.setIfInBounds_toArray, List.set_cons_zero, List.set_cons_succ]
    refine wpAnyR_done (by kernel_rfl) ?_ _
    clear hq1 hrd hfr hc1 f5 d5
    go_wp2_with fail
    first | go_end0 | refine bodyPost_ret (results_none rfl _ _ _) rfl ?_
    exact ⟨rfl, _, (.ok T5.out.1), T5.out.2.pre X3.out⟩
/-- whatever is added -/
theorem add_any {cur : List (BitVec 8)} {st : List (BitVec 8 × List (BitVec 8))} (h : Rg w q G (.ok cur st)) (hs : st.length ≤ 100) (hbs : Bs w A n c b) (hf : cur.length ≤ 10000000000000) : Calls Try.prog 35 #[.pointer (some ⟨q, 0, none⟩), .int .u8 (ub m), .slice A n c] w (RgR w q G (if b.length ≤ 65535 then .ok (cur ++ elm m b) st else .bad 4)) := by
  by_cases hb : b.length ≤ 65535
  · rw [if_pos hb]
    exact add_ok h hs hbs (by rw [← hbs.len]; exact hb) hf
  · rw [if_neg hb]
    exact add_long h (by rw [← hbs.len]; omega)
end
end Go.Proofs.Ytadndhenfoppiaa
