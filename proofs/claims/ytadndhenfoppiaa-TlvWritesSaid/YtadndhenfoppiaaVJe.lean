/-
  The reference's writer: what it holds, what stays of it; New, Done; an error's number.
-/
import Derived.Test.YtadndhenfoppiaaM10
import Derived.Test.YtadndhenfoppiaaM8
import Derived.Test.YtadndhenfoppiaaM3
namespace Go.Proofs.Ytadndhenfoppiaa
open Go Go.RowKit
set_option maxRecDepth 4000

abbrev rwt : TypeId := 63
/-- its cells, where nothing was amiss: marks, and bodies that lie in blocks of their own -/
structure Rf (w : World) (q : Nat) (vm vb : Value) (ts : List (Option Addr × Nat × Nat)) (cur : List (BitVec 8)) (st : List (BitVec 8 × List (BitVec 8))) : Prop where
  blk : Blk w q rwt #[vm, vb, .int .i64 0]
  om : Own w 0 vm st.length (mks st)
  ob : Rw 23 eSl w 0 vb (st.length + 1) ts
  each : ∀ (j : Nat) (t : Option Addr × Nat × Nat) (l : List (BitVec 8)), ts[j]? = some t → (bods cur st)[j]? = some l → Own w 0 (eSl t) l.length l
  dis : ∀ (i j : Nat) (t u : Option Addr × Nat × Nat), i ≠ j → ts[i]? = some t → ts[j]? = some u → Ap (fpv (eSl t)) (fpv (eSl u))
  dm : ∀ (j : Nat) (t : Option Addr × Nat × Nat), ts[j]? = some t → Ap (fpv vm) (fpv (eSl t))
/-- the blocks that it lies in -/
def fpF (q : Nat) (vm vb : Value) (ts : List (Option Addr × Nat × Nat)) : List Nat := q :: (fpv vm ++ (fpv vb ++ ts.flatMap fun t => fpv (eSl t)))
theorem mem_fpF {q k : Nat} {vm vb : Value} {ts : List (Option Addr × Nat × Nat)} : k ∈ fpF q vm vb ts ↔ k = q ∨ k ∈ fpv vm ∨ k ∈ fpv vb ∨ ∃ (j : Nat) (t : Option Addr × Nat × Nat), ts[j]? = some t ∧ k ∈ fpv (eSl t) := by
  unfold fpF
  simp only [List.mem_cons, List.mem_append, List.mem_flatMap]
  constructor
  · rintro (h | h | h | ⟨t, h1, h2⟩)
    · exact .inl h
    · exact .inr (.inl h)
    · exact .inr (.inr (.inl h))
    · obtain ⟨j, hj⟩ := List.getElem?_of_mem h1
      exact .inr (.inr (.inr ⟨j, t, hj, h2⟩))
  · rintro (h | h | h | ⟨j, t, h1, h2⟩)
    · exact .inl h
    · exact .inr (.inl h)
    · exact .inr (.inr (.inl h))
    · exact .inr (.inr (.inr ⟨t, List.mem_of_getElem? h1, h2⟩))
/-- the reference's writer in its blocks -/
inductive Rg (w : World) (q : Nat) : List Nat → TWs → Prop where
  | ok {vm vb : Value} {ts : List (Option Addr × Nat × Nat)} {cur : List (BitVec 8)} {st : List (BitVec 8 × List (BitVec 8))} (h : Rf w q vm vb ts cur st) : Rg w q (fpF q vm vb ts) (.ok cur st)
  | bad {vm vb : Value} {c : Nat} (h : Blk w q rwt #[vm, vb, .int .i64 (c : Int)]) : Rg w q [q] (.bad c)
section
variable {w w' : World} {q : Nat} {vm vb : Value} {ts : List (Option Addr × Nat × Nat)} {cur : List (BitVec 8)} {st : List (BitVec 8 × List (BitVec 8))} {G H : List Nat} {s : TWs}
theorem Rf.tl (h : Rf w q vm vb ts cur st) : ts.length = st.length + 1 := h.ob.len
/-- a body, and its row -/
theorem Rf.at_ (h : Rf w q vm vb ts cur st) (j : Nat) (hj : j < st.length + 1) : ∃ t l, ts[j]? = some t ∧ (bods cur st)[j]? = some l ∧ Own w 0 (eSl t) l.length l := by
  have h1 : j < ts.length := by rw [h.tl]; exact hj
  have h2 : j < (bods cur st).length := by rw [bods_len]; exact hj
  exact ⟨ts[j], (bods cur st)[j], by simp [h1], by simp [h2], h.each j _ _ (by simp [h1]) (by simp [h2])⟩
theorem Rf.at2 (h : Rf w q vm vb ts cur st) (j : Nat) (l : List (BitVec 8)) (hl : (bods cur st)[j]? = some l) : ∃ A c, ts[j]? = some (A, l.length, c) ∧ Own w 0 (.slice A l.length c) l.length l := by
  have hj : j < st.length + 1 := by have := (List.getElem?_eq_some_iff.1 hl).1; rwa [bods_len] at this
  obtain ⟨⟨A, n, c⟩, l', h1, h2, h3⟩ := h.at_ j hj
  rw [hl] at h2
  cases h2
  obtain ⟨A', c', e⟩ := h3.form
  simp only [eSl, Value.slice.injEq] at e
  obtain ⟨rfl, rfl, rfl⟩ := e
  exact ⟨A, c, h1, h3⟩
theorem Rf.own (h : Rf w q vm vb ts cur st) {j : Nat} {t : Option Addr × Nat × Nat} (ht : ts[j]? = some t) : ∃ n l, Own w 0 (eSl t) n l := by
  have hj : j < st.length + 1 := by have := (List.getElem?_eq_some_iff.1 ht).1; rwa [h.tl] at this
  obtain ⟨u, l, h1, h2, h3⟩ := h.at_ j hj
  rw [ht] at h1
  cases h1
  exact ⟨_, l, h3⟩
theorem Rf.mds (h : Rf w q vm vb ts cur st) (hm : Mds H w w') (ha : Ap (fpF q vm vb ts) H) : Rf w' q vm vb ts cur st :=
  ⟨h.blk.mds hm (ha q (mem_fpF.2 (.inl rfl))), (h.om.rw.mds hm fun k hk => ha k (mem_fpF.2 (.inr (.inl hk)))).own, h.ob.mds hm fun k hk => ha k (mem_fpF.2 (.inr (.inr (.inl hk)))),
    fun j t l h1 h2 => ((h.each j t l h1 h2).rw.mds hm fun k hk => ha k (mem_fpF.2 (.inr (.inr (.inr ⟨j, t, h1, hk⟩))))).own, h.dis, h.dm⟩
theorem Rf.ext (h : Rf w q vm vb ts cur st) (hx : Ext w w') : Rf w' q vm vb ts cur st := h.mds (hx.mds []) (fun _ _ h => by cases h)
theorem Rf.hi (h : Rf w q vm vb ts cur st) : Hi w (fpF q vm vb ts) := fun k hk => by
  rcases mem_fpF.1 hk with rfl | hk | hk | ⟨j, t, h1, h2⟩
  · exact h.blk.lt
  · exact h.om.rw.fp_lt k hk
  · exact h.ob.fp_lt k hk
  · obtain ⟨n, l, h3⟩ := h.own h1
    exact h3.rw.fp_lt k h2
theorem Rg.hi (h : Rg w q G s) : Hi w G := by
  cases h with
  | ok h => exact h.hi
  | bad h => intro k hk; rw [List.mem_singleton.1 hk]; exact h.lt
theorem Rg.mds (h : Rg w q G s) (hm : Mds H w w') (ha : Ap G H) : Rg w' q G s := by
  cases h with
  | ok h => exact .ok (h.mds hm ha)
  | bad h => exact .bad (h.mds hm (ha q (by simp)))
theorem Rg.ext (h : Rg w q G s) (hx : Ext w w') : Rg w' q G s := h.mds (hx.mds []) (fun _ _ h => by cases h)
end
/-- how a call of it ends -/
def RgR (w : World) (q : Nat) (G : List Nat) (s : TWs) (e : Ending) (w' : World) : Prop := e = .returned (.tuple #[]) ∧ ∃ G', Rg w' q G' s ∧ Mvs G G' w w'
/-- its number is set -/
theorem bad_of {w w1 : World} {q : Nat} {vm vb : Value} {z : Value} {G : List Nat} (h : Blk w1 q rwt #[vm, vb, z]) (hx : Ext w w1) (hq : q ∈ G) (c : Nat) : ∃ G', Rg (w1.setCell ⟨q, 2, none⟩ (.int .i64 (c : Int))) q G' (.bad c) ∧ Mvs G G' w (w1.setCell ⟨q, 2, none⟩ (.int .i64 (c : Int))) :=
  ⟨[q], .bad (h.set_ 2 _), ((hx.mds G).setCell (p := ⟨q, 2, none⟩) hq _), fun k hk => by rw [List.mem_singleton.1 hk]; exact .inl hq⟩
section
variable {w : World} {q : Nat} {G : List Nat} {m : BitVec 8}
set_option maxHeartbeats 1000000 in
theorem refNew_any (w : World) : Calls Try.prog 13 #[] w fun e w' => ∃ q, e = .returned (.pointer (some ⟨q, 0, none⟩)) ∧ (∃ G, Rg w' q G (.ok [] []) ∧ Lo w.heap.size G) ∧ Ext w w' := by
  go_enter Try.func13, Try.ntmps13
  go_wp2_with fail
  go_ret
  have x1 : Ext w (w.alloc (.cells #[.slice none 0 0] 23)) := (by (repeat (first | assumption | exact Ext.refl _ | apply Ext.drew | apply Ext.drewN | apply Ext.alloc | refine Ext.trans ?_ (by assumption))); first | done | fail)
  have hb := Blk.new w 23 #[.slice none 0 0]
  have hq : Blk ((w.alloc (.cells #[.slice none 0 0] 23)).alloc (.cells #[.slice none 0 0, .slice (some ⟨w.heap.size, 0, none⟩) 1 1, .int .i64 0] rwt)) (w.heap.size + 1) rwt #[.slice none 0 0, .slice (some ⟨w.heap.size, 0, none⟩) 1 1, .int .i64 0] := by
    have h1 := Blk.new (w.alloc (.cells #[.slice none 0 0] 23)) rwt #[.slice none 0 0, .slice (some ⟨w.heap.size, 0, none⟩) 1 1, .int .i64 0]
    rwa [show (w.alloc (.cells #[.slice none 0 0] 23)).heap.size = w.heap.size + 1 by simp] at h1
  have x2 : Ext (w.alloc (.cells #[.slice none 0 0] 23)) ((w.alloc (.cells #[.slice none 0 0] 23)).alloc (.cells #[.slice none 0 0, .slice (some ⟨w.heap.size, 0, none⟩) 1 1, .int .i64 0] rwt)) := (by (repeat (first | assumption | exact Ext.refl _ | apply Ext.drew | apply Ext.drewN | apply Ext.alloc | refine Ext.trans ?_ (by assumption))); first | done | fail)
  have hr : Rw 23 eSl ((w.alloc (.cells #[.slice none 0 0] 23)).alloc (.cells #[.slice none 0 0, .slice (some ⟨w.heap.size, 0, none⟩) 1 1, .int .i64 0] rwt)) 0 (.slice (some ⟨w.heap.size, 0, none⟩) 1 1) 1 [(none, 0, 0)] := Rw.has (hb.ext x2).h rfl (Nat.zero_le _) (by decide)
  refine ⟨_, rfl, ⟨_, .ok (vm := .slice none 0 0) (vb := .slice (some ⟨w.heap.size, 0, none⟩) 1 1) (ts := [(none, 0, 0)]) (cur := []) (st := []) ⟨hq, Own.nil _ _, hr, fun j t l h1 h2 => ?_, fun i j t u hij h1 h2 => ?_, fun j t h1 => ?_⟩, fun k hk => ?_⟩, x1.trans x2⟩
  · have hj : j = 0 := by have := (List.getElem?_eq_some_iff.1 h1).1; simp at this; exact this
    subst hj
    obtain rfl : (none, 0, 0) = t := by simpa using h1
    obtain rfl : [] = l := by simpa [bods] using h2
    exact Own.nil _ _
  · have := (List.getElem?_eq_some_iff.1 h1).1
    have := (List.getElem?_eq_some_iff.1 h2).1
    simp at *
    omega
  · exact fun k hk => by simp [fpv, Value.ownBlock] at hk
  · rcases mem_fpF.1 hk with rfl | hk | hk | ⟨j, t, h1, h2⟩
    · simp
    · simp [fpv, Value.ownBlock] at hk
    · simp [fpv, Value.ownBlock] at hk; omega
    · have hj : j = 0 := by have := (List.getElem?_eq_some_iff.1 h1).1; simp at this; exact this
      subst hj
      obtain rfl : (none, 0, 0) = t := by simpa using h1
      simp [fpv, Value.ownBlock, eSl] at h2
/-- how Done answers -/
def DonR (w : World) (s : TWs) (e : Ending) (w' : World) : Prop := ∃ A n c, e = .returned (.tuple #[.slice A n c, .int .i64 (doneC s : Int)]) ∧ Bs w' A n c (doneL s) ∧ Ext w w'
set_option maxHeartbeats 2000000 in
theorem refDone_any {s : TWs} (h : Rg w q G s) (hv : VW s) : Calls Try.prog 22 #[.pointer (some ⟨q, 0, none⟩)] w (DonR w s) := by
  cases h with
  | @bad vm vb c h =>
    have hc := fun (w' : World) (hx : Ext w w') => h.cell hx 2
    have hn : ((c : Int) == 0) = false := beq_eq_false_iff_ne.2 (by have := hv.1; omega)
    have hn' : ¬ (c : Int) = 0 := by have := hv.1; omega
    have hn2 : ¬ c = 0 := by have := hv.1; omega
    clear h
    go_enter Try.func22, Try.ntmps22
    go_wp2_with fail
    refine wp_region_held_drew (S := fun w' => Ext w w') (by kernel_rfl) (Ext.refl w).drew (fun hHeld => ?_)
    refine wpAnyH_take (i := 0) (oi := ⟨some 9, _, _, _, _, _⟩) (v := ?_) rfl (by kernel_rfl) (by kernel_rfl) (by kernel_rfl) (fun _ _ _ h => h) (Or.inl ⟨by rfl, ?_⟩) (by assumption) ?_
    rotate_left
    · (intro w hSw; (try dsimp only at hSw); go_simp; try with_reducible rfl)
    try simp only [Act.put, List.setIfInBounds_toArray, List.set_cons_zero, List.set_cons_succ]
    refine wpAnyH_take (i := 1) (oi := ⟨some 10, _, _, _, _, _⟩) (v := ?_) rfl (by kernel_rfl) (by kernel_rfl) (by kernel_rfl) (fun _ _ _ h => h) (Or.inl ⟨by rfl, ?_⟩) (by assumption) ?_
    rotate_left
    · (intro w hSw; (try dsimp only at hSw); go_simp; try with_reducible rfl)
    try simp only [Act.put, List.setIfInBounds_toArray, List.set_cons_zero, List.set_cons_succ]
    refine wpAnyH_take (i := 2) (oi := ⟨some 11, _, _, _, _, _⟩) (v := ?_) rfl (by kernel_rfl) (by kernel_rfl) (by kernel_rfl) (fun _ _ _ h => h) (Or.inl ⟨by rfl, ?_⟩) (by assumption) ?_
    rotate_left
    · (intro w hSw; (try dsimp only at hSw); go_simp; try with_reducible rfl)
    try simp only [Act.put, List.setIfInBounds_toArray, List.set_cons_zero, List.set_cons_succ]
    refine wpAnyH_take (i := 3) (oi := ⟨some 12, _, _, _, _, _⟩) (v := ?_) rfl (by kernel_rfl) (by kernel_rfl) (by kernel_rfl) (fun _ _ _ h => h) (Or.inl ⟨by rfl, ?_⟩) (by assumption) ?_
    rotate_left
    · (intro w hSw; (try dsimp only at hSw); go_simp; try with_reducible rfl)
    try simp only [Act.put, List.setIfInBounds_toArray, List.set_cons_zero, List.set_cons_succ]
    refine wpAnyH_take (i := 4) (oi := ⟨some 2, _, _, _, _, _⟩) (v := ?_) rfl (by kernel_rfl) (by kernel_rfl) (by kernel_rfl) (fun _ _ _ h => h) (Or.inl ⟨by rfl, ?_⟩) (by assumption) ?_
    rotate_left
    · (intro w hSw; (try dsimp only at hSw); go_simp; try with_reducible rfl)
    try simp only [Act.put, List.setIfInBounds_toArray, List.set_cons_zero, List.set_cons_succ]
    refine wpAnyH_take (i := 5) (oi := ⟨some 3, _, _, _, _, _⟩) (v := ?_) rfl (by kernel_rfl) (by kernel_rfl) (by kernel_rfl) (fun _ _ _ h => h) (Or.inl ⟨by rfl, ?_⟩) (by assumption) ?_
    rotate_left
    · (intro w hSw; (try dsimp only at hSw); go_simp; try with_reducible rfl)
    try simp only [Act.put, List.setIfInBounds_toArray, List.set_cons_zero, List.set_cons_succ]
    refine wpAnyH_done (by kernel_rfl) ?_ _
    go_wp2_with fail
    go_ret2
    exact ⟨_, _, _, rfl, Bs.nil _, (by (repeat (first | assumption | exact Ext.refl _ | apply Ext.drew | apply Ext.drewN | apply Ext.alloc | refine Ext.trans ?_ (by assumption))); first | done | fail)⟩
  | @ok vm vb ts cur st h =>
    obtain ⟨Am, cm, rfl⟩ := h.om.form
    obtain ⟨Ab, cb, rfl⟩ := h.ob.form
    have hc := fun (w' : World) (hx : Ext w w') => h.blk.cell hx 2
    have hc1 := fun (w' : World) (hx : Ext w w') => h.blk.cell hx 1
    have hc0 := fun (w' : World) (hx : Ext w w') => h.blk.cell hx 0
    cases st with
    | nil =>
      obtain ⟨A, c, h1, h3⟩ := h.at2 0 cur rfl
      obtain ⟨gb', rfl, _, _⟩ := h.ob.some_ (by simp)
      have hcb : ∀ (w' : World), Ext w w' → w'.cell? ⟨gb', 0, none⟩ = some (.slice A cur.length c) := fun (w' : World) (hx : Ext w w') => (h.ext hx).ob.cell 0 _ h1
      have HS := Kp.mk h3.bs
      have hd : doneL (.ok cur []) = cur := rfl
      have hd2 : doneC (.ok cur []) = 0 := rfl
      unfold DonR
      rw [hd, hd2]
      generalize cur.length = N at *
      clear h h1 h3 hv hd hd2
      go_enter Try.func22, Try.ntmps22
      go_wp2_with fail
      go_ret2
      exact ⟨_, _, _, rfl, HS.out, (by (repeat (first | assumption | exact Ext.refl _ | apply Ext.drew | apply Ext.drewN | apply Ext.alloc | refine Ext.trans ?_ (by assumption))); first | done | fail)⟩
    | cons y st =>
      obtain ⟨D, hD⟩ : ∃ D, (y :: st).length = D := ⟨_, rfl⟩
      have hD0 : 0 < D := by rw [← hD, List.length_cons]; omega
      rw [hD] at hc hc0 hc1
      have b1 : 0 < (D : Int) := by omega
      have hd : doneL (.ok cur (y :: st)) = [] := rfl
      have hd2 : doneC (.ok cur (y :: st)) = 17 := rfl
      unfold DonR
      rw [hd, hd2]
      clear h hv hd hd2 hD
      go_enter Try.func22, Try.ntmps22
      go_wp2_with fail
      go_ret2
      exact ⟨_, _, _, rfl, Bs.nil _, (by (repeat (first | assumption | exact Ext.refl _ | apply Ext.drew | apply Ext.drewN | apply Ext.alloc | refine Ext.trans ?_ (by assumption))); first | done | fail)⟩
end
end Go.Proofs.Ytadndhenfoppiaa
