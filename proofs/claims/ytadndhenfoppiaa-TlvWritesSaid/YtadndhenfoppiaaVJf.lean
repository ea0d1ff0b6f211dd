/-
  The reference's writer: how its state turns: the innermost body, one whole more, one less.
-/
import Derived.Test.YtadndhenfoppiaaVJe
namespace Go.Proofs.Ytadndhenfoppiaa
open Go Go.RowKit
set_option maxRecDepth 4000

theorem fpv_cut (A : Option Addr) (n m c : Nat) : fpv (.slice A n c) = fpv (.slice A m c) := by unfold fpv; cases A <;> rfl
section
variable {w w' : World} {q : Nat} {vm vb : Value} {ts : List (Option Addr × Nat × Nat)} {cur : List (BitVec 8)} {st : List (BitVec 8 × List (BitVec 8))}
theorem Rf.tb (h : Rf w q vm vb ts cur st) {j : Nat} {t : Option Addr × Nat × Nat} (ht : ts[j]? = some t) : Ap (fpv (eSl t)) (fpv vb) := by
  obtain ⟨n, l, h1⟩ := h.own ht
  exact h1.rw.apart h.ob (by decide)
theorem Rf.tq (h : Rf w q vm vb ts cur st) {j : Nat} {t : Option Addr × Nat × Nat} (ht : ts[j]? = some t) : q ∉ fpv (eSl t) := by
  obtain ⟨n, l, h1⟩ := h.own ht
  exact h1.rw.ne h.blk (by decide)
/-- the innermost body grows -/
theorem Rf.turn {t0 t1 : Option Addr × Nat × Nat} {gb cb : Nat} {L : List (BitVec 8)} (h : Rf w q vm vb ts cur st) (h0 : ts[st.length]? = some t0) (ha : Apd w w' (eSl t0) (eSl t1)) (ho : Own w' 0 (eSl t1) L.length L) (hv : vb = .slice (some ⟨gb, 0, none⟩) (st.length + 1) cb) :
    Rf (w'.setCell ⟨gb, st.length, none⟩ (eSl t1)) q vm vb (ts.set st.length t1) L st ∧ Mvs (fpF q vm vb ts) (fpF q vm vb (ts.set st.length t1)) w (w'.setCell ⟨gb, st.length, none⟩ (eSl t1)) := by
  have hgb : gb ∈ fpv vb := by rw [hv, mem_fpv]; rfl
  have hD : st.length < ts.length := by rw [h.tl]; omega
  have hm2 : Mds (fpv (eSl t0) ++ fpv vb) w (w'.setCell ⟨gb, st.length, none⟩ (eSl t1)) := (ha.mds.mono fun k hk => List.mem_append_left _ hk).setCell (p := ⟨gb, st.length, none⟩) (List.mem_append_right _ hgb) _
  have hob : Rw 23 eSl w' 0 vb (st.length + 1) ts := h.ob.mds ha.mds fun k hk hk2 => h.tb h0 k hk2 hk
  have hset : ∀ (j : Nat), (ts.set st.length t1)[j]? = if j = st.length then some t1 else ts[j]? := fun j => by
    rw [List.getElem?_set]
    by_cases e : st.length = j
    · rw [if_pos e, if_pos e.symm, if_pos (by omega)]
    · rw [if_neg e, if_neg (fun e2 => e e2.symm)]
  have hbod : ∀ (j : Nat), (bods L st)[j]? = if j = st.length then some L else (bods cur st)[j]? := fun j => by
    rw [← bods_set cur L st, List.getElem?_set]
    by_cases e : st.length = j
    · rw [if_pos e, if_pos e.symm, if_pos (by rw [bods_len]; omega)]
    · rw [if_neg e, if_neg (fun e2 => e e2.symm)]
  have hnew : ∀ (j : Nat) (t : Option Addr × Nat × Nat), j ≠ st.length → ts[j]? = some t → Ap (fpv (eSl t1)) (fpv (eSl t)) := fun j t hj ht k hk hk2 => by
    rcases ha.fp k hk with e | e
    · exact h.dis _ _ _ _ (fun e2 => hj e2.symm) h0 ht k e hk2
    · obtain ⟨n, l, h1⟩ := h.own ht
      have := h1.rw.fp_lt k hk2
      omega
  refine ⟨⟨h.blk.mds hm2 fun hk => ?_, (h.om.rw.mds hm2 fun k hk hk2 => ?_).own, ?_, fun j t l h1 h2 => ?_, fun i j t u hij h1 h2 => ?_, fun j t h1 => ?_⟩, hm2.mono fun k hk => ?_, fun k hk => ?_⟩
  · rcases List.mem_append.1 hk with e | e
    · exact h.tq h0 e
    · exact h.ob.ne h.blk (by decide) e
  · rcases List.mem_append.1 hk2 with e | e
    · exact h.dm _ _ h0 k hk e
    · exact h.om.rw.apart h.ob (by decide) k hk e
  · subst hv
    exact hob.set st.length t1
  · rw [hset] at h1
    rw [hbod] at h2
    by_cases e : j = st.length
    · rw [if_pos e] at h1 h2
      cases h1
      cases h2
      exact ho.far (p := ⟨gb, st.length, none⟩) (fun e2 => ho.rw.apart hob (by decide) gb (mem_fpv.2 e2) hgb) _
    · rw [if_neg e] at h1 h2
      refine ((h.each j t l h1 h2).rw.mds hm2 fun k hk hk2 => ?_).own
      rcases List.mem_append.1 hk2 with e2 | e2
      · exact h.dis _ _ _ _ e h1 h0 k hk e2
      · exact h.tb h1 k hk e2
  · rw [hset] at h1 h2
    by_cases e : i = st.length
    · rw [if_pos e] at h1
      cases h1
      rw [if_neg (fun e2 => hij (e.trans e2.symm))] at h2
      exact hnew j u (fun e2 => hij (e.trans e2.symm)) h2
    · rw [if_neg e] at h1
      by_cases e2 : j = st.length
      · rw [if_pos e2] at h2
        cases h2
        exact (hnew i t e h1).symm
      · rw [if_neg e2] at h2
        exact h.dis i j t u hij h1 h2
  · rw [hset] at h1
    by_cases e : j = st.length
    · rw [if_pos e] at h1
      cases h1
      intro k hk hk2
      rcases ha.fp k hk2 with e2 | e2
      · exact h.dm _ _ h0 k hk e2
      · have := h.om.rw.fp_lt k hk
        omega
    · rw [if_neg e] at h1
      exact h.dm j t h1
  · rcases List.mem_append.1 hk with e | e
    · exact mem_fpF.2 (.inr (.inr (.inr ⟨_, _, h0, e⟩)))
    · exact mem_fpF.2 (.inr (.inr (.inl e)))
  · rcases mem_fpF.1 hk with e | e | e | ⟨j, t, h1, h2⟩
    · exact .inl (mem_fpF.2 (.inl e))
    · exact .inl (mem_fpF.2 (.inr (.inl e)))
    · exact .inl (mem_fpF.2 (.inr (.inr (.inl e))))
    · rw [hset] at h1
      by_cases e : j = st.length
      · rw [if_pos e] at h1
        cases h1
        rcases ha.fp k h2 with e2 | e2
        · exact .inl (mem_fpF.2 (.inr (.inr (.inr ⟨_, _, h0, e2⟩))))
        · exact .inr e2
      · rw [if_neg e] at h1
        exact .inl (mem_fpF.2 (.inr (.inr (.inr ⟨_, _, h1, h2⟩))))
/-- one whole more -/
theorem Rf.more {w1 w2 w3 : World} {vm' vb' : Value} {m : BitVec 8} (h : Rf w q vm vb ts cur st) (a1 : Apd w w1 vm vm') (o1 : Own w1 0 vm' (st.length + 1) (mks st ++ [m])) (x2 : Ext (w1.setCell ⟨q, 0, none⟩ vm') w2) (a3 : Apd w2 w3 vb vb') (o3 : Rw 23 eSl w3 0 vb' (st.length + 1 + 1) (ts ++ [(none, 0, 0)])) :
    Rf (w3.setCell ⟨q, 1, none⟩ vb') q vm' vb' (ts ++ [(none, 0, 0)]) [] ((m, cur) :: st) ∧ Mvs (fpF q vm vb ts) (fpF q vm' vb' (ts ++ [(none, 0, 0)])) w (w3.setCell ⟨q, 1, none⟩ vb') := by
  have hb1 : Blk w1 q rwt #[vm, vb, .int .i64 0] := h.blk.mds a1.mds (h.om.rw.ne h.blk (by decide))
  have hb2 : Blk w2 q rwt #[vm', vb, .int .i64 0] := (hb1.set_ 0 vm').ext x2
  have hob1 : Rw 23 eSl w1 0 vb (st.length + 1) ts := h.ob.mds a1.mds (h.ob.apart h.om.rw (by decide))
  have hob2 : Rw 23 eSl w2 0 vb (st.length + 1) ts := (hob1.far (p := ⟨q, 0, none⟩) (fun e => hob1.ne hb1 (by decide) (mem_fpv.2 e)) _).ext x2
  have hom2 : Own w2 0 vm' (st.length + 1) (mks st ++ [m]) := (o1.far (p := ⟨q, 0, none⟩) (fun e => o1.rw.ne hb1 (by decide) (mem_fpv.2 e)) _).ext x2
  have hb3 : Blk w3 q rwt #[vm', vb, .int .i64 0] := hb2.mds a3.mds (hob2.ne hb2 (by decide))
  have hom3 : Own w3 0 vm' (st.length + 1) (mks st ++ [m]) := (hom2.rw.mds a3.mds (hom2.rw.apart hob2 (by decide))).own
  have hs12 : w.heap.size ≤ w2.heap.size := Nat.le_trans a1.mds.size (by have := x2.size; simpa using this)
  -- all that turned
  have m2 : Mds (q :: (fpv vm ++ fpv vb)) w w2 := ((a1.mds.mono fun k hk => List.mem_cons_of_mem _ (List.mem_append_left _ hk)).setCell (p := ⟨q, 0, none⟩) (by simp) _).trans (x2.mds _)
  have m4 : Mds (q :: (fpv vm ++ fpv vb)) w (w3.setCell ⟨q, 1, none⟩ vb') := (m2.trans (a3.mds.mono fun k hk => List.mem_cons_of_mem _ (List.mem_append_right _ hk))).setCell (p := ⟨q, 1, none⟩) (by simp) _
  have hget : ∀ (j : Nat) (t : Option Addr × Nat × Nat), (ts ++ [(none, 0, 0)])[j]? = some t → ts[j]? = some t ∨ (j = st.length + 1 ∧ t = (none, 0, 0)) := fun j t hj => by
    by_cases e : j < ts.length
    · rw [List.getElem?_append_left e] at hj
      exact .inl hj
    · rw [List.getElem?_append_right (by omega)] at hj
      have h1 : j - ts.length = 0 := by have := (List.getElem?_eq_some_iff.1 hj).1; simp at this; omega
      rw [h1] at hj
      have h2 := h.tl
      exact .inr ⟨by omega, by simpa using hj.symm⟩
  have hnil : ∀ k, k ∉ fpv (eSl (none, 0, 0)) := fun k hk => by simp [fpv, Value.ownBlock, eSl] at hk
  refine ⟨⟨hb3.set_ 1 vb', ?_, ?_, fun j t l h1 h2 => ?_, fun i j t u hij h1 h2 => ?_, fun j t h1 => ?_⟩, m4.mono fun k hk => ?_, fun k hk => ?_⟩
  · exact hom3.far (p := ⟨q, 1, none⟩) (fun e => hom3.rw.ne hb3 (by decide) (mem_fpv.2 e)) _
  · exact o3.far (p := ⟨q, 1, none⟩) (fun e => o3.ne hb3 (by decide) (mem_fpv.2 e)) _
  · rcases hget j t h1 with h3 | ⟨rfl, rfl⟩
    · have hj : j < st.length + 1 := by have := (List.getElem?_eq_some_iff.1 h3).1; rwa [h.tl] at this
      have h4 : (bods cur st)[j]? = some l := by
        rw [bods, List.getElem?_append_left (by rw [bods_len]; exact hj)] at h2
        exact h2
      refine ((h.each j t l h3 h4).rw.mds m4 fun k hk hk2 => ?_).own
      rcases List.mem_cons.1 hk2 with e | e
      · exact h.tq h3 (e ▸ hk)
      · rcases List.mem_append.1 e with e | e
        · exact h.dm j t h3 k e hk
        · exact h.tb h3 k hk e
    · have h4 := bods_last [] ((m, cur) :: st)
      rw [List.length_cons] at h4
      rw [h4] at h2
      cases h2
      exact Own.nil _ _
  · rcases hget i t h1 with h3 | ⟨rfl, rfl⟩
    · rcases hget j u h2 with h4 | ⟨rfl, rfl⟩
      · exact h.dis i j t u hij h3 h4
      · exact fun k _ hk => hnil k hk
    · exact fun k hk => absurd hk (hnil k)
  · rcases hget j t h1 with h3 | ⟨rfl, rfl⟩
    · intro k hk hk2
      rcases a1.fp k hk with e | e
      · exact h.dm j t h3 k e hk2
      · obtain ⟨n, l, h5⟩ := h.own h3
        have := h5.rw.fp_lt k hk2
        omega
    · exact fun k _ hk => hnil k hk
  · rcases List.mem_cons.1 hk with e | e
    · exact mem_fpF.2 (.inl e)
    · rcases List.mem_append.1 e with e | e
      · exact mem_fpF.2 (.inr (.inl e))
      · exact mem_fpF.2 (.inr (.inr (.inl e)))
  · rcases mem_fpF.1 hk with e | e | e | ⟨j, t, h1, h2⟩
    · exact .inl (mem_fpF.2 (.inl e))
    · rcases a1.fp k e with e2 | e2
      · exact .inl (mem_fpF.2 (.inr (.inl e2)))
      · exact .inr e2
    · rcases a3.fp k e with e2 | e2
      · exact .inl (mem_fpF.2 (.inr (.inr (.inl e2))))
      · exact .inr (Nat.le_trans hs12 e2)
    · rcases hget j t h1 with h3 | ⟨rfl, rfl⟩
      · exact .inl (mem_fpF.2 (.inr (.inr (.inr ⟨j, t, h3, h2⟩))))
      · exact absurd h2 (hnil k)
/-- one whole less: its body aside -/
theorem Rf.less {Am : Option Addr} {Ab : Option Addr} {cm cb : Nat} {m : BitVec 8} {out : List (BitVec 8)} (h : Rf w q (.slice Am (st.length + 1) cm) (.slice Ab (st.length + 1 + 1) cb) ts cur ((m, out) :: st)) :
    Rf ((w.setCell ⟨q, 0, none⟩ (.slice Am st.length cm)).setCell ⟨q, 1, none⟩ (.slice Ab (st.length + 1) cb)) q (.slice Am st.length cm) (.slice Ab (st.length + 1) cb) (ts.take (st.length + 1)) out st ∧
      Mvs (fpF q (.slice Am (st.length + 1) cm) (.slice Ab (st.length + 1 + 1) cb) ts) (fpF q (.slice Am st.length cm) (.slice Ab (st.length + 1) cb) (ts.take (st.length + 1))) w ((w.setCell ⟨q, 0, none⟩ (.slice Am st.length cm)).setCell ⟨q, 1, none⟩ (.slice Ab (st.length + 1) cb)) := by
  have m1 : Mds [q] w ((w.setCell ⟨q, 0, none⟩ (.slice Am st.length cm)).setCell ⟨q, 1, none⟩ (.slice Ab (st.length + 1) cb)) := ((Mds.refl [q] w).setCell (p := ⟨q, 0, none⟩) (by simp) _).setCell (p := ⟨q, 1, none⟩) (by simp) _
  have hget : ∀ (j : Nat) (t : Option Addr × Nat × Nat), (ts.take (st.length + 1))[j]? = some t → j < st.length + 1 ∧ ts[j]? = some t := fun j t hj => by
    rw [List.getElem?_take] at hj
    split at hj
    · next e => exact ⟨e, hj⟩
    · cases hj
  have hom := h.om
  rw [List.length_cons] at hom
  have hob := h.ob
  rw [List.length_cons] at hob
  have o1 : Own w 0 (.slice Am st.length cm) st.length (mks st) := by
    have := hom.take (show st.length ≤ st.length + 1 by omega)
    rwa [mks_take] at this
  have o2 : Rw 23 eSl w 0 (.slice Ab (st.length + 1) cb) (st.length + 1) (ts.take (st.length + 1)) := hob.take (by omega)
  refine ⟨⟨(h.blk.set_ 0 _).set_ 1 _, (o1.rw.mds m1 fun k hk hk2 => ?_).own, o2.mds m1 fun k hk hk2 => ?_, fun j t l h1 h2 => ?_, fun i j t u hij h1 h2 => h.dis i j t u hij (hget i t h1).2 (hget j u h2).2, fun j t h1 => ?_⟩, m1.mono fun k hk => mem_fpF.2 (.inl (List.mem_singleton.1 hk)), fun k hk => .inl ?_⟩
  · rw [List.mem_singleton.1 hk2] at hk
    exact o1.rw.ne h.blk (by decide) hk
  · rw [List.mem_singleton.1 hk2] at hk
    exact o2.ne h.blk (by decide) hk
  · obtain ⟨hj, h3⟩ := hget j t h1
    have h4 : (bods cur ((m, out) :: st))[j]? = some l := by
      rw [bods, List.getElem?_append_left (by rw [bods_len]; exact hj)]
      exact h2
    refine ((h.each j t l h3 h4).rw.mds m1 fun k hk hk2 => ?_).own
    rw [List.mem_singleton.1 hk2] at hk
    exact h.tq h3 hk
  · have h3 := h.dm j t (hget j t h1).2
    exact fun k hk => h3 k (by rw [fpv_cut _ _ st.length]; exact hk)
  · rcases mem_fpF.1 hk with e | e | e | ⟨j, t, h1, h2⟩
    · exact mem_fpF.2 (.inl e)
    · exact mem_fpF.2 (.inr (.inl (by rw [fpv_cut _ _ st.length]; exact e)))
    · exact mem_fpF.2 (.inr (.inr (.inl (by rw [fpv_cut _ _ (st.length + 1)]; exact e))))
    · exact mem_fpF.2 (.inr (.inr (.inr ⟨j, t, (hget j t h1).2, h2⟩)))
end
end Go.Proofs.Ytadndhenfoppiaa
