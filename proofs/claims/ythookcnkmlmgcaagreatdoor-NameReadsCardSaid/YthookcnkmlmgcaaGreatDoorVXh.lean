/-
  Attributes, steps and a name as the reference reads them: types in rows of the call's own, texts within the bytes that were handed in.
-/
import Derived.Test.YthookcnkmlmgcaaGreatDoorM15
namespace Go.Proofs.YthookcnkmlmgcaaGreatDoor
open Go Go.RowKit
set_option maxRecDepth 4000

/-- an attribute's type in a row of these blocks, its text within what stood there at the beginning -/
structure AnX (w0 w : World) (F : List Nat) (p : SV × Atr) : Prop where
  kd : Rw u32t vL w 0 (kdV p.1) p.1.1.2.1 p.2.ty
  dg : Dg 4294967296 p.2.ty
  tx : Bs w0 p.1.2.1 p.1.2.2.1 p.1.2.2.2 p.2.tx
  fk : ∀ k, k ∈ fpv (kdV p.1) → k ∈ F
  tl : p.2.tx.length ≤ 1000000
theorem AnX.mds {w0 w w' : World} {F G : List Nat} {p : SV × Atr} (h : AnX w0 w F p) (hm : Mds G w w') (ha : Ap F G) : AnX w0 w' F p :=
  ⟨h.kd.mds hm fun k hk => ha k (h.fk k hk), h.dg, h.tx, h.fk, h.tl⟩
theorem AnX.mono {w0 w : World} {F F' : List Nat} {p : SV × Atr} (h : AnX w0 w F p) (hF : ∀ k, k ∈ F → k ∈ F') : AnX w0 w F' p :=
  ⟨h.kd, h.dg, h.tx, fun k hk => hF k (h.fk k hk), h.tl⟩
/-- attributes in a row of the call's own, and in blocks of F -/
structure AtX (w0 w : World) (v : Value) (F : List Nat) (ps : List (SV × Atr)) : Prop where
  row : w.ownsRow 0 38 3 v ps.length (cellsA ps)
  each : ∀ p ∈ ps, AnX w0 w F p
  hi : Hi w F
theorem AtX.mds {w0 w w' : World} {v : Value} {F G : List Nat} {ps : List (SV × Atr)} (h : AtX w0 w v F ps) (hm : Mds G w w') (ha : Ap (fpv v ++ F) G) : AtX w0 w' v F ps :=
  ⟨ow_mds h.row hm fun k hk => ha k (List.mem_append.2 (.inl hk)), fun p hp => (h.each p hp).mds hm fun k hk => ha k (List.mem_append.2 (.inr hk)), h.hi.mono hm.size⟩
theorem AtX.ext {w0 w w' : World} {v : Value} {F : List Nat} {ps : List (SV × Atr)} (h : AtX w0 w v F ps) (hx : Ext w w') : AtX w0 w' v F ps := h.mds (hx.mds []) (fun _ _ h => by cases h)
theorem AtX.nil (w0 w : World) : AtX w0 w (.slice none 0 0) [] [] := ⟨⟨rfl, .inl ⟨rfl, rfl⟩⟩, (fun p h => by cases h), fun k h => by cases h⟩
theorem AtX.hi_all {w0 w : World} {v : Value} {F : List Nat} {ps : List (SV × Atr)} (h : AtX w0 w v F ps) : Hi w (fpv v ++ F) := fun k hk => by
  rcases List.mem_append.1 hk with e | e
  · exact ow_lt h.row k e
  · exact h.hi k e
theorem AtX.form {w0 w : World} {v : Value} {F : List Nat} {ps : List (SV × Atr)} (h : AtX w0 w v F ps) : ∃ A c, v = .slice A ps.length c := by
  obtain ⟨A, c, h1, _⟩ := ow_form h.row
  exact ⟨A, c, h1⟩
/-- they are a step -/
theorem AtX.stp {w0 w : World} {A : Option Addr} {n c : Nat} {F : List Nat} {ps : List (SV × Atr)} (h : AtX w0 w (.slice A n c) F ps) (hx : Ext w0 w) : Stp w A n c (ps.map Prod.snd) := by
  obtain ⟨A', c', h1, h2, h3, h4⟩ := ow_form h.row
  injection h1 with e1 e2 e3
  subst e1 e2 e3
  refine ⟨by simp, h2, h3, fun hn => ?_⟩
  obtain ⟨g, rfl, hc⟩ := h4 hn
  refine ⟨g, 0, rfl, fun k a hk => ?_⟩
  rw [List.getElem?_map] at hk
  obtain ⟨p, hp, rfl⟩ := Option.map_eq_some_iff.1 hk
  obtain ⟨c0, c1, c2⟩ := cellsA_get ps k p hp
  have hA := h.each p (List.mem_of_getElem? hp)
  rw [Nat.zero_add]
  exact ⟨_, _, _, _, _, _, hc _ _ c0, hc _ _ c1, hc _ _ c2, hA.kd.rd, hA.dg, hA.tx.ext hx⟩
theorem wp_append_ax {w0 w : World} {o : Oper} {a : Act} {K : Act → World → Prop} {Q : Exit → Act → World → Prop} (s x : Operand)
    (ho : o.op = .call { callee := .builtin .append, args := #[s, x], argTypes := #[39, 39] })
    (v : Value) (F : List Nat) (ps : List (SV × Atr)) (hs : a.eval s = v) (hown : AtX w0 w v F ps)
    (g c : Nat) (p : SV × Atr) (F' : List Nat) (hx : a.eval x = .slice (some ⟨g, 0, none⟩) 1 c) (hB : Blk w g 38 #[kdV p.1, .int .u8 (ub p.2.mark), txV p.1])
    (he : AnX w0 w F' p) (hF : Hi w F') (hn : ps.length ≤ 1000000) (N : Nat) (hN : ps.length + 1 = N)
    (h : ∀ A' c' w', AtX w0 w' (.slice A' N c') (F ++ F') (ps ++ [p]) → Apd w w' v (.slice A' N c') → K (a.put o.dst (.slice A' N c')) w') : o.wp Tryz.prog a w K Q := by
  subst hN
  obtain ⟨i, hi0, hz0, hs1, hb⟩ := info_parts inAt
  obtain ⟨v', w', hr, h2, h3, _, h5⟩ := run_append_own_at (P := Tryz.prog) w 0 39 o.type 38 i (.agg #[.slice none 0 0, .int .u8 0, .slice none 0 0]) 3 56 Tryz.underlying39 hi0 hz0 hs1 hb rfl (by decide) v ps.length (cellsA ps) hown.row ⟨g, 0, none⟩ 1 c [kdV p.1, .int .u8 (ub p.2.mark), txV p.1] rfl
    (fun j u hu => by
      match j with
      | 0 =>
        simp at hu
        subst hu
        exact hB.h.cell 0
      | 1 =>
        simp at hu
        subst hu
        exact hB.h.cell 1
      | 2 =>
        simp at hu
        subst hu
        exact hB.h.cell 2
      | j + 3 => simp at hu)
    (fun u hu => by
      rcases List.mem_cons.1 hu with rfl | hu
      · rfl
      · rcases List.mem_cons.1 hu with rfl | hu
        · rfl
        · rcases List.mem_cons.1 hu with rfl | hu
          · rfl
          · cases hu) (by unfold maxLen; omega) (by omega) (Nat.zero_le _)
  rw [show cellsA ps ++ [kdV p.1, .int .u8 (ub p.2.mark), txV p.1] = cellsA (ps ++ [p]) from (cellsA_app ps [p]).symm, show ps.length + 1 = (ps ++ [p]).length by simp] at h2
  obtain ⟨A', c', rfl, _⟩ := ow_form h2
  have hap : Apd w w' v (.slice A' (ps ++ [p]).length c') := ⟨h3, h5⟩
  have keep : ∀ (q : SV × Atr) (H : List Nat), AnX w0 w H q → AnX w0 w' H q := fun q H hq =>
    ⟨hq.kd.mds hap.mds (hq.kd.apart_ow hown.row (by decide)), hq.dg, hq.tx, hq.fk, hq.tl⟩
  have hlen : (ps ++ [p]).length = ps.length + 1 := by simp
  rw [← hlen] at h
  have hK := h A' c' w'
  unfold Oper.wp
  simp [execOp, ho, resolve, invoke, builtin, hs, hx, hr, Result.andThen]
  rw [← hlen]
  refine hK ⟨h2, fun q hq => ?_, fun k hk => ?_⟩ hap
  · rcases List.mem_append.1 hq with hq | hq
    · exact keep q _ ((hown.each q hq).mono fun k hk => List.mem_append.2 (.inl hk))
    · rw [List.mem_singleton.1 hq]; exact keep p _ (he.mono fun k hk => List.mem_append.2 (.inr hk))
  · have := hap.mds.size
    rcases List.mem_append.1 hk with e | e
    · exact Nat.lt_of_lt_of_le (hown.hi k e) this
    · exact Nat.lt_of_lt_of_le (hF k e) this
theorem wpList_append_ax {w0 w : World} {ops : Array Oper} {rest : List Oper} {o : Oper} {a : Act} {Q : Exit → Act → World → Prop} (hgd : o.guard = none) (s x : Operand)
    (ho : o.op = .call { callee := .builtin .append, args := #[s, x], argTypes := #[39, 39] })
    (v : Value) (F : List Nat) (ps : List (SV × Atr)) (hs : a.eval s = v) (hown : AtX w0 w v F ps)
    (g c : Nat) (p : SV × Atr) (F' : List Nat) (hx : a.eval x = .slice (some ⟨g, 0, none⟩) 1 c) (hB : Blk w g 38 #[kdV p.1, .int .u8 (ub p.2.mark), txV p.1])
    (he : AnX w0 w F' p) (hF : Hi w F') (hn : ps.length ≤ 1000000) (N : Nat) (hN : ps.length + 1 = N)
    (h : ∀ A' c' w', AtX w0 w' (.slice A' N c') (F ++ F') (ps ++ [p]) → Apd w w' v (.slice A' N c') → wpList Tryz.prog ops Q rest (a.put o.dst (.slice A' N c')) w') : wpList Tryz.prog ops Q (o :: rest) a w :=
  wpList_plain hgd fun _ hK => wp_append_ax s x ho v F ps hs hown g c p F' hx hB he hF hn N hN fun A' c' w' h1 h2 => hK _ _ (h A' c' w' h1 h2)
/-- a step in rows of these blocks -/
structure StX (w0 w : World) (F : List Nat) (q : (Option Addr × Nat × Nat) × List Atr) : Prop where
  ex : ∃ ps F', ps.map Prod.snd = q.2 ∧ AtX w0 w (eSl q.1) F' ps ∧ ∀ k, k ∈ fpv (eSl q.1) ++ F' → k ∈ F
theorem StX.mds {w0 w w' : World} {F G : List Nat} {q : (Option Addr × Nat × Nat) × List Atr} (h : StX w0 w F q) (hm : Mds G w w') (ha : Ap F G) : StX w0 w' F q := by
  obtain ⟨ps, F', h1, h2, h3⟩ := h.ex
  exact ⟨ps, F', h1, h2.mds hm fun k hk => ha k (h3 k hk), h3⟩
theorem StX.mono {w0 w : World} {F F' : List Nat} {q : (Option Addr × Nat × Nat) × List Atr} (h : StX w0 w F q) (hF : ∀ k, k ∈ F → k ∈ F') : StX w0 w F' q := by
  obtain ⟨ps, F1, h1, h2, h3⟩ := h.ex
  exact ⟨ps, F1, h1, h2, fun k hk => hF k (h3 k hk)⟩
/-- steps in a row of the call's own -/
structure NmX (w0 w : World) (v : Value) (F : List Nat) (qs : List ((Option Addr × Nat × Nat) × List Atr)) : Prop where
  row : Rw 39 eSl w 0 v qs.length (qs.map Prod.fst)
  each : ∀ q ∈ qs, StX w0 w F q
  hi : Hi w F
theorem NmX.mds {w0 w w' : World} {v : Value} {F G : List Nat} {qs : List ((Option Addr × Nat × Nat) × List Atr)} (h : NmX w0 w v F qs) (hm : Mds G w w') (ha : Ap (fpv v ++ F) G) : NmX w0 w' v F qs :=
  ⟨h.row.mds hm fun k hk => ha k (List.mem_append.2 (.inl hk)), fun p hp => (h.each p hp).mds hm fun k hk => ha k (List.mem_append.2 (.inr hk)), h.hi.mono hm.size⟩
theorem NmX.ext {w0 w w' : World} {v : Value} {F : List Nat} {qs : List ((Option Addr × Nat × Nat) × List Atr)} (h : NmX w0 w v F qs) (hx : Ext w w') : NmX w0 w' v F qs := h.mds (hx.mds []) (fun _ _ h => by cases h)
theorem NmX.nil (w0 w : World) : NmX w0 w (.slice none 0 0) [] [] := ⟨⟨rfl, .inl ⟨rfl, rfl⟩⟩, (fun p h => by cases h), fun k h => by cases h⟩
theorem NmX.hi_all {w0 w : World} {v : Value} {F : List Nat} {qs : List ((Option Addr × Nat × Nat) × List Atr)} (h : NmX w0 w v F qs) : Hi w (fpv v ++ F) := fun k hk => by
  rcases List.mem_append.1 hk with e | e
  · exact h.row.fp_lt k e
  · exact h.hi k e
/-- they are a name -/
theorem NmX.nam {w0 w : World} {A : Option Addr} {n c : Nat} {F : List Nat} {qs : List ((Option Addr × Nat × Nat) × List Atr)} (h : NmX w0 w (.slice A n c) F qs) (hx : Ext w0 w) (hn : qs.length = n) : Nam w A n c (qs.map Prod.snd) := by
  subst hn
  have hr := h.row.rd
  refine ⟨by simp, hr.cap, hr.nul, fun hn => ?_⟩
  obtain ⟨g, o, rfl, hc⟩ := hr.at_ hn
  refine ⟨g, o, rfl, fun k s hk => ?_⟩
  rw [List.getElem?_map] at hk
  obtain ⟨q, hq, rfl⟩ := Option.map_eq_some_iff.1 hk
  obtain ⟨ps, F', h1, h2, h3⟩ := (h.each q (List.mem_of_getElem? hq)).ex
  refine ⟨q.1.1, q.1.2.1, q.1.2.2, hc k q.1 (by rw [List.getElem?_map, hq]; rfl), ?_⟩
  rw [← h1]
  exact AtX.stp h2 hx
/-- a step more: rows of attributes are other rows than those of steps -/
theorem NmX.app {w0 w w' : World} {v : Value} {A' : Option Addr} {N c' : Nat} {F F' : List Nat} {qs : List ((Option Addr × Nat × Nat) × List Atr)} {q : (Option Addr × Nat × Nat) × List Atr} (h : NmX w0 w v F qs) (hq : StX w0 w F' q) (hF : Hi w F')
    (ha : Apd w w' v (.slice A' N c')) (hr : Rw 39 eSl w' 0 (.slice A' N c') N (qs.map Prod.fst ++ [q.1])) (hN : qs.length + 1 = N) : NmX w0 w' (.slice A' N c') (F ++ F') (qs ++ [q]) := by
  subst hN
  have keep : ∀ (y : (Option Addr × Nat × Nat) × List Atr) (H : List Nat), StX w0 w H y → StX w0 w' H y := fun y H hy => by
    obtain ⟨ps, F1, h1, h2, h3⟩ := hy.ex
    refine ⟨ps, F1, h1, ⟨ow_mds h2.row ha.mds fun k hk hk2 => h.row.apart_ow h2.row (by decide) k hk2 hk, fun p hp => ?_, h2.hi.mono ha.mds.size⟩, h3⟩
    have hA := h2.each p hp
    exact ⟨hA.kd.mds ha.mds (hA.kd.apart h.row (by decide)), hA.dg, hA.tx, hA.fk, hA.tl⟩
  refine ⟨?_, fun y hy => ?_, fun k hk => ?_⟩
  · rw [List.map_append]
    simpa using hr
  · rcases List.mem_append.1 hy with e | e
    · exact keep y _ ((h.each y e).mono fun k hk => List.mem_append.2 (.inl hk))
    · rw [List.mem_singleton.1 e]; exact keep q _ (hq.mono fun k hk => List.mem_append.2 (.inr hk))
  · have := ha.mds.size
    rcases List.mem_append.1 hk with e | e
    · exact Nat.lt_of_lt_of_le (h.hi k e) this
    · exact Nat.lt_of_lt_of_le (hF k e) this
end Go.Proofs.YthookcnkmlmgcaaGreatDoor
