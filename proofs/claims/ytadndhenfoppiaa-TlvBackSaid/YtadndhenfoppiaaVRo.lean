/-
  Slices of slices of bytes of the call's own: the rows lie in blocks of their own.
-/
import Derived.Test.YtadndhenfoppiaaVGo
import Derived.Test.YtadndhenfoppiaaVBl
namespace Go.Proofs.Ytadndhenfoppiaa
open Go Go.RowKit
set_option maxRecDepth 4000

theorem inR : (Try.prog.info? 23).map (fun i => (i.zero, i.size, i.bytes)) = some (some (.slice none 0 0), 1, 24) := by kernel_rfl
/-- rows in a slice of the call's own -/
structure Rws (w : World) (B : Nat) (v : Value) (ls : List (List (BitVec 8))) : Prop where
  r : ∃ xs, w.ownsRow B 23 1 v ls.length xs ∧ ∀ (j : Nat) (l : List (BitVec 8)), ls[j]? = some l → ∃ x : Value, xs[j]? = some x ∧ Own w B x l.length l
section
variable {w w' : World} {B B' : Nat} {v : Value} {ls : List (List (BitVec 8))}
theorem Rws.ext (h : Rws w B v ls) (hx : Ext w w') : Rws w' B v ls := by
  obtain ⟨xs, h1, h2⟩ := h.r
  refine ⟨xs, ow_ext h1 hx, fun j l hj => ?_⟩
  obtain ⟨x, h3, h4⟩ := h2 j l hj
  exact ⟨x, h3, h4.ext hx⟩
theorem Rws.lower (h : Rws w B v ls) (hB : B' ≤ B) : Rws w B' v ls := by
  obtain ⟨xs, h1, h2⟩ := h.r
  refine ⟨xs, ow_lower h1 hB, fun j l hj => ?_⟩
  obtain ⟨x, h3, h4⟩ := h2 j l hj
  exact ⟨x, h3, h4.lower hB⟩
theorem Rws.nil (w : World) (B : Nat) : Rws w B (.slice none 0 0) [] := ⟨[], ⟨rfl, .inl ⟨rfl, rfl⟩⟩, fun _ _ h => by simp at h⟩
theorem Rws.form (h : Rws w B v ls) : ∃ A c, v = .slice A ls.length c := by
  obtain ⟨xs, h1, _⟩ := h.r
  rcases h1.2 with ⟨e, e2⟩ | ⟨g, cap, cur, e, _⟩
  · exact ⟨none, 0, by rw [e, e2]⟩
  · exact ⟨_, _, e⟩
/-- a row, and where it is told -/
theorem Rws.get (h : Rws w B v ls) (j : Nat) (l : List (BitVec 8)) (hj : ls[j]? = some l) :
    ∃ g c A d, v = .slice (some ⟨g, 0, none⟩) ls.length c ∧ B ≤ g ∧ g < w.heap.size ∧ w.cell? ⟨g, j, none⟩ = some (.slice A l.length d) ∧ Own w B (.slice A l.length d) l.length l ∧ A.map (·.block) ≠ some g := by
  obtain ⟨xs, h1, h2⟩ := h.r
  obtain ⟨x, h3, h4⟩ := h2 j l hj
  have hjl : j < ls.length := (List.getElem?_eq_some_iff.1 hj).1
  obtain ⟨A, d, rfl⟩ := h4.form
  rcases h1.2 with ⟨e, e2⟩ | ⟨g, cap, cur, rfl, hB, hh, hc, _, _, ht⟩
  · omega
  · refine ⟨g, cap, A, d, rfl, hB, (Array.getElem?_eq_some_iff.1 hh).1, ?_, h4, ?_⟩
    · rw [cell_of_row w g j cur _ (0, 0) hh, ← h3, ← ht, List.getElem?_take_of_lt (by omega)]
      simp
    · intro e
      rcases h4.o.2 with ⟨e1, _⟩ | ⟨g', cap', cur', e1, _, hh', _⟩
      · have e5 : A = none := by injection e1
        rw [e5] at e; simp at e
      · cases e1
        obtain rfl : g' = g := by simpa using e
        rw [hh] at hh'
        exact absurd (congrArg (fun (o : Option Obj) => match o with | some (.cells _ t _) => t | _ => 0) hh') (show ¬ ((23 : Nat) = 5) by decide)
theorem Own.apart {n m : Nat} {u : Value} {l : List (BitVec 8)} {xs : List Value} (hu : Own w B u m l) (h : w.ownsRow B' 23 1 v n xs) : u.ownBlock = none ∨ u.ownBlock ≠ v.ownBlock := by
  rcases hu.o.2 with ⟨rfl, _⟩ | ⟨g, cap, cur, rfl, _, hh, _⟩
  · exact .inl rfl
  · rcases h.2 with ⟨rfl, _⟩ | ⟨g', cap', cur', rfl, _, hh', _⟩
    · exact .inr (by simp [Value.ownBlock])
    · refine .inr fun e => ?_
      obtain rfl : g = g' := by simpa [Value.ownBlock] using e
      rw [hh] at hh'
      exact absurd (congrArg (fun (o : Option Obj) => match o with | some (.cells _ t _) => t | _ => 0) hh') (show ¬ ((5 : Nat) = 23) by decide)
/-- a literal of one row -/
theorem Rws.one {x : Value} {l : List (BitVec 8)} {g : Nat} (hx : Own w B x l.length l) (hg : B ≤ g) (hh : Has w g 23 #[x]) : Rws w B (.slice (some ⟨g, 0, none⟩) 1 1) [l] :=
  ⟨[x], ⟨rfl, .inr ⟨g, 1, #[x], rfl, hg, hh, Nat.le_refl _, by decide, rfl, rfl⟩⟩, fun j l' hj => by
    match j with
    | 0 => obtain rfl : l = l' := by simpa using hj
           exact ⟨x, rfl, hx⟩
    | j + 1 => simp at hj⟩
end
theorem wpList_append_rw {w : World} {ops : Array Oper} {rest : List Oper} {o : Oper} {a : Act} {Q : Exit → Act → World → Prop} (hgd : o.guard = none) (s x : Operand)
    (ho : o.op = .call { callee := .builtin .append, args := #[s, x], argTypes := #[61, 61] })
    (B : Nat) (v : Value) (ls : List (List (BitVec 8))) (hs : a.eval s = v) (hown : Rws w B v ls) (ad : Addr) (c : Nat) (u : Value) (l : List (BitVec 8)) (hx : a.eval x = .slice (some ad) 1 c) (hc : w.cell? ad = some u) (hu : Own w B u l.length l)
    (h47 : ls.length ≤ 1000000) (N : Nat) (hN : ls.length + 1 = N) (w0 : World) (hx0 : Ext w0 w) (hB : w0.heap.size ≤ B) (hBw : B ≤ w.heap.size)
    (h : ∀ A' c' w', Rws w' B (.slice A' N c') (ls ++ [l]) → Ext w0 w' → wpList Try.prog ops Q rest (a.put o.dst (.slice A' N c')) w') : wpList Try.prog ops Q (o :: rest) a w := by
  subst hN
  obtain ⟨i, hi0, hz, hs1, hb⟩ := info_parts inR
  obtain ⟨xs, h1, h2⟩ := hown.r
  have hxl : xs.length = ls.length := by have := h1.1; omega
  obtain ⟨v', w', hr, ho', hg', _, _⟩ := run_append_own_at (P := Try.prog) w B 61 o.type 23 i (.slice none 0 0) 1 24 Try.underlying61 hi0 hz hs1 hb rfl (by decide) v ls.length xs h1 ad 1 c [u] rfl
    (fun j y hj => by
      match j with
      | 0 => obtain rfl : u = y := by simpa using hj
             rw [show ad.add 0 = ad by unfold Addr.add; split <;> simp_all]; exact hc
      | j + 1 => simp at hj)
    (fun y hy => by
      obtain rfl : y = u := by simpa using hy
      obtain ⟨A, d, rfl⟩ := hu.form
      rfl) (by unfold maxLen; omega) (by omega) hBw
  have hnew : Rws w' B v' (ls ++ [l]) := by
    refine ⟨xs ++ [u], by simpa using ho', fun j l' hj => ?_⟩
    have keep : ∀ y m lm, Own w B y m lm → Own w' B y m lm := fun y m lm hy => hy.grown hg' (hy.apart h1)
    by_cases hjl : j < ls.length
    · rw [List.getElem?_append_left hjl] at hj
      obtain ⟨y, h3, h4⟩ := h2 j l' hj
      exact ⟨y, by rw [List.getElem?_append_left (by omega)]; exact h3, keep _ _ _ h4⟩
    · rw [List.getElem?_append_right (by omega)] at hj
      have hj0 : j - ls.length = 0 := by
        have := (List.getElem?_eq_some_iff.1 hj).1
        simp at this; omega
      rw [hj0] at hj
      obtain rfl : l = l' := by simpa using hj
      exact ⟨u, by rw [List.getElem?_append_right (by omega), hxl, hj0]; rfl, keep _ _ _ hu⟩
  obtain ⟨A', c', rfl⟩ := hnew.form
  rw [List.length_append, List.length_singleton] at hnew hr
  have hext : Ext w0 w' := hx0.grown hg' fun k hk => by
    rcases h1.2 with ⟨rfl, _⟩ | ⟨g, cap, cur, rfl, h3, _⟩
    · simp [Value.ownBlock] at hk
    · obtain rfl : g = k := by simpa [Value.ownBlock] using hk
      omega
  refine wpList_plain hgd fun _ hK => ?_
  unfold Oper.wp
  simp [execOp, ho, resolve, invoke, builtin, hs, hx, hr, Result.andThen]
  exact hK _ _ (h A' c' w' hnew hext)
/-- a piece of an array's cells as its element -/
theorem run_index_piece {w : World} {t e n sz : Nat} {L l : List (BitVec 8)} (k : Nat) (x : Int) (h : Try.prog.underlying t = some (.array n e)) (d : TypeDesc) (he : Try.prog.underlying e = some d) (hd : d.isRow = true) (hs : (Try.prog.info? e).map (·.size) = some sz)
    (hx : x = (k : Int)) (hk : k < n) (hl : l.length = sz) (hL : ∀ j, j < sz → gb L (k * sz + j) = gb l j) (hn : k * sz + sz ≤ L.length) :
    (Instr.index t (.agg (bv L)) (.int .i64 x)).run Try.prog w = .ok (.agg (bv l)) w := by
  subst hx hl
  cases hq : Try.prog.info? e with
  | none => simp [hq] at hs
  | some i =>
    have hs1 : i.size = l.length := by simpa [hq] using hs
    have hagg : (isAgg e).run Try.prog w = .ok true w := by
      unfold isAgg
      rw [Sem.run_bind, run_underlying he w]
      cases d <;> simp_all
    have hc : (bv L).extract (k * l.length) (k * l.length + l.length) = bv l := by
      apply Array.ext_getElem?
      intro j
      rw [Array.getElem?_extract]
      by_cases hj : j < l.length
      · rw [if_pos (by rw [bv_size]; omega), bv_at _ _ (by omega), bv_at _ _ hj, hL j hj]
      · rw [if_neg (by rw [bv_size]; omega), Array.getElem?_eq_none (by rw [bv_size]; omega)]
    have hkn : (k : Int) < (n : Int) := by omega
    simp [Instr.index, run_underlying h, asIntOf, sizeOf, typeInfo, hq, hs1, part, hagg, hk, hc, Sem.run_bind]
end Go.Proofs.Ytadndhenfoppiaa
