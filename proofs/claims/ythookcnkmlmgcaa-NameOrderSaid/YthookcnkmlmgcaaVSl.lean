/-
  A slice of bytes that reads as a list, nil let in; cut; handed to append.
-/
import Derived.Test.YthookcnkmlmgcaaVPure
import Derived.Test.YthookcnkmlmgcaaVMem
import Derived.Laws.AppendOwnNone
namespace Go.Proofs.Ythookcnkmlmgcaa
open Go Go.RowKit
set_option maxRecDepth 4000

/-- a slice of bytes that reads as a list -/
def Sl (w : World) (A : Option Addr) (n c : Nat) (l : List (BitVec 8)) : Prop :=
  l.length = n ∧ n ≤ c ∧ (A = none → n = 0 ∧ c = 0) ∧ (0 < n → ∃ g o, A = some ⟨g, o, none⟩ ∧ ∀ j, j < n → w.cell? ⟨g, o + j, none⟩ = some (.int .u8 (ub (gb l j))))
theorem Sl.keep {w w' : World} {A : Option Addr} {n c : Nat} {l : List (BitVec 8)} (h : Sl w A n c l) (hb : Below w.heap.size w w') : Sl w' A n c l := by
  obtain ⟨h1, h2, h3, h4⟩ := h
  refine ⟨h1, h2, h3, fun hn => ?_⟩
  obtain ⟨g, o, e, hc⟩ := h4 hn
  exact ⟨g, o, e, fun j hj => (hb.cell (p := ⟨g, o + j, none⟩) (block_lt_of_cell (hc j hj))).trans (hc j hj)⟩
theorem Sl.some_ {w : World} {A : Option Addr} {n c : Nat} {l : List (BitVec 8)} (h : Sl w A n c l) (hn : 0 < n) : ∃ g o, A = some ⟨g, o, none⟩ ∧ ∀ j, j < n → w.cell? ⟨g, o + j, none⟩ = some (.int .u8 (ub (gb l j))) := h.2.2.2 hn
theorem Sl.of_has {w : World} {g t c : Nat} {l : List (BitVec 8)} (h : Has w g t (bv l)) (hc : l.length ≤ c) : Sl w (some ⟨g, 0, none⟩) l.length c l :=
  ⟨rfl, hc, (fun e => by cases e), fun _ => ⟨g, 0, rfl, fun j hj => by rw [Nat.zero_add]; exact (h.cell j).trans (bv_at l j hj)⟩⟩
theorem Sl.nil (w : World) : Sl w none 0 0 [] := ⟨rfl, Nat.le_refl _, fun _ => ⟨rfl, rfl⟩, fun h => absurd h (Nat.lt_irrefl 0)⟩
theorem gb_drop (l : List (BitVec 8)) (k j : Nat) : gb (l.drop k) j = gb l (k + j) := by
  simp [gb, List.getElem?_drop]
theorem gb_take (l : List (BitVec 8)) (k j : Nat) (h : j < k) : gb (l.take k) j = gb l j := by
  simp [gb, h]
theorem Sl.drop {w : World} {A : Option Addr} {n c : Nat} {l : List (BitVec 8)} (h : Sl w A n c l) (k : Nat) (hk : k ≤ n) :
    Sl w (if c = k then A else A.map (·.add k)) (n - k) (c - k) (l.drop k) := by
  obtain ⟨h1, h2, h3, h4⟩ := h
  refine ⟨by rw [List.length_drop, h1], by omega, ?_, fun hn => ?_⟩
  · intro e
    have hA : A = none := by
      by_cases hck : c = k
      · rwa [if_pos hck] at e
      · rw [if_neg hck] at e; cases A with
        | none => rfl
        | some a => cases e
    have := h3 hA
    omega
  · obtain ⟨g, o, rfl, hc⟩ := h4 (by omega)
    have hck : ¬ c = k := by omega
    refine ⟨g, o + k, ?_, fun j hj => ?_⟩
    · rw [if_neg hck]
      simp only [Option.map_some, Option.some.injEq]
      unfold Addr.add
      split <;> simp_all
    · rw [gb_drop, Nat.add_assoc]
      exact hc (k + j) (by omega)
theorem Sl.take {w : World} {A : Option Addr} {n c : Nat} {l : List (BitVec 8)} (h : Sl w A n c l) (k : Nat) (hk : k ≤ n) : Sl w A k c (l.take k) := by
  obtain ⟨h1, h2, h3, h4⟩ := h
  refine ⟨by rw [List.length_take]; omega, by omega, fun e => by have := h3 e; omega, fun hn => ?_⟩
  obtain ⟨g, o, rfl, hc⟩ := h4 (by omega)
  exact ⟨g, o, rfl, fun j hj => by rw [gb_take _ _ _ hj]; exact hc j (by omega)⟩
/-- cut at its head -/
theorem run_from {P : Program} (A : Option Addr) (n c t e : Nat) (ht : P.underlying t = some (.slice e)) (hs : (P.info? e).map (·.size) = some 1) (k : Nat) (x : Int) (hx : x = (k : Int)) (hk : k ≤ n) (w : World) :
    (Instr.sliceAt t (.slice A n c) (some (.int .i64 x)) none none).run P w = .ok (.slice (if c = k then A else A.map (·.add k)) (n - k) (c - k)) w := by
  subst hx
  cases hq : P.info? e with
  | none => simp [hq] at hs
  | some i =>
    have hs1 : i.size = 1 := by simpa [hq] using hs
    simp [Instr.sliceAt, Instr.slice, run_underlying ht, Instr.sliceBounds, Instr.sliceBound, asIntOf, sizeOf, typeInfo, hq, hs1, hk]
/-- cut at its end -/
theorem run_upto {P : Program} (A : Option Addr) (n c t e : Nat) (ht : P.underlying t = some (.slice e)) (hs : (P.info? e).map (·.size) = some 1) (k : Nat) (x : Int) (hx : x = (k : Int)) (hk : k ≤ c) (w : World) :
    (Instr.sliceAt t (.slice A n c) none (some (.int .i64 x)) none).run P w = .ok (.slice A k c) w := by
  subst hx
  cases hq : P.info? e with
  | none => simp [hq] at hs
  | some i =>
    simp [Instr.sliceAt, Instr.slice, run_underlying ht, Instr.sliceBounds, Instr.sliceBound, asIntOf, sizeOf, typeInfo, hq, hk]
    intro _; cases A <;> simp [Addr.add]
/-- append a slice that reads as a list, nil let in, onto a row of the call's own -/
theorem wpList_append_sl {P : Program} {w : World} {ops : Array Oper} {rest : List Oper} {o : Oper} {a : Act} {Q : Exit → Act → World → Prop} (hgd : o.guard = none) (s x : Operand) (t : TypeId)
    (ho : o.op = .call { callee := .builtin .append, args := #[s, x], argTypes := #[t, t] })
    (base : Nat) (e : TypeId) (ht : P.underlying t = some (.slice e)) (hi : (P.info? e).map (fun i => (i.zero, i.size, i.bytes)) = some (some (.int .u8 0), 1, 1))
    (v : Value) (n : Nat) (xs : List Value) (hs : a.eval s = v) (hown : w.ownsRow base e 1 v n xs)
    (A : Option Addr) (m c : Nat) (l : List (BitVec 8)) (hx : a.eval x = .slice A m c) (hl : Sl w A m c l)
    (h47 : n + m ≤ 140737488355328) (hbase : base ≤ w.heap.size)
    (h : ∀ v' w', w'.ownsRow base e 1 v' (n + m) (xs ++ l.map vb) → w.grownBy w' v.ownBlock → wpList P ops Q rest (a.put o.dst v') w') : wpList P ops Q (o :: rest) a w := by
  obtain ⟨i, hi0, hz, hs1, hb⟩ := info_parts hi
  cases A with
  | none =>
    obtain ⟨rfl, rfl⟩ := hl.2.2.1 rfl
    have hl0 : l = [] := List.eq_nil_of_length_eq_zero hl.1
    subst hl0
    exact wpList_append_own_none hgd s x t ho base e i 1 ht hi0 v n xs hs hown hx (h v w (by simpa using hown) (World.grownBy.refl w _))
  | some ad =>
    refine wpList_append_own w hgd s x t ho base e i (.int .u8 0) 1 1 ht hi0 hz hs1 hb rfl (by decide) v n xs hs hown ad m c (l.map vb) hx (by simp [hl.1]) ?_ ?_ (by unfold maxLen; omega) (by omega) hbase (fun v' w' h1 h2 _ => h v' w' h1 h2)
    · intro j u hu
      have hj : j < m := by
        have := (List.getElem?_eq_some_iff.1 hu).1
        simpa [hl.1] using this
      obtain ⟨g, o', e1, hc⟩ := hl.2.2.2 (by omega)
      obtain rfl := Option.some.inj e1
      have hadd : (⟨g, o', none⟩ : Addr).add j = ⟨g, o' + j, none⟩ := by unfold Addr.add; split <;> simp_all
      rw [hadd, hc j hj]
      rw [List.getElem?_map] at hu
      have hjl : j < l.length := by rw [hl.1]; exact hj
      rw [List.getElem?_eq_getElem hjl] at hu
      simpa [gb, hjl] using hu
    · intro u hu
      obtain ⟨b, _, rfl⟩ := List.mem_map.1 hu
      rfl
/-- a row of the call's own reads as a list -/
theorem Sl.of_own {w : World} {base e n : Nat} {v : Value} {l : List (BitVec 8)} (h : w.ownsRow base e 1 v n (l.map vb)) : ∃ A c, v = .slice A n c ∧ Sl w A n c l := by
  have hn : l.length = n := by have := h.1; simpa using this
  rcases h.2 with ⟨rfl, rfl⟩ | ⟨g, cap, cur, rfl, _, hh, hc, _, _, ht⟩
  · exact ⟨none, 0, rfl, hn, Nat.le_refl _, fun _ => ⟨rfl, rfl⟩, fun h0 => absurd h0 (Nat.lt_irrefl 0)⟩
  · refine ⟨some ⟨g, 0, none⟩, cap, rfl, hn, hc, (fun e1 => by cases e1), fun _ => ⟨g, 0, rfl, fun j hj => ?_⟩⟩
    have hjl : j < l.length := by omega
    have e1 : cur[j]? = (l.map vb)[j]? := by
      rw [← ht, List.getElem?_take_of_lt (by omega)]; simp
    have hcell : w.cell? ⟨g, 0 + j, none⟩ = cur[j]? := by rw [Nat.zero_add]; exact cell_of_row w g j cur e (0, 0) hh
    rw [hcell, e1, List.getElem?_map, List.getElem?_eq_getElem hjl]
    simp [gb, hjl]
end Go.Proofs.Ythookcnkmlmgcaa
