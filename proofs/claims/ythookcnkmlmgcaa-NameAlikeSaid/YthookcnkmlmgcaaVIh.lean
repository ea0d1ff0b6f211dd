/-
  Plain texts as the code goes: what is told so far, a last blank too, which is left out at the end; as the reference goes, byte by byte. Plain.
-/
import Derived.Test.YthookcnkmlmgcaaVIa
namespace Go.Proofs.Ythookcnkmlmgcaa
open Go
set_option maxRecDepth 4000

theorem gb_snoc (o : List (BitVec 8)) (y : BitVec 8) : gb (o ++ [y]) o.length = y := by
  unfold gb
  rw [List.getD_eq_getElem?_getD, List.getElem?_append_right (Nat.le_refl _), Nat.sub_self]
  rfl
/-- one byte more -/
def plN (o : List (BitVec 8)) (x : BitVec 8) : List (BitVec 8) := if x ≠ 32 ∨ (0 < o.length ∧ gb o (o.length - 1) ≠ 32) then o ++ [lowB x] else o
/-- a last blank left out -/
def cutB (o : List (BitVec 8)) : List (BitVec 8) := if 0 < o.length ∧ gb o (o.length - 1) = 32 then o.take (o.length - 1) else o
/-- what the code has told where the reference has told o, and a blank stands ahead (p) -/
def plO (o : List (BitVec 8)) (p : Bool) : List (BitVec 8) := if o ≠ [] ∧ p = true then o ++ [32] else o
/-- its last byte is no blank -/
def NoB (o : List (BitVec 8)) : Prop := ¬(0 < o.length ∧ gb o (o.length - 1) = 32)
theorem noB_snoc (o : List (BitVec 8)) (x : BitVec 8) (h : x ≠ 32) : NoB (o ++ [lowB x]) := by
  rintro ⟨_, h2⟩
  rw [List.length_append, List.length_singleton, Nat.add_sub_cancel, gb_snoc] at h2
  exact low_blank x h h2
theorem plGo_cons (o : List (BitVec 8)) (p : Bool) (x : BitVec 8) (t : List (BitVec 8)) : plGo o p (x :: t) = if x = 32 then plGo o true t else plGo (plO o p ++ [lowB x]) false t := rfl
theorem plN_go : ∀ (t o : List (BitVec 8)) (p : Bool), NoB o → cutB (t.foldl plN (plO o p)) = plGo o p t
  | [], o, p, h => by
    show cutB (plO o p) = o
    unfold plO
    split
    · unfold cutB
      rw [if_pos ⟨by simp, by rw [List.length_append, List.length_singleton, Nat.add_sub_cancel, gb_snoc]⟩]
      simp
    · unfold cutB
      rw [if_neg h]
  | x :: t, o, p, h => by
    rw [List.foldl_cons, plGo_cons]
    by_cases hx : x = 32
    · subst hx
      rw [if_pos rfl, ← plN_go t o true h]
      congr 2
      by_cases ho : o = []
      · subst ho
        rfl
      · have hl : 0 < o.length := List.length_pos_iff.2 ho
        have e2 : plO o true = o ++ [32] := by unfold plO; rw [if_pos ⟨ho, rfl⟩]
        rw [e2]
        cases p
        · have e1 : plO o false = o := by unfold plO; rw [if_neg (by simp)]
          rw [e1]
          unfold plN
          rw [if_pos (.inr ⟨hl, fun e => h ⟨hl, e⟩⟩)]
          rfl
        · rw [e2]
          unfold plN
          rw [if_neg]
          rintro (h1 | ⟨_, h1⟩)
          · exact h1 rfl
          · exact h1 (by rw [List.length_append, List.length_singleton, Nat.add_sub_cancel, gb_snoc])
    · rw [if_neg hx]
      have e1 : plN (plO o p) x = plO o p ++ [lowB x] := by unfold plN; rw [if_pos (.inl hx)]
      have e0 : ∀ z : List (BitVec 8), plO z false = z := fun z => by
        unfold plO
        rw [if_neg (fun h => by cases h.2)]
      have e3 := e0 (plO o p ++ [lowB x])
      rw [e1, ← plN_go t (plO o p ++ [lowB x]) false (noB_snoc _ _ hx), e3]
/-- the code's way -/
theorem plN_all (t : List (BitVec 8)) : cutB (t.foldl plN []) = plainL t := by
  have := plN_go t [] false (fun h => absurd h.1 (Nat.lt_irrefl 0))
  rw [plGo_all] at this
  exact this
theorem plN_len (o : List (BitVec 8)) (x : BitVec 8) : (plN o x).length ≤ o.length + 1 := by
  unfold plN
  split
  · simp
  · omega
theorem plN_fold_len : ∀ (t o : List (BitVec 8)), (t.foldl plN o).length ≤ o.length + t.length
  | [], o => Nat.le_refl _
  | x :: t, o => by
    rw [List.foldl_cons]
    have h1 := plN_fold_len t (plN o x)
    have h2 := plN_len o x
    simp only [List.length_cons]
    omega
theorem fold_more {α : Type} (f : α → BitVec 8 → α) (o : α) (t : List (BitVec 8)) (j : Nat) (hj : j < t.length) : (t.take (j + 1)).foldl f o = f ((t.take j).foldl f o) (gb t j) := by
  rw [List.take_add_one, List.getElem?_eq_getElem hj, List.foldl_append]
  simp [gb, hj]
/-- the reference's way -/
def gN (s : List (BitVec 8) × Bool) (x : BitVec 8) : List (BitVec 8) × Bool := if x = 32 then (s.1, true) else ((if s.1 ≠ [] ∧ s.2 = true then s.1 ++ [32] else s.1) ++ [lowB x], false)
theorem gN_go : ∀ (t : List (BitVec 8)) (s : List (BitVec 8) × Bool), (t.foldl gN s).1 = plGo s.1 s.2 t
  | [], s => rfl
  | x :: t, s => by
    rw [List.foldl_cons, gN_go t, plGo_cons]
    unfold gN
    by_cases hx : x = 32
    · rw [if_pos hx, if_pos hx]
    · rw [if_neg hx, if_neg hx]
      rfl
theorem gN_all (t : List (BitVec 8)) : (t.foldl gN ([], false)).1 = plainL t := by rw [gN_go, plGo_all]
theorem gN_len (s : List (BitVec 8) × Bool) (x : BitVec 8) : (gN s x).1.length ≤ s.1.length + 2 := by
  unfold gN
  split
  · simp
  · split
    · simp
    · simp
theorem gN_fold_len : ∀ (t : List (BitVec 8)) (s : List (BitVec 8) × Bool), (t.foldl gN s).1.length ≤ s.1.length + 2 * t.length
  | [], s => Nat.le_refl _
  | x :: t, s => by
    rw [List.foldl_cons]
    have h1 := gN_fold_len t (gN s x)
    have h2 := gN_len s x
    simp only [List.length_cons]
    omega
/-- whether a blank stands ahead -/
theorem gN_snd (t : List (BitVec 8)) (j : Nat) (hj : j < t.length) : ((t.take (j + 1)).foldl gN ([], false)).2 = decide (gb t j = 32) := by
  rw [fold_more gN _ t j hj]
  unfold gN
  by_cases h : gb t j = 32
  · rw [if_pos h, decide_eq_true h]
  · rw [if_neg h, decide_eq_false h]
end Go.Proofs.Ythookcnkmlmgcaa
