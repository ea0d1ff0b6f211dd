/-
  Elements that bytes begin with, that they are one behind the other; the body of one: as the reference goes. Plain.
-/
import Derived.Test.YthookcnkmlmgcaaGreatDoorM1
namespace Go.Proofs.YthookcnkmlmgcaaGreatDoor
open Go
set_option maxRecDepth 4000

/-- how long an element's mark and length are, by its second byte -/
def szO (b : List (BitVec 8)) : Nat := if 3 < b.length ∧ gb b 1 = 130 then 4 else if 2 < b.length ∧ gb b 1 = 129 then 3 else 2
/-- what the first element's head and body are long -/
def fstL (b : List (BitVec 8)) : Option (Nat × Nat) :=
  if 2 ≤ b.length ∧ mkB (gb b 0) = true ∧ hdn (lnOf b) = szO b ∧ hdr (gb b 0) (lnOf b) = b.take (szO b) ∧ lnOf b + szO b ≤ b.length then some (szO b, lnOf b) else none
theorem fst_el {b : List (BitVec 8)} {s n : Nat} (h : fstL b = some (s, n)) : El b (gb b 0) ((b.drop s).take n) (b.drop (s + n)) ∧ s = hdn n ∧ ((b.drop s).take n).length = n := by
  unfold fstL at h
  split at h
  · rename_i hc
    obtain ⟨h1, h2, h3, h4, h5⟩ := hc
    injection h with h
    injection h with e1 e2
    subst e1 e2
    have he := el_of h2 (lnOf_hi b) (by rw [h3]; exact h4.symm) (by omega)
    rw [h3] at he
    exact ⟨he, h3.symm, by rw [List.length_take, List.length_drop]; omega⟩
  · cases h
theorem sz_el {b x r : List (BitVec 8)} {m : BitVec 8} (h : El b m x r) : szO b = hdn x.length := by
  obtain ⟨_, h2, rfl⟩ := h
  unfold elm hdr hdn szO
  by_cases h3 : x.length < 128
  · rw [if_pos h3, if_pos h3]
    have e1 : gb ([m, BitVec.ofNat 8 x.length] ++ x ++ r) 1 = BitVec.ofNat 8 x.length := rfl
    have e2 : BitVec.ofNat 8 x.length ≠ 130 := fun e => by have := congrArg BitVec.toNat e; simp at this; omega
    have e3 : BitVec.ofNat 8 x.length ≠ 129 := fun e => by have := congrArg BitVec.toNat e; simp at this; omega
    rw [e1, if_neg (fun h => e2 h.2), if_neg (fun h => e3 h.2)]
  · rw [if_neg h3, if_neg h3]
    by_cases h4 : x.length < 256
    · rw [if_pos h4, if_pos h4]
      have e1 : gb ([m, 129, BitVec.ofNat 8 x.length] ++ x ++ r) 1 = 129 := rfl
      rw [e1, if_neg (fun h => absurd h.2 (by decide)), if_pos ⟨by simp, rfl⟩]
    · rw [if_neg h4, if_neg h4]
      have e1 : gb ([m, 130, BitVec.ofNat 8 (x.length / 256), BitVec.ofNat 8 (x.length % 256)] ++ x ++ r) 1 = 130 := rfl
      rw [e1, if_pos ⟨by simp, rfl⟩]
theorem el_fst {b x r : List (BitVec 8)} {m : BitVec 8} (h : El b m x r) : fstL b = some (hdn x.length, x.length) := by
  have h1 := lnOf_el h
  have h2 := sz_el h
  obtain ⟨e1, e2, e3, _, _, _⟩ := el_parts h
  have h3 := hdn_lo x.length
  unfold fstL
  rw [h1, h2, if_pos ⟨by omega, by rw [e1]; exact h.1, rfl, by rw [e1, e2], by omega⟩]
theorem fst_lo {b : List (BitVec 8)} {s n : Nat} (h : fstL b = some (s, n)) : 2 ≤ s ∧ s + n ≤ b.length := by
  obtain ⟨he, hs, hl⟩ := fst_el h
  have h1 := (el_parts he).2.2.1
  have h2 := hdn_lo n
  rw [hl] at h1
  omega
/-- the elements that bytes are -/
def prtF : Nat → List (BitVec 8) → Option (List (List (BitVec 8)))
  | 0, b => if b = [] then some [] else none
  | k + 1, b => if b = [] then some [] else match fstL b with
    | none => none
    | some (s, n) => (prtF k (b.drop (s + n))).map fun l => b.take (s + n) :: l
def prtL (b : List (BitVec 8)) : Option (List (List (BitVec 8))) := prtF b.length b
theorem prtF_of : ∀ (k : Nat) (l : List (List (BitVec 8))), (∀ z ∈ l, IsEl z) → l.flatten.length ≤ k → prtF k l.flatten = some l
  | 0, [], _, _ => by simp [prtF]
  | 0, z :: l, h, hk => by
    have := (h z (by simp)).ne
    rw [List.flatten_cons, List.length_append] at hk
    have h2 : z = [] := List.eq_nil_of_length_eq_zero (by omega)
    exact absurd h2 this
  | k + 1, [], _, _ => by simp [prtF]
  | k + 1, z :: l, h, hk => by
    obtain ⟨m, x, hm, hx, rfl⟩ := h z (by simp)
    have he : El ((elm m x :: l).flatten) m x l.flatten := ⟨hm, hx, by rw [List.flatten_cons]⟩
    obtain ⟨_, _, _, e4, _, e6⟩ := el_parts he
    have hne : (elm m x :: l).flatten ≠ [] := fun e => by
      rw [List.flatten_cons] at e
      exact (IsEl.ne ⟨m, x, hm, hx, rfl⟩) (List.append_eq_nil_iff.1 e).1
    unfold prtF
    rw [if_neg hne, el_fst he]
    simp only [e4, e6]
    rw [prtF_of k l (fun z hz => h z (by simp [hz])) (by
      rw [List.flatten_cons, List.length_append, elm_len] at hk
      have := hdn_lo x.length
      omega)]
    rfl
theorem prtF_is : ∀ (k : Nat) (b : List (BitVec 8)) (l : List (List (BitVec 8))), prtF k b = some l → l.flatten = b ∧ ∀ z ∈ l, IsEl z
  | 0, b, l, h => by
    unfold prtF at h
    split at h
    · rename_i hb
      injection h with h
      subst h hb
      exact ⟨rfl, fun z hz => by cases hz⟩
    · cases h
  | k + 1, b, l, h => by
    unfold prtF at h
    split at h
    · rename_i hb
      injection h with h
      subst h hb
      exact ⟨rfl, fun z hz => by cases hz⟩
    · cases hf : fstL b with
      | none => rw [hf] at h; cases h
      | some p =>
        obtain ⟨s, n⟩ := p
        rw [hf] at h
        simp only [Option.map_eq_some_iff] at h
        obtain ⟨l', h1, rfl⟩ := h
        obtain ⟨e1, e2⟩ := prtF_is k _ l' h1
        obtain ⟨he, hs, hl⟩ := fst_el hf
        have h4 := (el_parts he).2.2.2.1
        rw [hl, ← hs] at h4
        refine ⟨by rw [List.flatten_cons, e1, List.take_append_drop], fun z hz => ?_⟩
        rcases List.mem_cons.1 hz with rfl | hz
        · exact ⟨_, _, he.1, he.2.1, h4⟩
        · exact e2 z hz
theorem prt_iff {b : List (BitVec 8)} {l : List (List (BitVec 8))} : prtL b = some l ↔ l.flatten = b ∧ ∀ z ∈ l, IsEl z := by
  constructor
  · exact prtF_is _ _ _
  · rintro ⟨rfl, h⟩
    exact prtF_of _ l h (Nat.le_refl _)
/-- an element's body -/
def bodL (b : List (BitVec 8)) (m : BitVec 8) : Option (List (BitVec 8)) := match fstL b with
  | none => none
  | some (s, n) => if gb b 0 = m ∧ s + n = b.length then some (b.drop s) else none
theorem bod_iff {b x : List (BitVec 8)} {m : BitVec 8} : bodL b m = some x ↔ mkB m = true ∧ x.length ≤ 65535 ∧ b = elm m x := by
  constructor
  · intro h
    unfold bodL at h
    cases hf : fstL b with
    | none => rw [hf] at h; cases h
    | some p =>
      obtain ⟨s, n⟩ := p
      rw [hf] at h
      simp only at h
      split at h
      · rename_i hc
        injection h with h
        obtain ⟨he, hs, hl⟩ := fst_el hf
        obtain ⟨_, _, _, h4, _, _⟩ := el_parts he
        rw [hl, ← hs] at h4
        have e1 : b.drop s = (b.drop s).take n := by
          rw [List.take_of_length_le]
          rw [List.length_drop]
          omega
        have e2 : b.take (s + n) = b := List.take_of_length_le (by omega)
        rw [e2, hc.1] at h4
        rw [hc.1] at he
        rw [← h, e1]
        exact ⟨he.1, he.2.1, h4⟩
      · cases h
  · rintro ⟨hm, hx, rfl⟩
    have he : El (elm m x) m x [] := ⟨hm, hx, by rw [List.append_nil]⟩
    obtain ⟨e1, _, _, _, _, _⟩ := el_parts he
    unfold bodL
    rw [el_fst he]
    simp only
    have e4 : hdn x.length + x.length = (elm m x).length := by rw [elm_len]
    rw [if_pos ⟨e1, e4⟩]
    have e6 : (elm m x).drop (hdn x.length) = x := by
      unfold elm
      rw [List.drop_left' (hdr_len _ _)]
    rw [e6]
end Go.Proofs.YthookcnkmlmgcaaGreatDoor
