/-
  A name's bytes taken apart: its steps, their attributes, their types and texts. Plain.
-/
import Derived.Test.YthookcnkmlmgcaaGreatDoorVIe
namespace Go.Proofs.YthookcnkmlmgcaaGreatDoor
open Go
set_option maxRecDepth 4000

section
variable {T : BitVec 8 → List (BitVec 8) → Bool}
theorem nam_body {n : List (List Atr)} (h : MayN T n) : bodL (namB n) 48 = some (n.map stpB).flatten := bod_iff.2 ⟨by decide, by have := h.body; omega, rfl⟩
theorem nam_parts {n : List (List Atr)} (h : MayN T n) : prtL (n.map stpB).flatten = some (n.map stpB) := prt_iff.2 ⟨rfl, fun z hz => by obtain ⟨a, ha, rfl⟩ := List.mem_map.1 hz; exact (h.all a ha).el⟩
theorem stp_body {s : List Atr} (h : MayS T s) : bodL (stpB s) 49 = some (s.map atrB).flatten := bod_iff.2 ⟨by decide, by have := h.body; omega, rfl⟩
theorem stp_parts {s : List Atr} (h : MayS T s) : prtL (s.map atrB).flatten = some (s.map atrB) := prt_iff.2 ⟨rfl, fun z hz => by obtain ⟨a, ha, rfl⟩ := List.mem_map.1 hz; exact (h.all a ha).el⟩
theorem atr_body {a : Atr} (h : MayA T a) : bodL (atrB a) 48 = some (elm 6 (oidB a.ty) ++ elm a.mark a.tx) := bod_iff.2 ⟨by decide, by have := h.body; omega, rfl⟩
theorem atr_parts {a : Atr} (h : MayA T a) : prtL (elm 6 (oidB a.ty) ++ elm a.mark a.tx) = some [elm 6 (oidB a.ty), elm a.mark a.tx] := by
  refine prt_iff.2 ⟨by simp, fun z hz => ?_⟩
  have h1 := oidB_len h.oid
  have h2 := h.hi
  rcases List.mem_cons.1 hz with rfl | hz
  · exact ⟨6, _, by decide, by omega, rfl⟩
  · rcases List.mem_cons.1 hz with rfl | hz
    · exact ⟨a.mark, _, h.mkb, by omega, rfl⟩
    · cases hz
theorem atr_oid {a : Atr} (h : MayA T a) : bodL (elm 6 (oidB a.ty)) 6 = some (oidB a.ty) := bod_iff.2 ⟨by decide, by have := oidB_len h.oid; omega, rfl⟩
theorem atr_text {a : Atr} (h : MayA T a) : bodL (elm a.mark a.tx) (gb (elm a.mark a.tx) 0) = some a.tx := by
  have e : gb (elm a.mark a.tx) 0 = a.mark := by unfold elm; exact hdr_gb0 _ _ _
  rw [e]
  exact bod_iff.2 ⟨h.mkb, by have := h.hi; omega, rfl⟩
theorem elm_mark (m : BitVec 8) (x : List (BitVec 8)) : gb (elm m x) 0 = m := by unfold elm; exact hdr_gb0 _ _ _
theorem elm_pos (m : BitVec 8) (x : List (BitVec 8)) : 2 ≤ (elm m x).length := by
  rw [elm_len]
  have := hdn_lo x.length
  omega
/-- rising, step by step: each one is above the one ahead of it -/
theorem rise_iff {l : List (List (BitVec 8))} : l.Pairwise Lt8 ↔ ∀ k x y, l[k]? = some x → l[k + 1]? = some y → Lt8 x y := by
  induction l with
  | nil => simp
  | cons a l ih =>
    constructor
    · intro h k x y hx hy
      rw [List.pairwise_cons] at h
      cases k with
      | zero =>
        simp at hx
        subst hx
        exact h.1 y (List.mem_of_getElem? (by simpa using hy))
      | succ k => exact ih.1 h.2 k x y (by simpa using hx) (by simpa using hy)
    · intro h
      have h2 := ih.2 fun k x y hx hy => h (k + 1) x y (by simpa using hx) (by simpa using hy)
      rw [List.pairwise_cons]
      refine ⟨?_, h2⟩
      cases l with
      | nil => intro y hy; cases hy
      | cons b l =>
        have h0 : Lt8 a b := h 0 a b rfl rfl
        intro y hy
        rcases List.mem_cons.1 hy with rfl | hy
        · exact h0
        · rw [List.pairwise_cons] at h2
          exact List.lt_trans h0 (h2.1 y hy)
end
end Go.Proofs.YthookcnkmlmgcaaGreatDoor
