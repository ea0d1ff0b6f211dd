/-
  A name whose parts are not too long. Plain.
-/
import Derived.Test.YthookcnkmlmgcaaGreatDoorVIm
namespace Go.Proofs.YthookcnkmlmgcaaGreatDoor
open Go Go.RowKit
set_option maxRecDepth 4000

/-- a name whose parts are not too long -/
structure FitN (x : List (List Atr)) : Prop where
  hi : x.length ≤ 1000000
  all : ∀ s ∈ x, s.length ≤ 1000000 ∧ ∀ a ∈ s, a.tx.length ≤ 1000000 ∧ a.ty.length ≤ 1000000
theorem LightP.fit {x : List (List Atr)} (h : LightP x) : FitN x := by
  refine ⟨by have := h.hi; omega, fun s hs => ?_⟩
  obtain ⟨i, hi⟩ := List.getElem?_of_mem hs
  obtain ⟨h1, h2⟩ := h.all i s hi
  refine ⟨by omega, fun a ha => ?_⟩
  obtain ⟨j, hj⟩ := List.getElem?_of_mem ha
  have := h2 j a hj
  omega
theorem FitN.take {x : List (List Atr)} (h : FitN x) (k : Nat) : FitN (x.take k) := by
  refine ⟨?_, fun s hs => h.all s (List.mem_of_mem_take hs)⟩
  rw [List.length_take]
  have := h.hi
  omega
end Go.Proofs.YthookcnkmlmgcaaGreatDoor
