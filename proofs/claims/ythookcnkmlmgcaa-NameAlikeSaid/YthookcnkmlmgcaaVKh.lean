/-
  prim: isOid; the reference's Oid.
-/
import Derived.Test.YthookcnkmlmgcaaVKc
import Derived.Test.YthookcnkmlmgcaaVNa
import Derived.Test.YthookcnkmlmgcaaVKf
namespace Go.Proofs.Ythookcnkmlmgcaa
open Go Go.RowKit
set_option maxRecDepth 4000

/-- is a list an identifier? -/
def oidK (l : List Nat) : Bool := decide (2 ≤ l.length) && (decide (l.length ≤ 16) && (decide (dg l 0 ≤ 2) && (if dg l 0 < 2 then decide (dg l 1 < 40) else decide (dg l 1 ≤ 4294967215))))
theorem oidK_iff {l : List Nat} (h : Dg 4294967296 l) : oidK l = true ↔ OidP l := by
  unfold oidK OidP
  constructor
  · intro h1
    simp only [Bool.and_eq_true, decide_eq_true_eq] at h1
    obtain ⟨h2, h3, h4, h5⟩ := h1
    match l, h2 with
    | a :: b :: r, _ =>
      refine ⟨a, b, r, rfl, h3, h4, ?_, ?_, fun n hn => h n (by simp [hn])⟩
      · intro ha
        rw [if_pos (show dg (a :: b :: r) 0 < 2 from ha), decide_eq_true_eq] at h5
        exact h5
      · by_cases ha : a < 2
        · rw [if_pos (show dg (a :: b :: r) 0 < 2 from ha), decide_eq_true_eq] at h5
          have : b < 40 := h5
          omega
        · rw [if_neg (show ¬ dg (a :: b :: r) 0 < 2 from ha), decide_eq_true_eq] at h5
          exact h5
  · rintro ⟨a, b, r, rfl, h3, h4, h5, h6, h7⟩
    have e0 : dg (a :: b :: r) 0 = a := rfl
    have e1 : dg (a :: b :: r) 1 = b := rfl
    rw [e0, e1]
    simp only [Bool.and_eq_true, decide_eq_true_eq]
    refine ⟨by simp, h3, h4, ?_⟩
    split
    · rename_i ha; exact decide_eq_true (h5 ha)
    · exact decide_eq_true h6
end Go.Proofs.Ythookcnkmlmgcaa
