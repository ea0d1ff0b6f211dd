/-
  prim: isOid; the reference's Oid.
-/
import Derived.Test.YtfipgmjaabggjaaDoorVKc
import Derived.Test.YtfipgmjaabggjaaDoorVNa
import Derived.Test.YtfipgmjaabggjaaDoorVKf
namespace Go.Proofs.YtfipgmjaabggjaaDoor
open Go Go.RowKit
set_option maxRecDepth 4000

/-- is a list an identifier? -/
def oidK (l : List Nat) : Bool := decide (2 ≤ l.length) && (decide (l.length ≤ 16) && (decide (dg l 0 ≤ 2) && (if dg l 0 < 2 then decide (dg l 1 < 40) else decide (dg l 1 ≤ 4294967215))))
theorem oidK_iff {l : List Nat} (h : Dg 4294967296 l) : oidK l = true ↔ OidP l := by
  unfold oidK OidP
  constructor
  · intro h1
    simp only [Bool.and_eq_true, decide_eq_true_eq] at h1
    obtain ⟨h2, h3, h4, h5⟩ := h1
    match l, h2 with
    | a :: b :: r, _ =>
      refine ⟨a, b, r, rfl, h3, h4, ?_, ?_, fun n hn => h n (by simp [hn])⟩
      · intro ha
        rw [if_pos (show dg (a :: b :: r) 0 < 2 from ha), decide_eq_true_eq] at h5
        exact h5
      · by_cases ha : a < 2
        · rw [if_pos (show dg (a :: b :: r) 0 < 2 from ha), decide_eq_true_eq] at h5
          have : b < 40 := h5
          omega
        · rw [if_neg (show ¬ dg (a :: b :: r) 0 < 2 from ha), decide_eq_true_eq] at h5
          exact h5
  · rintro ⟨a, b, r, rfl, h3, h4, h5, h6, h7⟩
    have e0 : dg (a :: b :: r) 0 = a := rfl
    have e1 : dg (a :: b :: r) 1 = b := rfl
    rw [e0, e1]
    simp only [Bool.and_eq_true, decide_eq_true_eq]
    refine ⟨by simp, h3, h4, ?_⟩
    split
    · rename_i ha; exact decide_eq_true (h5 ha)
    · exact decide_eq_true h6
set_option maxHeartbeats 2000000 in
theorem isOid_any {l : List Nat} {A : Option Addr} {n c : Nat} {w : World} (h : Rd vL w A n c l) : Calls Tryd.prog 47 #[.slice A n c] w fun e w' => e = .returned (.bool (oidK l)) ∧ w' = w := by
  have hl := h.len
  by_cases h2 : n < 2
  · have e : oidK l = false := by unfold oidK; rw [decide_eq_false (by omega), Bool.false_and]
    rw [e]
    have b1 : decide ((n : Int) < 2) = true := decide_eq_true (by omega)
    clear h hl e h2
    go_enter Tryd.func47, Tryd.ntmps47
    go_wp2
    go_ret
    exact ⟨rfl, rfl⟩
  · have b1 : decide ((n : Int) < 2) = false := decide_eq_false (by omega)
    by_cases h3 : 16 < n
    · have e : oidK l = false := by unfold oidK; rw [decide_eq_false (p := l.length ≤ 16) (by omega), Bool.false_and, Bool.and_false]
      rw [e]
      have b2 : decide ((16 : Int) < (n : Int)) = true := decide_eq_true (by omega)
      clear h hl e h2 h3
      go_enter Tryd.func47, Tryd.ntmps47
      go_wp2
      go_ret
      exact ⟨rfl, rfl⟩
    · have b2 : decide ((16 : Int) < (n : Int)) = false := decide_eq_false (by omega)
      have b0 : (0 : Int) < (n : Int) := by omega
      have b4 : (1 : Int) < (n : Int) := by omega
      obtain ⟨g, o, rfl⟩ := h.some_ (by omega)
      have c0 := h.dig 0 (by omega)
      have c1 := h.dig 1 (by omega)
      unfold vL at c0 c1
      rw [Nat.add_zero] at c0
      have e : oidK l = (decide (dg l 0 ≤ 2) && (if dg l 0 < 2 then decide (dg l 1 < 40) else decide (dg l 1 ≤ 4294967215))) := by
        unfold oidK
        rw [decide_eq_true (p := 2 ≤ l.length) (by omega), decide_eq_true (p := l.length ≤ 16) (by omega), Bool.true_and, Bool.true_and]
      rw [e]
      clear h hl e h2 h3
      generalize dg l 0 = x at *
      generalize dg l 1 = y at *
      by_cases hx : 2 < x
      · rw [decide_eq_false (p := x ≤ 2) (by omega), Bool.false_and]
        have b3 : decide ((2 : Int) < (x : Int)) = true := decide_eq_true (by omega)
        clear hx
        go_enter Tryd.func47, Tryd.ntmps47
        go_wp2
        go_ret
        exact ⟨rfl, rfl⟩
      · rw [decide_eq_true (p := x ≤ 2) (by omega), Bool.true_and]
        have b3 : decide ((2 : Int) < (x : Int)) = false := decide_eq_false (by omega)
        by_cases hx2 : x < 2
        · have b5 : decide ((x : Int) < 2) = true := decide_eq_true (by omega)
          rw [if_pos hx2]
          have b6 : decide (y < 40) = decide ((y : Int) < 40) := by rw [Bool.eq_iff_iff]; simp; omega
          rw [b6]
          clear hx hx2 b6
          go_enter Tryd.func47, Tryd.ntmps47
          go_wp2
          go_ret
          exact ⟨rfl, rfl⟩
        · have b5 : decide ((x : Int) < 2) = false := decide_eq_false (by omega)
          rw [if_neg hx2]
          have b6 : decide (y ≤ 4294967215) = decide ((y : Int) ≤ 4294967215) := by rw [Bool.eq_iff_iff]; simp; omega
          rw [b6]
          clear hx hx2 b6
          go_enter Tryd.func47, Tryd.ntmps47
          go_wp2
          go_ret
          exact ⟨rfl, rfl⟩
end Go.Proofs.YtfipgmjaabggjaaDoor
