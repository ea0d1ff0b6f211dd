/-
  The library's slices.Concat of any parts, bytes.Equal, HasPrefix, CutPrefix, IndexByte.
-/
import Derived.Test.YtfipgmjaabggjaaDoorVCb
import Derived.Test.YtfipgmjaabggjaaDoorVEb
import Derived.Lib.BytesEntry
namespace Go.Proofs.YtfipgmjaabggjaaDoor
open Go Go.RowKit
set_option maxRecDepth 4000

/-- one of the parts that are joined -/
structure Part where
  A : Option Addr
  n : Nat
  c : Nat
  l : List (BitVec 8)
def Part.v (p : Part) : Value := .slice p.A p.n p.c
def pN : List Part → Nat
  | [] => 0
  | p :: r => p.n + pN r
def pL : List Part → List (BitVec 8)
  | [] => []
  | p :: r => p.l ++ pL r
theorem pN_take (ps : List Part) (j : Nat) (p : Part) (h : ps[j]? = some p) : pN (ps.take (j + 1)) = pN (ps.take j) + p.n := by
  induction ps generalizing j with
  | nil => cases h
  | cons q r ih =>
    cases j with
    | zero => simp at h; subst h; simp [pN]
    | succ j =>
      have h2 := ih j (by simpa using h)
      rw [List.take_succ_cons, List.take_succ_cons, pN, pN, h2]
      omega
theorem pL_take (ps : List Part) (j : Nat) (p : Part) (h : ps[j]? = some p) : pL (ps.take (j + 1)) = pL (ps.take j) ++ p.l := by
  induction ps generalizing j with
  | nil => cases h
  | cons q r ih =>
    cases j with
    | zero => simp at h; subst h; simp [pL]
    | succ j =>
      have h2 := ih j (by simpa using h)
      rw [List.take_succ_cons, List.take_succ_cons, pL, pL, h2, List.append_assoc]
theorem pN_le (ps : List Part) : ∀ j, pN (ps.take j) ≤ pN ps := by
  induction ps with
  | nil => intro j; simp [pN]
  | cons q r ih =>
    intro j
    cases j with
    | zero => simp [pN]
    | succ j =>
      rw [List.take_succ_cons, pN, pN]
      have := ih j
      omega
theorem str_beq (l1 l2 : List (BitVec 8)) : ((strOf l1).toList == (strOf l2).toList) = (l1 == l2) := by rw [strOf_toList, strOf_toList, of_beq]
theorem Equal_any {l1 l2 : List (BitVec 8)} {A B : Option Addr} {n c m d : Nat} {w : World} (h1 : Bs w A n c l1) (h2 : Bs w B m d l2) :
    Calls Tryd.prog 50 #[.slice A n c, .slice B m d] w fun e w' => e = .returned (.bool (l1 == l2)) ∧ w' = w := by
  have k1 := h1.str (Ext.refl w)
  have k2 := h2.str (Ext.refl w)
  rw [← str_beq]
  clear h1 h2
  go_enter Tryd.func50, Tryd.ntmps50
  go_wp2
  go_ret
  exact ⟨rfl, rfl⟩
theorem Bs.drop {w : World} {A : Option Addr} {n c : Nat} {l : List (BitVec 8)} (h : Bs w A n c l) (k : Nat) (hk : k ≤ n) : Bs w (if c = k then A else A.map (·.add k)) (n - k) (c - k) (l.drop k) := by
  have hl := h.len
  have hcap := h.cap
  refine ⟨by rw [List.length_drop, hl], by omega, fun e => ?_, fun hn => ?_⟩
  · have hA : A = none := by
      cases A with
      | none => rfl
      | some a => split at e <;> simp at e
    have := h.s.2.2.1 hA
    omega
  · obtain ⟨g, o, rfl, hc⟩ := h.s.2.2.2 (by omega)
    rw [if_neg (by omega)]
    have hadd : (⟨g, o, none⟩ : Addr).add k = ⟨g, o + k, none⟩ := by unfold Addr.add; split <;> simp_all
    refine ⟨g, o + k, by simp [hadd], fun j hj => ?_⟩
    rw [gb_drop, Nat.add_assoc]
    exact hc (k + j) (by omega)
/-- how many bytes stand ahead of the first 00 -/
def fz : List (BitVec 8) → Nat
  | [] => 0
  | x :: r => if x = 0 then 0 else fz r + 1
theorem fz_le (l : List (BitVec 8)) : fz l ≤ l.length := by
  induction l with
  | nil => exact Nat.le_refl _
  | cons x r ih => unfold fz; split <;> simp; omega
theorem fz_ahead (l : List (BitVec 8)) : ∀ j, j < fz l → gb l j ≠ 0 := by
  induction l with
  | nil => intro j h; exact absurd h (Nat.not_lt_zero _)
  | cons x r ih =>
    intro j h
    unfold fz at h
    split at h
    · omega
    · next hx =>
      cases j with
      | zero => simpa [gb] using hx
      | succ j => have := ih j (by omega); simpa [gb] using this
theorem fz_at (l : List (BitVec 8)) (h : fz l < l.length) : gb l (fz l) = 0 := by
  induction l with
  | nil => cases h
  | cons x r ih =>
    by_cases hx : x = 0
    · rw [show fz (x :: r) = 0 by unfold fz; rw [if_pos hx]]
      simp [gb, hx]
    · have e : fz (x :: r) = fz r + 1 := by rw [fz, if_neg hx]
      rw [e] at h ⊢
      have := ih (by simpa using h)
      simpa [gb] using this
def fzI (l : List (BitVec 8)) : Int := if fz l < l.length then (fz l : Int) else -1
theorem ib_fz (l : List (BitVec 8)) : Lib.indexByte (l.map UInt8.ofBitVec) 0 = fzI l := by
  induction l with
  | nil => rfl
  | cons x r ih =>
    rw [List.map_cons, Lib.indexByte, ih]
    by_cases hx : x = 0
    · subst hx
      rfl
    · have hne : (UInt8.ofBitVec x == 0) = false := by
        refine beq_eq_false_iff_ne.2 fun e => hx ?_
        have := congrArg UInt8.toBitVec e
        exact this
      rw [hne]
      unfold fzI
      rw [fz, if_neg hx]
      simp only [Bool.false_eq_true, if_false, List.length_cons]
      by_cases h : fz r < r.length
      · have e1 : ((fz r : Int) == -1) = false := beq_eq_false_iff_ne.2 (by omega)
        simp only [if_pos h, e1, if_pos (show fz r + 1 < r.length + 1 by omega)]
        simp
      · simp only [if_neg h, if_neg (show ¬ fz r + 1 < r.length + 1 by omega)]
        rfl
end Go.Proofs.YtfipgmjaabggjaaDoor
