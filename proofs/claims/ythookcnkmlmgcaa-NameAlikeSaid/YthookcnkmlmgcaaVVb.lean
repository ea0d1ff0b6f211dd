/-
  prim: isTime; the reference's May.
-/
import Derived.Test.YthookcnkmlmgcaaVVa
namespace Go.Proofs.Ythookcnkmlmgcaa
open Go Go.RowKit
set_option maxRecDepth 4000

/-- six ints that are a moment, and the moment's cells -/
def tci (y mo d h mi s : Int) : Array Value := #[.int .i64 y, .int .i64 mo, .int .i64 d, .int .i64 h, .int .i64 mi, .int .i64 s]
def tcs (t : Tmt) : Array Value := tci t.y t.mo t.d t.h t.mi t.s
def MayI (y mo d h mi s : Int) : Prop := ∃ t, MayT t ∧ y = (t.y : Int) ∧ mo = (t.mo : Int) ∧ d = (t.d : Int) ∧ h = (t.h : Int) ∧ mi = (t.mi : Int) ∧ s = (t.s : Int)
/-- what is amiss first -/
theorem may_cases (y mo d h mi s : Int) : MayI y mo d h mi s ∨ (¬ MayI y mo d h mi s ∧ (¬ (1 ≤ y ∧ y ≤ 9999) ∨ ((1 ≤ y ∧ y ≤ 9999) ∧ ¬ (1 ≤ mo ∧ mo ≤ 12)) ∨
    ∃ Y M : Nat, y = (Y : Int) ∧ mo = (M : Int) ∧ (1 ≤ Y ∧ Y ≤ 9999) ∧ (1 ≤ M ∧ M ≤ 12) ∧ (¬ (1 ≤ d ∧ d ≤ (dimM Y M : Int)) ∨ ((1 ≤ d ∧ d ≤ (dimM Y M : Int)) ∧ ¬ (0 ≤ h ∧ h ≤ 23)) ∨ ((1 ≤ d ∧ d ≤ (dimM Y M : Int)) ∧ (0 ≤ h ∧ h ≤ 23) ∧ ¬ (0 ≤ mi ∧ mi ≤ 59)) ∨
      ((1 ≤ d ∧ d ≤ (dimM Y M : Int)) ∧ (0 ≤ h ∧ h ≤ 23) ∧ (0 ≤ mi ∧ mi ≤ 59) ∧ ¬ (0 ≤ s ∧ s ≤ 59))))) := by
  have hN : ∀ {P : Prop}, (∀ t, MayT t → y = (t.y : Int) → mo = (t.mo : Int) → d = (t.d : Int) → h = (t.h : Int) → mi = (t.mi : Int) → s = (t.s : Int) → P → False) → P → ¬ MayI y mo d h mi s := fun hp hP ⟨t, ht, a, b, c, e, f, g⟩ => hp t ht a b c e f g hP
  by_cases h1 : 1 ≤ y ∧ y ≤ 9999
  · by_cases h2 : 1 ≤ mo ∧ mo ≤ 12
    · obtain ⟨Y, rfl⟩ : ∃ Y : Nat, y = (Y : Int) := ⟨y.toNat, by omega⟩
      obtain ⟨M, rfl⟩ : ∃ M : Nat, mo = (M : Int) := ⟨mo.toNat, by omega⟩
      have k1 : 1 ≤ Y ∧ Y ≤ 9999 := by omega
      have k2 : 1 ≤ M ∧ M ≤ 12 := by omega
      have hD : ∀ t : Tmt, (Y : Int) = (t.y : Int) → (M : Int) = (t.mo : Int) → dimM Y M = dimM t.y t.mo := fun t a b => by
        rw [show Y = t.y by omega, show M = t.mo by omega]
      by_cases h3 : 1 ≤ d ∧ d ≤ (dimM Y M : Int)
      · by_cases h4 : 0 ≤ h ∧ h ≤ 23
        · by_cases h5 : 0 ≤ mi ∧ mi ≤ 59
          · by_cases h6 : 0 ≤ s ∧ s ≤ 59
            · refine .inl ⟨⟨Y, M, d.toNat, h.toNat, mi.toNat, s.toNat⟩, ⟨k1.1, k1.2, k2.1, k2.2, ?_, ?_, ?_, ?_, ?_⟩, rfl, rfl, ?_, ?_, ?_, ?_⟩
              all_goals first | (show 1 ≤ d.toNat; omega) | (show d.toNat ≤ dimM Y M; omega) | (show h.toNat ≤ 23; omega) | (show mi.toNat ≤ 59; omega) | (show s.toNat ≤ 59; omega) | (show d = (d.toNat : Int); omega) | (show h = (h.toNat : Int); omega) | (show mi = (mi.toNat : Int); omega) | (show s = (s.toNat : Int); omega)
            · exact .inr ⟨hN (fun t ht _ _ _ _ _ g hP => hP (by have := ht.s2; omega)) h6, .inr (.inr ⟨Y, M, rfl, rfl, k1, k2, .inr (.inr (.inr ⟨h3, h4, h5, h6⟩))⟩)⟩
          · exact .inr ⟨hN (fun t ht _ _ _ _ f _ hP => hP (by have := ht.i2; omega)) h5, .inr (.inr ⟨Y, M, rfl, rfl, k1, k2, .inr (.inr (.inl ⟨h3, h4, h5⟩))⟩)⟩
        · exact .inr ⟨hN (fun t ht _ _ _ e _ _ hP => hP (by have := ht.h2; omega)) h4, .inr (.inr ⟨Y, M, rfl, rfl, k1, k2, .inr (.inl ⟨h3, h4⟩)⟩)⟩
      · exact .inr ⟨hN (fun t ht a b c _ _ _ hP => hP (by have h7 := ht.d1; have h8 := ht.d2; have h9 := hD t a b; omega)) h3, .inr (.inr ⟨Y, M, rfl, rfl, k1, k2, .inl h3⟩)⟩
    · exact .inr ⟨hN (fun t ht _ b _ _ _ _ hP => hP (by have := ht.m1; have := ht.m2; omega)) h2, .inr (.inl ⟨h1, h2⟩)⟩
  · exact .inr ⟨hN (fun t ht a _ _ _ _ _ hP => hP (by have := ht.y1; have := ht.y2; omega)) h1, .inl h1⟩
end Go.Proofs.Ythookcnkmlmgcaa
