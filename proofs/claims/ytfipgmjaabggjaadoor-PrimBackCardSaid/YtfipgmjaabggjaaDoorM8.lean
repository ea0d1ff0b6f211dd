/-
  nat: ringOf, take, multiply of a ring; hasBit, bitsOf.
  nat: Cmp.
  nat: Add, Sub, Mul, Div.
  nat: Mul, Sub, Div.
-/
import Derived.Test.YtfipgmjaabggjaaDoorM7
import Derived.RegionTactic
import Derived.Test.YtfipgmjaabggjaaDoorM5
import Derived.Test.YtfipgmjaabggjaaDoorM4
namespace Go.Proofs.YtfipgmjaabggjaaDoor
open Go Go.RowKit
set_option maxRecDepth 4000

theorem lit_lb (w : World) (L : List Nat) (g : Nat) (hg : g = w.heap.size) : Lb (w.alloc (.cells (lv L) ut)) g L := by
  subst hg
  exact Lb.new w L
theorem zl_drop (m n : Nat) (h : n ≤ m) : (zl m).drop n = zl (m - n) := by unfold zl; rw [List.drop_replicate]
/-- what a product modulo a number leaves in a's place -/
def RMul (w : World) (ga gw gt m V v : Nat) (e : Ending) (w' : World) : Prop :=
  ∃ a LW LT, e = .returned (.tuple #[]) ∧ a.length = m ∧ Dg BB a ∧ vl BB a = v % V ∧ Lb w' ga a ∧ LW.length = 2 * m ∧ Lb w' gw LW ∧ LT.length = m ∧ Dg BB LT ∧ Lb w' gt LT ∧ Mds [ga, gw, gt] w w'
theorem vl_take_low {L : List Nat} {m : Nat} (h : vl BB L < BB ^ m) (hm : m ≤ L.length) : vl BB (L.take m) = vl BB L := by
  have e := congrArg (vl BB) (List.take_append_drop m L)
  rw [vl_append, List.length_take, Nat.min_eq_left hm] at e
  have h0 : vl BB (L.drop m) = 0 := by
    rcases Nat.eq_zero_or_pos (vl BB (L.drop m)) with h1 | h1
    · exact h1
    · have h2 : BB ^ m * 1 ≤ BB ^ m * vl BB (L.drop m) := Nat.mul_le_mul_left _ h1
      omega
  rw [h0, Nat.mul_zero, Nat.add_zero] at e
  exact e
end Go.Proofs.YtfipgmjaabggjaaDoor
namespace Go.Proofs.YtfipgmjaabggjaaDoor
open Go Go.RowKit
set_option maxRecDepth 4000

end Go.Proofs.YtfipgmjaabggjaaDoor
namespace Go.Proofs.YtfipgmjaabggjaaDoor
open Go Go.RowKit
set_option maxRecDepth 4000

instance (v : Nat) : Decidable (lng v) := inferInstanceAs (Decidable (64 < nl v))
theorem lit_sl (w : World) (t : TypeId) (xs : List Sli) (cs : Array Value) (h : cs = (xs.map eS).toArray) (n : Nat) (hn : xs.length = n) (hm : n ≤ maxLen) : Rd eS (w.alloc (.cells cs t)) (some ⟨w.heap.size, 0, none⟩) n n xs := by
  subst h
  exact (Rw.has (B := 0) (T := t) (Has.new w t _ _ rfl) hn (Nat.zero_le _) hm).rd
theorem anyLong_at (w : World) (t : TypeId) (xs : List Sli) (cs : Array Value) (h : cs = (xs.map eS).toArray) (n : Nat) (hn : xs.length = n) (hm : n ≤ 3) (hx : ∀ s ∈ xs, SliOk w s) (b : Bool) (hb : b = true ↔ ∃ s ∈ xs, lng (vl BB s.l)) :
    Calls Tryd.prog 63 #[.slice (some ⟨w.heap.size, 0, none⟩) n n] (w.alloc (.cells cs t)) fun e w' => e = .returned (.bool b) ∧ w' = w.alloc (.cells cs t) := by
  refine (anyLong_any (lit_sl w t xs cs h n hn (by unfold maxLen; omega)) (by omega) (fun s hs => (hx s hs).ext (by (repeat (first | assumption | exact Ext.refl _ | apply Ext.drew | apply Ext.drewN | apply Ext.alloc | refine Ext.trans ?_ (by assumption))); first | done | fail))).mono ?_
  rintro e w' ⟨b', rfl, hb', rfl⟩
  refine ⟨?_, rfl⟩
  rw [Bool.eq_iff_iff.2 (hb'.trans hb.symm)]
/-- a number that is handed in -/
structure In1 (w : World) (A : Option Addr) (n c : Nat) (a : List Nat) : Prop where
  r : Rd vL w A n c a
  d : Dg BB a
  n : n ≤ 1000000
theorem In1.ok {w : World} {A : Option Addr} {n c : Nat} {a : List Nat} (h : In1 w A n c a) : SliOk w ⟨A, n, c, a⟩ := ⟨h.r, h.d, by have := h.n; show n ≤ 1000000000000; omega⟩
theorem In1.ext {w w' : World} {A : Option Addr} {n c : Nat} {a : List Nat} (h : In1 w A n c a) (hx : Ext w w') : In1 w' A n c a := ⟨h.r.ext hx, h.d, h.n⟩
theorem In1.counted {w : World} {A : Option Addr} {n c : Nat} {a : List Nat} (h : In1 w A n c a) :
    Calls Tryd.prog 64 #[.slice A n c] w fun e w' => e = .returned (.slice A (nl (vl BB a)) c) ∧ nl (vl BB a) ≤ n ∧ Rd vL w A (nl (vl BB a)) c (dgs BB (vl BB a)) ∧ w' = w := counted_rd h.r h.d (by have := h.n; omega)
/-- an error of a code alone; a number and no error -/
def Bad1 (w : World) (k : Int) (e : Ending) (w' : World) : Prop := e = .returned (.tuple #[.slice none 0 0, err k]) ∧ Ext w w'
def Ok1 (w : World) (v : Nat) (e : Ending) (w' : World) : Prop := ∃ A n c, e = .returned (.tuple #[.slice A n c, .nilIface]) ∧ Rw ut vL w' w.heap.size (.slice A n c) n (dgs BB v) ∧ Ext w w'
def Bad2 (w : World) (k : Int) (e : Ending) (w' : World) : Prop := e = .returned (.tuple #[.slice none 0 0, .slice none 0 0, err k]) ∧ Ext w w'
def Ok2 (w : World) (q r : Nat) (e : Ending) (w' : World) : Prop :=
  ∃ A n c A' n' c', e = .returned (.tuple #[.slice A n c, .slice A' n' c', .nilIface]) ∧ Rw ut vL w' w.heap.size (.slice A n c) n (dgs BB q) ∧ Rw ut vL w' w.heap.size (.slice A' n' c') n' (dgs BB r) ∧ Ext w w'
section
variable {w : World} {A B : Option Addr} {n c m d : Nat} {a b : List Nat}
theorem two_long (ha : In1 w A n c a) (hb : In1 w B m d b) (h : lng (vl BB a) ∨ lng (vl BB b)) :
    Calls Tryd.prog 63 #[.slice (some ⟨w.heap.size, 0, none⟩) 2 2] (w.alloc (.cells #[.slice A n c, .slice B m d] nt)) fun e w' => e = .returned (.bool true) ∧ w' = w.alloc (.cells #[.slice A n c, .slice B m d] nt) :=
  anyLong_at w nt [⟨A, n, c, a⟩, ⟨B, m, d, b⟩] _ rfl 2 rfl (by omega) (by simp [ha.ok, hb.ok]) true (by simpa using h)
theorem two_short (ha : In1 w A n c a) (hb : In1 w B m d b) (h1 : ¬ lng (vl BB a)) (h2 : ¬ lng (vl BB b)) :
    Calls Tryd.prog 63 #[.slice (some ⟨w.heap.size, 0, none⟩) 2 2] (w.alloc (.cells #[.slice A n c, .slice B m d] nt)) fun e w' => e = .returned (.bool false) ∧ w' = w.alloc (.cells #[.slice A n c, .slice B m d] nt) :=
  anyLong_at w nt [⟨A, n, c, a⟩, ⟨B, m, d, b⟩] _ rfl 2 rfl (by omega) (by simp [ha.ok, hb.ok]) false (by simp [h1, h2])
end
end Go.Proofs.YtfipgmjaabggjaaDoor
namespace Go.Proofs.YtfipgmjaabggjaaDoor
open Go Go.RowKit
set_option maxRecDepth 4000

theorem nl_mono {a b : Nat} (h : a ≤ b) : nl a ≤ nl b := by
  rcases Nat.lt_or_ge (nl b) (nl a) with h1 | h1
  · have := cn_len_lt (B := BB) (by decide) (cn_dgs (by decide) b) (cn_dgs (by decide) a) h1
    rw [vl_dgs (by decide), vl_dgs (by decide)] at this
    omega
  · exact h1
section
variable {w : World} {A B : Option Addr} {n c m d : Nat} {a b : List Nat}
end
end Go.Proofs.YtfipgmjaabggjaaDoor
