/-
  nat: Add, Sub, Mul, Div.
-/
import Derived.Test.YtpmoaccaknfodaaOa
import Derived.Test.YtpmoaccaknfodaaNz
import Derived.Test.YtpmoaccaknfodaaEr
namespace Go.Proofs.Ytpmoaccaknfodaa
open Go Go.RowKit

instance (v : Nat) : Decidable (lng v) := inferInstanceAs (Decidable (64 < nl v))
theorem lit_sl (w : World) (t : TypeId) (xs : List Sli) (cs : Array Value) (h : cs = (xs.map eS).toArray) (n : Nat) (hn : xs.length = n) (hm : n ≤ maxLen) : Rd eS (w.alloc (.cells cs t)) (some ⟨w.heap.size, 0, none⟩) n n xs := by
  subst h
  exact (Rw.has (B := 0) (T := t) (Has.new w t _ _ rfl) hn (Nat.zero_le _) hm).rd
theorem anyLong_at (w : World) (t : TypeId) (xs : List Sli) (cs : Array Value) (h : cs = (xs.map eS).toArray) (n : Nat) (hn : xs.length = n) (hm : n ≤ 3) (hx : ∀ s ∈ xs, SliOk w s) (b : Bool) (hb : b = true ↔ ∃ s ∈ xs, lng (vl BB s.l)) :
    Calls Try.prog 39 #[.slice (some ⟨w.heap.size, 0, none⟩) n n] (w.alloc (.cells cs t)) fun e w' => e = .returned (.bool b) ∧ w' = w.alloc (.cells cs t) := by
  refine (anyLong_any (lit_sl w t xs cs h n hn (by unfold maxLen; omega)) (by omega) (fun s hs => (hx s hs).ext (by (repeat (first | assumption | exact Ext.refl _ | apply Ext.drew | apply Ext.drewN | apply Ext.alloc | refine Ext.trans ?_ (by assumption))); first | done | fail))).mono ?_
  rintro e w' ⟨b', rfl, hb', rfl⟩
  refine ⟨?_, rfl⟩
  rw [Bool.eq_iff_iff.2 (hb'.trans hb.symm)]
/-- a number that is handed in -/
structure In1 (w : World) (A : Option Addr) (n c : Nat) (a : List Nat) : Prop where
  r : Rd vL w A n c a
  d : Dg BB a
  n : n ≤ 1000000
theorem In1.ok {w : World} {A : Option Addr} {n c : Nat} {a : List Nat} (h : In1 w A n c a) : SliOk w ⟨A, n, c, a⟩ := ⟨h.r, h.d, by have := h.n; show n ≤ 1000000000000; omega⟩
theorem In1.ext {w w' : World} {A : Option Addr} {n c : Nat} {a : List Nat} (h : In1 w A n c a) (hx : Ext w w') : In1 w' A n c a := ⟨h.r.ext hx, h.d, h.n⟩
theorem In1.counted {w : World} {A : Option Addr} {n c : Nat} {a : List Nat} (h : In1 w A n c a) :
    Calls Try.prog 35 #[.slice A n c] w fun e w' => e = .returned (.slice A (nl (vl BB a)) c) ∧ nl (vl BB a) ≤ n ∧ Rd vL w A (nl (vl BB a)) c (dgs BB (vl BB a)) ∧ w' = w := counted_rd h.r h.d (by have := h.n; omega)
/-- an error of a code alone; a number and no error -/
def Bad1 (w : World) (k : Int) (e : Ending) (w' : World) : Prop := e = .returned (.tuple #[.slice none 0 0, err k]) ∧ Ext w w'
def Ok1 (w : World) (v : Nat) (e : Ending) (w' : World) : Prop := ∃ A n c, e = .returned (.tuple #[.slice A n c, .nilIface]) ∧ Rw ut vL w' w.heap.size (.slice A n c) n (dgs BB v) ∧ Ext w w'
def Bad2 (w : World) (k : Int) (e : Ending) (w' : World) : Prop := e = .returned (.tuple #[.slice none 0 0, .slice none 0 0, err k]) ∧ Ext w w'
def Ok2 (w : World) (q r : Nat) (e : Ending) (w' : World) : Prop :=
  ∃ A n c A' n' c', e = .returned (.tuple #[.slice A n c, .slice A' n' c', .nilIface]) ∧ Rw ut vL w' w.heap.size (.slice A n c) n (dgs BB q) ∧ Rw ut vL w' w.heap.size (.slice A' n' c') n' (dgs BB r) ∧ Ext w w'
section
variable {w : World} {A B : Option Addr} {n c m d : Nat} {a b : List Nat}
theorem two_long (ha : In1 w A n c a) (hb : In1 w B m d b) (h : lng (vl BB a) ∨ lng (vl BB b)) :
    Calls Try.prog 39 #[.slice (some ⟨w.heap.size, 0, none⟩) 2 2] (w.alloc (.cells #[.slice A n c, .slice B m d] nt)) fun e w' => e = .returned (.bool true) ∧ w' = w.alloc (.cells #[.slice A n c, .slice B m d] nt) :=
  anyLong_at w nt [⟨A, n, c, a⟩, ⟨B, m, d, b⟩] _ rfl 2 rfl (by omega) (by simp [ha.ok, hb.ok]) true (by simpa using h)
theorem two_short (ha : In1 w A n c a) (hb : In1 w B m d b) (h1 : ¬ lng (vl BB a)) (h2 : ¬ lng (vl BB b)) :
    Calls Try.prog 39 #[.slice (some ⟨w.heap.size, 0, none⟩) 2 2] (w.alloc (.cells #[.slice A n c, .slice B m d] nt)) fun e w' => e = .returned (.bool false) ∧ w' = w.alloc (.cells #[.slice A n c, .slice B m d] nt) :=
  anyLong_at w nt [⟨A, n, c, a⟩, ⟨B, m, d, b⟩] _ rfl 2 rfl (by omega) (by simp [ha.ok, hb.ok]) false (by simp [h1, h2])
theorem Add_long (ha : In1 w A n c a) (hb : In1 w B m d b) (h : lng (vl BB a) ∨ lng (vl BB b)) : Calls Try.prog 17 #[.slice A n c, .slice B m d] w (Bad1 w 4) := by
  have C := Kp.mk (two_long ha hb h)
  clear ha hb h
  go_enter Try.func17, Try.ntmps17
  go_wp2_with fail
  refine C.out.mono ?_
  rintro e w1 ⟨rfl, rfl⟩
  go_wp2_with fail
  go_ret2
  exact ⟨rfl, (by (repeat (first | assumption | exact Ext.refl _ | apply Ext.drew | apply Ext.drewN | apply Ext.alloc | refine Ext.trans ?_ (by assumption))); first | done | fail)⟩
theorem Add_ok (ha : In1 w A n c a) (hb : In1 w B m d b) (h1 : ¬ lng (vl BB a)) (h2 : ¬ lng (vl BB b)) : Calls Try.prog 17 #[.slice A n c, .slice B m d] w (Ok1 w (vl BB a + vl BB b)) := by
  have C := Kp.mk (two_short ha hb h1 h2)
  have hx : Ext w (w.alloc (.cells #[.slice A n c, .slice B m d] nt)) := (by (repeat (first | assumption | exact Ext.refl _ | apply Ext.drew | apply Ext.drewN | apply Ext.alloc | refine Ext.trans ?_ (by assumption))); first | done | fail)
  have C1 := Kp.mk (ha.ext hx).counted
  have C2 := Kp.mk (hb.ext hx).counted
  have HX := Kp.mk hx
  have HL := Kp.mk (show nl (vl BB a) ≤ 64 ∧ nl (vl BB b) ≤ 64 from ⟨Nat.le_of_not_lt h1, Nat.le_of_not_lt h2⟩)
  generalize vl BB a = va at *
  generalize vl BB b = vb at *
  clear ha hb h1 h2 hx
  go_enter Try.func17, Try.ntmps17
  go_wp2_with fail
  refine C.out.mono ?_
  rintro e w1 ⟨rfl, hw1⟩
  rw [← hw1] at C1 C2 HX
  clear hw1
  go_wp2_with fail
  refine C1.out.mono ?_
  rintro e w2 ⟨rfl, _, r1, rfl⟩
  have R1 := Kp.mk r1
  clear r1
  go_wp2_with fail
  refine C2.out.mono ?_
  rintro e w3 ⟨rfl, _, r2, rfl⟩
  have C3 := Kp.mk (sum_any R1.out r2 (cn_dgs (by decide) va).d (cn_dgs (by decide) vb).d (by have := HL.out; omega) (by have := HL.out; omega))
  rw [vl_dgs (B := BB) (by decide), vl_dgs (B := BB) (by decide)] at C3
  clear r2 R1 C1 C2
  go_wp2_with fail
  refine C3.out.mono ?_
  rintro e w4 ⟨A4, n4, c4, rfl, ho, hx4⟩
  have HF := Kp.mk (show Ok1 w (va + vb) (.returned (.tuple #[.slice A4 n4 c4, .nilIface])) w4 from ⟨A4, n4, c4, rfl, ho.lower HX.out.size, HX.out.trans hx4⟩)
  clear ho hx4
  go_wp2_with fail
  go_ret2
  exact HF.out
end
end Go.Proofs.Ytpmoaccaknfodaa
