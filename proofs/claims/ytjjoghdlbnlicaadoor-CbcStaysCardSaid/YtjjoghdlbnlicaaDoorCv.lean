/-
  Arrays of 16 bytes in the laws of layer 4; what is sealed and opened, told with opaque words; a byte of the beginning turned.
-/
import Derived.Test.YtjjoghdlbnlicaaDoorCm
namespace Go.Proofs.YtjjoghdlbnlicaaDoor
open Go Go.RowKit

abbrev ar : TypeId := 37
theorem szA (l : List (BitVec 8)) (h : l.length = 16) : (Tryd.prog.info? 37).map (·.size) = some (bv l).size := by rw [bv_size, h]; kernel_rfl
theorem eqA (x y : List (BitVec 8)) (hx : x.length = 16) (hy : y.length = 16) (w : World) :
    (Op.equalIn 10000 37 (.agg (bv x)) (.agg (bv y))).run Tryd.prog w = .ok (x == y) w :=
  run_equalIn_bts w 9998 37 5 16 Tryd.underlying37 Tryd.underlying5 (by kernel_rfl) x y hx hy
theorem Blk.whole {w : World} {g t : Nat} {l : List (BitVec 8)} (h : Blk w g t (bv l)) (hl : l.length = 16) : Bs w (some ⟨g, 0, none⟩) 16 16 l := by
  have hs := h.bs 0 16 16 (by omega) (Nat.le_refl _)
  rwa [List.drop_zero, List.take_of_length_le (by omega)] at hs
theorem str_same {x y a b : List (BitVec 8)} (h : x = y ↔ a = b) : ((strOf x).toList == (strOf y).toList) = ((strOf a).toList == (strOf b).toList) := by
  by_cases e : a = b
  · rw [h.2 e, e]; simp
  · rw [str_ne e, str_ne fun e2 => e (h.1 e2)]
theorem opened_turn (K : Nat → List (BitVec 8)) (g t : List (BitVec 8)) (hg : g.length = 16) (j : Nat) (hj : j < 16) (ht : 16 ≤ t.length) (y : BitVec 8) :
    openN K (sealL K g t) (g.set j (gb g j ^^^ y)) (t.length / 16 + 1) = fillL (t.set j (gb t j ^^^ y)) := by
  rw [open_turn K (sealL K g t) g j y hg hj (t.length / 16), seal_opens, fill_set t j _ (by omega), fill_at t j (by omega)]
/-- sealing and opening one text, the numbers and the code by opaque names -/
theorem sealing {k g t : List (BitVec 8)} {n p N : Nat} (hl : t.length = n) (hn : n ≤ 300) (hp : p = 16 * N) (hN : N = n / 16 + 1) :
    (∀ {w A B C c d e}, Bs w A 16 c k → Bs w B 16 d g → Bs w C n e t → Lay3 w → Calls Tryd.prog 10 #[.slice A 16 c, .slice B 16 d, .slice C n e] w (FreshE w p (sealL (ks k) g t))) ∧
    (∀ {w A B C c d e}, Bs w A 16 c k → Bs w B 16 d g → Bs w C p e (sealL (ks k) g t) → Lay3 w → Calls Tryd.prog 13 #[.slice A 16 c, .slice B 16 d, .slice C p e] w (FreshE w n t)) := by
  subst hp
  refine ⟨fun h1 h2 h3 h4 => ?_, fun h1 h2 h3 h4 => ?_⟩
  · have h := Seal_any h1 h2 h3 (by omega) h4
    rwa [← hN] at h
  · have ho := seal_opens (ks k) g t
    rw [hl, ← hN] at ho
    have h := Open_some h1 h2 h3 (by omega) N rfl (by omega) h4 ho ((empty_iff _ _).2 rfl)
    rwa [hl] at h
/-- opening with a byte of the beginning turned -/
theorem opening_turned {k g t : List (BitVec 8)} {n p N j : Nat} (y : BitVec 8) (hg : g.length = 16) (hl : t.length = n) (hn : n ≤ 300) (h16 : 16 ≤ n) (hj : j < 16) (hp : p = 16 * N) (hN : N = n / 16 + 1) :
    ∀ {w A B C c d e}, Bs w A 16 c k → Bs w B 16 d (g.set j (gb g j ^^^ y)) → Bs w C p e (sealL (ks k) g t) → Lay3 w → Calls Tryd.prog 13 #[.slice A 16 c, .slice B 16 d, .slice C p e] w (FreshE w n (t.set j (gb t j ^^^ y))) := by
  subst hp
  intro w A B C c d e h1 h2 h3 h4
  have ho := opened_turn (ks k) g t hg j hj (by omega) y
  rw [hl, ← hN] at ho
  have h := Open_some h1 h2 h3 (by omega) N rfl (by omega) h4 ho ((empty_iff _ _).2 rfl)
  rwa [List.length_set, hl] at h
end Go.Proofs.YtjjoghdlbnlicaaDoor
