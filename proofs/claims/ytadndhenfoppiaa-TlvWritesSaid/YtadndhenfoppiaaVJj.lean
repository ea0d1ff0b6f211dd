/-
  The code's writer and the reference's beside one another.
-/
import Derived.Test.YtadndhenfoppiaaM11
import Derived.Test.YtadndhenfoppiaaVJi
namespace Go.Proofs.Ytadndhenfoppiaa
open Go Go.RowKit
set_option maxRecDepth 4000

/-- both writers, apart, behind block b -/
structure Pr3 (b : Nat) (w : World) (p q : Nat) (s t : TWs) : Prop where
  ex : ∃ G H, Wr w p G s ∧ Rg w q H t ∧ Ap G H ∧ Lo b G ∧ Lo b H ∧ b ≤ w.heap.size
/-- what such a call leaves: later than all before b; blocks made since w0 stay -/
structure Aft (b : Nat) (w0 w w' : World) : Prop where
  n : ∀ w1 : World, Ext w1 w → w1.heap.size ≤ b → Ext w1 w'
  k : ∃ G, Hi w0 G ∧ Mds G w w'
section
variable {b : Nat} {w0 w w' : World} {p q : Nat} {s t s' : TWs} {x : List (BitVec 8)} {A : Option Addr} {n c : Nat} {G H G' : List Nat}
theorem Aft.blk (h : Aft b w0 w w') {g ty : Nat} {cs : Array Value} (hb : Blk w g ty cs) (hg : w0.heap.size ≤ g) : Blk w' g ty cs := by
  obtain ⟨G, h1, h2⟩ := h.k
  exact hb.mds h2 fun hk => by have := h1 g hk; omega
theorem Pr3.ext (h : Pr3 b w p q s t) (hx : Ext w w') : Pr3 b w' p q s t := by
  obtain ⟨G, H, h1, h2, h3, h4, h5, h6⟩ := h.ex
  exact ⟨⟨G, H, h1.ext hx, h2.ext hx, h3, h4, h5, Nat.le_trans h6 hx.size⟩⟩
theorem Pr3.left (h1 : Wr w0 p G s) (h2 : Rg w q H t) (h3 : Ap G H) (h4 : Lo b G) (h5 : Lo b H) (h6 : b ≤ w.heap.size) (k1 : Wr w' p G' s') (k2 : Mvs G G' w w') : Pr3 b w' p q s' t ∧ Aft b w0 w w' :=
  ⟨⟨⟨G', H, k1, h2.mds k2.m h3.symm, k2.ap h2.hi h3, k2.lo h6 h4, h5, Nat.le_trans h6 k2.m.size⟩⟩, ⟨fun w1 hx hb => k2.ext hx (h4.mono hb), ⟨G, h1.hi, k2.m⟩⟩⟩
theorem Pr3.right (h1 : Wr w p G s) (h2 : Rg w0 q H t) (h3 : Ap G H) (h4 : Lo b G) (h5 : Lo b H) (h6 : b ≤ w.heap.size) (k1 : Rg w' q G' s') (k2 : Mvs H G' w w') : Pr3 b w' p q s s' ∧ Aft b w0 w w' :=
  ⟨⟨⟨G, G', h1.mds k2.m h3, k1, (k2.ap h1.hi h3.symm).symm, h4, k2.lo h6 h5, Nat.le_trans h6 k2.m.size⟩⟩, ⟨fun w1 hx hb => k2.ext hx (h5.mono hb), ⟨H, h2.hi, k2.m⟩⟩⟩
theorem Pr3.putL (h : Pr3 b w0 p q s t) (hx0 : Ext w0 w) (m : BitVec 8) (hx : Bs w A n c x) (ho : ∀ G, Lo b G → Hi w0 G → Off A n G) (hf : szW s ≤ 10000000000000) : Calls Try.prog 15 #[.pointer (some ⟨p, 0, none⟩), .int .u8 (ub m), .slice A n c] w fun e w' => e = .returned (.tuple #[]) ∧ Pr3 b w' p q (putS m x s) t ∧ Aft b w0 w w' := by
  obtain ⟨G, H, h1, h2, h3, h4, h5, h6⟩ := h.ex
  refine (Put_any (h1.ext hx0) hx (ho G h4 h1.hi) hf).mono ?_
  rintro e w' ⟨rfl, G', k1, k2⟩
  exact ⟨rfl, Pr3.left h1 (h2.ext hx0) h3 h4 h5 (Nat.le_trans h6 hx0.size) k1 k2⟩
theorem Pr3.putR (h : Pr3 b w0 p q s t) (hx0 : Ext w0 w) (m : BitVec 8) (hv : VW t) (hx : Bs w A n c x) (hf : szW t ≤ 10000000000000) : Calls Try.prog 16 #[.pointer (some ⟨q, 0, none⟩), .int .u8 (ub m), .slice A n c] w fun e w' => e = .returned (.tuple #[]) ∧ Pr3 b w' p q s (putS m x t) ∧ Aft b w0 w w' := by
  obtain ⟨G, H, h1, h2, h3, h4, h5, h6⟩ := h.ex
  refine (refPut_any (h2.ext hx0) hv hx hf).mono ?_
  rintro e w' ⟨rfl, G', k1, k2⟩
  exact ⟨rfl, Pr3.right (h1.ext hx0) h2 h3 h4 h5 (Nat.le_trans h6 hx0.size) k1 k2⟩
theorem Pr3.openL (h : Pr3 b w0 p q s t) (hx0 : Ext w0 w) (m : BitVec 8) (hf : szW s ≤ 10000000000000) : Calls Try.prog 17 #[.pointer (some ⟨p, 0, none⟩), .int .u8 (ub m)] w fun e w' => e = .returned (.tuple #[]) ∧ Pr3 b w' p q (openS m s) t ∧ Aft b w0 w w' := by
  obtain ⟨G, H, h1, h2, h3, h4, h5, h6⟩ := h.ex
  refine (Open_any (h1.ext hx0) hf).mono ?_
  rintro e w' ⟨rfl, G', k1, k2⟩
  exact ⟨rfl, Pr3.left h1 (h2.ext hx0) h3 h4 h5 (Nat.le_trans h6 hx0.size) k1 k2⟩
theorem Pr3.openR (h : Pr3 b w0 p q s t) (hx0 : Ext w0 w) (m : BitVec 8) (hv : VW t) : Calls Try.prog 18 #[.pointer (some ⟨q, 0, none⟩), .int .u8 (ub m)] w fun e w' => e = .returned (.tuple #[]) ∧ Pr3 b w' p q s (openS m t) ∧ Aft b w0 w w' := by
  obtain ⟨G, H, h1, h2, h3, h4, h5, h6⟩ := h.ex
  refine (refOpen_any (h2.ext hx0) hv).mono ?_
  rintro e w' ⟨rfl, G', k1, k2⟩
  exact ⟨rfl, Pr3.right (h1.ext hx0) h2 h3 h4 h5 (Nat.le_trans h6 hx0.size) k1 k2⟩
theorem Pr3.closeL (h : Pr3 b w0 p q s t) (hx0 : Ext w0 w) (hv : VW s) (hf : szW s ≤ 10000000000000) : Calls Try.prog 19 #[.pointer (some ⟨p, 0, none⟩)] w fun e w' => e = .returned (.tuple #[]) ∧ Pr3 b w' p q (closeS s) t ∧ Aft b w0 w w' := by
  obtain ⟨G, H, h1, h2, h3, h4, h5, h6⟩ := h.ex
  refine (Close_any (h1.ext hx0) hv hf).mono ?_
  rintro e w' ⟨rfl, G', k1, k2⟩
  exact ⟨rfl, Pr3.left h1 (h2.ext hx0) h3 h4 h5 (Nat.le_trans h6 hx0.size) k1 k2⟩
theorem Pr3.closeR (h : Pr3 b w0 p q s t) (hx0 : Ext w0 w) (hv : VW t) (hf : szW t ≤ 10000000000000) : Calls Try.prog 20 #[.pointer (some ⟨q, 0, none⟩)] w fun e w' => e = .returned (.tuple #[]) ∧ Pr3 b w' p q s (closeS t) ∧ Aft b w0 w w' := by
  obtain ⟨G, H, h1, h2, h3, h4, h5, h6⟩ := h.ex
  refine (refClose_any (h2.ext hx0) hv hf).mono ?_
  rintro e w' ⟨rfl, G', k1, k2⟩
  exact ⟨rfl, Pr3.right (h1.ext hx0) h2 h3 h4 h5 (Nat.le_trans h6 hx0.size) k1 k2⟩
theorem Pr3.bytes (h : Pr3 b w p q s t) (hv : VW s) (hf : szW s ≤ 10000000000000) : Calls Try.prog 21 #[.pointer (some ⟨p, 0, none⟩)] w (BytR w s) := by
  obtain ⟨G, H, h1, h2, h3, h4, h5, h6⟩ := h.ex
  exact Bytes_any h1 hv hf
theorem Pr3.done (h : Pr3 b w p q s t) (hv : VW t) : Calls Try.prog 22 #[.pointer (some ⟨q, 0, none⟩)] w (DonR w t) := by
  obtain ⟨G, H, h1, h2, h3, h4, h5, h6⟩ := h.ex
  exact refDone_any h2 hv
end
/-- an error's number is one of the document's -/
def okC : TWs → Prop
  | .bad c => c ≤ 17
  | .ok _ _ => True
theorem okC.done {s : TWs} (h : okC s) : doneC s ≤ 17 := by
  cases s with
  | bad c => exact h
  | ok cur st =>
    cases st with
    | nil => exact Nat.zero_le _
    | cons y st => exact Nat.le_refl 17
theorem okC.put {s : TWs} (h : okC s) (m : BitVec 8) (x : List (BitVec 8)) : okC (putS m x s) := by
  cases s with
  | bad c => exact h
  | ok cur st =>
    simp only [putS]
    split
    · split
      · trivial
      · show 4 ≤ 17; decide
    · show 1 ≤ 17; decide
theorem okC.open_ {s : TWs} (h : okC s) (m : BitVec 8) : okC (openS m s) := by
  cases s with
  | bad c => exact h
  | ok cur st =>
    simp only [openS]
    split
    · split
      · trivial
      · show 5 ≤ 17; decide
    · show 1 ≤ 17; decide
theorem okC.close {s : TWs} (h : okC s) : okC (closeS s) := by
  cases s with
  | bad c => exact h
  | ok cur st =>
    cases st with
    | nil => show 17 ≤ 17; decide
    | cons y st =>
      obtain ⟨m, out⟩ := y
      simp only [closeS]
      split
      · trivial
      · show 4 ≤ 17; decide
end Go.Proofs.Ytadndhenfoppiaa
