/-
  The walks of slices.Grow, slices.Concat of two slices, bytes.Clone, Fill.
-/
import Derived.Test.YthookcnkmlmgcaaDoorM13
import Derived.Lib.AppendZerosOnto
import Derived.Lib.SliceRun
namespace Go.Proofs.YthookcnkmlmgcaaDoor
open Go Go.RowKit
set_option maxRecDepth 4000

/-- of two parts: how many bytes the first j hold, and which -/
def s2 (n m : Nat) (j : Nat) : Nat := if j = 0 then 0 else if j = 1 then n else n + m
def l2 (x y : List (BitVec 8)) (j : Nat) : List (BitVec 8) := if j = 0 then [] else if j = 1 then x else x ++ y
set_option maxHeartbeats 1000000 in
theorem Clone_any {b : List (BitVec 8)} {A : Option Addr} {n c : Nat} {w : World} (h : Bs w A n c b) (hn : n ≤ 140737488351232) :
    Calls Tryd.prog 33 #[.slice A n c] w (Fresh w n b) := by
  have hnil := fun (w : World) (a : Option Addr) (n c n' c' : Nat) => Lib.run_eql_slice_nil (P := Tryd.prog) w 29 5 a n c n' c' Tryd.underlying29
  have ho := Own.new w w.heap.size 0 [] rfl (Nat.le_refl _) (Nat.zero_le _)
  have hx : Ext w (w.alloc (.cells (bv []) 5)) := (by (repeat (first | assumption | exact Ext.refl _ | apply Ext.drew | apply Ext.drewN | apply Ext.alloc | refine Ext.trans ?_ (by assumption))); first | done | fail)
  have hb := h.ext hx
  have HN := Kp.mk h
  clear h
  cases A with
  | none =>
    obtain ⟨rfl, rfl⟩ := HN.out.s.2.2.1 rfl
    obtain rfl : b = [] := List.eq_nil_of_length_eq_zero HN.out.len
    go_enter Tryd.func33, Tryd.ntmps33
    go_wp2
    go_ret
    exact ⟨_, _, rfl, Bs.nil _, Own.nil _ _, Ext.refl _⟩
  | some a =>
    go_enter Tryd.func33, Tryd.ntmps33
    go_wp2_with (first | (at_builtin; refine wpList_append_bs rfl (.tmp 5) (.tmp 6) rfl w.heap.size _ 0 [] rfl ho (some a) n c b rfl hb (by omega) n (by omega) b rfl w hx (Nat.le_refl _) hx.size ?_; intro A5 c5 w5 ho5 hx5 _) | fail)
    go_ret
    exact ⟨_, _, rfl, ho5.bs, ho5, hx5⟩
end Go.Proofs.YthookcnkmlmgcaaDoor
