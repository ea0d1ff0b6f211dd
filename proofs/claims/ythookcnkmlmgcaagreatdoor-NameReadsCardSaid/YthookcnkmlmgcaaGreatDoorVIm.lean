/-
  The laws' light; a name within none, none within a name; the laws' head.
-/
import Derived.Test.YthookcnkmlmgcaaGreatDoorM16
import Derived.Test.YthookcnkmlmgcaaGreatDoorM8
namespace Go.Proofs.YthookcnkmlmgcaaGreatDoor
open Go Go.RowKit
set_option maxRecDepth 4000

/-- a name that is gone through -/
structure LightP (x : List (List Atr)) : Prop where
  hi : x.length ≤ 20
  all : ∀ (i : Nat) (s : List Atr), x[i]? = some s → s.length ≤ 10 ∧ ∀ (j : Nat) (a : Atr), s[j]? = some a → a.tx.length ≤ 200 ∧ a.ty.length ≤ 30
/-- what light tells -/
def LiR (x : List (List Atr)) (w : World) (e : Ending) (w' : World) : Prop := ∃ b : Bool, e = .returned (.bool b) ∧ (b = true → LightP x) ∧ w' = w
theorem szSt : (Tryz.prog.info? 39).map (·.size) = some 1 := by kernel_rfl
theorem EqName_nil (A B : Option Addr) (c d : Nat) (f : Value) (w : World) : Calls Tryz.prog 34 #[.slice A 0 c, .slice B 0 d, f] w fun e w' => e = .returned (.bool true) ∧ w' = w := by
  go_enter Tryz.func34, Tryz.ntmps34
  go_wp2_with fail
  go_loopw [17] (fun iv wr => iv = .int .i64 0 ∧ wr = w) (fun _ _ => 0)
  case atStart => exact ⟨rfl, rfl⟩
  case round =>
    obtain ⟨rfl, rfl⟩ := hrel
    go_wp2_with fail
    go_ret
    exact ⟨rfl, rfl⟩
theorem Alike_nil (A B : Option Addr) (c d : Nat) (w : World) : Calls Tryz.prog 21 #[.slice A 0 c, .slice B 0 d] w fun e w' => e = .returned (.bool true) ∧ w' = w := by
  have HC := Kp.mk (EqName_nil A B c d)
  go_enter Tryz.func21, Tryz.ntmps21
  go_wp2_with (first | (go_at_call 34; refine (HC.out _ _).mono ?_; rintro e w2 ⟨rfl, rfl⟩) | fail)
  go_ret
  exact ⟨rfl, rfl⟩
/-- within none -/
theorem Within_none (A : Option Addr) (n c : Nat) (w : World) : Calls Tryz.prog 9 #[.slice A n c, .slice none 0 0] w fun e w' => e = .returned (.bool true) ∧ w' = w := by
  have hup := fun W => run_upto (P := Tryz.prog) A n c 25 39 Tryz.underlying25 szSt 0 (0 : Int) rfl (Nat.zero_le _) W
  have HC := Kp.mk (Alike_nil A none c 0)
  have b1 : (0 : Int) ≤ (n : Int) := by omega
  go_enter Tryz.func9, Tryz.ntmps9
  go_wp2_with (first | (go_at_call 21; refine (HC.out _).mono ?_; rintro e w2 ⟨rfl, rfl⟩) | fail)
  go_ret
  exact ⟨rfl, rfl⟩
theorem none_Within (A : Option Addr) (c : Nat) (w : World) : Calls Tryz.prog 9 #[.slice none 0 0, .slice A 1 c] w fun e w' => e = .returned (.bool false) ∧ w' = w := by
  go_enter Tryz.func9, Tryz.ntmps9
  go_wp2_with fail
  go_ret
  exact ⟨rfl, rfl⟩
theorem up_plain : plainL [32, 32, 65, 98, 32, 32, 67, 32] = [97, 98, 32, 99] := by decide
set_option maxHeartbeats 4000000 in
theorem up9 (w : World) : Calls Tryz.prog 4 #[] w fun e w' => e = .returned (.bool true) ∧ Ext w w' := by
  have HP := Kp.mk (Plain_any (t := [32, 32, 65, 98, 32, 32, 67, 32]) (w := w.alloc (.cells (bv [32, 32, 65, 98, 32, 32, 67, 32]) 5 (8, 9))) (A := some ⟨w.heap.size, 0, none⟩) (n := 8) (c := 8) (const_bs w _ _ 8 8 (8, 9) rfl rfl (by decide)) (by decide))
  have X0 := Kp.mk ((by (repeat (first | assumption | exact Ext.refl _ | apply Ext.drew | apply Ext.drewN | apply Ext.alloc | refine Ext.trans ?_ (by assumption))); first | done | fail) : Ext w (w.alloc (.cells (bv [32, 32, 65, 98, 32, 32, 67, 32]) 5 (8, 9))))
  rw [up_plain] at HP
  have HW := Kp.mk Within_none
  have HN := Kp.mk none_Within
  have kc := run_const
  go_enter Tryz.func4, Tryz.ntmps4
  go_wp2_with fail
  refine HP.out.mono ?_
  rintro e w1 ⟨A1, c1, rfl, hs1, ho1, x1⟩
  have X1 := Kp.mk (X0.out.trans x1)
  have hs1' : Bs w1 A1 4 c1 [97, 98, 32, 99] := hs1
  have S1 := fun (w' : World) (hx : Ext w1 w') => hs1'.str hx
  rw [show strOf [97, 98, 32, 99] = ⟨#[97, 98, 32, 99]⟩ from rfl] at S1
  clear hs1 hs1' ho1 x1 HP X0
  go_wp2_with fail
  refine (HW.out _ _ _ _).mono ?_
  rintro e w2 ⟨rfl, hw⟩
  subst hw
  go_wp2_with fail
  refine (HN.out _ _ _).mono ?_
  rintro e w3 ⟨rfl, hw⟩
  subst hw
  go_wp2_with fail
  go_ret
  exact ⟨rfl, X1.out.trans (by (repeat (first | assumption | exact Ext.refl _ | apply Ext.drew | apply Ext.drewN | apply Ext.alloc | refine Ext.trans ?_ (by assumption))); first | done | fail)⟩
end Go.Proofs.YthookcnkmlmgcaaGreatDoor
