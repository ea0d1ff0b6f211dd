/-
  prim: withPair, Time.
-/
import Derived.Test.YtfipgmjaabggjaaDoorVVb
namespace Go.Proofs.YtfipgmjaabggjaaDoor
open Go Go.RowKit
set_option maxRecDepth 4000

theorem d2_one (n : Nat) (h : n < 100) : IntKind.u8.wrap (48 + IntKind.u8.wrap ((n / 10 : Nat) : Int)) = ub (gb (d2 n) 0) ∧ IntKind.u8.wrap (48 + IntKind.u8.wrap ((n % 10 : Nat) : Int)) = ub (gb (d2 n) 1) := by
  have e0 : gb (d2 n) 0 = BitVec.ofNat 8 (48 + n / 10 % 10) := rfl
  have e1 : gb (d2 n) 1 = BitVec.ofNat 8 (48 + n % 10) := rfl
  rw [e0, e1]
  unfold ub
  rw [BitVec.toNat_ofNat, BitVec.toNat_ofNat, IntKind.wrap_u8, IntKind.wrap_u8, IntKind.wrap_u8, IntKind.wrap_u8]
  omega
set_option maxHeartbeats 2000000 in
theorem withPair_any {w0 w : World} {B : Nat} {v : Value} {m : Nat} {l : List (BitVec 8)} (ho : Own w B v m l) (hx0 : Ext w0 w) (hB0 : w0.heap.size ≤ B) (hBw : B ≤ w.heap.size) (hm : m ≤ 1000000) (n : Nat) (hn : n < 100) :
    Calls Tryd.prog 52 #[v, .int .i64 (n : Int)] w fun e w' => ∃ A c, e = .returned (.slice A (m + 2) c) ∧ Own w' B (.slice A (m + 2) c) (m + 2) (l ++ d2 n) ∧ Ext w0 w' ∧ w.heap.size ≤ w'.heap.size := by
  obtain ⟨A, c, rfl⟩ := ho.form
  obtain ⟨h1, h2⟩ := d2_one n hn
  have e1 : (n : Int).tdiv 10 = _ := td_nat n 10
  have e2 : (n : Int).tmod 10 = _ := tm_nat n 10 (by decide)
  have hd : d2 n = [gb (d2 n) 0, gb (d2 n) 1] := rfl
  have e3 : IntKind.u8.wrap ((n / 10 : Nat) : Int) = ((n / 10 : Nat) : Int) := by rw [IntKind.wrap_u8]; omega
  have e4 : IntKind.u8.wrap ((n % 10 : Nat) : Int) = ((n % 10 : Nat) : Int) := by rw [IntKind.wrap_u8]; omega
  have e5 : IntKind.i64.wrap ((n / 10 : Nat) : Int) = ((n / 10 : Nat) : Int) := by rw [IntKind.wrap_i64]; omega
  rw [e3] at h1
  rw [e4] at h2
  rw [hd]
  generalize gb (d2 n) 0 = x at *
  generalize gb (d2 n) 1 = y at *
  generalize n / 10 = q at *
  generalize n % 10 = r at *
  have HO := Kp.mk ho
  have HX := Kp.mk hx0
  clear ho hx0 hd
  go_enter Tryd.func52, Tryd.ntmps52
  go_wp2_with (first | (at_builtin; refine wpList_append_bs rfl (.tmp 5) (.tmp 14) rfl B _ m l rfl (HO.out.ext (by (repeat (first | assumption | exact Ext.refl _ | apply Ext.drew | apply Ext.drewN | apply Ext.alloc | refine Ext.trans ?_ (by assumption))); first | done | fail)) _ 2 2 [x, y] rfl (const_bs w _ [x, y] 2 2 (0, 0) rfl rfl (by decide)) (by omega) (m + 2) rfl (l ++ [x, y]) rfl w0 (HX.out.trans (by (repeat (first | assumption | exact Ext.refl _ | apply Ext.drew | apply Ext.drewN | apply Ext.alloc | refine Ext.trans ?_ (by assumption))); first | done | fail)) hB0 (Nat.le_trans hBw (by simp)) ?_; intro A4 c4 w4 ho4 hx4 hap4) | fail)
  go_ret
  exact ⟨A4, c4, rfl, ho4, hx4, Nat.le_trans (by simp) hap4.grown.size⟩
end Go.Proofs.YtfipgmjaabggjaaDoor
