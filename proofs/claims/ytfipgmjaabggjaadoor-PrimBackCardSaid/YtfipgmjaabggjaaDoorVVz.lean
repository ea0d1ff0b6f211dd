/-
  prim: ReadTime.
-/
import Derived.Test.YtfipgmjaabggjaaDoorVVy
namespace Go.Proofs.YtfipgmjaabggjaaDoor
open Go Go.RowKit
set_option maxRecDepth 4000

/-- what ReadTime answers -/
def RTime (w : World) (x : BitVec 8) (b : List (BitVec 8)) (e : Ending) (w' : World) : Prop :=
  ((¬ ∃ t, MayT t ∧ tmM t = x ∧ tmB t = b) ∧ e = .returned (.tuple #[.agg (tci 0 0 0 0 0 0), err 2]) ∧ Ext w w') ∨
  (∃ t, MayT t ∧ tmM t = x ∧ tmB t = b ∧ e = .returned (.tuple #[.agg (tcs t), .nilIface]) ∧ Ext w w')
set_option maxHeartbeats 4000000 in
theorem readErr (x : BitVec 8) {A : Option Addr} {n cc : Nat} {w : World}
    (hY : ∀ W, Ext w W → Calls Tryd.prog 53 #[.int .u8 (ub x), .slice A n cc] W fun e w' => ∃ (R : Option Addr) (k c : Nat) (y : Int), k ≠ 11 ∧ e = .returned (.tuple #[.int .i64 y, .slice R k c]) ∧ Ext W w') :
    Calls Tryd.prog 26 #[.int .u8 (ub x), .slice A n cc] w fun e w' => e = .returned (.tuple #[.agg (tci 0 0 0 0 0 0), err 2]) ∧ Ext w w' := by
  have HY := Kp.mk hY
  have HR := Kp.mk (Blk.new w tmt (tci 0 0 0 0 0 0))
  clear hY
  unfold tci at *
  go_enter Tryd.func26, Tryd.ntmps26
  go_wp2_with fail
  refine (HY.out _ (by (repeat (first | assumption | exact Ext.refl _ | apply Ext.drew | apply Ext.drewN | apply Ext.alloc | refine Ext.trans ?_ (by assumption))); first | done | fail)).mono ?_
  rintro e w3 ⟨R, k, c, y, hk, rfl, x3⟩
  have X7 := Kp.mk (show Ext w w3 from Ext.trans (by (repeat (first | assumption | exact Ext.refl _ | apply Ext.drew | apply Ext.drewN | apply Ext.alloc | refine Ext.trans ?_ (by assumption))); first | done | fail) x3)
  have HR7 := Kp.mk (HR.out.ext x3)
  have e1 : ((k : Int) == 11) = false := beq_eq_false_iff_ne.2 (by omega)
  have e2 : ((k : Int) != 11) = true := bne_iff_ne.2 (by omega)
  have e3 : ¬ k = 11 := hk
  clear x3 hk
  go_wp2_with (first | ((with_reducible refine at_store 4 21 ?_); refine wpList_store_row rfl tmt _ _ rfl w.heap.size #[.int .i64 0, .int .i64 0, .int .i64 0, .int .i64 0, .int .i64 0, .int .i64 0] rfl rfl tmt _ HR7.out.h szTm rfl (by simp [Value.oneCell']) ?_) | fail)
  have hx := X7.out.setRow (Nat.le_refl _) #[.int .i64 0, .int .i64 0, .int .i64 0, .int .i64 0, .int .i64 0, .int .i64 0]
  refine bodyPost_ret (v := .tuple #[.agg #[.int .i64 0, .int .i64 0, .int .i64 0, .int .i64 0, .int .i64 0, .int .i64 0], err 2]) ?_ rfl ?_
  · exact results_cell_row2 rfl _ _ w.heap.size tmt _ _ _ rfl rfl (HR7.out.row _) Tryd.underlying45 rfl szTm
  exact ⟨rfl, hx⟩
theorem ReadTime_any (x : BitVec 8) {b : List (BitVec 8)} {A : Option Addr} {n c : Nat} {w : World} (h : Bs w A n c b) :
    Calls Tryd.prog 26 #[.int .u8 (ub x), .slice A n c] w fun e w' => RTime w x b e w' := by
  have hl := h.len
  by_cases hA : x = 23 ∧ n = 13
  · obtain ⟨rfl, rfl⟩ := hA
    refine (readCore (yA b) _ _ _ _ _ 23 (r := b.drop 2) h (fun W hx => (yearOf_A (h.ext hx) (by decide)).mono fun e w' hh => ?_) rfl rfl rfl rfl rfl).mono fun e w' hh => ?_
    · obtain ⟨R, he, hb, hx⟩ := hh
      exact ⟨R, _, he, hb, hx⟩
    · rcases hh with ⟨hno, he, hx⟩ | ⟨t, ht, hm, hb, _, he, hx⟩
      · refine .inl ⟨?_, he, hx⟩
        rintro ⟨t, ht, hm, rfl⟩
        refine hno ⟨t, ht, hm, rfl, ?_⟩
        have hu := (uT_A ht hm).1
        conv => rhs; rw [← hu]
        rfl
      · exact .inr ⟨t, ht, hm, hb, he, hx⟩
  by_cases hB : x = 24 ∧ n = 15
  · obtain ⟨rfl, rfl⟩ := hB
    refine (readCore (yB b) _ _ _ _ _ 24 (r := b.drop 4) h (fun W hx => (yearOf_B (h.ext hx) (by decide)).mono fun e w' hh => ?_) rfl rfl rfl rfl rfl).mono fun e w' hh => ?_
    · obtain ⟨R, he, hb, hx⟩ := hh
      exact ⟨R, _, he, hb, hx⟩
    · rcases hh with ⟨hno, he, hx⟩ | ⟨t, ht, hm, hb, _, he, hx⟩
      · refine .inl ⟨?_, he, hx⟩
        rintro ⟨t, ht, hm, rfl⟩
        refine hno ⟨t, ht, hm, rfl, ?_⟩
        have hu := (uT_B ht hm).1
        conv => rhs; rw [← hu]
        rfl
      · exact .inr ⟨t, ht, hm, hb, he, hx⟩
  have hno : ¬ ∃ t, MayT t ∧ tmM t = x ∧ tmB t = b := by
    rintro ⟨t, ht, hm, rfl⟩
    rcases tmM_two t with h1 | h1
    · exact hA ⟨hm.symm.trans h1, by rw [← hl, (uT_A ht h1).2]⟩
    · exact hB ⟨hm.symm.trans h1, by rw [← hl, (uT_B ht h1).2]⟩
  refine (readErr x (fun W hx => ?_)).mono fun e w' hh => .inl ⟨hno, hh.1, hh.2⟩
  by_cases k1 : x = 23 ∧ 2 ≤ n
  · obtain ⟨rfl, k2⟩ := k1
    refine (yearOf_A (h.ext hx) k2).mono fun e w' hh => ?_
    obtain ⟨R, he, _, hx⟩ := hh
    exact ⟨R, n - 2, c - 2, _, fun e2 => hA ⟨rfl, by omega⟩, he, hx⟩
  · by_cases k3 : x = 24 ∧ 4 ≤ n
    · obtain ⟨rfl, k2⟩ := k3
      refine (yearOf_B (h.ext hx) k2).mono fun e w' hh => ?_
      obtain ⟨R, he, _, hx⟩ := hh
      exact ⟨R, n - 4, c - 4, _, fun e2 => hB ⟨rfl, by omega⟩, he, hx⟩
    · refine (yearOf_C x k1 k3 W).mono fun e w' hh => ?_
      exact ⟨none, 0, 0, 0, by decide, hh.1, hh.2⟩
end Go.Proofs.YtfipgmjaabggjaaDoor
