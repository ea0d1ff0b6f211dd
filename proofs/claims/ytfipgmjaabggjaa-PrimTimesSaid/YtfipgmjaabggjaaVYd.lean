/-
  The reference's ReadTime, whole.
-/
import Derived.Test.YtfipgmjaabggjaaVYc
namespace Go.Proofs.Ytfipgmjaabggjaa
open Go Go.RowKit
set_option maxRecDepth 4000

/-- what the reference's ReadTime answers -/
def RTimeR (w : World) (x : BitVec 8) (b : List (BitVec 8)) (e : Ending) (w' : World) : Prop :=
  ((¬ ∃ t, MayT t ∧ tmM t = x ∧ tmB t = b) ∧ e = .returned (.tuple #[.agg (tci 0 0 0 0 0 0), .bool false]) ∧ Ext w w') ∨
  (∃ t, MayT t ∧ tmM t = x ∧ tmB t = b ∧ e = .returned (.tuple #[.agg (tcs t), .bool true]) ∧ Ext w w')
theorem may_two {t : Tmt} (ht : MayT t) : t.mo < 100 ∧ t.d < 100 ∧ t.h < 100 ∧ t.mi < 100 ∧ t.s < 100 := by
  have a1 := ht.m2
  have a2 := ht.d2
  have a3 := dim_hi t.y t.mo
  have a4 := ht.h2
  have a5 := ht.i2
  have a6 := ht.s2
  omega
set_option maxHeartbeats 1000000 in
theorem dg_A {t : Tmt} (ht : MayT t) (hm : tmM t = 23) : tci (if 50 ≤ dgI (gb (tmB t) 0) (gb (tmB t) 1) then dgI (gb (tmB t) 0) (gb (tmB t) 1) + 1900 else dgI (gb (tmB t) 0) (gb (tmB t) 1) + 2000)
    (dgI (gb (tmB t) 2) (gb (tmB t) 3)) (dgI (gb (tmB t) 4) (gb (tmB t) 5)) (dgI (gb (tmB t) 6) (gb (tmB t) 7)) (dgI (gb (tmB t) 8) (gb (tmB t) 9)) (dgI (gb (tmB t) 10) (gb (tmB t) 11)) = tcs t := by
  have hy : 1950 ≤ t.y ∧ t.y ≤ 2049 := by
    unfold tmM at hm
    by_cases k : 1950 ≤ t.y ∧ t.y ≤ 2049
    · exact k
    · rw [if_neg k] at hm; exact absurd hm (by decide)
  obtain ⟨m1, m2, m3, m4, m5⟩ := may_two ht
  have e : tmB t = d2 (t.y % 100) ++ (d2 t.mo ++ (d2 t.d ++ (d2 t.h ++ (d2 t.mi ++ (d2 t.s ++ [90]))))) := by unfold tmB tmR; rw [if_pos hy]
  rw [e]
  have f0 : dgI (gb (d2 (t.y % 100) ++ (d2 t.mo ++ (d2 t.d ++ (d2 t.h ++ (d2 t.mi ++ (d2 t.s ++ [90])))))) 0) (gb (d2 (t.y % 100) ++ (d2 t.mo ++ (d2 t.d ++ (d2 t.h ++ (d2 t.mi ++ (d2 t.s ++ [90])))))) 1) = ((t.y % 100 : Nat) : Int) := dgI_d2 _ (Nat.mod_lt _ (by decide))
  rw [f0]
  have hyy : (if 50 ≤ ((t.y % 100 : Nat) : Int) then ((t.y % 100 : Nat) : Int) + 1900 else ((t.y % 100 : Nat) : Int) + 2000) = (t.y : Int) := by split <;> omega
  rw [hyy]
  unfold tcs
  congr 1
  · exact dgI_d2 _ m1
  · exact dgI_d2 _ m2
  · exact dgI_d2 _ m3
  · exact dgI_d2 _ m4
  · exact dgI_d2 _ m5
set_option maxHeartbeats 1000000 in
theorem dg_B {t : Tmt} (ht : MayT t) (hm : tmM t = 24) : tci (dgI (gb (tmB t) 2) (gb (tmB t) 3) + 100 * dgI (gb (tmB t) 0) (gb (tmB t) 1))
    (dgI (gb (tmB t) 4) (gb (tmB t) 5)) (dgI (gb (tmB t) 6) (gb (tmB t) 7)) (dgI (gb (tmB t) 8) (gb (tmB t) 9)) (dgI (gb (tmB t) 10) (gb (tmB t) 11)) (dgI (gb (tmB t) 12) (gb (tmB t) 13)) = tcs t := by
  have hy : ¬ (1950 ≤ t.y ∧ t.y ≤ 2049) := by
    intro k
    unfold tmM at hm
    rw [if_pos k] at hm; exact absurd hm (by decide)
  obtain ⟨m1, m2, m3, m4, m5⟩ := may_two ht
  have hy2 := ht.y2
  have e : tmB t = d2 (t.y / 100) ++ (d2 (t.y % 100) ++ (d2 t.mo ++ (d2 t.d ++ (d2 t.h ++ (d2 t.mi ++ (d2 t.s ++ [90])))))) := by unfold tmB tmR; rw [if_neg hy]
  rw [e]
  have f0 : dgI (gb (d2 (t.y / 100) ++ (d2 (t.y % 100) ++ (d2 t.mo ++ (d2 t.d ++ (d2 t.h ++ (d2 t.mi ++ (d2 t.s ++ [90]))))))) 0) (gb (d2 (t.y / 100) ++ (d2 (t.y % 100) ++ (d2 t.mo ++ (d2 t.d ++ (d2 t.h ++ (d2 t.mi ++ (d2 t.s ++ [90]))))))) 1) = ((t.y / 100 : Nat) : Int) := dgI_d2 _ (by omega)
  have f1 : dgI (gb (d2 (t.y / 100) ++ (d2 (t.y % 100) ++ (d2 t.mo ++ (d2 t.d ++ (d2 t.h ++ (d2 t.mi ++ (d2 t.s ++ [90]))))))) 2) (gb (d2 (t.y / 100) ++ (d2 (t.y % 100) ++ (d2 t.mo ++ (d2 t.d ++ (d2 t.h ++ (d2 t.mi ++ (d2 t.s ++ [90]))))))) 3) = ((t.y % 100 : Nat) : Int) := dgI_d2 _ (Nat.mod_lt _ (by decide))
  rw [f0, f1]
  have hyy : ((t.y % 100 : Nat) : Int) + 100 * ((t.y / 100 : Nat) : Int) = (t.y : Int) := by omega
  rw [hyy]
  unfold tcs
  congr 1
  · exact dgI_d2 _ m1
  · exact dgI_d2 _ m2
  · exact dgI_d2 _ m3
  · exact dgI_d2 _ m4
  · exact dgI_d2 _ m5
set_option maxHeartbeats 1000000 in
theorem refReadTime_any (x : BitVec 8) {b : List (BitVec 8)} {A : Option Addr} {n c : Nat} {w : World} (h : Bs w A n c b) :
    Calls Try.prog 28 #[.int .u8 (ub x), .slice A n c] w fun e w' => RTimeR w x b e w' := by
  have hl := h.len
  by_cases h13 : n = 13
  · subst h13
    refine (refCore13 x h _ _ _ _ _ _ rfl rfl rfl rfl rfl rfl).mono fun e w' hh => ?_
    rcases hh with ⟨hno, he, hx⟩ | ⟨t, ht, hm, hb, _, he, hx⟩
    · refine .inl ⟨?_, he, hx⟩
      rintro ⟨t, ht, hm, rfl⟩
      have h23 : tmM t = 23 := by
        rcases tmM_two t with h1 | h1
        · exact h1
        · have := (uT_B ht h1).2; omega
      exact hno ⟨t, ht, hm, rfl, dg_A ht h23⟩
    · exact .inr ⟨t, ht, hm, hb, he, hx⟩
  by_cases h15 : n = 15
  · subst h15
    refine (refCore15 x h _ _ _ _ _ _ rfl rfl rfl rfl rfl rfl).mono fun e w' hh => ?_
    rcases hh with ⟨hno, he, hx⟩ | ⟨t, ht, hm, hb, _, he, hx⟩
    · refine .inl ⟨?_, he, hx⟩
      rintro ⟨t, ht, hm, rfl⟩
      have h24 : tmM t = 24 := by
        rcases tmM_two t with h1 | h1
        · have := (uT_A ht h1).2; omega
        · exact h1
      exact hno ⟨t, ht, hm, rfl, dg_B ht h24⟩
    · exact .inr ⟨t, ht, hm, hb, he, hx⟩
  have hno : ¬ ∃ t, MayT t ∧ tmM t = x ∧ tmB t = b := by
    rintro ⟨t, ht, hm, rfl⟩
    rcases tmM_two t with h1 | h1
    · exact h13 (by rw [← hl, (uT_A ht h1).2])
    · exact h15 (by rw [← hl, (uT_B ht h1).2])
  refine Calls.mono (R := fun e w' => e = .returned (.tuple #[.agg (tci 0 0 0 0 0 0), .bool false]) ∧ Ext w w') ?_ fun _ _ hh => .inl ⟨hno, hh.1, hh.2⟩
  have HR := Kp.mk (Blk.new w tmt (tci 0 0 0 0 0 0))
  have e1 : ((n : Int) == 13) = false := beq_eq_false_iff_ne.2 (by omega)
  have e2 : ((n : Int) != 13) = true := bne_iff_ne.2 (by omega)
  have e3 : ((n : Int) == 15) = false := beq_eq_false_iff_ne.2 (by omega)
  have e4 : ((n : Int) != 15) = true := bne_iff_ne.2 (by omega)
  have e5 : ¬ n = 13 := h13
  have e6 : ¬ n = 15 := h15
  clear hno h hl h13 h15
  unfold tci at *
  go_enter Try.func28, Try.ntmps28
  go_wp2_with fail
  refine bodyPost_ret (v := .tuple #[.agg #[.int .i64 0, .int .i64 0, .int .i64 0, .int .i64 0, .int .i64 0, .int .i64 0], .bool false]) ?_ rfl ⟨rfl, (by (repeat (first | assumption | exact Ext.refl _ | apply Ext.drew | apply Ext.drewN | apply Ext.alloc | refine Ext.trans ?_ (by assumption))); first | done | fail)⟩
  exact results_cell_row2 rfl _ _ w.heap.size tmt _ _ _ rfl rfl HR.out Try.underlying52 rfl szTm
end Go.Proofs.Ytfipgmjaabggjaa
