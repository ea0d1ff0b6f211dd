/-
  PrimCounts, one way.
-/
import Derived.Test.YtfipgmjaabggjaaVVt
namespace Go.Proofs.Ytfipgmjaabggjaa
open Go Go.RowKit
set_option maxRecDepth 4000

set_option maxHeartbeats 8000000 in
theorem counts_1 (y mo d h mi s c : Int) (w : World) (hA : ¬ MayI y mo d h mi s) (hc : c < 0 ∨ 315537897600 ≤ c) : Calls Try.prog 7 #[.agg (tci y mo d h mi s), .int .i64 c] w fun e w' => e = .returned (.bool true) ∧ Below w.heap.size w w' := by
  have e11 := code_neq 1 1
  have ee := code_eq 1 1
  have hCA := fun W => Count_no y mo d h mi s W hA
  have hMA := fun W => May_any y mo d h mi s W false (by simp [hA])
  have hLast := fun W => refCount_any lastT last_may W
  rw [last_cnt] at hLast
  have hAt := fun W => At_no c hc W
  have hz := eq_time 0 0 0 0 0 0
  have HX := Kp.mk (Blk.new w tmt (tci y mo d h mi s))
  unfold tci at *
  have HCA := Kp.mk hCA
  have HMA := Kp.mk hMA
  have HL := Kp.mk hLast
  have HAt := Kp.mk hAt
  clear hCA hMA hLast hAt
  go_enter Try.func7, Try.ntmps7
  go_wp2_with fail
  obtain ⟨W0, hW0⟩ : ∃ W0, W0 = w.alloc (.cells #[.int .i64 y, .int .i64 mo, .int .i64 d, .int .i64 h, .int .i64 mi, .int .i64 s] tmt) := ⟨_, rfl⟩
  have hx0 : Ext w W0 := by rw [hW0]; exact (by (repeat (first | assumption | exact Ext.refl _ | apply Ext.drew | apply Ext.drewN | apply Ext.alloc | refine Ext.trans ?_ (by assumption))); first | done | fail)
  rw [← hW0] at HX ⊢
  have X0 := Kp.mk hx0
  clear hW0 hx0
  refine (up8 _).mono ?_
  rintro e w1 ⟨rfl, x1⟩
  have Y := Kp.mk x1
  clear x1
  obtain ⟨c0, k1, k2, k3, k4, k5⟩ := box6 HX.out Y.out
  go_wp2_with fail
  refine (HCA.out _).mono ?_
  rintro e w2 ⟨rfl, x2⟩
  have Y := Kp.mk (Y.out.trans x2)
  clear x2 c0 k1 k2 k3 k4 k5
  obtain ⟨c0, k1, k2, k3, k4, k5⟩ := box6 HX.out Y.out
  go_wp2_with fail
  refine (HMA.out _).mono ?_
  rintro e w3 ⟨rfl, x3⟩
  have Y := Kp.mk (Y.out.trans x3)
  clear x3 c0 k1 k2 k3 k4 k5
  obtain ⟨c0, k1, k2, k3, k4, k5⟩ := box6 HX.out Y.out
  clear c0 k1 k2 k3 k4 k5
  go_wp2_with fail
  refine (HAt.out _).mono ?_
  rintro e w5 ⟨rfl, x5⟩
  have Y := Kp.mk (Y.out.trans x5)
  clear x5
  go_wp2_with fail
  obtain ⟨W9, hW9⟩ : ∃ W9, W9 = w5.alloc (.cells #[.int .i64 0, .int .i64 0, .int .i64 0, .int .i64 0, .int .i64 0, .int .i64 0] tmt) := ⟨_, rfl⟩
  have hx9 : Ext w5 W9 := by rw [hW9]; exact (by (repeat (first | assumption | exact Ext.refl _ | apply Ext.drew | apply Ext.drewN | apply Ext.alloc | refine Ext.trans ?_ (by assumption))); first | done | fail)
  have H9 := Kp.mk (show Blk W9 w5.heap.size tmt #[.int .i64 0, .int .i64 0, .int .i64 0, .int .i64 0, .int .i64 0, .int .i64 0] from hW9 ▸ Blk.new w5 tmt _)
  rw [← hW9]
  have Z := Kp.mk (Y.out.trans hx9)
  clear hW9 hx9
  refine (HL.out _).mono ?_
  rintro e w6 ⟨rfl, x6⟩
  have Q := Kp.mk x6
  clear x6
  obtain ⟨c0, k1, k2, k3, k4, k5⟩ := box6 H9.out Q.out
  rcases hc with hc | hc
  · have b1 : decide (c < 0) = true := decide_eq_true hc
    clear hc
    go_wp2_with fail
    go_ret
    exact ⟨rfl, (X0.out.trans (Z.out.trans Q.out)).b⟩
  · have b1 : decide (c < 0) = false := decide_eq_false (by omega)
    have b2 : decide (315537897599 < c) = true := decide_eq_true (by omega)
    clear hc
    go_wp2_with fail
    go_ret
    exact ⟨rfl, (X0.out.trans (Z.out.trans Q.out)).b⟩
end Go.Proofs.Ytfipgmjaabggjaa
