/-
  PrimTimes, one way.
-/
import Derived.Test.YtfipgmjaabggjaaVYd
import Derived.Test.YtfipgmjaabggjaaVVj
namespace Go.Proofs.Ytfipgmjaabggjaa
open Go Go.RowKit
set_option maxRecDepth 4000

set_option maxHeartbeats 8000000 in
theorem times_no (y mo d h mi s : Int) (x : BitVec 8) {b : List (BitVec 8)} {B : Option Addr} {n c : Nat} {w : World} (hb : Bs w B n c b) (hA : ¬ MayI y mo d h mi s) : Calls Try.prog 6 #[.agg (tci y mo d h mi s), .int .u8 (ub x), .slice B n c] w fun e w' => e = .returned (.bool true) ∧ Below w.heap.size w w' := by
  have e11 := code_neq 1 1
  have ee := code_eq 2 2
  have hTA := fun W => Time_no y mo d h mi s W hA
  have hMA := fun W => May_any y mo d h mi s W false (by simp [hA])
  have hz := eq_time 0 0 0 0 0 0
  have hq := fun (t : Tmt) => eq_time t.y t.mo t.d t.h t.mi t.s
  have HX := Kp.mk (Blk.new w tmt (tci y mo d h mi s))
  have HB := Kp.mk hb
  have HQ := Kp.mk hq
  clear hb hq
  unfold tci at hTA hMA hz HX
  unfold tci
  have HTA := Kp.mk hTA
  have HMA := Kp.mk hMA
  clear hTA hMA
  go_enter Try.func6, Try.ntmps6
  go_wp2_with fail
  obtain ⟨W0, hW0⟩ : ∃ W0, W0 = w.alloc (.cells #[.int .i64 y, .int .i64 mo, .int .i64 d, .int .i64 h, .int .i64 mi, .int .i64 s] tmt) := ⟨_, rfl⟩
  have hx0 : Ext w W0 := by rw [hW0]; exact (by (repeat (first | assumption | exact Ext.refl _ | apply Ext.drew | apply Ext.drewN | apply Ext.alloc | refine Ext.trans ?_ (by assumption))); first | done | fail)
  rw [← hW0] at HX ⊢
  have X0 := Kp.mk hx0
  clear hW0 hx0
  refine (up8 _).mono ?_
  rintro e w1 ⟨rfl, x1⟩
  have Y := Kp.mk x1
  clear x1
  obtain ⟨c0, k1, k2, k3, k4, k5⟩ := box6 HX.out Y.out
  go_wp2_with fail
  refine (HTA.out _).mono ?_
  rintro e w2 ⟨rfl, x2⟩
  have Y := Kp.mk (Y.out.trans x2)
  clear x2 c0 k1 k2 k3 k4 k5
  obtain ⟨c0, k1, k2, k3, k4, k5⟩ := box6 HX.out Y.out
  go_wp2_with fail
  refine (HMA.out _).mono ?_
  rintro e w3 ⟨rfl, x3⟩
  have Y := Kp.mk (Y.out.trans x3)
  clear x3 c0 k1 k2 k3 k4 k5
  have X := Kp.mk (X0.out.trans Y.out)
  go_wp2_with fail
  refine (ReadTime_any x (HB.out.ext X.out)).mono ?_
  rintro e w5 (⟨hno, rfl, x5⟩ | ⟨t, ht, hm, hbb, rfl, x5⟩)
  · unfold tci
    have X5 := Kp.mk (X.out.trans x5)
    clear x5
    go_wp2_with fail
    obtain ⟨W9, hW9⟩ : ∃ W9, W9 = w5.alloc (.cells #[.int .i64 0, .int .i64 0, .int .i64 0, .int .i64 0, .int .i64 0, .int .i64 0] tmt) := ⟨_, rfl⟩
    have hx9 : Ext w5 W9 := by rw [hW9]; exact (by (repeat (first | assumption | exact Ext.refl _ | apply Ext.drew | apply Ext.drewN | apply Ext.alloc | refine Ext.trans ?_ (by assumption))); first | done | fail)
    have H9 := Kp.mk (show Blk W9 w5.heap.size tmt #[.int .i64 0, .int .i64 0, .int .i64 0, .int .i64 0, .int .i64 0, .int .i64 0] from hW9 ▸ Blk.new w5 tmt _)
    rw [← hW9]
    have X9 := Kp.mk (X5.out.trans hx9)
    clear hW9 hx9
    refine (refReadTime_any x (HB.out.ext X9.out)).mono ?_
    rintro e w10 (⟨_, rfl, x10⟩ | ⟨t2, h2, m2, b2, _⟩)
    · have X10 := Kp.mk (X9.out.trans x10)
      have c0 := fun (W : World) (hx : Ext w10 W) => (box6 H9.out (x10.trans hx)).1
      have c1 := fun (W : World) (hx : Ext w10 W) => (box6 H9.out (x10.trans hx)).2.1
      have c2 := fun (W : World) (hx : Ext w10 W) => (box6 H9.out (x10.trans hx)).2.2.1
      have c3 := fun (W : World) (hx : Ext w10 W) => (box6 H9.out (x10.trans hx)).2.2.2.1
      have c4 := fun (W : World) (hx : Ext w10 W) => (box6 H9.out (x10.trans hx)).2.2.2.2.1
      have c5 := fun (W : World) (hx : Ext w10 W) => (box6 H9.out (x10.trans hx)).2.2.2.2.2
      unfold tci
      clear x10
      go_wp2_with fail
      go_ret
      exact ⟨rfl, (X10.out.trans (by (repeat (first | assumption | exact Ext.refl _ | apply Ext.drew | apply Ext.drewN | apply Ext.alloc | refine Ext.trans ?_ (by assumption))); first | done | fail)).b⟩
    · exact absurd ⟨t2, h2, m2, b2⟩ hno
  · unfold tcs tci
    have X5 := Kp.mk (X.out.trans x5)
    clear x5
    go_wp2_with fail
    obtain ⟨W9, hW9⟩ : ∃ W9, W9 = w5.alloc (.cells #[.int .i64 (t.y : Int), .int .i64 (t.mo : Int), .int .i64 (t.d : Int), .int .i64 (t.h : Int), .int .i64 (t.mi : Int), .int .i64 (t.s : Int)] tmt) := ⟨_, rfl⟩
    have hx9 : Ext w5 W9 := by rw [hW9]; exact (by (repeat (first | assumption | exact Ext.refl _ | apply Ext.drew | apply Ext.drewN | apply Ext.alloc | refine Ext.trans ?_ (by assumption))); first | done | fail)
    have H9 := Kp.mk (show Blk W9 w5.heap.size tmt #[.int .i64 (t.y : Int), .int .i64 (t.mo : Int), .int .i64 (t.d : Int), .int .i64 (t.h : Int), .int .i64 (t.mi : Int), .int .i64 (t.s : Int)] from hW9 ▸ Blk.new w5 tmt _)
    rw [← hW9]
    have X9 := Kp.mk (X5.out.trans hx9)
    clear hW9 hx9
    refine (refReadTime_any x (HB.out.ext X9.out)).mono ?_
    rintro e w10 (⟨hno2, _⟩ | ⟨t2, h2, m2, b2, rfl, x10⟩)
    · exact absurd ⟨t, ht, hm, hbb⟩ hno2
    · have ht2 : t2 = t := tmB_inj h2 ht (m2.trans hm.symm) (b2.trans hbb.symm)
      subst ht2
      have X10 := Kp.mk (X9.out.trans x10)
      have c0 := fun (W : World) (hx : Ext w10 W) => (box6 H9.out (x10.trans hx)).1
      have c1 := fun (W : World) (hx : Ext w10 W) => (box6 H9.out (x10.trans hx)).2.1
      have c2 := fun (W : World) (hx : Ext w10 W) => (box6 H9.out (x10.trans hx)).2.2.1
      have c3 := fun (W : World) (hx : Ext w10 W) => (box6 H9.out (x10.trans hx)).2.2.2.1
      have c4 := fun (W : World) (hx : Ext w10 W) => (box6 H9.out (x10.trans hx)).2.2.2.2.1
      have c5 := fun (W : World) (hx : Ext w10 W) => (box6 H9.out (x10.trans hx)).2.2.2.2.2
      have hq := HQ.out t2
      unfold tcs tci at *
      clear x10 ht hm hbb h2 m2 b2
      generalize (t2.y : Int) = z1 at *
      generalize (t2.mo : Int) = z2 at *
      generalize (t2.d : Int) = z3 at *
      generalize (t2.h : Int) = z4 at *
      generalize (t2.mi : Int) = z5 at *
      generalize (t2.s : Int) = z6 at *
      go_wp2_with fail
      go_ret
      exact ⟨rfl, (X10.out.trans (by (repeat (first | assumption | exact Ext.refl _ | apply Ext.drew | apply Ext.drewN | apply Ext.alloc | refine Ext.trans ?_ (by assumption))); first | done | fail)).b⟩
end Go.Proofs.Ytfipgmjaabggjaa
