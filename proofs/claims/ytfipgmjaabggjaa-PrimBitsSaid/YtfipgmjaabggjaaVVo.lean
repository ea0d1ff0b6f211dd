/-
  prim: Bits, ReadBits; the reference's Bits.
-/
import Derived.Test.YtfipgmjaabggjaaVVn
import Derived.Test.YtfipgmjaabggjaaVHa
import Derived.Test.YtfipgmjaabggjaaVCb
namespace Go.Proofs.Ytfipgmjaabggjaa
open Go Go.RowKit
set_option maxRecDepth 4000

theorem box2b {w w' : World} {g t : Nat} {u v : Value} (h : Blk w g t #[u, v]) (hx : Ext w w') : w'.cell? ⟨g, 0, none⟩ = some u ∧ w'.cell? ⟨g, 1, none⟩ = some v := ⟨(h.ext hx).h.cell 0, (h.ext hx).h.cell 1⟩
theorem bitsB_u {l : List (BitVec 8)} {u : Int} (h : bitsB l u = true) : 0 ≤ u ∧ u ≤ 7 := by
  unfold bitsB at h
  split at h
  · rw [decide_eq_true_eq] at h; omega
  · simp only [Bool.and_eq_true, decide_eq_true_eq] at h; exact ⟨h.1, h.2.1⟩
theorem byt_u {u : Int} (h : 0 ≤ u ∧ u ≤ 7) : IntKind.u8.wrap u = ub (BitVec.ofNat 8 u.toNat) := by
  unfold ub
  rw [BitVec.toNat_ofNat, IntKind.wrap_u8]
  omega
set_option maxHeartbeats 4000000 in
theorem Bits_any {l : List (BitVec 8)} {A : Option Addr} {n c : Nat} {w : World} (h : Bs w A n c l) (hn : n ≤ 140737488355000) (u : Int) : Calls Try.prog 21 #[.agg #[.slice A n c, .int .i64 u]] w fun e w' =>
    (bitsB l u = false ∧ e = .returned (.tuple #[.slice none 0 0, err 1]) ∧ Ext w w') ∨ (bitsB l u = true ∧ FreshE w (n + 1) (BitVec.ofNat 8 u.toNat :: l) e w') := by
  have hC := fun W (hx : Ext w W) => areBits_any (h.ext hx) (by omega) u
  have HH := Kp.mk h
  have HC := Kp.mk hC
  have HB := Kp.mk (Blk.new w bit #[.slice A n c, .int .i64 u])
  clear h hC
  cases hb : bitsB l u with
  | false =>
    rw [hb] at HC
    refine Calls.mono (R := fun e w' => e = .returned (.tuple #[.slice none 0 0, err 1]) ∧ Ext w w') ?_ fun _ _ h => .inl ⟨rfl, h⟩
    clear hb
    go_enter Try.func21, Try.ntmps21
    go_wp2_with fail
    refine (HC.out _ (by (repeat (first | assumption | exact Ext.refl _ | apply Ext.drew | apply Ext.drewN | apply Ext.alloc | refine Ext.trans ?_ (by assumption))); first | done | fail)).mono ?_
    rintro e w1 ⟨rfl, x1⟩
    have HX := Kp.mk (show Ext w w1 from Ext.trans (by (repeat (first | assumption | exact Ext.refl _ | apply Ext.drew | apply Ext.drewN | apply Ext.alloc | refine Ext.trans ?_ (by assumption))); first | done | fail) x1)
    clear x1
    go_wp2_with fail
    go_ret2
    exact ⟨rfl, HX.out⟩
  | true =>
    rw [hb] at HC
    refine Calls.mono (R := fun e w' => FreshE w (n + 1) (BitVec.ofNat 8 u.toNat :: l) e w') ?_ fun _ _ h => .inr ⟨rfl, h⟩
    have hu := byt_u (bitsB_u hb)
    generalize BitVec.ofNat 8 u.toNat = x at *
    clear hb
    go_enter Try.func21, Try.ntmps21
    go_wp2_with fail
    refine (HC.out _ (by (repeat (first | assumption | exact Ext.refl _ | apply Ext.drew | apply Ext.drewN | apply Ext.alloc | refine Ext.trans ?_ (by assumption))); first | done | fail)).mono ?_
    rintro e w1 ⟨rfl, x1⟩
    have c0 := fun (W : World) (hx : Ext w1 W) => (box2b HB.out (x1.trans hx)).1
    have c1 := fun (W : World) (hx : Ext w1 W) => (box2b HB.out (x1.trans hx)).2
    have HX := Kp.mk (show Ext w w1 from Ext.trans (by (repeat (first | assumption | exact Ext.refl _ | apply Ext.drew | apply Ext.drewN | apply Ext.alloc | refine Ext.trans ?_ (by assumption))); first | done | fail) x1)
    have HW := Kp.mk HX.out.size
    clear x1
    go_wp2_with (first | (at_builtin; refine wpList_append_bs rfl (.tmp 11) (.tmp 13) rfl w.heap.size _ 1 [x] rfl (Own.new w1 w.heap.size 1 [x] rfl HW.out (by decide)) A n c l rfl ((HH.out.ext HX.out).ext (by (repeat (first | assumption | exact Ext.refl _ | apply Ext.drew | apply Ext.drewN | apply Ext.alloc | refine Ext.trans ?_ (by assumption))); first | done | fail)) (by omega) (n + 1) (by omega) (x :: l) rfl w (HX.out.trans (by (repeat (first | assumption | exact Ext.refl _ | apply Ext.drew | apply Ext.drewN | apply Ext.alloc | refine Ext.trans ?_ (by assumption))); first | done | fail)) (Nat.le_refl _) (Nat.le_trans HW.out (by simp)) ?_; intro A5 c5 w5 ho5 hx5 hap5) | fail)
    go_ret2
    exact ⟨A5, c5, rfl, ho5.bs, ho5, hx5⟩
theorem bits_cons {b : List (BitVec 8)} (h : b ≠ []) : b = gb b 0 :: b.drop 1 := by
  match b, h with
  | x :: r, _ => rfl
theorem szBt : (Try.prog.info? bit).map (·.size) = some 2 := by kernel_rfl
theorem one_two (A : Option Addr) (n c : Nat) (u : Int) : (#[Value.slice A n c, Value.int .i64 u]).all (·.oneCell') = true := by simp [Value.oneCell']
/-- what ReadBits answers -/
def RBits (w : World) (b : List (BitVec 8)) (n : Nat) (e : Ending) (w' : World) : Prop :=
  (¬ (0 < n ∧ bitsB (b.drop 1) (ub (gb b 0)) = true) ∧ e = .returned (.tuple #[.agg #[.slice none 0 0, .int .i64 0], err 2]) ∧ Ext w w') ∨
  ((0 < n ∧ bitsB (b.drop 1) (ub (gb b 0)) = true) ∧ ∃ A c, e = .returned (.tuple #[.agg #[.slice A (n - 1) c, .int .i64 (ub (gb b 0))], .nilIface]) ∧ Own w' w.heap.size (.slice A (n - 1) c) (n - 1) (b.drop 1) ∧ Ext w w')
set_option maxHeartbeats 8000000 in
theorem ReadBits_any {b : List (BitVec 8)} {A : Option Addr} {n c : Nat} {w : World} (h : Bs w A n c b) (hn : n ≤ 140737488351232) : Calls Try.prog 23 #[.slice A n c] w fun e w' => RBits w b n e w' := by
  have hl := h.len
  have HR := Kp.mk (Blk.new w bit #[.slice none 0 0, .int .i64 0])
  by_cases h0 : n = 0
  · subst h0
    refine Calls.mono (R := fun e w' => e = .returned (.tuple #[.agg #[.slice none 0 0, .int .i64 0], err 2]) ∧ Ext w w') ?_ fun _ _ h => .inl ⟨fun h => absurd h.1 (Nat.lt_irrefl 0), h⟩
    clear h hl
    go_enter Try.func23, Try.ntmps23
    go_wp2_with fail
    refine bodyPost_ret (v := .tuple #[.agg #[.slice none 0 0, .int .i64 0], err 2]) ?_ rfl ⟨rfl, (by (repeat (first | assumption | exact Ext.refl _ | apply Ext.drew | apply Ext.drewN | apply Ext.alloc | refine Ext.trans ?_ (by assumption))); first | done | fail)⟩
    exact results_cell_row2 rfl _ _ w.heap.size bit _ _ _ rfl rfl HR.out Try.underlying45 rfl szBt
  · obtain ⟨A', hA', hD⟩ := h.cut 1 (by omega)
    have hcut := run_from (P := Try.prog) A n c 22 5 Try.underlying22 szB 1 1 rfl (by omega)
    rw [hA'] at hcut
    have HH := Kp.mk h
    have HD := Kp.mk hD
    obtain ⟨g, o, rfl, _⟩ := h.s.2.2.2 (by omega)
    have c0 : ∀ w', Ext w w' → w'.cell? ⟨g, o, none⟩ = some (.int .u8 (ub (gb b 0))) := fun w' hx => by
      obtain ⟨g', o', e, hc'⟩ := (HH.out.ext hx).s.2.2.2 (by omega)
      cases e
      have := hc' 0 (by omega)
      rwa [Nat.add_zero] at this
    have z1 : ((n : Int) == 0) = false := beq_eq_false_iff_ne.2 (by omega)
    have z2 : ¬ n = 0 := h0
    have d1 : (0 : Int) < (n : Int) := by omega
    have d2 : 0 < n := by omega
    have w8 : IntKind.i64.wrap (ub (gb b 0)) = ub (gb b 0) := by have := (gb b 0).isLt; unfold ub; rw [IntKind.wrap_i64]; omega
    obtain ⟨z, hz⟩ : ∃ z, z = ub (gb b 0) := ⟨_, rfl⟩
    rw [← hz] at w8
    rw [← hz] at c0
    have HZ := Kp.mk hz
    clear h hD hA' hl h0 hz
    go_enter Try.func23, Try.ntmps23
    go_wp2_with fail
    obtain ⟨W0, hW0⟩ : ∃ W0, W0 = w.alloc (.cells #[.slice none 0 0, .int .i64 0] bit) := ⟨_, rfl⟩
    have hx0 : Ext w W0 := by rw [hW0]; exact (by (repeat (first | assumption | exact Ext.refl _ | apply Ext.drew | apply Ext.drewN | apply Ext.alloc | refine Ext.trans ?_ (by assumption))); first | done | fail)
    rw [← hW0] at HR ⊢
    clear hW0
    have c1 : ∀ w', Ext W0 w' → w'.cell? ⟨g, o, none⟩ = some (.int .u8 z) := fun w' hx => c0 w' (hx0.trans hx)
    have X0 := Kp.mk hx0
    clear c0 hx0
    refine wp_region_held_drew (S := fun w' => Ext W0 w') (by kernel_rfl) (Ext.refl W0).drew (fun hHeld => ?_)
    refine wpAnyH_take (i := 0) (oi := ⟨some 10, _, _, _, _, _⟩) (v := ?_) rfl (by kernel_rfl) (by kernel_rfl) (by kernel_rfl) (fun _ _ _ h => h) (Or.inl ⟨by rfl, ?_⟩) (by assumption) ?_
    rotate_left
    · (intro w hSw; (try dsimp only at hSw); go_simp; try with_reducible rfl)
    try simp only [Act.put, List.setIfInBounds_toArray, List.set_cons_zero, List.set_cons_succ]
    refine wpAnyH_take (i := 1) (oi := ⟨some 11, _, _, _, _, _⟩) (v := ?_) rfl (by kernel_rfl) (by kernel_rfl) (by kernel_rfl) (fun _ _ _ h => h) (Or.inl ⟨by rfl, ?_⟩) (by assumption) ?_
    rotate_left
    · (intro w hSw; (try dsimp only at hSw); go_simp; try with_reducible rfl)
    try simp only [Act.put, List.setIfInBounds_toArray, List.set_cons_zero, List.set_cons_succ]
    refine wpAnyH_take (i := 2) (oi := ⟨some 12, _, _, _, _, _⟩) (v := ?_) rfl (by kernel_rfl) (by kernel_rfl) (by kernel_rfl) (fun _ _ _ h => h) (Or.inl ⟨by rfl, ?_⟩) (by assumption) ?_
    rotate_left
    · (intro w hSw; (try dsimp only at hSw); go_simp; try with_reducible rfl)
    try simp only [Act.put, List.setIfInBounds_toArray, List.set_cons_zero, List.set_cons_succ]
    refine wpAnyH_take (i := 3) (oi := ⟨some 13, _, _, _, _, _⟩) (v := ?_) rfl (by kernel_rfl) (by kernel_rfl) (by kernel_rfl) (fun _ _ _ h => h) (Or.inl ⟨by rfl, ?_⟩) (by assumption) ?_
    rotate_left
    · (intro w hSw; (try dsimp only at hSw); go_simp; try with_reducible rfl)
    try simp only [Act.put, List.setIfInBounds_toArray, List.set_cons_zero, List.set_cons_succ]
    refine wpAnyH_take (i := 4) (oi := ⟨some 14, _, _, _, _, _⟩) (v := ?_) rfl (by kernel_rfl) (by kernel_rfl) (by kernel_rfl) (fun _ _ _ h => h) (Or.inl ⟨by rfl, ?_⟩) (by assumption) ?_
    rotate_left
    · (intro w hSw; (try dsimp only at hSw); go_simp; try with_reducible rfl)
    try simp only [Act.put, List.setIfInBounds_toArray, List.set_cons_zero, List.set_cons_succ]
    refine wpAnyH_take (i := 5) (oi := ⟨some 15, _, _, _, _, _⟩) (v := ?_) rfl (by kernel_rfl) (by kernel_rfl) (by kernel_rfl) (fun _ _ _ h => h) (Or.inl ⟨by rfl, ?_⟩) (by assumption) ?_
    rotate_left
    · (intro w hSw; (try dsimp only at hSw); go_simp; try with_reducible rfl)
    try simp only [Act.put, List.setIfInBounds_toArray, List.set_cons_zero, List.set_cons_succ]
    refine wpAnyH_take (i := 6) (oi := ⟨some 16, _, _, _, _, _⟩) (v := ?_) rfl (by kernel_rfl) (by kernel_rfl) (by kernel_rfl) (fun _ _ _ h => h) (Or.inl ⟨by rfl, ?_⟩) (by assumption) ?_
    rotate_left
    · (intro w hSw; (try dsimp only at hSw); go_simp; try with_reducible rfl)
    try simp only [Act.put, List.setIfInBounds_toArray, List.set_cons_zero, List.set_cons_succ]
    refine next_one 7 (by kernel_rfl) rfl (by rfl) fun K' HK' => ?_
    go_simp
    refine held_go HK' (by (repeat (first | assumption | exact Ext.refl _ | apply Ext.drew | apply Ext.drewN | apply Ext.alloc | refine Ext.trans ?_ (by assumption))); first | done | fail) (fun hHeld => ?_)
    clear HK'
    try simp only [Act.put, List.setIfInBounds_toArray, List.set_cons_zero, List.set_cons_succ]
    refine next_one 8 (by kernel_rfl) rfl (by rfl) fun K' HK' => ?_
    go_simp
    have hb1 : Blk (W0.alloc (.cells #[.slice A' (n - 1) (c - 1), .int .i64 z] bit)).drew W0.heap.size bit #[.slice A' (n - 1) (c - 1), .int .i64 z] := (Blk.new W0 bit _).ext (by (repeat (first | assumption | exact Ext.refl _ | apply Ext.drew | apply Ext.drewN | apply Ext.alloc | refine Ext.trans ?_ (by assumption))); first | done | fail)
    have hx1 : Ext W0 (W0.alloc (.cells #[.slice A' (n - 1) (c - 1), .int .i64 z] bit)).drew := (by (repeat (first | assumption | exact Ext.refl _ | apply Ext.drew | apply Ext.drewN | apply Ext.alloc | refine Ext.trans ?_ (by assumption))); first | done | fail)
    obtain ⟨q, hq⟩ : ∃ q, q = W0.heap.size := ⟨_, rfl⟩
    generalize hW1 : (W0.alloc (.cells #[.slice A' (n - 1) (c - 1), .int .i64 z] bit)).drew = W1 at *
    refine held_go HK' hx1 (fun hHeld => ?_)
    clear HK'
    try simp only [Act.put, List.setIfInBounds_toArray, List.set_cons_zero, List.set_cons_succ]
    refine wpAnyH_done (by kernel_rfl) ?_ _
    rw [← hq] at hb1 ⊢
    have hwq : w.heap.size < q := by rw [hq]; exact HR.out.lt
    have HB1 := Kp.mk hb1
    have X1 := Kp.mk (X0.out.trans hx1)
    have HR1 := Kp.mk (HR.out.ext hx1)
    have HQ := Kp.mk (show W0.heap.size ≤ q from by rw [hq]; exact Nat.le_refl _)
    have X01 := Kp.mk hx1
    clear hcut c1 hx1 hW1 hq
    obtain ⟨m0, m1⟩ := box2b HB1.out (Ext.refl _)
    go_wp2_with fail
    refine (areBits_any (HD.out.ext X1.out) (by omega) z).mono ?_
    rintro e W2 ⟨rfl, x2⟩
    have X2 := Kp.mk (X1.out.trans x2)
    have HB2 := Kp.mk (HB1.out.ext x2)
    have HR2 := Kp.mk (HR1.out.ext x2)
    have X02 := Kp.mk (X01.out.trans x2)
    clear x2 m0 m1 hb1
    cases hb : bitsB (b.drop 1) z with
    | false =>
      have HN := Kp.mk hb
      clear hb
      go_wp2_with (first | ((with_reducible refine at_store 2 20 ?_); refine wpList_store_row rfl bit _ _ rfl w.heap.size #[.slice none 0 0, .int .i64 0] rfl rfl bit _ HR2.out.h szBt rfl (one_two _ _ _ _) ?_) | fail)
      have hx := X2.out.setRow (Nat.le_refl _) #[.slice none 0 0, .int .i64 0]
      refine bodyPost_ret (v := .tuple #[.agg #[.slice none 0 0, .int .i64 0], err 2]) ?_ rfl ?_
      · exact results_cell_row2 rfl _ _ w.heap.size bit _ _ _ rfl rfl (HR2.out.row _) Try.underlying45 rfl szBt
      refine .inl ⟨?_, rfl, hx⟩
      rw [← HZ.out, HN.out]
      exact fun h => by cases h.2
    | true =>
      have HN := Kp.mk hb
      clear hb
      obtain ⟨m0, m1⟩ := box2b HB2.out (Ext.refl _)
      go_wp2_with fail
      refine (Clone_any (HD.out.ext X2.out) (by omega)).mono ?_
      rintro e W3 ⟨A3, c3, rfl, hs3, ho3, x3⟩
      have X3 := Kp.mk (X2.out.trans x3)
      have HB3 := Kp.mk (HB2.out.ext x3)
      have HR3 := Kp.mk (HR2.out.ext x3)
      have HO3 := Kp.mk ho3
      have hqne : q < W2.heap.size := HB2.out.lt
      have hwW : w.heap.size ≤ W2.heap.size := X2.out.size
      clear x3 m0 m1 hs3 ho3
      have m0 := HB3.out.h.cell 0
      have m1 := HB3.out.h.cell 1
      have mf := HB3.out.h.frozen 0
      simp only [List.getElem?_toArray, List.getElem?_cons_zero, List.getElem?_cons_succ] at m0 m1
      have HR4 := Kp.mk (HR3.out.far (p := ⟨q, 0, none⟩) (show w.heap.size ≠ q by omega) (.slice A3 (n - 1) c3))
      have HO4 := Kp.mk (HO3.out.far (p := ⟨q, 0, none⟩) (fun e => by have := HO3.out.base q e; omega) (.slice A3 (n - 1) c3))
      go_wp2_with (first | ((with_reducible refine at_store 2 26 ?_); refine wpList_store_row rfl bit _ _ rfl w.heap.size #[.slice A3 (n - 1) c3, .int .i64 z] rfl rfl bit _ HR4.out.h szBt rfl (one_two _ _ _ _) ?_) | fail)
      have hx : Ext w ((W3.setCell ⟨q, 0, none⟩ (.slice A3 (n - 1) c3)).setRow w.heap.size #[.slice A3 (n - 1) c3, .int .i64 z]) := (X3.out.setCell (show w.heap.size ≤ q by omega) _).setRow (Nat.le_refl _) _
      refine bodyPost_ret (v := .tuple #[.agg #[.slice A3 (n - 1) c3, .int .i64 z], .nilIface]) ?_ rfl ?_
      · exact results_cell_row2 rfl _ _ w.heap.size bit _ _ _ rfl rfl (HR4.out.row _) Try.underlying45 rfl szBt
      have ho5 : Own ((W3.setCell ⟨q, 0, none⟩ (.slice A3 (n - 1) c3)).setRow w.heap.size #[.slice A3 (n - 1) c3, .int .i64 z]) W2.heap.size (.slice A3 (n - 1) c3) (n - 1) (b.drop 1) :=
        (HO4.out.rw.mds ((Mds.refl [w.heap.size] _).setRow (by simp) _) fun k hk e => by
          have e1 := HO4.out.base k (mem_fpv.1 hk)
          rw [List.mem_singleton.1 e] at e1
          omega).own
      refine .inr ⟨⟨d2, by rw [← HZ.out, HN.out]⟩, A3, c3, ?_, ho5.lower hwW, hx⟩
      rw [← HZ.out]
end Go.Proofs.Ytfipgmjaabggjaa
