/-
  prim: Bits, ReadBits; the reference's Bits.
  Plain texts: blanks ahead and behind left out, of blanks side by side one left, letters made small; it is its own plain text. Plain.
  Names, plain: attributes, steps and names that are alike; a name within another one.
  Numbers in groups of seven bits, one behind the other; identifiers; plain (for layer 8).
-/
import Derived.Test.YtkdjhklnlnfhfaaGreatDoorM7
import Derived.Test.YtkdjhklnlnfhfaaGreatDoorM5
import Derived.Test.YtkdjhklnlnfhfaaGreatDoorM4
import Derived.Test.YtkdjhklnlnfhfaaGreatDoorM1
namespace Go.Proofs.YtkdjhklnlnfhfaaGreatDoor
open Go Go.RowKit
set_option maxRecDepth 4000

theorem box2b {w w' : World} {g t : Nat} {u v : Value} (h : Blk w g t #[u, v]) (hx : Ext w w') : w'.cell? ⟨g, 0, none⟩ = some u ∧ w'.cell? ⟨g, 1, none⟩ = some v := ⟨(h.ext hx).h.cell 0, (h.ext hx).h.cell 1⟩
theorem bitsB_u {l : List (BitVec 8)} {u : Int} (h : bitsB l u = true) : 0 ≤ u ∧ u ≤ 7 := by
  unfold bitsB at h
  split at h
  · rw [decide_eq_true_eq] at h; omega
  · simp only [Bool.and_eq_true, decide_eq_true_eq] at h; exact ⟨h.1, h.2.1⟩
theorem byt_u {u : Int} (h : 0 ≤ u ∧ u ≤ 7) : IntKind.u8.wrap u = ub (BitVec.ofNat 8 u.toNat) := by
  unfold ub
  rw [BitVec.toNat_ofNat, IntKind.wrap_u8]
  omega
set_option maxHeartbeats 4000000 in
theorem Bits_any {l : List (BitVec 8)} {A : Option Addr} {n c : Nat} {w : World} (h : Bs w A n c l) (hn : n ≤ 140737488355000) (u : Int) : Calls Tryz.prog 103 #[.agg #[.slice A n c, .int .i64 u]] w fun e w' =>
    (bitsB l u = false ∧ e = .returned (.tuple #[.slice none 0 0, err 1]) ∧ Ext w w') ∨ (bitsB l u = true ∧ FreshE w (n + 1) (BitVec.ofNat 8 u.toNat :: l) e w') := by
  have hC := fun W (hx : Ext w W) => areBits_any (h.ext hx) (by omega) u
  have HH := Kp.mk h
  have HC := Kp.mk hC
  have HB := Kp.mk (Blk.new w bit #[.slice A n c, .int .i64 u])
  clear h hC
  cases hb : bitsB l u with
  | false =>
    rw [hb] at HC
    refine Calls.mono (R := fun e w' => e = .returned (.tuple #[.slice none 0 0, err 1]) ∧ Ext w w') ?_ fun _ _ h => .inl ⟨rfl, h⟩
    clear hb
    go_enter Tryz.func103, Tryz.ntmps103
    go_wp2_with fail
    refine (HC.out _ (by (repeat (first | assumption | exact Ext.refl _ | apply Ext.drew | apply Ext.drewN | apply Ext.alloc | refine Ext.trans ?_ (by assumption))); first | done | fail)).mono ?_
    rintro e w1 ⟨rfl, x1⟩
    have HX := Kp.mk (show Ext w w1 from Ext.trans (by (repeat (first | assumption | exact Ext.refl _ | apply Ext.drew | apply Ext.drewN | apply Ext.alloc | refine Ext.trans ?_ (by assumption))); first | done | fail) x1)
    clear x1
    go_wp2_with fail
    go_ret2
    exact ⟨rfl, HX.out⟩
  | true =>
    rw [hb] at HC
    refine Calls.mono (R := fun e w' => FreshE w (n + 1) (BitVec.ofNat 8 u.toNat :: l) e w') ?_ fun _ _ h => .inr ⟨rfl, h⟩
    have hu := byt_u (bitsB_u hb)
    generalize BitVec.ofNat 8 u.toNat = x at *
    clear hb
    go_enter Tryz.func103, Tryz.ntmps103
    go_wp2_with fail
    refine (HC.out _ (by (repeat (first | assumption | exact Ext.refl _ | apply Ext.drew | apply Ext.drewN | apply Ext.alloc | refine Ext.trans ?_ (by assumption))); first | done | fail)).mono ?_
    rintro e w1 ⟨rfl, x1⟩
    have c0 := fun (W : World) (hx : Ext w1 W) => (box2b HB.out (x1.trans hx)).1
    have c1 := fun (W : World) (hx : Ext w1 W) => (box2b HB.out (x1.trans hx)).2
    have HX := Kp.mk (show Ext w w1 from Ext.trans (by (repeat (first | assumption | exact Ext.refl _ | apply Ext.drew | apply Ext.drewN | apply Ext.alloc | refine Ext.trans ?_ (by assumption))); first | done | fail) x1)
    have HW := Kp.mk HX.out.size
    clear x1
    go_wp2_with (first | (at_builtin; refine wpList_append_bs rfl (.tmp 11) (.tmp 13) rfl w.heap.size _ 1 [x] rfl (Own.new w1 w.heap.size 1 [x] rfl HW.out (by decide)) A n c l rfl ((HH.out.ext HX.out).ext (by (repeat (first | assumption | exact Ext.refl _ | apply Ext.drew | apply Ext.drewN | apply Ext.alloc | refine Ext.trans ?_ (by assumption))); first | done | fail)) (by omega) (n + 1) (by omega) (x :: l) rfl w (HX.out.trans (by (repeat (first | assumption | exact Ext.refl _ | apply Ext.drew | apply Ext.drewN | apply Ext.alloc | refine Ext.trans ?_ (by assumption))); first | done | fail)) (Nat.le_refl _) (Nat.le_trans HW.out (by simp)) ?_; intro A5 c5 w5 ho5 hx5 hap5) | fail)
    go_ret2
    exact ⟨A5, c5, rfl, ho5.bs, ho5, hx5⟩
theorem bits_cons {b : List (BitVec 8)} (h : b ≠ []) : b = gb b 0 :: b.drop 1 := by
  match b, h with
  | x :: r, _ => rfl
theorem szBt : (Tryz.prog.info? bit).map (·.size) = some 2 := by kernel_rfl
theorem one_two8 (A : Option Addr) (n c : Nat) (u : Int) : (#[Value.slice A n c, Value.int .i64 u]).all (·.oneCell') = true := by simp [Value.oneCell']
/-- what ReadBits answers -/
def RBits (w : World) (b : List (BitVec 8)) (n : Nat) (e : Ending) (w' : World) : Prop :=
  (¬ (0 < n ∧ bitsB (b.drop 1) (ub (gb b 0)) = true) ∧ e = .returned (.tuple #[.agg #[.slice none 0 0, .int .i64 0], err 2]) ∧ Ext w w') ∨
  ((0 < n ∧ bitsB (b.drop 1) (ub (gb b 0)) = true) ∧ ∃ A c, e = .returned (.tuple #[.agg #[.slice A (n - 1) c, .int .i64 (ub (gb b 0))], .nilIface]) ∧ Own w' w.heap.size (.slice A (n - 1) c) (n - 1) (b.drop 1) ∧ Ext w w')
set_option maxHeartbeats 8000000 in
theorem ReadBits_any {b : List (BitVec 8)} {A : Option Addr} {n c : Nat} {w : World} (h : Bs w A n c b) (hn : n ≤ 140737488351232) : Calls Tryz.prog 110 #[.slice A n c] w fun e w' => RBits w b n e w' := by
  have hl := h.len
  have HR := Kp.mk (Blk.new w bit #[.slice none 0 0, .int .i64 0])
  by_cases h0 : n = 0
  · subst h0
    refine Calls.mono (R := fun e w' => e = .returned (.tuple #[.agg #[.slice none 0 0, .int .i64 0], err 2]) ∧ Ext w w') ?_ fun _ _ h => .inl ⟨fun h => absurd h.1 (Nat.lt_irrefl 0), h⟩
    clear h hl
    go_enter Tryz.func110, Tryz.ntmps110
    go_wp2_with fail
    refine bodyPost_ret (v := .tuple #[.agg #[.slice none 0 0, .int .i64 0], err 2]) ?_ rfl ⟨rfl, (by (repeat (first | assumption | exact Ext.refl _ | apply Ext.drew | apply Ext.drewN | apply Ext.alloc | refine Ext.trans ?_ (by assumption))); first | done | fail)⟩
    exact results_cell_row2 rfl _ _ w.heap.size bit _ _ _ rfl rfl HR.out Tryz.underlying97 rfl szBt
  · obtain ⟨A', hA', hD⟩ := h.cut 1 (by omega)
    have hcut := run_from (P := Tryz.prog) A n c 39 5 Tryz.underlying39 szB 1 1 rfl (by omega)
    rw [hA'] at hcut
    have HH := Kp.mk h
    have HD := Kp.mk hD
    obtain ⟨g, o, rfl, _⟩ := h.s.2.2.2 (by omega)
    have c0 : ∀ w', Ext w w' → w'.cell? ⟨g, o, none⟩ = some (.int .u8 (ub (gb b 0))) := fun w' hx => by
      obtain ⟨g', o', e, hc'⟩ := (HH.out.ext hx).s.2.2.2 (by omega)
      cases e
      have := hc' 0 (by omega)
      rwa [Nat.add_zero] at this
    have z1 : ((n : Int) == 0) = false := beq_eq_false_iff_ne.2 (by omega)
    have z2 : ¬ n = 0 := h0
    have d1 : (0 : Int) < (n : Int) := by omega
    have d2 : 0 < n := by omega
    have w8 : IntKind.i64.wrap (ub (gb b 0)) = ub (gb b 0) := by have := (gb b 0).isLt; unfold ub; rw [IntKind.wrap_i64]; omega
    obtain ⟨z, hz⟩ : ∃ z, z = ub (gb b 0) := ⟨_, rfl⟩
    rw [← hz] at w8
    rw [← hz] at c0
    have HZ := Kp.mk hz
    clear h hD hA' hl h0 hz
    go_enter Tryz.func110, Tryz.ntmps110
    go_wp2_with fail
    obtain ⟨W0, hW0⟩ : ∃ W0, W0 = w.alloc (.cells #[.slice none 0 0, .int .i64 0] bit) := ⟨_, rfl⟩
    have hx0 : Ext w W0 := by rw [hW0]; exact (by (repeat (first | assumption | exact Ext.refl _ | apply Ext.drew | apply Ext.drewN | apply Ext.alloc | refine Ext.trans ?_ (by assumption))); first | done | fail)
    rw [← hW0] at HR ⊢
    clear hW0
    have c1 : ∀ w', Ext W0 w' → w'.cell? ⟨g, o, none⟩ = some (.int .u8 z) := fun w' hx => c0 w' (hx0.trans hx)
    have X0 := Kp.mk hx0
    clear c0 hx0
    refine wp_region_held_drew (S := fun w' => Ext W0 w') (by kernel_rfl) (Ext.refl W0).drew (fun hHeld => ?_)
    refine wpAnyH_take (i := 0) (oi := ⟨some 10, _, _, _, _, _⟩) (v := ?_) rfl (by kernel_rfl) (by kernel_rfl) (by kernel_rfl) (fun _ _ _ h => h) (Or.inl ⟨by rfl, ?_⟩) (by assumption) ?_
    rotate_left
    · (intro w hSw; (try dsimp only at hSw); go_simp; try with_reducible rfl)
    try simp only [Act.put, List.setIfInBounds_toArray, List.set_cons_zero, List.set_cons_succ]
    refine wpAnyH_take (i := 1) (oi := ⟨some 11, _, _, _, _, _⟩) (v := ?_) rfl (by kernel_rfl) (by kernel_rfl) (by kernel_rfl) (fun _ _ _ h => h) (Or.inl ⟨by rfl, ?_⟩) (by assumption) ?_
    rotate_left
    · (intro w hSw; (try dsimp only at hSw); go_simp; try with_reducible rfl)
    try simp only [Act.put, List.setIfInBounds_toArray, List.set_cons_zero, List.set_cons_succ]
    refine wpAnyH_take (i := 2) (oi := ⟨some 12, _, _, _, _, _⟩) (v := ?_) rfl (by kernel_rfl) (by kernel_rfl) (by kernel_rfl) (fun _ _ _ h => h) (Or.inl ⟨by rfl, ?_⟩) (by assumption) ?_
    rotate_left
    · (intro w hSw; (try dsimp only at hSw); go_simp; try with_reducible rfl)
    try simp only [Act.put, List.setIfInBounds_toArray, List.set_cons_zero, List.set_cons_succ]
    refine wpAnyH_take (i := 3) (oi := ⟨some 13, _, _, _, _, _⟩) (v := ?_) rfl (by kernel_rfl) (by kernel_rfl) (by kernel_rfl) (fun _ _ _ h => h) (Or.inl ⟨by rfl, ?_⟩) (by assumption) ?_
    rotate_left
    · (intro w hSw; (try dsimp only at hSw); go_simp; try with_reducible rfl)
    try simp only [Act.put, List.setIfInBounds_toArray, List.set_cons_zero, List.set_cons_succ]
    refine wpAnyH_take (i := 4) (oi := ⟨some 14, _, _, _, _, _⟩) (v := ?_) rfl (by kernel_rfl) (by kernel_rfl) (by kernel_rfl) (fun _ _ _ h => h) (Or.inl ⟨by rfl, ?_⟩) (by assumption) ?_
    rotate_left
    · (intro w hSw; (try dsimp only at hSw); go_simp; try with_reducible rfl)
    try simp only [Act.put, List.setIfInBounds_toArray, List.set_cons_zero, List.set_cons_succ]
    refine wpAnyH_take (i := 5) (oi := ⟨some 15, _, _, _, _, _⟩) (v := ?_) rfl (by kernel_rfl) (by kernel_rfl) (by kernel_rfl) (fun _ _ _ h => h) (Or.inl ⟨by rfl, ?_⟩) (by assumption) ?_
    rotate_left
    · (intro w hSw; (try dsimp only at hSw); go_simp; try with_reducible rfl)
    try simp only [Act.put, List.setIfInBounds_toArray, List.set_cons_zero, List.set_cons_succ]
    refine wpAnyH_take (i := 6) (oi := ⟨some 16, _, _, _, _, _⟩) (v := ?_) rfl (by kernel_rfl) (by kernel_rfl) (by kernel_rfl) (fun _ _ _ h => h) (Or.inl ⟨by rfl, ?_⟩) (by assumption) ?_
    rotate_left
    · (intro w hSw; (try dsimp only at hSw); go_simp; try with_reducible rfl)
    try simp only [Act.put, List.setIfInBounds_toArray, List.set_cons_zero, List.set_cons_succ]
    refine next_one 7 (by kernel_rfl) rfl (by rfl) fun K' HK' => ?_
    go_simp
    refine held_go HK' (by (repeat (first | assumption | exact Ext.refl _ | apply Ext.drew | apply Ext.drewN | apply Ext.alloc | refine Ext.trans ?_ (by assumption))); first | done | fail) (fun hHeld => ?_)
    clear HK'
    try simp only [Act.put, List.setIfInBounds_toArray, List.set_cons_zero, List.set_cons_succ]
    refine next_one 8 (by kernel_rfl) rfl (by rfl) fun K' HK' => ?_
    go_simp
    have hb1 : Blk (W0.alloc (.cells #[.slice A' (n - 1) (c - 1), .int .i64 z] bit)).drew W0.heap.size bit #[.slice A' (n - 1) (c - 1), .int .i64 z] := (Blk.new W0 bit _).ext (by (repeat (first | assumption | exact Ext.refl _ | apply Ext.drew | apply Ext.drewN | apply Ext.alloc | refine Ext.trans ?_ (by assumption))); first | done | fail)
    have hx1 : Ext W0 (W0.alloc (.cells #[.slice A' (n - 1) (c - 1), .int .i64 z] bit)).drew := (by (repeat (first | assumption | exact Ext.refl _ | apply Ext.drew | apply Ext.drewN | apply Ext.alloc | refine Ext.trans ?_ (by assumption))); first | done | fail)
    obtain ⟨q, hq⟩ : ∃ q, q = W0.heap.size := ⟨_, rfl⟩
    generalize hW1 : (W0.alloc (.cells #[.slice A' (n - 1) (c - 1), .int .i64 z] bit)).drew = W1 at *
    refine held_go HK' hx1 (fun hHeld => ?_)
    clear HK'
    try simp only [Act.put, List.setIfInBounds_toArray, List.set_cons_zero, List.set_cons_succ]
    refine wpAnyH_done (by kernel_rfl) ?_ _
    rw [← hq] at hb1 ⊢
    have hwq : w.heap.size < q := by rw [hq]; exact HR.out.lt
    have HB1 := Kp.mk hb1
    have X1 := Kp.mk (X0.out.trans hx1)
    have HR1 := Kp.mk (HR.out.ext hx1)
    have HQ := Kp.mk (show W0.heap.size ≤ q from by rw [hq]; exact Nat.le_refl _)
    have X01 := Kp.mk hx1
    clear hcut c1 hx1 hW1 hq
    obtain ⟨m0, m1⟩ := box2b HB1.out (Ext.refl _)
    go_wp2_with fail
    refine (areBits_any (HD.out.ext X1.out) (by omega) z).mono ?_
    rintro e W2 ⟨rfl, x2⟩
    have X2 := Kp.mk (X1.out.trans x2)
    have HB2 := Kp.mk (HB1.out.ext x2)
    have HR2 := Kp.mk (HR1.out.ext x2)
    have X02 := Kp.mk (X01.out.trans x2)
    clear x2 m0 m1 hb1
    cases hb : bitsB (b.drop 1) z with
    | false =>
      have HN := Kp.mk hb
      clear hb
      go_wp2_with (first | ((with_reducible refine at_store 2 20 ?_); refine wpList_store_row rfl bit _ _ rfl w.heap.size #[.slice none 0 0, .int .i64 0] rfl rfl bit _ HR2.out.h szBt rfl (one_two8 _ _ _ _) ?_) | fail)
      have hx := X2.out.setRow (Nat.le_refl _) #[.slice none 0 0, .int .i64 0]
      refine bodyPost_ret (v := .tuple #[.agg #[.slice none 0 0, .int .i64 0], err 2]) ?_ rfl ?_
      · exact results_cell_row2 rfl _ _ w.heap.size bit _ _ _ rfl rfl (HR2.out.row _) Tryz.underlying97 rfl szBt
      refine .inl ⟨?_, rfl, hx⟩
      rw [← HZ.out, HN.out]
      exact fun h => by cases h.2
    | true =>
      have HN := Kp.mk hb
      clear hb
      obtain ⟨m0, m1⟩ := box2b HB2.out (Ext.refl _)
      go_wp2_with fail
      refine (Clone_any (HD.out.ext X2.out) (by omega)).mono ?_
      rintro e W3 ⟨A3, c3, rfl, hs3, ho3, x3⟩
      have X3 := Kp.mk (X2.out.trans x3)
      have HB3 := Kp.mk (HB2.out.ext x3)
      have HR3 := Kp.mk (HR2.out.ext x3)
      have HO3 := Kp.mk ho3
      have hqne : q < W2.heap.size := HB2.out.lt
      have hwW : w.heap.size ≤ W2.heap.size := X2.out.size
      clear x3 m0 m1 hs3 ho3
      have m0 := HB3.out.h.cell 0
      have m1 := HB3.out.h.cell 1
      have mf := HB3.out.h.frozen 0
      simp only [List.getElem?_toArray, List.getElem?_cons_zero, List.getElem?_cons_succ] at m0 m1
      have HR4 := Kp.mk (HR3.out.far (p := ⟨q, 0, none⟩) (show w.heap.size ≠ q by omega) (.slice A3 (n - 1) c3))
      have HO4 := Kp.mk (HO3.out.far (p := ⟨q, 0, none⟩) (fun e => by have := HO3.out.base q e; omega) (.slice A3 (n - 1) c3))
      go_wp2_with (first | ((with_reducible refine at_store 2 26 ?_); refine wpList_store_row rfl bit _ _ rfl w.heap.size #[.slice A3 (n - 1) c3, .int .i64 z] rfl rfl bit _ HR4.out.h szBt rfl (one_two8 _ _ _ _) ?_) | fail)
      have hx : Ext w ((W3.setCell ⟨q, 0, none⟩ (.slice A3 (n - 1) c3)).setRow w.heap.size #[.slice A3 (n - 1) c3, .int .i64 z]) := (X3.out.setCell (show w.heap.size ≤ q by omega) _).setRow (Nat.le_refl _) _
      refine bodyPost_ret (v := .tuple #[.agg #[.slice A3 (n - 1) c3, .int .i64 z], .nilIface]) ?_ rfl ?_
      · exact results_cell_row2 rfl _ _ w.heap.size bit _ _ _ rfl rfl (HR4.out.row _) Tryz.underlying97 rfl szBt
      have ho5 : Own ((W3.setCell ⟨q, 0, none⟩ (.slice A3 (n - 1) c3)).setRow w.heap.size #[.slice A3 (n - 1) c3, .int .i64 z]) W2.heap.size (.slice A3 (n - 1) c3) (n - 1) (b.drop 1) :=
        (HO4.out.rw.mds ((Mds.refl [w.heap.size] _).setRow (by simp) _) fun k hk e => by
          have e1 := HO4.out.base k (mem_fpv.1 hk)
          rw [List.mem_singleton.1 e] at e1
          omega).own
      refine .inr ⟨⟨d2, by rw [← HZ.out, HN.out]⟩, A3, c3, ?_, ho5.lower hwW, hx⟩
      rw [← HZ.out]
end Go.Proofs.YtkdjhklnlnfhfaaGreatDoor
namespace Go.Proofs.YtkdjhklnlnfhfaaGreatDoor
open Go
set_option maxRecDepth 4000

/-- a letter made small -/
def lowB (x : BitVec 8) : BitVec 8 := if 65 ≤ x.toNat ∧ x.toNat ≤ 90 then x + 32 else x
theorem low_low (x : BitVec 8) : lowB (lowB x) = lowB x := by
  revert x
  refine all8 ?_
  decide +kernel
theorem low_blank (x : BitVec 8) (h : x ≠ 32) : lowB x ≠ 32 := by
  revert x
  refine all8 ?_
  decide +kernel
/-- behind a letter, or (true) behind a blank that stands behind a letter -/
def plF (p : Bool) : List (BitVec 8) → List (BitVec 8)
  | [] => []
  | x :: t => if x = 32 then plF true t else if p = true then 32 :: lowB x :: plF false t else lowB x :: plF false t
/-- behind a letter -/
def plS (t : List (BitVec 8)) : List (BitVec 8) := plF false t
/-- behind a blank that stands behind a letter -/
def plP (t : List (BitVec 8)) : List (BitVec 8) := plF true t
theorem plS_nil : plS [] = [] := rfl
theorem plP_nil : plP [] = [] := rfl
theorem plS_cons (x : BitVec 8) (t : List (BitVec 8)) : plS (x :: t) = if x = 32 then plP t else lowB x :: plS t := by
  show (if x = 32 then plF true t else if false = true then 32 :: lowB x :: plF false t else lowB x :: plF false t) = _
  rw [if_neg (by decide : ¬(false = true))]
  rfl
theorem plP_cons (x : BitVec 8) (t : List (BitVec 8)) : plP (x :: t) = if x = 32 then plP t else 32 :: lowB x :: plS t := by
  show (if x = 32 then plF true t else if true = true then 32 :: lowB x :: plF false t else lowB x :: plF false t) = _
  rw [if_pos (rfl : true = true)]
  rfl
/-- the plain text -/
def plainL : List (BitVec 8) → List (BitVec 8)
  | [] => []
  | x :: t => if x = 32 then plainL t else lowB x :: plS t
theorem plS_plS : ∀ t : List (BitVec 8), plS (plS t) = plS t ∧ plS (plP t) = plP t
  | [] => ⟨rfl, rfl⟩
  | x :: t => by
    obtain ⟨h1, h2⟩ := plS_plS t
    by_cases hx : x = 32
    · subst hx
      simp only [plS, plP_cons, if_pos]
      exact ⟨h2, h2⟩
    · have hl := low_blank x hx
      have h32 : (32 : BitVec 8) = 32 := rfl
      constructor
      · rw [plS_cons, if_neg hx, plS_cons, if_neg hl, low_low, h1]
      · rw [plP_cons, if_neg hx, plS_cons, if_pos h32, plP_cons, if_neg hl, low_low, h1]
/-- a plain text is its own plain text -/
theorem plain_plain : ∀ t : List (BitVec 8), plainL (plainL t) = plainL t
  | [] => rfl
  | x :: t => by
    by_cases hx : x = 32
    · rw [plainL, if_pos hx]
      exact plain_plain t
    · rw [plainL, if_neg hx, plainL, if_neg (low_blank x hx), low_low, (plS_plS t).1]
/-- step by step, as the reference goes: what is told so far, and whether a blank stands ahead -/
def plGo (out : List (BitVec 8)) (p : Bool) : List (BitVec 8) → List (BitVec 8)
  | [] => out
  | x :: t => if x = 32 then plGo out true t else plGo ((if out ≠ [] ∧ p = true then out ++ [32] else out) ++ [lowB x]) false t
theorem plGo_eq : ∀ (t out : List (BitVec 8)) (p : Bool), plGo out p t = out ++ (if out = [] then plainL t else if p then plP t else plS t)
  | [], out, p => by
    rw [plP_nil, plS_nil]
    unfold plGo plainL
    split
    · simp
    · split <;> simp
  | x :: t, out, p => by
    have ih := plGo_eq t
    unfold plGo
    by_cases hx : x = 32
    · rw [if_pos hx, ih]
      by_cases ho : out = []
      · rw [if_pos ho, if_pos ho, plainL, if_pos hx]
      · rw [if_neg ho, if_neg ho, if_pos rfl]
        cases p
        · simp only [Bool.false_eq_true, if_false]
          rw [plS_cons, if_pos hx]
        · simp only [if_true]
          rw [plP_cons, if_pos hx]
    · rw [if_neg hx, ih]
      by_cases ho : out = []
      · subst ho
        simp only [ne_eq, not_true_eq_false, false_and, if_false, List.nil_append, if_true]
        rw [if_neg (by simp), plainL, if_neg hx]
        simp
      · rw [if_neg ho]
        cases p
        · rw [if_neg (by simp), if_neg (by simp)]
          simp only [Bool.false_eq_true, if_false]
          rw [plS_cons, if_neg hx]
          simp
        · rw [if_pos ⟨ho, rfl⟩, if_neg (by simp)]
          simp only [if_true, Bool.false_eq_true, if_false]
          rw [plP_cons, if_neg hx]
          simp
theorem plGo_all (t : List (BitVec 8)) : plGo [] false t = plainL t := by rw [plGo_eq, if_pos rfl, List.nil_append]
theorem pl_len : ∀ t : List (BitVec 8), (plS t).length ≤ t.length ∧ (plP t).length ≤ t.length + 1
  | [] => ⟨Nat.le_refl _, Nat.zero_le _⟩
  | x :: t => by
    obtain ⟨h1, h2⟩ := pl_len t
    rw [plS_cons, plP_cons]
    constructor
    · split
      · simp; omega
      · simp; omega
    · split
      · simp; omega
      · simp; omega
theorem plS_len (t : List (BitVec 8)) : (plS t).length ≤ t.length := (pl_len t).1
theorem plP_len (t : List (BitVec 8)) : (plP t).length ≤ t.length + 1 := (pl_len t).2
end Go.Proofs.YtkdjhklnlnfhfaaGreatDoor
namespace Go.Proofs.YtkdjhklnlnfhfaaGreatDoor
open Go
set_option maxRecDepth 4000

/-- an attribute: its type, its mark, its text -/
structure Atr where
  ty : List Nat
  mark : BitVec 8
  tx : List (BitVec 8)
/-- are two attributes alike? -/
def alA (a b : Atr) : Bool := decide (a.ty = b.ty) && decide (plainL a.tx = plainL b.tx)
theorem alA_refl (a : Atr) : alA a a = true := by simp [alA]
theorem alA_symm (a b : Atr) : alA a b = alA b a := by
  unfold alA
  rw [Bool.eq_iff_iff]
  simp only [Bool.and_eq_true, decide_eq_true_eq]
  exact ⟨fun h => ⟨h.1.symm, h.2.symm⟩, fun h => ⟨h.1.symm, h.2.symm⟩⟩
theorem alA_trans {a b c : Atr} (h1 : alA a b = true) (h2 : alA b c = true) : alA a c = true := by
  unfold alA at *
  simp only [Bool.and_eq_true, decide_eq_true_eq] at *
  exact ⟨h1.1.trans h2.1, h1.2.trans h2.2⟩
/-- is an attribute alike to one of a step's? -/
def hasA (l : List Atr) (a : Atr) : Bool := l.any fun b => alA b a
def alS (s t : List Atr) : Bool := s.all (hasA t) && t.all (hasA s)
theorem hasA_iff {l : List Atr} {a : Atr} : hasA l a = true ↔ ∃ b ∈ l, alA b a = true := by simp [hasA]
theorem alS_iff {s t : List Atr} : alS s t = true ↔ (∀ a ∈ s, ∃ b ∈ t, alA b a = true) ∧ ∀ b ∈ t, ∃ a ∈ s, alA a b = true := by
  unfold alS
  rw [Bool.and_eq_true, List.all_eq_true, List.all_eq_true]
  simp only [hasA_iff]
theorem alS_refl (s : List Atr) : alS s s = true := alS_iff.2 ⟨fun a h => ⟨a, h, alA_refl a⟩, fun a h => ⟨a, h, alA_refl a⟩⟩
theorem alS_symm (s t : List Atr) : alS s t = alS t s := by unfold alS; rw [Bool.and_comm]
theorem alS_trans {s t u : List Atr} (h1 : alS s t = true) (h2 : alS t u = true) : alS s u = true := by
  obtain ⟨a1, a2⟩ := alS_iff.1 h1
  obtain ⟨b1, b2⟩ := alS_iff.1 h2
  refine alS_iff.2 ⟨fun a ha => ?_, fun c hc => ?_⟩
  · obtain ⟨b, hb, e1⟩ := a1 a ha
    obtain ⟨c, hc, e2⟩ := b1 b hb
    exact ⟨c, hc, alA_trans e2 e1⟩
  · obtain ⟨b, hb, e1⟩ := b2 c hc
    obtain ⟨a, ha, e2⟩ := a2 b hb
    exact ⟨a, ha, alA_trans e2 e1⟩
/-- two names -/
def alN : List (List Atr) → List (List Atr) → Bool
  | [], [] => true
  | s :: a, t :: b => alS s t && alN a b
  | _, _ => false
theorem alN_len : ∀ {a b : List (List Atr)}, alN a b = true → a.length = b.length
  | [], [], _ => rfl
  | s :: a, t :: b, h => by
    unfold alN at h
    rw [Bool.and_eq_true] at h
    simp [alN_len h.2]
  | [], t :: b, h => by cases h
  | s :: a, [], h => by cases h
theorem alN_refl : ∀ a : List (List Atr), alN a a = true
  | [] => rfl
  | s :: a => by unfold alN; rw [alS_refl, alN_refl a]; rfl
theorem alN_symm : ∀ a b : List (List Atr), alN a b = alN b a
  | [], [] => rfl
  | s :: a, t :: b => by unfold alN; rw [alS_symm, alN_symm a b]
  | [], t :: b => rfl
  | s :: a, [] => rfl
theorem alN_trans : ∀ {a b c : List (List Atr)}, alN a b = true → alN b c = true → alN a c = true
  | [], [], c, _, h => h
  | s :: a, t :: b, [], _, h => by cases h
  | s :: a, t :: b, u :: c, h1, h2 => by
    unfold alN at *
    rw [Bool.and_eq_true] at *
    exact ⟨alS_trans h1.1 h2.1, alN_trans h1.2 h2.2⟩
  | [], t :: b, c, h, _ => by cases h
  | s :: a, [], c, h, _ => by cases h
/-- step by step -/
theorem alN_iff {a b : List (List Atr)} : alN a b = true ↔ a.length = b.length ∧ ∀ i, i < a.length → alS (a.getD i []) (b.getD i []) = true := by
  induction a generalizing b with
  | nil =>
    cases b with
    | nil => simp [alN]
    | cons t b => simp [alN]
  | cons s a ih =>
    cases b with
    | nil => simp [alN]
    | cons t b =>
      unfold alN
      rw [Bool.and_eq_true, ih]
      constructor
      · rintro ⟨h1, h2, h3⟩
        refine ⟨by simp [h2], fun i hi => ?_⟩
        cases i with
        | zero => exact h1
        | succ i => exact h3 i (by simpa using hi)
      · rintro ⟨h1, h2⟩
        exact ⟨h2 0 (by simp), by simpa using h1, fun i hi => h2 (i + 1) (by simpa using hi)⟩
/-- a name within another one -/
def wiN (a b : List (List Atr)) : Bool := decide (b.length ≤ a.length) && alN (a.take b.length) b
theorem wiN_refl (a : List (List Atr)) : wiN a a = true := by simp [wiN, alN_refl]
theorem alN_take : ∀ {a b : List (List Atr)} (k : Nat), alN a b = true → alN (a.take k) (b.take k) = true
  | a, b, 0, _ => by simp [alN]
  | [], [], k + 1, _ => by simp [alN]
  | s :: a, t :: b, k + 1, h => by
    unfold alN at h
    rw [Bool.and_eq_true] at h
    rw [List.take_succ_cons, List.take_succ_cons]
    unfold alN
    rw [h.1, alN_take k h.2]
    rfl
  | [], t :: b, k + 1, h => by cases h
  | s :: a, [], k + 1, h => by cases h
theorem wiN_trans {a b c : List (List Atr)} (h1 : wiN a b = true) (h2 : wiN b c = true) : wiN a c = true := by
  unfold wiN at *
  rw [Bool.and_eq_true, decide_eq_true_eq] at *
  refine ⟨by omega, ?_⟩
  have h3 := alN_take c.length h1.2
  rw [List.take_take, Nat.min_eq_left h2.1] at h3
  exact alN_trans h3 h2.2
theorem wiN_both (a b : List (List Atr)) : (wiN a b && wiN b a) = alN a b := by
  rw [Bool.eq_iff_iff]
  constructor
  · intro h
    rw [Bool.and_eq_true] at h
    have h1 := h.1
    have h2 := h.2
    unfold wiN at h1 h2
    rw [Bool.and_eq_true, decide_eq_true_eq] at h1 h2
    have e : b.length = a.length := by omega
    have h3 := h1.2
    rwa [e, List.take_length] at h3
  · intro h
    have e := alN_len h
    rw [Bool.and_eq_true]
    unfold wiN
    rw [Bool.and_eq_true, Bool.and_eq_true, decide_eq_true_eq, decide_eq_true_eq]
    refine ⟨⟨by omega, ?_⟩, by omega, ?_⟩
    · rw [← e, List.take_length]; exact h
    · rw [e, List.take_length, alN_symm]; exact h
end Go.Proofs.YtkdjhklnlnfhfaaGreatDoor
namespace Go.Proofs.YtkdjhklnlnfhfaaGreatDoor
open Go
set_option maxRecDepth 4000

/-- the groups ahead of the last one, each in a byte whose highest bit is 1; all of them -/
def g7hi (n : Nat) : List (BitVec 8) := if _h : n = 0 then [] else g7hi (n / 128) ++ [BitVec.ofNat 8 (n % 128 + 128)]
  termination_by n
  decreasing_by omega
def g7 (n : Nat) : List (BitVec 8) := g7hi (n / 128) ++ [BitVec.ofNat 8 (n % 128)]
theorem g7hi_zero : g7hi 0 = [] := by rw [g7hi]; rfl
theorem g7hi_pos (n : Nat) (h : n ≠ 0) : g7hi n = g7hi (n / 128) ++ [BitVec.ofNat 8 (n % 128 + 128)] := by
  conv => lhs; rw [g7hi]
  rw [dif_neg h]
theorem g7_small (n : Nat) (h : n < 128) : g7 n = [BitVec.ofNat 8 n] := by
  unfold g7
  rw [show n / 128 = 0 by omega, g7hi_zero, List.nil_append, show n % 128 = n by omega]
/-- how many bytes: five at most below 2^35 -/
theorem g7hi_len : ∀ (k n : Nat), n < 128 ^ k → (g7hi n).length ≤ k
  | 0, n, h => by rw [show n = 0 by simpa using h, g7hi_zero]; exact Nat.le_refl _
  | k + 1, n, h => by
    by_cases h0 : n = 0
    · rw [h0, g7hi_zero]; exact Nat.zero_le _
    · rw [g7hi_pos n h0, List.length_append, List.length_singleton]
      have := g7hi_len k (n / 128) (by rw [Nat.div_lt_iff_lt_mul (by decide)]; rw [Nat.pow_succ] at h; exact h)
      omega
theorem g7_len (n : Nat) (h : n < 4294967296) : 1 ≤ (g7 n).length ∧ (g7 n).length ≤ 5 := by
  unfold g7
  rw [List.length_append, List.length_singleton]
  have := g7hi_len 4 (n / 128) (by show n / 128 < 268435456; omega)
  omega
/-- the numbers that groups make, from a number on -/
def p7 : Nat → List (BitVec 8) → List Nat
  | _, [] => []
  | n, x :: r => if x.toNat < 128 then (n * 128 + x.toNat % 128) :: p7 0 r else p7 (n * 128 + x.toNat % 128) r
theorem p7_hi : ∀ (n : Nat) (r : List (BitVec 8)), p7 0 (g7hi n ++ r) = p7 n r := by
  intro n
  induction n using Nat.strongRecOn with
  | ind n ih =>
    intro r
    by_cases h0 : n = 0
    · rw [h0, g7hi_zero]; rfl
    · rw [g7hi_pos n h0, List.append_assoc, ih (n / 128) (by omega)]
      show p7 (n / 128) (BitVec.ofNat 8 (n % 128 + 128) :: r) = _
      have e : (BitVec.ofNat 8 (n % 128 + 128)).toNat = n % 128 + 128 := by rw [BitVec.toNat_ofNat]; omega
      rw [p7, e, if_neg (by omega), show n / 128 * 128 + (n % 128 + 128) % 128 = n by omega]
theorem p7_one (n : Nat) (r : List (BitVec 8)) : p7 0 (g7 n ++ r) = n :: p7 0 r := by
  unfold g7
  rw [List.append_assoc, p7_hi]
  show p7 (n / 128) (BitVec.ofNat 8 (n % 128) :: r) = _
  have e : (BitVec.ofNat 8 (n % 128)).toNat = n % 128 := by rw [BitVec.toNat_ofNat]; omega
  rw [p7, e, if_pos (by omega), show n / 128 * 128 + n % 128 % 128 = n by omega]
/-- numbers one behind the other -/
def g7s (l : List Nat) : List (BitVec 8) := l.flatMap g7
theorem p7_all : ∀ l : List Nat, p7 0 (g7s l) = l
  | [] => rfl
  | n :: r => by
    show p7 0 (g7 n ++ g7s r) = _
    rw [p7_one, p7_all r]
theorem g7s_inj {a b : List Nat} (h : g7s a = g7s b) : a = b := by rw [← p7_all a, h, p7_all]
theorem g7s_len : ∀ l : List Nat, (∀ n ∈ l, n < 4294967296) → l.length ≤ (g7s l).length ∧ (g7s l).length ≤ 5 * l.length
  | [], _ => ⟨Nat.le_refl _, Nat.le_refl _⟩
  | n :: r, h => by
    have h1 := g7s_len r fun m hm => h m (List.mem_cons_of_mem _ hm)
    have h2 := g7_len n (h n (by simp))
    show _ ≤ (g7 n ++ g7s r).length ∧ (g7 n ++ g7s r).length ≤ _
    rw [List.length_append, List.length_cons]
    omega
/-- identifiers: 2 to 16 numbers; the first two in one -/
def OidP (l : List Nat) : Prop := ∃ a b r, l = a :: b :: r ∧ l.length ≤ 16 ∧ a ≤ 2 ∧ (a < 2 → b < 40) ∧ b ≤ 4294967215 ∧ ∀ n ∈ r, n < 4294967296
def oidL (l : List Nat) : List Nat := match l with
  | a :: b :: r => (40 * a + b) :: r
  | _ => []
def oidB (l : List Nat) : List (BitVec 8) := g7s (oidL l)
/-- the identifier of numbers -/
def oidU (l : List Nat) : List Nat := match l with
  | [] => []
  | z :: r => (if z / 40 > 2 then 2 else z / 40) :: (z - 40 * (if z / 40 > 2 then 2 else z / 40)) :: r
theorem oidU_L {l : List Nat} (h : OidP l) : oidU (oidL l) = l := by
  obtain ⟨a, b, r, rfl, _, ha, hb, _, _⟩ := h
  show (if (40 * a + b) / 40 > 2 then 2 else (40 * a + b) / 40) :: ((40 * a + b) - 40 * (if (40 * a + b) / 40 > 2 then 2 else (40 * a + b) / 40)) :: r = _
  have e : (if (40 * a + b) / 40 > 2 then 2 else (40 * a + b) / 40) = a := by
    split <;> omega
  rw [e, show 40 * a + b - 40 * a = b by omega]
/-- each identifier has a body of its own, which says it -/
theorem oid_back {l : List Nat} (h : OidP l) : oidU (p7 0 (oidB l)) = l := by
  unfold oidB
  rw [p7_all, oidU_L h]
theorem oid_inj {a b : List Nat} (ha : OidP a) (hb : OidP b) (h : oidB a = oidB b) : a = b := by rw [← oid_back ha, h, oid_back hb]
theorem oidB_len {l : List Nat} (h : OidP l) : (oidB l).length ≤ 75 := by
  obtain ⟨a, b, r, rfl, h1, ha, hb, hc, hr⟩ := h
  have h2 := (g7s_len ((40 * a + b) :: r) fun n hn => by
    rcases List.mem_cons.1 hn with rfl | hn
    · omega
    · exact hr n hn).2
  show (g7s ((40 * a + b) :: r)).length ≤ 75
  rw [List.length_cons] at h1 h2
  rw [List.length_cons] at h1
  omega
end Go.Proofs.YtkdjhklnlnfhfaaGreatDoor
