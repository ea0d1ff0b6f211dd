/-
  prim: ReadTime, its core.
-/
import Derived.Test.YtfipgmjaabggjaaDoorVVx
import Derived.Test.YtfipgmjaabggjaaDoorVGt
import Derived.Test.YtfipgmjaabggjaaDoorM23
import Derived.Test.YtfipgmjaabggjaaDoorVVs
namespace Go.Proofs.YtfipgmjaabggjaaDoor
open Go Go.RowKit
set_option maxRecDepth 4000

def dsT (i : Nat) : Nat := [23, 24, 25, 26, 27, 28, 29, 30, 31, 32, 33, 34, 35, 36, 37, 38, 39, 8].getD i 0
theorem dsT_inj : ∀ i, i < 18 → ∀ j, j < 18 → dsT i = dsT j → i = j := by decide
/-- what each operation leaves -/
def PrT (V : Nat → Value) (B : Nat) (i : Nat) (v : Value) (w : World) : Prop := (i ≠ 17 → v = V i) ∧ (i = 17 → ∃ k, v = .pointer (some ⟨k, 0, none⟩) ∧ B ≤ k ∧ Blk w k tmt (tci 0 0 0 0 0 0))
theorem PrT.keep {V : Nat → Value} {B : Nat} (i : Nat) (v : Value) (w w' : World) (h : PrT V B i v w) (hx : Ext w w') : PrT V B i v w' := ⟨h.1, fun e => by
  obtain ⟨k, a, b, c⟩ := h.2 e
  exact ⟨k, a, b, c.ext hx⟩⟩
theorem tcs_inj {t u : Tmt} (h : tcs t = tcs u) : t = u := by
  unfold tcs tci at h
  simp only [Array.mk.injEq, List.cons.injEq, Value.int.injEq, true_and, and_true] at h
  obtain ⟨a, b, c, d, e, f⟩ := t
  obtain ⟨a', b', c', d', e', f'⟩ := u
  simp only at h
  simp only [Tmt.mk.injEq]
  omega
theorem may_of' {y mo d h mi s : Int} {t : Tmt} (ht : MayT t) (e : tci y mo d h mi s = tcs t) : MayI y mo d h mi s := by
  unfold tcs tci at e
  simp only [Array.mk.injEq, List.cons.injEq, Value.int.injEq, true_and, and_true] at e
  exact ⟨t, ht, e.1, e.2.1, e.2.2.1, e.2.2.2.1, e.2.2.2.2.1, e.2.2.2.2.2⟩
set_option maxHeartbeats 8000000 in
set_option maxRecDepth 100000 in
theorem readCore (Y P0 P2 P4 P6 P8 : Int) (x : BitVec 8) {b r : List (BitVec 8)} {A : Option Addr} {n cc : Nat} {w : World} (hb : Bs w A n cc b)
    (hY : ∀ W, Ext w W → Calls Tryd.prog 53 #[.int .u8 (ub x), .slice A n cc] W fun e w' => ∃ R c, e = .returned (.tuple #[.int .i64 Y, .slice R 11 c]) ∧ Bs w' R 11 c r ∧ Ext W w')
    (e0 : (pr8 (gb r 0) (gb r 1) : Int) = P0) (e2 : (pr8 (gb r 2) (gb r 3) : Int) = P2) (e4 : (pr8 (gb r 4) (gb r 5) : Int) = P4) (e6 : (pr8 (gb r 6) (gb r 7) : Int) = P6) (e8 : (pr8 (gb r 8) (gb r 9) : Int) = P8) :
    Calls Tryd.prog 26 #[.int .u8 (ub x), .slice A n cc] w fun e w' =>
      ((¬ ∃ t, MayT t ∧ tmM t = x ∧ tmB t = b ∧ tci Y P0 P2 P4 P6 P8 = tcs t) ∧ e = .returned (.tuple #[.agg (tci 0 0 0 0 0 0), err 2]) ∧ Ext w w') ∨
      (∃ t, MayT t ∧ tmM t = x ∧ tmB t = b ∧ tci Y P0 P2 P4 P6 P8 = tcs t ∧ e = .returned (.tuple #[.agg (tcs t), .nilIface]) ∧ Ext w w') := by
  have HB := Kp.mk hb
  have HY := Kp.mk hY
  have HR := Kp.mk (Blk.new w tmt (tci 0 0 0 0 0 0))
  clear hb hY
  have E := Kp.mk (And.intro e0 (And.intro e2 (And.intro e4 (And.intro e6 e8))))
  clear e0 e2 e4 e6 e8
  go_enter Tryd.func26, Tryd.ntmps26
  go_wp2_with fail
  refine (HY.out _ (by (repeat (first | assumption | exact Ext.refl _ | apply Ext.drew | apply Ext.drewN | apply Ext.alloc | refine Ext.trans ?_ (by assumption))); first | done | fail)).mono ?_
  rintro e w3 ⟨R, c, rfl, hr, x3⟩
  have hx0 : Ext w w3 := Ext.trans (by (repeat (first | assumption | exact Ext.refl _ | apply Ext.drew | apply Ext.drewN | apply Ext.alloc | refine Ext.trans ?_ (by assumption))); first | done | fail) x3
  have HRr := Kp.mk hr
  obtain ⟨R0, hR0, hD0⟩ := hr.cut 0 (by decide)
  obtain ⟨R2, hR2, hD2⟩ := hr.cut 2 (by decide)
  obtain ⟨R4, hR4, hD4⟩ := hr.cut 4 (by decide)
  obtain ⟨R6, hR6, hD6⟩ := hr.cut 6 (by decide)
  obtain ⟨R8, hR8, hD8⟩ := hr.cut 8 (by decide)
  have hcut0 := run_from (P := Tryd.prog) R 11 c 24 5 Tryd.underlying24 szB 0 0 rfl (by decide)
  rw [hR0] at hcut0
  have hcut2 := run_from (P := Tryd.prog) R 11 c 24 5 Tryd.underlying24 szB 2 2 rfl (by decide)
  rw [hR2] at hcut2
  have hcut4 := run_from (P := Tryd.prog) R 11 c 24 5 Tryd.underlying24 szB 4 4 rfl (by decide)
  rw [hR4] at hcut4
  have hcut6 := run_from (P := Tryd.prog) R 11 c 24 5 Tryd.underlying24 szB 6 6 rfl (by decide)
  rw [hR6] at hcut6
  have hcut8 := run_from (P := Tryd.prog) R 11 c 24 5 Tryd.underlying24 szB 8 8 rfl (by decide)
  rw [hR8] at hcut8
  have hpr0 := fun W (hx : Ext w3 W) => pair_any (hD0.ext hx) (by decide)
  rw [gb_drop, gb_drop, show pr8 (gb r (0 + 0)) (gb r (0 + 1)) = pr8 (gb r 0) (gb r 1) from rfl, E.out.1] at hpr0
  have hpr2 := fun W (hx : Ext w3 W) => pair_any (hD2.ext hx) (by decide)
  rw [gb_drop, gb_drop, show pr8 (gb r (2 + 0)) (gb r (2 + 1)) = pr8 (gb r 2) (gb r 3) from rfl, E.out.2.1] at hpr2
  have hpr4 := fun W (hx : Ext w3 W) => pair_any (hD4.ext hx) (by decide)
  rw [gb_drop, gb_drop, show pr8 (gb r (4 + 0)) (gb r (4 + 1)) = pr8 (gb r 4) (gb r 5) from rfl, E.out.2.2.1] at hpr4
  have hpr6 := fun W (hx : Ext w3 W) => pair_any (hD6.ext hx) (by decide)
  rw [gb_drop, gb_drop, show pr8 (gb r (6 + 0)) (gb r (6 + 1)) = pr8 (gb r 6) (gb r 7) from rfl, E.out.2.2.2.1] at hpr6
  have hpr8 := fun W (hx : Ext w3 W) => pair_any (hD8.ext hx) (by decide)
  rw [gb_drop, gb_drop, show pr8 (gb r (8 + 0)) (gb r (8 + 1)) = pr8 (gb r 8) (gb r 9) from rfl, E.out.2.2.2.2] at hpr8
  go_wp2_with fail
  refine wp_region_held_drew (S := fun w' => Ext w3.drew w') (by kernel_rfl) (Ext.refl _) (fun _ => ?_)
  refine grow_region (ds := dsT) (L := 18) (w0 := w3.drew) (Pr := PrT (fun i => [.int .i64 Y, .slice R 11 c, .slice R0 (11 - 0) (c - 0), .int .i64 P0, .slice R 11 c, .slice R2 (11 - 2) (c - 2), .int .i64 P2, .slice R 11 c, .slice R4 (11 - 4) (c - 4), .int .i64 P4, .slice R 11 c, .slice R6 (11 - 6) (c - 6), .int .i64 P6, .slice R 11 c, .slice R8 (11 - 8) (c - 8), .int .i64 P8, .agg (tci Y P0 P2 P4 P6 P8)].getD i undef) w3.drew.heap.size) (Grs.of (n := 62) (by kernel_rfl) rfl PrT.keep) ?step ?fin 19 _ _ _ (Grw.start (Ext.refl _)) (count_start 18)
  case step =>
      intro i o hi ho a wz hxz hold hdep
      have hxv : Ext w3 wz := (Ext.refl w3).drew.trans hxz
      have hi18 : i = 0 ∨ i = 1 ∨ i = 2 ∨ i = 3 ∨ i = 4 ∨ i = 5 ∨ i = 6 ∨ i = 7 ∨ i = 8 ∨ i = 9 ∨ i = 10 ∨ i = 11 ∨ i = 12 ∨ i = 13 ∨ i = 14 ∨ i = 15 ∨ i = 16 ∨ i = 17 := by omega
      rcases hi18 with rfl | rfl | rfl | rfl | rfl | rfl | rfl | rfl | rfl | rfl | rfl | rfl | rfl | rfl | rfl | rfl | rfl | rfl <;> cases ho
      · exact wp_move 6 _ rfl ((hold 6 (by decide)).trans rfl) ⟨_, rfl, Ext.refl _, ⟨fun _ => rfl, fun e => absurd e (by decide)⟩⟩
      · exact wp_move 7 _ rfl ((hold 7 (by decide)).trans rfl) ⟨_, rfl, Ext.refl _, ⟨fun _ => rfl, fun e => absurd e (by decide)⟩⟩
      · obtain ⟨v, hv, hp⟩ := hdep ⟨1, .data⟩ (by simp) rfl
        obtain rfl : v = .slice R 11 c := hp.1 (by decide)
        exact wp_cut _ 24 0 R 11 c _ rfl hv (hcut0 wz) ⟨_, rfl, Ext.refl _, ⟨fun _ => rfl, fun e => absurd e (by decide)⟩⟩
      · obtain ⟨v, hv, hp⟩ := hdep ⟨2, .data⟩ (by simp) rfl
        obtain rfl : v = .slice R0 (11 - 0) (c - 0) := hp.1 (by decide)
        refine wp_call1 54 _ 25 _ rfl hv (enters_of Tryd.func54 (by kernel_rfl) rfl) ?_
        refine (hpr0 wz hxv).mono ?_
        rintro e w' ⟨rfl, q, rfl⟩
        exact ⟨_, rfl, _, rfl, (Ext.refl wz).drewN q, ⟨fun _ => rfl, fun e => absurd e (by decide)⟩⟩
      · exact wp_move 7 _ rfl ((hold 7 (by decide)).trans rfl) ⟨_, rfl, Ext.refl _, ⟨fun _ => rfl, fun e => absurd e (by decide)⟩⟩
      · obtain ⟨v, hv, hp⟩ := hdep ⟨4, .data⟩ (by simp) rfl
        obtain rfl : v = .slice R 11 c := hp.1 (by decide)
        exact wp_cut _ 27 2 R 11 c _ rfl hv (hcut2 wz) ⟨_, rfl, Ext.refl _, ⟨fun _ => rfl, fun e => absurd e (by decide)⟩⟩
      · obtain ⟨v, hv, hp⟩ := hdep ⟨5, .data⟩ (by simp) rfl
        obtain rfl : v = .slice R2 (11 - 2) (c - 2) := hp.1 (by decide)
        refine wp_call1 54 _ 28 _ rfl hv (enters_of Tryd.func54 (by kernel_rfl) rfl) ?_
        refine (hpr2 wz hxv).mono ?_
        rintro e w' ⟨rfl, q, rfl⟩
        exact ⟨_, rfl, _, rfl, (Ext.refl wz).drewN q, ⟨fun _ => rfl, fun e => absurd e (by decide)⟩⟩
      · exact wp_move 7 _ rfl ((hold 7 (by decide)).trans rfl) ⟨_, rfl, Ext.refl _, ⟨fun _ => rfl, fun e => absurd e (by decide)⟩⟩
      · obtain ⟨v, hv, hp⟩ := hdep ⟨7, .data⟩ (by simp) rfl
        obtain rfl : v = .slice R 11 c := hp.1 (by decide)
        exact wp_cut _ 30 4 R 11 c _ rfl hv (hcut4 wz) ⟨_, rfl, Ext.refl _, ⟨fun _ => rfl, fun e => absurd e (by decide)⟩⟩
      · obtain ⟨v, hv, hp⟩ := hdep ⟨8, .data⟩ (by simp) rfl
        obtain rfl : v = .slice R4 (11 - 4) (c - 4) := hp.1 (by decide)
        refine wp_call1 54 _ 31 _ rfl hv (enters_of Tryd.func54 (by kernel_rfl) rfl) ?_
        refine (hpr4 wz hxv).mono ?_
        rintro e w' ⟨rfl, q, rfl⟩
        exact ⟨_, rfl, _, rfl, (Ext.refl wz).drewN q, ⟨fun _ => rfl, fun e => absurd e (by decide)⟩⟩
      · exact wp_move 7 _ rfl ((hold 7 (by decide)).trans rfl) ⟨_, rfl, Ext.refl _, ⟨fun _ => rfl, fun e => absurd e (by decide)⟩⟩
      · obtain ⟨v, hv, hp⟩ := hdep ⟨10, .data⟩ (by simp) rfl
        obtain rfl : v = .slice R 11 c := hp.1 (by decide)
        exact wp_cut _ 33 6 R 11 c _ rfl hv (hcut6 wz) ⟨_, rfl, Ext.refl _, ⟨fun _ => rfl, fun e => absurd e (by decide)⟩⟩
      · obtain ⟨v, hv, hp⟩ := hdep ⟨11, .data⟩ (by simp) rfl
        obtain rfl : v = .slice R6 (11 - 6) (c - 6) := hp.1 (by decide)
        refine wp_call1 54 _ 34 _ rfl hv (enters_of Tryd.func54 (by kernel_rfl) rfl) ?_
        refine (hpr6 wz hxv).mono ?_
        rintro e w' ⟨rfl, q, rfl⟩
        exact ⟨_, rfl, _, rfl, (Ext.refl wz).drewN q, ⟨fun _ => rfl, fun e => absurd e (by decide)⟩⟩
      · exact wp_move 7 _ rfl ((hold 7 (by decide)).trans rfl) ⟨_, rfl, Ext.refl _, ⟨fun _ => rfl, fun e => absurd e (by decide)⟩⟩
      · obtain ⟨v, hv, hp⟩ := hdep ⟨13, .data⟩ (by simp) rfl
        obtain rfl : v = .slice R 11 c := hp.1 (by decide)
        exact wp_cut _ 36 8 R 11 c _ rfl hv (hcut8 wz) ⟨_, rfl, Ext.refl _, ⟨fun _ => rfl, fun e => absurd e (by decide)⟩⟩
      · obtain ⟨v, hv, hp⟩ := hdep ⟨14, .data⟩ (by simp) rfl
        obtain rfl : v = .slice R8 (11 - 8) (c - 8) := hp.1 (by decide)
        refine wp_call1 54 _ 37 _ rfl hv (enters_of Tryd.func54 (by kernel_rfl) rfl) ?_
        refine (hpr8 wz hxv).mono ?_
        rintro e w' ⟨rfl, q, rfl⟩
        exact ⟨_, rfl, _, rfl, (Ext.refl wz).drewN q, ⟨fun _ => rfl, fun e => absurd e (by decide)⟩⟩
      · obtain ⟨v0, h0, p0⟩ := hdep ⟨0, .data⟩ (by simp) rfl
        obtain ⟨v3, h3, p3⟩ := hdep ⟨3, .data⟩ (by simp) rfl
        obtain ⟨v6, h6, p6⟩ := hdep ⟨6, .data⟩ (by simp) rfl
        obtain ⟨v9, h9, p9⟩ := hdep ⟨9, .data⟩ (by simp) rfl
        obtain ⟨v12, h12, p12⟩ := hdep ⟨12, .data⟩ (by simp) rfl
        obtain ⟨v15, h15, p15⟩ := hdep ⟨15, .data⟩ (by simp) rfl
        obtain rfl : v0 = .int .i64 Y := p0.1 (by decide)
        obtain rfl : v3 = .int .i64 P0 := p3.1 (by decide)
        obtain rfl : v6 = .int .i64 P2 := p6.1 (by decide)
        obtain rfl : v9 = .int .i64 P4 := p9.1 (by decide)
        obtain rfl : v12 = .int .i64 P6 := p12.1 (by decide)
        obtain rfl : v15 = .int .i64 P8 := p15.1 (by decide)
        exact wp_build6 23 26 29 32 35 38 _ _ _ _ _ _ rfl h0 h3 h6 h9 h12 h15 ⟨_, rfl, Ext.refl _, ⟨fun _ => rfl, fun e => absurd e (by decide)⟩⟩
      · exact wp_alloc6 rfl ⟨_, rfl, (Ext.refl wz).alloc _, ⟨fun e => absurd rfl e, fun _ => ⟨_, rfl, hxz.size, Blk.new wz _ _⟩⟩⟩
  case fin =>
      intro o ho a wz hxz htm hdf hold hpr
      cases ho
      obtain ⟨v16, u16, p16⟩ := hpr 16 (by decide)
      obtain rfl : v16 = .agg (tci Y P0 P2 P4 P6 P8) := p16.1 (by decide)
      obtain ⟨v17, u17, p17⟩ := hpr 17 (by decide)
      obtain ⟨g, rfl, hg, hbk⟩ := p17.2 rfl
      have ev8 : a.eval (.tmp 8) = .pointer (some ⟨g, 0, none⟩) := by have e : a.tmps[8]? = _ := u17; simp [Act.eval, e]
      have ev39 : a.eval (.tmp 39) = .agg (tci Y P0 P2 P4 P6 P8) := by have e : a.tmps[39]? = _ := u16; simp [Act.eval, e]
      refine wp_store_row tmt _ _ rfl g (tci Y P0 P2 P4 P6 P8) ev8 ev39 tmt _ hbk.h szTm rfl (by simp [tci, Value.oneCell']) ?_
      refine ⟨hxz.setRow hg _, ?_⟩
      have ea := act_puts htm hdf hold (fun i j hi hj e => dsT_inj i hi j hj e)
      have e17 : a.tmps.getD (dsT 17) undef = .pointer (some ⟨g, 0, none⟩) := by rw [Array.getD_eq_getD_getElem?, u17]; rfl
      have HG6 := Kp.mk (hbk.row (tci Y P0 P2 P4 P6 P8))
      have X36 := Kp.mk (Ext.setRow ((Ext.refl w3).drew.trans hxz) (Nat.le_trans ((Ext.refl w3).drew).size hg) (tci Y P0 P2 P4 P6 P8))
      generalize hvv : (fun i => a.tmps.getD (dsT i) undef) = vv at ea
      have e17b : vv 17 = .pointer (some ⟨g, 0, none⟩) := by rw [← hvv]; exact e17
      clear hvv e17 u16 u17 ev8 ev39 htm hdf hold hpr hbk p16 p17
      subst ea
      generalize wz.setRow g (tci Y P0 P2 P4 P6 P8) = w6 at *
      clear hxz hg
      simp only [putsOf, dsT, List.getD_cons_zero, List.getD_cons_succ, Act.put, List.setIfInBounds_toArray, List.set_cons_zero, List.set_cons_succ, e17b]
      generalize vv 0 = y0
      generalize vv 1 = y1
      generalize vv 2 = y2
      generalize vv 3 = y3
      generalize vv 4 = y4
      generalize vv 5 = y5
      generalize vv 6 = y6
      generalize vv 7 = y7
      generalize vv 8 = y8
      generalize vv 9 = y9
      generalize vv 10 = y10
      generalize vv 11 = y11
      generalize vv 12 = y12
      generalize vv 13 = y13
      generalize vv 14 = y14
      generalize vv 15 = y15
      generalize vv 16 = y16
      clear e17b hcut0 hcut2 hcut4 hcut6 hcut8 hpr0 hpr2 hpr4 hpr6 hpr8 hR0 hR2 hR4 hR6 hR8 hD0 hD2 hD4 hD6 hD8 hr
      have X6 := Kp.mk (hx0.trans X36.out)
      have HR6 := Kp.mk (HR.out.ext (show Ext (w.alloc (.cells (tci 0 0 0 0 0 0) tmt)) w6 from Ext.trans x3 X36.out))
      clear x3 hx0 X36 HR
      obtain ⟨c0, k1, k2, k3, k4, k5⟩ := box6 HG6.out (Ext.refl _)
      by_cases hM : MayI Y P0 P2 P4 P6 P8
      · obtain ⟨t, ht, q1, q2, q3, q4, q5, q6⟩ := hM
        have HC := Kp.mk (fun W => Time_ok t ht W)
        have HQ := Kp.mk (show tci Y P0 P2 P4 P6 P8 = tcs t by unfold tcs; rw [q1, q2, q3, q4, q5, q6])
        have HT := Kp.mk ht
        have HCC := HC.out
        rw [← HQ.out] at HCC
        have HC := Kp.mk HCC
        clear HCC q1 q2 q3 q4 q5 q6 ht
        unfold tci at *
        go_wp2_with fail
        refine (HC.out _).mono ?_
        rintro e w7 ⟨A7, c7, rfl, ho7, x7⟩
        have X7 := Kp.mk (X6.out.trans x7)
        have HR7 := Kp.mk (HR6.out.ext x7)
        have HG7 := Kp.mk (HG6.out.ext x7)
        have hEq := Equal_any ho7.bs (HB.out.ext X7.out)
        clear x7 c0 k1 k2 k3 k4 k5
        by_cases hm : tmM t = x
        · have u1 : ub (tmM t) = ub x := by rw [hm]
          rw [u1]
          by_cases he : tmB t = b
          · have e1 : (tmB t == b) = true := by rw [he, beq_self_eq_true]
            rw [e1] at hEq
            have HM := Kp.mk (And.intro hm he)
            clear hm he e1 u1 ho7
            generalize (tmB t).length = M at *
            obtain ⟨c0, k1, k2, k3, k4, k5⟩ := box6 HG7.out (Ext.refl _)
            go_wp2_with (first | (go_at_call 50; refine (hEq).mono ?_; rintro e w8 ⟨rfl, hw⟩; obtain rfl : w7 = w8 := hw.symm) | ((with_reducible refine at_store 4 61 ?_); refine wpList_store_row rfl tmt _ _ rfl w.heap.size #[.int .i64 Y, .int .i64 P0, .int .i64 P2, .int .i64 P4, .int .i64 P6, .int .i64 P8] rfl rfl tmt _ HR7.out.h szTm rfl (by simp [Value.oneCell']) ?_) | fail)
            have hx := X7.out.setRow (Nat.le_refl _) #[.int .i64 Y, .int .i64 P0, .int .i64 P2, .int .i64 P4, .int .i64 P6, .int .i64 P8]
            refine bodyPost_ret (v := .tuple #[.agg #[.int .i64 Y, .int .i64 P0, .int .i64 P2, .int .i64 P4, .int .i64 P6, .int .i64 P8], .nilIface]) ?_ rfl ?_
            · exact results_cell_row2 rfl _ _ w.heap.size tmt _ _ _ rfl rfl (HR7.out.row _) Tryd.underlying45 rfl szTm
            exact .inr ⟨t, HT.out, HM.out.1, HM.out.2, HQ.out, by rw [HQ.out], hx⟩
          · have e1 : (tmB t == b) = false := beq_eq_false_iff_ne.2 he
            rw [e1] at hEq
            have HM := Kp.mk he
            clear hm he e1 u1 ho7
            generalize (tmB t).length = M at *
            go_wp2_with (first | (go_at_call 50; refine (hEq).mono ?_; rintro e w8 ⟨rfl, hw⟩; obtain rfl : w7 = w8 := hw.symm) | ((with_reducible refine at_store 4 59 ?_); refine wpList_store_row rfl tmt _ _ rfl w.heap.size #[.int .i64 0, .int .i64 0, .int .i64 0, .int .i64 0, .int .i64 0, .int .i64 0] rfl rfl tmt _ HR7.out.h szTm rfl (by simp [Value.oneCell']) ?_) | fail)
            have hx := X7.out.setRow (Nat.le_refl _) #[.int .i64 0, .int .i64 0, .int .i64 0, .int .i64 0, .int .i64 0, .int .i64 0]
            refine bodyPost_ret (v := .tuple #[.agg #[.int .i64 0, .int .i64 0, .int .i64 0, .int .i64 0, .int .i64 0, .int .i64 0], err 2]) ?_ rfl ?_
            · exact results_cell_row2 rfl _ _ w.heap.size tmt _ _ _ rfl rfl (HR7.out.row _) Tryd.underlying45 rfl szTm
            exact .inl ⟨fun ⟨t2, _, _, b2, q2⟩ => HM.out (tcs_inj (HQ.out.symm.trans q2) ▸ b2), rfl, hx⟩
        · have e1 := (ub_neq (x := tmM t) hm (ub x) rfl).1
          have e2 : (ub (tmM t) != ub x) = true := bne_iff_ne.2 (ub_neq (x := tmM t) hm (ub x) rfl).2
          have HM := Kp.mk hm
          clear hm ho7 hEq
          generalize ub (tmM t) = um at *
          generalize (tmB t).length = M at *
          go_wp2_with (first | ((with_reducible refine at_store 4 59 ?_); refine wpList_store_row rfl tmt _ _ rfl w.heap.size #[.int .i64 0, .int .i64 0, .int .i64 0, .int .i64 0, .int .i64 0, .int .i64 0] rfl rfl tmt _ HR7.out.h szTm rfl (by simp [Value.oneCell']) ?_) | fail)
          have hx := X7.out.setRow (Nat.le_refl _) #[.int .i64 0, .int .i64 0, .int .i64 0, .int .i64 0, .int .i64 0, .int .i64 0]
          refine bodyPost_ret (v := .tuple #[.agg #[.int .i64 0, .int .i64 0, .int .i64 0, .int .i64 0, .int .i64 0, .int .i64 0], err 2]) ?_ rfl ?_
          · exact results_cell_row2 rfl _ _ w.heap.size tmt _ _ _ rfl rfl (HR7.out.row _) Tryd.underlying45 rfl szTm
          exact .inl ⟨fun ⟨t2, _, m2, _, q2⟩ => HM.out (tcs_inj (HQ.out.symm.trans q2) ▸ m2), rfl, hx⟩
      · have HM := Kp.mk hM
        have HC := Kp.mk (fun W => Time_no Y P0 P2 P4 P6 P8 W hM)
        clear hM
        unfold tci at *
        go_wp2_with fail
        refine (HC.out _).mono ?_
        rintro e w7 ⟨rfl, x7⟩
        have X7 := Kp.mk (X6.out.trans x7)
        have HR7 := Kp.mk (HR6.out.ext x7)
        clear x7 c0 k1 k2 k3 k4 k5
        go_wp2_with (first | ((with_reducible refine at_store 4 59 ?_); refine wpList_store_row rfl tmt _ _ rfl w.heap.size #[.int .i64 0, .int .i64 0, .int .i64 0, .int .i64 0, .int .i64 0, .int .i64 0] rfl rfl tmt _ HR7.out.h szTm rfl (by simp [Value.oneCell']) ?_) | fail)
        have hx := X7.out.setRow (Nat.le_refl _) #[.int .i64 0, .int .i64 0, .int .i64 0, .int .i64 0, .int .i64 0, .int .i64 0]
        refine bodyPost_ret (v := .tuple #[.agg #[.int .i64 0, .int .i64 0, .int .i64 0, .int .i64 0, .int .i64 0, .int .i64 0], err 2]) ?_ rfl ?_
        · exact results_cell_row2 rfl _ _ w.heap.size tmt _ _ _ rfl rfl (HR7.out.row _) Tryd.underlying45 rfl szTm
        exact .inl ⟨fun ⟨t2, h2, _, _, q2⟩ => HM.out (may_of' h2 q2), rfl, hx⟩
end Go.Proofs.YtfipgmjaabggjaaDoor
