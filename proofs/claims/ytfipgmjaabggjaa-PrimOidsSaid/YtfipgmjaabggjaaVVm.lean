/-
  The laws' sameArcs; PrimOids.
-/
import Derived.Test.YtfipgmjaabggjaaVVg
import Derived.Test.YtfipgmjaabggjaaVKl
namespace Go.Proofs.Ytfipgmjaabggjaa
open Go Go.RowKit
set_option maxRecDepth 4000

set_option maxHeartbeats 2000000 in
theorem sameArcs_any {l : List Nat} {A B : Option Addr} {n c d : Nat} {w : World} (h1 : Rd vL w A n c l) (h2 : Rd vL w B n d l) (hn : n ≤ 100000) : Calls Try.prog 20 #[.slice A n c, .slice B n d] w fun e w' => e = .returned (.bool true) ∧ Ext w w' := by
  have HA := Kp.mk h1
  have HB := Kp.mk h2
  clear h1 h2
  go_enter Try.func20, Try.ntmps20
  go_wp2_with fail
  go_loopw [5] (fun i wr => ∃ j : Nat, j ≤ n ∧ i = .int .i64 (j : Int) ∧ Ext w wr) (fun i _ => n - (intOf i).toNat)
  case atStart => exact ⟨0, Nat.zero_le _, rfl, Ext.refl _⟩
  case round =>
    obtain ⟨j, hj, rfl, hx⟩ := hrel
    by_cases hlt : j < n
    · have b1 : (j : Int) < (n : Int) := by omega
      obtain ⟨g, o, rfl⟩ := HA.out.some_ (by omega)
      obtain ⟨g2, o2, rfl⟩ := HB.out.some_ (by omega)
      have c1 := (HA.out.ext hx).dig j hlt
      have c2 := (HB.out.ext hx).dig j hlt
      unfold vL at c1 c2
      generalize dg l j = x at *
      have s8 : IntKind.i64.wrap ((j : Int) + 1) = (j : Int) + 1 := by rw [IntKind.wrap_i64]; omega
      have HX := Kp.mk hx
      clear hx
      go_wp2_with fail
      go_quiet (fail)
      go_wp2_with fail
      go_roundw
      case rel => exact ⟨j + 1, hlt, by go_num, HX.out.trans (by (repeat (first | assumption | exact Ext.refl _ | apply Ext.drew | apply Ext.drewN | apply Ext.alloc | refine Ext.trans ?_ (by assumption))); first | done | fail)⟩
      case measure => simp [intOf]; omega
    · obtain rfl : j = n := by omega
      have b1 : ¬ (j : Int) < (j : Int) := by omega
      go_wp2_with fail
      go_ret
      exact ⟨rfl, hx.trans (by (repeat (first | assumption | exact Ext.refl _ | apply Ext.drew | apply Ext.drewN | apply Ext.alloc | refine Ext.trans ?_ (by assumption))); first | done | fail)⟩
set_option maxHeartbeats 8000000 in
theorem PrimOids_any {l : List Nat} {A : Option Addr} {n c : Nat} {w : World} (h : Rd vL w A n c l) (hd : Dg 4294967296 l) {b : List (BitVec 8)} {B : Option Addr} {m d : Nat} (hb : Bs w B m d b) :
    Calls Try.prog 4 #[.slice A n c, .slice B m d] w fun e w' => e = .returned (.bool true) ∧ Below w.heap.size w w' := by
  have e11 := code_neq 1 1
  have e22 := code_eq 2 2
  have HA := Kp.mk h
  have HD := Kp.mk hd
  have HB := Kp.mk hb
  clear h hd hb
  by_cases h50 : 50 < n
  · have b1 : decide ((50 : Int) < (n : Int)) = true := decide_eq_true (by omega)
    clear h50
    go_enter Try.func4, Try.ntmps4
    go_wp2_with fail
    refine (up8 _).mono ?_
    rintro e w1 ⟨rfl, x1⟩
    have X1 := Kp.mk x1
    clear x1
    go_wp2_with fail
    go_ret
    exact ⟨rfl, X1.out.b⟩
  have b1 : decide ((50 : Int) < (n : Int)) = false := decide_eq_false (by omega)
  by_cases h200 : 200 < m
  · have b2 : decide ((200 : Int) < (m : Int)) = true := decide_eq_true (by omega)
    clear h50 h200
    go_enter Try.func4, Try.ntmps4
    go_wp2_with fail
    refine (up8 _).mono ?_
    rintro e w1 ⟨rfl, x1⟩
    have X1 := Kp.mk x1
    clear x1
    go_wp2_with fail
    go_ret
    exact ⟨rfl, X1.out.b⟩
  have b2 : decide ((200 : Int) < (m : Int)) = false := decide_eq_false (by omega)
  clear h50 h200
  go_enter Try.func4, Try.ntmps4
  go_wp2_with fail
  refine (up8 _).mono ?_
  rintro e w1 ⟨rfl, x1⟩
  have X1 := Kp.mk x1
  clear x1
  go_wp2_with fail
  refine (Oid_any (HA.out.ext X1.out) HD.out).mono ?_
  rintro e w2 (⟨hno, rfl, x2⟩ | ⟨hP, A2, c2, rfl, hs2, ho2, x2⟩)
  · have X2 := Kp.mk (X1.out.trans x2)
    have hK : oidK l = false := by
      cases hq : oidK l with
      | false => rfl
      | true => exact absurd ((oidK_iff HD.out).1 hq) hno
    clear x2 hno
    go_wp2_with fail
    refine (refOid_any (HA.out.ext X2.out)).mono ?_
    rintro e w3 ⟨rfl, hw⟩
    obtain rfl : w2 = w3 := hw.symm
    rw [hK]
    clear hK
    go_wp2_with fail
    go_quiet (fail)
    have X3 := Kp.mk (X2.out.trans (show Ext w2 (w2.drewN nq) from (by (repeat (first | assumption | exact Ext.refl _ | apply Ext.drew | apply Ext.drewN | apply Ext.alloc | refine Ext.trans ?_ (by assumption))); first | done | fail)))
    generalize w2.drewN nq = w3 at *
    go_wp2_with fail
    refine (ReadOid_any (HB.out.ext X3.out)).mono ?_
    rintro e w8 (⟨hn1, rfl, x8⟩ | ⟨hy1, hy2, A9, c9, rfl, ho9, x8⟩)
    · have X8 := Kp.mk (X3.out.trans x8)
      have HN := Kp.mk hn1
      clear x8 hn1
      go_wp2_with fail
      refine (refReadOid_any (HB.out.ext X8.out)).mono ?_
      rintro e w9 (⟨_, rfl, x9⟩ | ⟨q1, q2, _⟩)
      · have X9 := Kp.mk (X8.out.trans x9)
        clear x9
        go_wp2_with fail
        go_ret
        exact ⟨rfl, X9.out.b⟩
      · exact absurd ⟨q1, q2⟩ HN.out
    · have X8 := Kp.mk (X3.out.trans x8)
      have HY := Kp.mk (And.intro hy1 hy2)
      have HR := Kp.mk ho9.rd
      have hql : (oidU (pmO b)).length ≤ 16 := by obtain ⟨_, _, _, _, h16, _⟩ := hy1; exact h16
      clear x8 hy1 hy2 ho9
      go_wp2_with fail
      refine (refReadOid_any (HB.out.ext X8.out)).mono ?_
      rintro e w9 (⟨q1, _, _⟩ | ⟨_, _, A10, c10, rfl, hr10, x9⟩)
      · exact absurd HY.out q1
      · have X9 := Kp.mk (X8.out.trans x9)
        have HR1 := Kp.mk (HR.out.ext x9)
        have HR2 := Kp.mk hr10
        clear x9 hr10
        generalize oidU (pmO b) = Q at *
        generalize Q.length = NQ at *
        go_wp2_with fail
        refine (sameArcs_any HR1.out HR2.out (by omega)).mono ?_
        rintro e w11 ⟨rfl, x11⟩
        have X11 := Kp.mk (X9.out.trans x11)
        clear x11
        go_wp2_with fail
        go_ret
        exact ⟨rfl, X11.out.b⟩
  · have X2 := Kp.mk (X1.out.trans x2)
    have HP := Kp.mk hP
    have HS := Kp.mk hs2
    have hK : oidK l = true := (oidK_iff HD.out).2 hP
    clear x2 ho2 hs2 hP
    generalize (oidB l).length = N2 at *
    go_wp2_with fail
    refine (refOid_any (HA.out.ext X2.out)).mono ?_
    rintro e w3 ⟨rfl, hw⟩
    obtain rfl : w2 = w3 := hw.symm
    rw [hK]
    clear hK
    go_wp2_with fail
    refine wp_region_held_drew (S := fun w' => Ext w2 w') (by kernel_rfl) (Ext.refl w2).drew (fun hHeld => ?_)
    have hc1 := fun (w' : World) (hx : Ext w2 w') => (HS.out.ext hx).str (Ext.refl _)
    refine wpAnyH_take (i := 0) (oi := ⟨some 30, _, _, _, _, _⟩) (v := ?_) rfl (by kernel_rfl) (by kernel_rfl) (by kernel_rfl) (fun _ _ _ h => h) (Or.inl ⟨by rfl, ?_⟩) (by assumption) ?_
    rotate_left
    · (intro w hSw; (try dsimp only at hSw); go_simp; try with_reducible rfl)
    try simp only [Act.put, List.setIfInBounds_toArray, List.set_cons_zero, List.set_cons_succ]
    refine wpAnyH_take (i := 1) (oi := ⟨some 31, _, _, _, _, _⟩) (v := ?_) rfl (by kernel_rfl) (by kernel_rfl) (by kernel_rfl) (fun _ _ _ h => h) (Or.inl ⟨by rfl, ?_⟩) (by assumption) ?_
    rotate_left
    · (intro w hSw; (try dsimp only at hSw); go_simp; try with_reducible rfl)
    try simp only [Act.put, List.setIfInBounds_toArray, List.set_cons_zero, List.set_cons_succ]
    refine wpAnyH_take (i := 2) (oi := ⟨some 32, _, _, _, _, _⟩) (v := ?_) rfl (by kernel_rfl) (by kernel_rfl) (by kernel_rfl) (fun _ _ _ h => h) (Or.inl ⟨by rfl, ?_⟩) (by assumption) ?_
    rotate_left
    · (intro w hSw; (try dsimp only at hSw); go_simp; try with_reducible rfl)
    try simp only [Act.put, List.setIfInBounds_toArray, List.set_cons_zero, List.set_cons_succ]
    refine wpAnyH_take (i := 3) (oi := ⟨some 33, _, _, _, _, _⟩) (v := undef) rfl (by kernel_rfl) (by kernel_rfl) (by kernel_rfl) (fun _ _ _ h => h) (Or.inr ⟨by rfl, rfl⟩) (by assumption) ?_
    try simp only [Act.put, List.setIfInBounds_toArray, List.set_cons_zero, List.set_cons_succ]
    refine wpAnyH_take (i := 4) (oi := ⟨some 34, _, _, _, _, _⟩) (v := undef) rfl (by kernel_rfl) (by kernel_rfl) (by kernel_rfl) (fun _ _ _ h => h) (Or.inr ⟨by rfl, rfl⟩) (by assumption) ?_
    try simp only [Act.put, List.setIfInBounds_toArray, List.set_cons_zero, List.set_cons_succ]
    refine wpAnyH_take (i := 5) (oi := ⟨some 35, _, _, _, _, _⟩) (v := undef) rfl (by kernel_rfl) (by kernel_rfl) (by kernel_rfl) (fun _ _ _ h => h) (Or.inr ⟨by rfl, rfl⟩) (by assumption) ?_
    try simp only [Act.put, List.setIfInBounds_toArray, List.set_cons_zero, List.set_cons_succ]
    refine wpAnyH_take (i := 6) (oi := ⟨some 36, _, _, _, _, _⟩) (v := undef) rfl (by kernel_rfl) (by kernel_rfl) (by kernel_rfl) (fun _ _ _ h => h) (Or.inr ⟨by rfl, rfl⟩) (by assumption) ?_
    try simp only [Act.put, List.setIfInBounds_toArray, List.set_cons_zero, List.set_cons_succ]
    refine wpAnyH_take (i := 7) (oi := ⟨some 37, _, _, _, _, _⟩) (v := undef) rfl (by kernel_rfl) (by kernel_rfl) (by kernel_rfl) (fun _ _ _ h => h) (Or.inr ⟨by rfl, rfl⟩) (by assumption) ?_
    try simp only [Act.put, List.setIfInBounds_toArray, List.set_cons_zero, List.set_cons_succ]
    refine wpAnyH_take (i := 8) (oi := ⟨some 38, _, _, _, _, _⟩) (v := undef) rfl (by kernel_rfl) (by kernel_rfl) (by kernel_rfl) (fun _ _ _ h => h) (Or.inr ⟨by rfl, rfl⟩) (by assumption) ?_
    try simp only [Act.put, List.setIfInBounds_toArray, List.set_cons_zero, List.set_cons_succ]
    refine wpAnyH_take (i := 9) (oi := ⟨some 39, _, _, _, _, _⟩) (v := undef) rfl (by kernel_rfl) (by kernel_rfl) (by kernel_rfl) (fun _ _ _ h => h) (Or.inr ⟨by rfl, rfl⟩) (by assumption) ?_
    try simp only [Act.put, List.setIfInBounds_toArray, List.set_cons_zero, List.set_cons_succ]
    refine wpAnyH_take (i := 10) (oi := ⟨some 40, _, _, _, _, _⟩) (v := undef) rfl (by kernel_rfl) (by kernel_rfl) (by kernel_rfl) (fun _ _ _ h => h) (Or.inr ⟨by rfl, rfl⟩) (by assumption) ?_
    try simp only [Act.put, List.setIfInBounds_toArray, List.set_cons_zero, List.set_cons_succ]
    refine wpAnyH_take (i := 11) (oi := ⟨some 41, _, _, _, _, _⟩) (v := ?_) rfl (by kernel_rfl) (by kernel_rfl) (by kernel_rfl) (fun _ _ _ h => h) (Or.inl ⟨by rfl, ?_⟩) (by assumption) ?_
    rotate_left
    · (intro w hSw; (try dsimp only at hSw); go_simp; try with_reducible rfl)
    try simp only [Act.put, List.setIfInBounds_toArray, List.set_cons_zero, List.set_cons_succ]
    refine wpAnyH_take (i := 12) (oi := ⟨some 42, _, _, _, _, _⟩) (v := ?_) rfl (by kernel_rfl) (by kernel_rfl) (by kernel_rfl) (fun _ _ _ h => h) (Or.inl ⟨by rfl, ?_⟩) (by assumption) ?_
    rotate_left
    · (intro w hSw; (try dsimp only at hSw); go_simp; try with_reducible rfl)
    try simp only [Act.put, List.setIfInBounds_toArray, List.set_cons_zero, List.set_cons_succ]
    refine wpAnyH_take (i := 13) (oi := ⟨some 43, _, _, _, _, _⟩) (v := ?_) rfl (by kernel_rfl) (by kernel_rfl) (by kernel_rfl) (fun _ _ _ h => h) (Or.inl ⟨by rfl, ?_⟩) (by assumption) ?_
    rotate_left
    · (intro w hSw; (try dsimp only at hSw); go_simp; try with_reducible rfl)
    try simp only [Act.put, List.setIfInBounds_toArray, List.set_cons_zero, List.set_cons_succ]
    refine wpAnyH_take (i := 14) (oi := ⟨some 44, _, _, _, _, _⟩) (v := ?_) rfl (by kernel_rfl) (by kernel_rfl) (by kernel_rfl) (fun _ _ _ h => h) (Or.inl ⟨by rfl, ?_⟩) (by assumption) ?_
    rotate_left
    · (intro w hSw; (try dsimp only at hSw); go_simp; try with_reducible rfl)
    try simp only [Act.put, List.setIfInBounds_toArray, List.set_cons_zero, List.set_cons_succ]
    refine wpAnyH_take (i := 15) (oi := ⟨some 45, _, _, _, _, _⟩) (v := ?_) rfl (by kernel_rfl) (by kernel_rfl) (by kernel_rfl) (fun _ _ _ h => h) (Or.inl ⟨by rfl, ?_⟩) (by assumption) ?_
    rotate_left
    · (intro w hSw; (try dsimp only at hSw); go_simp; try with_reducible rfl)
    try simp only [Act.put, List.setIfInBounds_toArray, List.set_cons_zero, List.set_cons_succ]
    refine wpAnyH_take (i := 16) (oi := ⟨some 46, _, _, _, _, _⟩) (v := ?_) rfl (by kernel_rfl) (by kernel_rfl) (by kernel_rfl) (fun _ _ _ h => h) (Or.inl ⟨by rfl, ?_⟩) (by assumption) ?_
    rotate_left
    · (intro w hSw; (try dsimp only at hSw); go_simp; try with_reducible rfl)
    try simp only [Act.put, List.setIfInBounds_toArray, List.set_cons_zero, List.set_cons_succ]
    refine wpAnyH_take (i := 17) (oi := ⟨some 47, _, _, _, _, _⟩) (v := ?_) rfl (by kernel_rfl) (by kernel_rfl) (by kernel_rfl) (fun _ _ _ h => h) (Or.inl ⟨by rfl, ?_⟩) (by assumption) ?_
    rotate_left
    · (intro w hSw; (try dsimp only at hSw); go_simp; try with_reducible rfl)
    try simp only [Act.put, List.setIfInBounds_toArray, List.set_cons_zero, List.set_cons_succ]
    refine wpAnyH_take (i := 18) (oi := ⟨some 48, _, _, _, _, _⟩) (v := ?_) rfl (by kernel_rfl) (by kernel_rfl) (by kernel_rfl) (fun _ _ _ h => h) (Or.inl ⟨by rfl, ?_⟩) (by assumption) ?_
    rotate_left
    · (intro w hSw; (try dsimp only at hSw); go_simp; try with_reducible rfl)
    try simp only [Act.put, List.setIfInBounds_toArray, List.set_cons_zero, List.set_cons_succ]
    refine wpAnyH_take (i := 19) (oi := ⟨some 49, _, _, _, _, _⟩) (v := ?_) rfl (by kernel_rfl) (by kernel_rfl) (by kernel_rfl) (fun _ _ _ h => h) (Or.inl ⟨by rfl, ?_⟩) (by assumption) ?_
    rotate_left
    · (intro w hSw; (try dsimp only at hSw); go_simp; try with_reducible rfl)
    try simp only [Act.put, List.setIfInBounds_toArray, List.set_cons_zero, List.set_cons_succ]
    refine wpAnyH_take (i := 20) (oi := ⟨some 50, _, _, _, _, _⟩) (v := ?_) rfl (by kernel_rfl) (by kernel_rfl) (by kernel_rfl) (fun _ _ _ h => h) (Or.inl ⟨by rfl, ?_⟩) (by assumption) ?_
    rotate_left
    · (intro w hSw; (try dsimp only at hSw); go_simp; try with_reducible rfl)
    try simp only [Act.put, List.setIfInBounds_toArray, List.set_cons_zero, List.set_cons_succ]
    refine next_one 21 (by kernel_rfl) rfl (by rfl) fun K' HK' => ?_
    go_simp
    refine (OidBody_any ((HA.out.ext X2.out).ext (by (repeat (first | assumption | exact Ext.refl _ | apply Ext.drew | apply Ext.drewN | apply Ext.alloc | refine Ext.trans ?_ (by assumption))); first | done | fail)) HP.out).mono ?_
    rintro e w7 ⟨A8, c8, rfl, hs8, ho8, hx8⟩
    have X7 := Kp.mk (X2.out.trans (show Ext w2 w7 from (by (repeat (first | assumption | exact Ext.refl _ | apply Ext.drew | apply Ext.drewN | apply Ext.alloc | refine Ext.trans ?_ (by assumption))); first | done | fail)))
    have hS2 := Ext.trans hHeld hx8
    refine held_go HK' hS2 (fun _ => ?_)
    clear HK'
    refine held_more (S' := fun w' => Ext w7 w') (fun _ h => Ext.trans hS2 h) _ _ _ _ ?_
    clear hHeld hS2
    have hHeld : Ext w7 w7 := Ext.refl _
    try simp only [Act.put, List.setIfInBounds_toArray, List.set_cons_zero, List.set_cons_succ]
    have hc2 := fun (w' : World) (hx : Ext w7 w') => (hs8.ext hx).str (Ext.refl _)
    clear ho8
    generalize (oidB l).length = N8 at *
    refine wpAnyH_take (i := 22) (oi := ⟨some 52, _, _, _, _, _⟩) (v := ?_) rfl (by kernel_rfl) (by kernel_rfl) (by kernel_rfl) (fun _ _ _ h => h) (Or.inl ⟨by rfl, ?_⟩) (by assumption) ?_
    rotate_left
    · (intro w hSw; (try dsimp only at hSw); go_simp; try with_reducible rfl)
    try simp only [Act.put, List.setIfInBounds_toArray, List.set_cons_zero, List.set_cons_succ]
    refine wpAnyH_take (i := 23) (oi := ⟨some 53, _, _, _, _, _⟩) (v := ?_) rfl (by kernel_rfl) (by kernel_rfl) (by kernel_rfl) (fun _ _ _ h => h) (Or.inl ⟨by rfl, ?_⟩) (by assumption) ?_
    rotate_left
    · (intro w hSw; (try dsimp only at hSw); go_simp; try with_reducible rfl)
    try simp only [Act.put, List.setIfInBounds_toArray, List.set_cons_zero, List.set_cons_succ]
    refine wpAnyH_take (i := 24) (oi := ⟨some 54, _, _, _, _, _⟩) (v := ?_) rfl (by kernel_rfl) (by kernel_rfl) (by kernel_rfl) (fun _ _ _ h => h) (Or.inl ⟨by rfl, ?_⟩) (by assumption) ?_
    rotate_left
    · (intro w hSw; (try dsimp only at hSw); go_simp; try with_reducible rfl)
    try simp only [Act.put, List.setIfInBounds_toArray, List.set_cons_zero, List.set_cons_succ]
    refine wpAnyH_take (i := 25) (oi := ⟨some 55, _, _, _, _, _⟩) (v := ?_) rfl (by kernel_rfl) (by kernel_rfl) (by kernel_rfl) (fun _ _ _ h => h) (Or.inl ⟨by rfl, ?_⟩) (by assumption) ?_
    rotate_left
    · (intro w hSw; (try dsimp only at hSw); go_simp; try with_reducible rfl)
    try simp only [Act.put, List.setIfInBounds_toArray, List.set_cons_zero, List.set_cons_succ]
    refine wpAnyH_take (i := 26) (oi := ⟨some 56, _, _, _, _, _⟩) (v := ?_) rfl (by kernel_rfl) (by kernel_rfl) (by kernel_rfl) (fun _ _ _ h => h) (Or.inl ⟨by rfl, ?_⟩) (by assumption) ?_
    rotate_left
    · (intro w hSw; (try dsimp only at hSw); go_simp; try with_reducible rfl)
    try simp only [Act.put, List.setIfInBounds_toArray, List.set_cons_zero, List.set_cons_succ]
    refine wpAnyH_done (by kernel_rfl) ?_ _
    clear hs8 hx8 hc1 hc2
    go_wp2_with fail
    refine (ReadOid_any (HB.out.ext X7.out)).mono ?_
    rintro e w8 (⟨hn1, rfl, x8⟩ | ⟨hy1, hy2, A9, c9, rfl, ho9, x8⟩)
    · have X8 := Kp.mk (X7.out.trans x8)
      have HN := Kp.mk hn1
      clear x8 hn1
      go_wp2_with fail
      refine (refReadOid_any (HB.out.ext X8.out)).mono ?_
      rintro e w9 (⟨_, rfl, x9⟩ | ⟨q1, q2, _⟩)
      · have X9 := Kp.mk (X8.out.trans x9)
        clear x9
        go_wp2_with fail
        go_ret
        exact ⟨rfl, X9.out.b⟩
      · exact absurd ⟨q1, q2⟩ HN.out
    · have X8 := Kp.mk (X7.out.trans x8)
      have HY := Kp.mk (And.intro hy1 hy2)
      have HR := Kp.mk ho9.rd
      have hql : (oidU (pmO b)).length ≤ 16 := by obtain ⟨_, _, _, _, h16, _⟩ := hy1; exact h16
      clear x8 hy1 hy2 ho9
      go_wp2_with fail
      refine (refReadOid_any (HB.out.ext X8.out)).mono ?_
      rintro e w9 (⟨q1, _, _⟩ | ⟨_, _, A10, c10, rfl, hr10, x9⟩)
      · exact absurd HY.out q1
      · have X9 := Kp.mk (X8.out.trans x9)
        have HR1 := Kp.mk (HR.out.ext x9)
        have HR2 := Kp.mk hr10
        clear x9 hr10
        generalize oidU (pmO b) = Q at *
        generalize Q.length = NQ at *
        go_wp2_with fail
        refine (sameArcs_any HR1.out HR2.out (by omega)).mono ?_
        rintro e w11 ⟨rfl, x11⟩
        have X11 := Kp.mk (X9.out.trans x11)
        clear x11
        go_wp2_with fail
        go_ret
        exact ⟨rfl, X11.out.b⟩
end Go.Proofs.Ytfipgmjaabggjaa
