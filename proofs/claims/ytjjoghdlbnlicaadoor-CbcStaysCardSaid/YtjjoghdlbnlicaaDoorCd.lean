/-
  The reference's Fill and Empty; the laws' cut.
-/
import Derived.Test.YtjjoghdlbnlicaaDoorCc
import Derived.Test.YtjjoghdlbnlicaaDoorEb
namespace Go.Proofs.YtjjoghdlbnlicaaDoor
open Go Go.RowKit

set_option maxHeartbeats 1000000 in
theorem cut4_any (A : Option Addr) (n c m : Nat) (M : Int) (hM : M = (m : Int)) (hc : n ≤ c) (w : World) :
    Calls Tryd.prog 9 #[.slice A n c, .int .i64 M] w fun e w' => e = .returned (.slice A (min n m) c) ∧ w = w' := by
  subst hM
  by_cases h : n ≤ m
  · have b1 : (n : Int) ≤ m := by omega
    rw [Nat.min_eq_left h]
    go_enter Tryd.func9, Tryd.ntmps9
    go_wp2
    go_ret
    exact ⟨rfl, rfl⟩
  · have b1 : (m : Int) < n := by omega
    have hs := fun W => run_upto (P := Tryd.prog) A n c 22 5 Tryd.underlying22 szB m (m : Int) rfl (by omega) W
    rw [Nat.min_eq_right (by omega)]
    go_enter Tryd.func9, Tryd.ntmps9
    go_wp2
    go_ret
    exact ⟨rfl, rfl⟩
set_option maxHeartbeats 2000000 in
theorem refFill_any {b : List (BitVec 8)} {A : Option Addr} {n c : Nat} {w : World} (h : Bs w A n c b) (hn : n ≤ 140737488350000) :
    Calls Tryd.prog 21 #[.slice A n c] w (Fresh w (n + fn n) (fillL b)) := by
  have hz : (16 : Int) - (n : Int) % 16 = ((fn n : Nat) : Int) := by unfold fn; omega
  have hu : ub (BitVec.ofNat 8 (fn n)) = (16 : Int) - (n : Int) % 16 := by rw [ub_ofNat, hz]; have := fn_hi n; omega
  have h1 := fn_lo n
  have h2 := fn_hi n
  have ho := Own.new w w.heap.size 0 [] rfl (Nat.le_refl _) (Nat.zero_le _)
  have hx : Ext w (w.alloc (.cells (bv []) 5)) := (by (repeat (first | assumption | exact Ext.refl _ | apply Ext.drew | apply Ext.drewN | apply Ext.alloc | refine Ext.trans ?_ (by assumption))); first | done | fail)
  have hb := h.ext hx
  have he : fillL b = b ++ List.replicate (fn n) (BitVec.ofNat 8 (fn n)) := by unfold fillL; rw [h.len]
  rw [he]
  have HU := Kp.mk hu
  have HZ := Kp.mk hz
  clear hu hz he h
  go_enter Tryd.func21, Tryd.ntmps21
  go_wp2_with (first | (at_builtin; refine wpList_append_bs rfl (.tmp 6) (.tmp 7) rfl w.heap.size _ 0 [] rfl ho A n c b rfl hb (by omega) n (by omega) b rfl w hx (Nat.le_refl _) hx.size ?_; intro A3 c3 w3 ho3 hx3 _) | fail)
  clear ho hb hx
  go_loopw [3, 5] (fun ov iv wr => ∃ j : Nat, j ≤ fn n ∧ iv = .int .i64 j ∧ (∃ A c, ov = .slice A (n + j) c) ∧ Own wr w.heap.size ov (n + j) (b ++ List.replicate j (BitVec.ofNat 8 (fn n))) ∧ Ext w wr) (fun _ i _ => fn n - (intOf i).toNat)
  case atStart => exact ⟨0, by omega, rfl, ⟨_, _, rfl⟩, by simpa using ho3, hx3⟩
  case round =>
    clear ho3 hx3
    obtain ⟨j, hj, rfl, ⟨A4, c4, rfl⟩, ho, hx⟩ := hrel
    by_cases hlt : j < fn n
    · have b1 : (j : Int) < (16 : Int) - (n : Int) % 16 := by have := HZ.out; omega
      have HR := Kp.mk (List.replicate_succ' (n := j) (a := BitVec.ofNat 8 (fn n)))
      go_wp2_with (first | (at_builtin; refine wpList_append_bs rfl (.tmp 18) (.tmp 21) rfl w.heap.size _ (n + j) _ rfl (ho.ext (by (repeat (first | assumption | exact Ext.refl _ | apply Ext.drew | apply Ext.drewN | apply Ext.alloc | refine Ext.trans ?_ (by assumption))); first | done | fail)) _ 1 1 [BitVec.ofNat 8 (fn n)] rfl (num_bs wr _ _ HU.out) (by omega) (n + (j + 1)) rfl _ rfl w (hx.trans (by (repeat (first | assumption | exact Ext.refl _ | apply Ext.drew | apply Ext.drewN | apply Ext.alloc | refine Ext.trans ?_ (by assumption))); first | done | fail)) (Nat.le_refl _) (hx.trans (by (repeat (first | assumption | exact Ext.refl _ | apply Ext.drew | apply Ext.drewN | apply Ext.alloc | refine Ext.trans ?_ (by assumption))); first | done | fail)).size ?_; intro A5 c5 w5 ho5 hx5 _) | fail)
      go_roundw
      case rel => exact ⟨j + 1, by omega, by go_num, ⟨_, _, rfl⟩, by rw [HR.out, ← List.append_assoc]; exact ho5, hx5⟩
      case measure => simp [intOf]; omega
    · obtain rfl : j = fn n := by omega
      have b1 : ((fn n : Nat) : Int) = (16 : Int) - (n : Int) % 16 := HZ.out.symm
      have b2 : (16 : Int) - (n : Int) % 16 ≤ ((fn n : Nat) : Int) := by omega
      clear b1
      go_wp2_with fail
      go_ret
      exact ⟨_, _, rfl, ho.bs, ho, hx⟩
theorem str_ne {x y : List (BitVec 8)} (h : x ≠ y) : ((strOf x).toList == (strOf y).toList) = false := beq_eq_false_iff_ne.2 fun e => h (strOf_inj e)
set_option maxHeartbeats 1000000 in
theorem refEmpty_any {b : List (BitVec 8)} {A : Option Addr} {n c : Nat} {w : World} (h : Bs w A n c b) (hn : n ≤ 140737488350000) :
    Calls Tryd.prog 15 #[.slice A n c] w fun e w' =>
      (∃ t, emptyL b = some t ∧ ∃ A c, e = .returned (.tuple #[.slice A t.length c, .bool true]) ∧ Bs w' A t.length c t ∧ Ext w w') ∨ (emptyL b = none ∧ e = .returned (.tuple #[.slice none 0 0, .bool false]) ∧ Ext w w') := by
  have hl := h.len
  have hcap := h.cap
  have HB := Kp.mk h
  clear h
  go_enter Tryd.func15, Tryd.ntmps15
  go_wp2_with fail
  go_loopw [4] (fun iv wr => ∃ j : Nat, j ≤ 16 ∧ iv = .int .i64 ((j + 1 : Nat) : Int) ∧ (∀ k, 1 ≤ k → k ≤ j → k ≤ n → fillL (b.take (n - k)) ≠ b) ∧ Ext w wr) (fun i _ => 17 - (intOf i).toNat)
  case atStart => exact ⟨0, by omega, rfl, (fun k h1 h2 => absurd h2 (by omega)), Ext.refl _⟩
  case round =>
    obtain ⟨j, hj, rfl, hno, hx⟩ := hrel
    by_cases hlt : j < 16 ∧ j + 1 ≤ n
    · obtain ⟨h1, h2⟩ := hlt
      have b1 : ((j + 1 : Nat) : Int) ≤ 16 := by omega
      have b2 : ((j + 1 : Nat) : Int) ≤ n := by omega
      obtain ⟨k, hk⟩ : ∃ k, k = j + 1 := ⟨_, rfl⟩
      rw [← hk] at b1 b2 h2 ⊢
      obtain ⟨m, hm⟩ : ∃ m, m = n - k := ⟨_, rfl⟩
      have hmn : m ≤ n := by omega
      have e3 : (n : Int) - (k : Int) = (m : Int) := by omega
      have e4 : IntKind.i64.wrap (m : Int) = (m : Int) := by rw [IntKind.wrap_i64]; omega
      have e5 : 0 ≤ (m : Int) := by omega
      have e6 : (m : Int) ≤ c := by omega
      have hup := fun W => run_upto (P := Tryd.prog) A n c 22 5 Tryd.underlying22 szB m (m : Int) rfl (by omega) W
      have hbs := HB.out.take m (by omega)
      have HT := Kp.mk hbs
      have hc1 := fun (w' : World) (hx' : Ext wr w') => HB.out.str (hx.trans hx')
      have HX := Kp.mk hx
      have HN := Kp.mk hno
      have HK := Kp.mk hk
      have HM := Kp.mk hm
      clear hbs hno hx hk hm h1 hj
      by_cases hq : fillL (b.take m) = b
      · have HQ := Kp.mk hq
        clear hq
        go_wp2_with fail
        refine wp_region_held_drew (S := fun w' => Ext wr w') (by kernel_rfl) (Ext.refl wr).drew (fun hHeld => ?_)
        refine wpAnyH_take (i := 0) (oi := ⟨some 15, _, _, _, _, _⟩) (v := ?_) rfl (by kernel_rfl) (by kernel_rfl) (by kernel_rfl) (fun _ _ _ h => h) (Or.inl ⟨by rfl, ?_⟩) (by assumption) ?_
        rotate_left
        · (intro w hSw; (try dsimp only at hSw); go_simp; try with_reducible rfl)
        try simp only [Act.put, List.setIfInBounds_toArray, List.set_cons_zero, List.set_cons_succ]
        refine wpAnyH_take (i := 1) (oi := ⟨some 16, _, _, _, _, _⟩) (v := ?_) rfl (by kernel_rfl) (by kernel_rfl) (by kernel_rfl) (fun _ _ _ h => h) (Or.inl ⟨by rfl, ?_⟩) (by assumption) ?_
        rotate_left
        · (intro w hSw; (try dsimp only at hSw); go_simp; try with_reducible rfl)
        try simp only [Act.put, List.setIfInBounds_toArray, List.set_cons_zero, List.set_cons_succ]
        refine wpAnyH_take (i := 2) (oi := ⟨some 17, _, _, _, _, _⟩) (v := ?_) rfl (by kernel_rfl) (by kernel_rfl) (by kernel_rfl) (fun _ _ _ h => h) (Or.inl ⟨by rfl, ?_⟩) (by assumption) ?_
        rotate_left
        · (intro w hSw; (try dsimp only at hSw); go_simp; try with_reducible rfl)
        try simp only [Act.put, List.setIfInBounds_toArray, List.set_cons_zero, List.set_cons_succ]
        refine wpAnyH_take (i := 3) (oi := ⟨some 18, _, _, _, _, _⟩) (v := ?_) rfl (by kernel_rfl) (by kernel_rfl) (by kernel_rfl) (fun _ _ _ h => h) (Or.inl ⟨by rfl, ?_⟩) (by assumption) ?_
        rotate_left
        · (intro w hSw; (try dsimp only at hSw); go_simp; try with_reducible rfl)
        try simp only [Act.put, List.setIfInBounds_toArray, List.set_cons_zero, List.set_cons_succ]
        refine wpAnyH_take (i := 4) (oi := ⟨some 19, _, _, _, _, _⟩) (v := ?_) rfl (by kernel_rfl) (by kernel_rfl) (by kernel_rfl) (fun _ _ _ h => h) (Or.inl ⟨by rfl, ?_⟩) (by assumption) ?_
        rotate_left
        · (intro w hSw; (try dsimp only at hSw); go_simp; try with_reducible rfl)
        try simp only [Act.put, List.setIfInBounds_toArray, List.set_cons_zero, List.set_cons_succ]
        refine wpAnyH_take (i := 5) (oi := ⟨some 20, _, _, _, _, _⟩) (v := ?_) rfl (by kernel_rfl) (by kernel_rfl) (by kernel_rfl) (fun _ _ _ h => h) (Or.inl ⟨by rfl, ?_⟩) (by assumption) ?_
        rotate_left
        · (intro w hSw; (try dsimp only at hSw); go_simp; try with_reducible rfl)
        try simp only [Act.put, List.setIfInBounds_toArray, List.set_cons_zero, List.set_cons_succ]
        refine wpAnyH_take (i := 8) (oi := ⟨some 23, _, _, _, _, _⟩) (v := ?_) rfl (by kernel_rfl) (by kernel_rfl) (by kernel_rfl) (fun _ _ _ h => h) (Or.inl ⟨by rfl, ?_⟩) (by assumption) ?_
        rotate_left
        · (intro w hSw; (try dsimp only at hSw); go_simp; try with_reducible rfl)
        try simp only [Act.put, List.setIfInBounds_toArray, List.set_cons_zero, List.set_cons_succ]
        refine wpAnyH_take (i := 9) (oi := ⟨some 24, _, _, _, _, _⟩) (v := ?_) rfl (by kernel_rfl) (by kernel_rfl) (by kernel_rfl) (fun _ _ _ h => h) (Or.inl ⟨by rfl, ?_⟩) (by assumption) ?_
        rotate_left
        · (intro w hSw; (try dsimp only at hSw); go_simp; try with_reducible rfl)
        try simp only [Act.put, List.setIfInBounds_toArray, List.set_cons_zero, List.set_cons_succ]
        refine next_one 6 (by kernel_rfl) rfl (by rfl) fun K' HK' => ?_
        go_simp
        refine (refFill_any (HT.out.ext (HX.out.trans (by (repeat (first | assumption | exact Ext.refl _ | apply Ext.drew | apply Ext.drewN | apply Ext.alloc | refine Ext.trans ?_ (by assumption))); first | done | fail))) (by omega)).mono ?_
        rintro e w3 ⟨A3, c3, rfl, hs3, _, hx3⟩
        rw [HQ.out] at hs3
        have hS2 := Ext.trans hHeld hx3
        refine held_go HK' hS2 (fun _ => ?_)
        clear HK'
        refine held_more (S' := fun w' => Ext w3 w') (fun _ h => Ext.trans hS2 h) _ _ _ _ ?_
        clear hHeld hS2
        have hHeld : Ext w3 w3 := Ext.refl _
        try simp only [Act.put, List.setIfInBounds_toArray, List.set_cons_zero, List.set_cons_succ]
        have hc3 := fun (w' : World) (hx : Ext w3 w') => hs3.str hx
        refine wpAnyH_take (i := 7) (oi := ⟨some 22, _, _, _, _, _⟩) (v := ?_) rfl (by kernel_rfl) (by kernel_rfl) (by kernel_rfl) (fun _ _ _ h => h) (Or.inl ⟨by rfl, ?_⟩) (by assumption) ?_
        rotate_left
        · (intro w hSw; (try dsimp only at hSw); go_simp; try with_reducible rfl)
        try simp only [Act.put, List.setIfInBounds_toArray, List.set_cons_zero, List.set_cons_succ]
        refine wpAnyH_take (i := 10) (oi := ⟨some 25, _, _, _, _, _⟩) (v := ?_) rfl (by kernel_rfl) (by kernel_rfl) (by kernel_rfl) (fun _ _ _ h => h) (Or.inl ⟨by rfl, ?_⟩) (by assumption) ?_
        rotate_left
        · (intro w hSw; (try dsimp only at hSw); go_simp; try with_reducible rfl)
        try simp only [Act.put, List.setIfInBounds_toArray, List.set_cons_zero, List.set_cons_succ]
        refine wpAnyH_done (by kernel_rfl) ?_ _
        have HX3 := Kp.mk (HX.out.trans (show Ext wr w3 from (by (repeat (first | assumption | exact Ext.refl _ | apply Ext.drew | apply Ext.drewN | apply Ext.alloc | refine Ext.trans ?_ (by assumption))); first | done | fail)))
        have HT3 := Kp.mk (HT.out.ext HX3.out)
        have ho := Own.new w3 w3.heap.size 0 [] rfl (Nat.le_refl _) (Nat.zero_le _)
        have hx0 : Ext w3 (w3.alloc (.cells (bv []) 5)) := (by (repeat (first | assumption | exact Ext.refl _ | apply Ext.drew | apply Ext.drewN | apply Ext.alloc | refine Ext.trans ?_ (by assumption))); first | done | fail)
        have hb := HT3.out.ext hx0
        clear hc1 hc3 hs3 hx3
        go_wp2_with (first | (at_builtin; refine wpList_append_bs rfl (.tmp 26) (.tmp 32) rfl w3.heap.size _ 0 [] rfl ho A m c (b.take m) rfl hb (by omega) m (by omega) (b.take m) rfl w3 hx0 (Nat.le_refl _) hx0.size ?_; intro A5 c5 w5 ho5 hx5 _) | fail)
        go_ret2
        have hlen : (b.take m).length = m := HT.out.len
        exact .inl ⟨_, (empty_iff _ _).2 HQ.out, A5, c5, by rw [hlen]; rfl, by rw [hlen]; exact ho5.bs, HX3.out.trans hx5⟩
      · have hd := str_ne hq
        have HQ := Kp.mk hq
        clear hq
        obtain ⟨sx, hsx⟩ : ∃ s, strOf (fillL (b.take m)) = s := ⟨_, rfl⟩
        obtain ⟨sy, hsy⟩ : ∃ s, strOf b = s := ⟨_, rfl⟩
        rw [hsx, hsy] at hd
        rw [hsy] at hc1
        have HSX := Kp.mk hsx
        clear hsx hsy
        go_wp2_with fail
        refine wp_region_held_drew (S := fun w' => Ext wr w') (by kernel_rfl) (Ext.refl wr).drew (fun hHeld => ?_)
        refine wpAnyH_take (i := 0) (oi := ⟨some 15, _, _, _, _, _⟩) (v := ?_) rfl (by kernel_rfl) (by kernel_rfl) (by kernel_rfl) (fun _ _ _ h => h) (Or.inl ⟨by rfl, ?_⟩) (by assumption) ?_
        rotate_left
        · (intro w hSw; (try dsimp only at hSw); go_simp; try with_reducible rfl)
        try simp only [Act.put, List.setIfInBounds_toArray, List.set_cons_zero, List.set_cons_succ]
        refine wpAnyH_take (i := 1) (oi := ⟨some 16, _, _, _, _, _⟩) (v := ?_) rfl (by kernel_rfl) (by kernel_rfl) (by kernel_rfl) (fun _ _ _ h => h) (Or.inl ⟨by rfl, ?_⟩) (by assumption) ?_
        rotate_left
        · (intro w hSw; (try dsimp only at hSw); go_simp; try with_reducible rfl)
        try simp only [Act.put, List.setIfInBounds_toArray, List.set_cons_zero, List.set_cons_succ]
        refine wpAnyH_take (i := 2) (oi := ⟨some 17, _, _, _, _, _⟩) (v := ?_) rfl (by kernel_rfl) (by kernel_rfl) (by kernel_rfl) (fun _ _ _ h => h) (Or.inl ⟨by rfl, ?_⟩) (by assumption) ?_
        rotate_left
        · (intro w hSw; (try dsimp only at hSw); go_simp; try with_reducible rfl)
        try simp only [Act.put, List.setIfInBounds_toArray, List.set_cons_zero, List.set_cons_succ]
        refine wpAnyH_take (i := 3) (oi := ⟨some 18, _, _, _, _, _⟩) (v := ?_) rfl (by kernel_rfl) (by kernel_rfl) (by kernel_rfl) (fun _ _ _ h => h) (Or.inl ⟨by rfl, ?_⟩) (by assumption) ?_
        rotate_left
        · (intro w hSw; (try dsimp only at hSw); go_simp; try with_reducible rfl)
        try simp only [Act.put, List.setIfInBounds_toArray, List.set_cons_zero, List.set_cons_succ]
        refine wpAnyH_take (i := 4) (oi := ⟨some 19, _, _, _, _, _⟩) (v := ?_) rfl (by kernel_rfl) (by kernel_rfl) (by kernel_rfl) (fun _ _ _ h => h) (Or.inl ⟨by rfl, ?_⟩) (by assumption) ?_
        rotate_left
        · (intro w hSw; (try dsimp only at hSw); go_simp; try with_reducible rfl)
        try simp only [Act.put, List.setIfInBounds_toArray, List.set_cons_zero, List.set_cons_succ]
        refine wpAnyH_take (i := 5) (oi := ⟨some 20, _, _, _, _, _⟩) (v := ?_) rfl (by kernel_rfl) (by kernel_rfl) (by kernel_rfl) (fun _ _ _ h => h) (Or.inl ⟨by rfl, ?_⟩) (by assumption) ?_
        rotate_left
        · (intro w hSw; (try dsimp only at hSw); go_simp; try with_reducible rfl)
        try simp only [Act.put, List.setIfInBounds_toArray, List.set_cons_zero, List.set_cons_succ]
        refine wpAnyH_take (i := 8) (oi := ⟨some 23, _, _, _, _, _⟩) (v := ?_) rfl (by kernel_rfl) (by kernel_rfl) (by kernel_rfl) (fun _ _ _ h => h) (Or.inl ⟨by rfl, ?_⟩) (by assumption) ?_
        rotate_left
        · (intro w hSw; (try dsimp only at hSw); go_simp; try with_reducible rfl)
        try simp only [Act.put, List.setIfInBounds_toArray, List.set_cons_zero, List.set_cons_succ]
        refine wpAnyH_take (i := 9) (oi := ⟨some 24, _, _, _, _, _⟩) (v := ?_) rfl (by kernel_rfl) (by kernel_rfl) (by kernel_rfl) (fun _ _ _ h => h) (Or.inl ⟨by rfl, ?_⟩) (by assumption) ?_
        rotate_left
        · (intro w hSw; (try dsimp only at hSw); go_simp; try with_reducible rfl)
        try simp only [Act.put, List.setIfInBounds_toArray, List.set_cons_zero, List.set_cons_succ]
        refine next_one 6 (by kernel_rfl) rfl (by rfl) fun K' HK' => ?_
        go_simp
        refine (refFill_any (HT.out.ext (HX.out.trans (by (repeat (first | assumption | exact Ext.refl _ | apply Ext.drew | apply Ext.drewN | apply Ext.alloc | refine Ext.trans ?_ (by assumption))); first | done | fail))) (by omega)).mono ?_
        rintro e w3 ⟨A3, c3, rfl, hs3, _, hx3⟩
        have hS2 := Ext.trans hHeld hx3
        refine held_go HK' hS2 (fun _ => ?_)
        clear HK'
        refine held_more (S' := fun w' => Ext w3 w') (fun _ h => Ext.trans hS2 h) _ _ _ _ ?_
        clear hHeld hS2
        have hHeld : Ext w3 w3 := Ext.refl _
        try simp only [Act.put, List.setIfInBounds_toArray, List.set_cons_zero, List.set_cons_succ]
        have hc3 := fun (w' : World) (hx : Ext w3 w') => hs3.str hx
        rw [HSX.out] at hc3
        refine wpAnyH_take (i := 7) (oi := ⟨some 22, _, _, _, _, _⟩) (v := ?_) rfl (by kernel_rfl) (by kernel_rfl) (by kernel_rfl) (fun _ _ _ h => h) (Or.inl ⟨by rfl, ?_⟩) (by assumption) ?_
        rotate_left
        · (intro w hSw; (try dsimp only at hSw); go_simp; try with_reducible rfl)
        try simp only [Act.put, List.setIfInBounds_toArray, List.set_cons_zero, List.set_cons_succ]
        refine wpAnyH_take (i := 10) (oi := ⟨some 25, _, _, _, _, _⟩) (v := ?_) rfl (by kernel_rfl) (by kernel_rfl) (by kernel_rfl) (fun _ _ _ h => h) (Or.inl ⟨by rfl, ?_⟩) (by assumption) ?_
        rotate_left
        · (intro w hSw; (try dsimp only at hSw); go_simp; try with_reducible rfl)
        try simp only [Act.put, List.setIfInBounds_toArray, List.set_cons_zero, List.set_cons_succ]
        refine wpAnyH_done (by kernel_rfl) ?_ _
        have HX3 := Kp.mk (HX.out.trans (show Ext wr w3 from (by (repeat (first | assumption | exact Ext.refl _ | apply Ext.drew | apply Ext.drewN | apply Ext.alloc | refine Ext.trans ?_ (by assumption))); first | done | fail)))
        clear hc1 hc3 hs3 hx3
        go_wp2_with fail
        go_roundw
        case rel =>
          have hk := HK.out
          exact ⟨j + 1, by omega, by rw [← hk]; go_num, (fun i h1 h2 h3 => by
            by_cases he : i = k
            · rw [he, ← HM.out]; exact HQ.out
            · exact HN.out i h1 (by omega) h3), HX3.out⟩
        case measure => have hk := HK.out; simp [intOf]; omega
    · have hnone : emptyL b = none := (empty_none b).2 fun t ht => by
        have h1 := fn_lo t.length
        have h2 := fn_hi t.length
        have h3 := fill_len t
        rw [ht] at h3
        have h4 := fill_take t
        rw [ht] at h4
        exact hno (fn t.length) h1 (by omega) (by omega) (by rw [← hl, h4]; exact ht)
      have hor : (16 : Int) < ((j + 1 : Nat) : Int) ∨ (((j + 1 : Nat) : Int) ≤ 16 ∧ (n : Int) < ((j + 1 : Nat) : Int)) := by omega
      have HE := Kp.mk hnone
      clear hno hnone hlt
      generalize ((j + 1 : Nat) : Int) = z at *
      rcases hor with h1 | ⟨h1, h2⟩
      all_goals
        go_wp2_with fail
        go_ret2
        exact .inr ⟨HE.out, rfl, hx⟩
theorem Empty_some {b x : List (BitVec 8)} {A : Option Addr} {n c : Nat} {w : World} (h : Bs w A n c b) (hn : n ≤ 140737488350000) (he : emptyL b = some x) :
    Calls Tryd.prog 17 #[.slice A n c] w (FreshE w x.length x) := (Empty_any h hn).mono fun e w' hh => by
  rcases hh with ⟨t, h1, h2⟩ | ⟨h1, _⟩
  · obtain rfl : x = t := Option.some.inj (he.symm.trans h1)
    exact h2
  · rw [he] at h1; cases h1
theorem Empty_none {b : List (BitVec 8)} {A : Option Addr} {n c : Nat} {w : World} (h : Bs w A n c b) (hn : n ≤ 140737488350000) (he : emptyL b = none) :
    Calls Tryd.prog 17 #[.slice A n c] w fun e w' => e = .returned (.tuple #[.slice none 0 0, err 7]) ∧ Ext w w' := (Empty_any h hn).mono fun e w' hh => by
  rcases hh with ⟨t, h1, _⟩ | ⟨_, h2, h3⟩
  · rw [he] at h1; cases h1
  · exact ⟨h2, h3⟩
theorem refEmpty_some {b x : List (BitVec 8)} {A : Option Addr} {n c : Nat} {w : World} (h : Bs w A n c b) (hn : n ≤ 140737488350000) (he : emptyL b = some x) :
    Calls Tryd.prog 15 #[.slice A n c] w fun e w' => ∃ A c, e = .returned (.tuple #[.slice A x.length c, .bool true]) ∧ Bs w' A x.length c x ∧ Ext w w' := (refEmpty_any h hn).mono fun e w' hh => by
  rcases hh with ⟨t, h1, h2⟩ | ⟨h1, _⟩
  · obtain rfl : x = t := Option.some.inj (he.symm.trans h1)
    exact h2
  · rw [he] at h1; cases h1
theorem refEmpty_none {b : List (BitVec 8)} {A : Option Addr} {n c : Nat} {w : World} (h : Bs w A n c b) (hn : n ≤ 140737488350000) (he : emptyL b = none) :
    Calls Tryd.prog 15 #[.slice A n c] w fun e w' => e = .returned (.tuple #[.slice none 0 0, .bool false]) ∧ Ext w w' := (refEmpty_any h hn).mono fun e w' hh => by
  rcases hh with ⟨t, h1, _⟩ | ⟨_, h2, h3⟩
  · rw [he] at h1; cases h1
  · exact ⟨h2, h3⟩
end Go.Proofs.YtjjoghdlbnlicaaDoor
