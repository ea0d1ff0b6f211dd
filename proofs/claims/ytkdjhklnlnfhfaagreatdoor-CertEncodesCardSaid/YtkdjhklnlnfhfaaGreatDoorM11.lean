/-
  A certificate's maker: the kind of a sign or a key; bits; told. cert.Encode.
  tlv: lengthOf, elementOf; an error's number.
  tlv: elementOf; an error's number.
  tlv: elementOf, where an element begins; pieces of a slice.
-/
import Derived.Test.YtkdjhklnlnfhfaaGreatDoorM10
import Derived.Test.YtkdjhklnlnfhfaaGreatDoorM5
import Derived.Test.YtkdjhklnlnfhfaaGreatDoorM4
import Derived.Lib.Hide
namespace Go.Proofs.YtkdjhklnlnfhfaaGreatDoor
open Go Go.RowKit
set_option maxRecDepth 4000

theorem elmK_le {m : BitVec 8} {x : List (BitVec 8)} (h : x.length ≤ 65535) : elmK m x = elm m x := if_pos h
theorem amiK_le {x : List (BitVec 8)} (h : x.length ≤ 65535) (k : Option Int) : noteK k (amiK x) = k := by
  have : amiK x = none := if_pos h
  rw [this, noteK_none]
section
variable {w w1 w2 : World} {q : Nat} {k : Option Int}
theorem own_mk {B n : Nat} {v : Value} {l : List (BitVec 8)} (ho : Own w1 B v n l) (h : Mk w1 q k) (hm : Mds [q] w1 w2) : Own w2 B v n l :=
  (ho.rw.mds hm fun j hj h1 => by
    rw [List.mem_singleton.1 h1] at hj
    exact ho.rw.ne h (by decide) hj).own
/-- an element of one part, as the maker's functions lay it -/
theorem mkE1 {m : BitVec 8} {A : Option Addr} {n c t : Nat} {l : List (BitVec 8)} (h : Mk w q k) (hm : mkB m = true) (hb : Bs w A n c l) (hn : n ≤ 140737488351232) :
    Calls Tryz.prog 52 #[.pointer (some ⟨q, 0, none⟩), .int .u8 (ub m), .slice (some ⟨w.heap.size, 0, none⟩) 1 1] (w.alloc (.cells #[.slice A n c] t)) (MkE (w.alloc (.cells #[.slice A n c] t)) q (elmK m l) (noteK k (amiK l))) := by
  have hx : Ext w (w.alloc (.cells #[.slice A n c] t)) := (by (repeat (first | assumption | exact Ext.refl _ | apply Ext.drew | apply Ext.drewN | apply Ext.alloc | refine Ext.trans ?_ (by assumption))); first | done | fail)
  have h1 := mkElement (ps := [⟨A, n, c, l⟩]) (P := some ⟨w.heap.size, 0, none⟩) (K := 1) (h.ext hx) hm rfl (fun j p hj => by
    match j with
    | 0 => simp at hj; subst hj; exact hb.ext hx
    | j + 1 => simp at hj) (fun _ => ⟨w.heap.size, t, rfl, Blk.new _ _ _⟩) (by simpa [pN] using hn) (by decide)
  simpa [pL] using h1
theorem mkE2 {m : BitVec 8} {A A' : Option Addr} {n c n' c' t : Nat} {l l' : List (BitVec 8)} (h : Mk w q k) (hm : mkB m = true) (hb : Bs w A n c l) (hb' : Bs w A' n' c' l') (hn : n + n' ≤ 140737488351232) :
    Calls Tryz.prog 52 #[.pointer (some ⟨q, 0, none⟩), .int .u8 (ub m), .slice (some ⟨w.heap.size, 0, none⟩) 2 2] (w.alloc (.cells #[.slice A n c, .slice A' n' c'] t)) (MkE (w.alloc (.cells #[.slice A n c, .slice A' n' c'] t)) q (elmK m (l ++ l')) (noteK k (amiK (l ++ l')))) := by
  have hx : Ext w (w.alloc (.cells #[.slice A n c, .slice A' n' c'] t)) := (by (repeat (first | assumption | exact Ext.refl _ | apply Ext.drew | apply Ext.drewN | apply Ext.alloc | refine Ext.trans ?_ (by assumption))); first | done | fail)
  have h1 := mkElement (ps := [⟨A, n, c, l⟩, ⟨A', n', c', l'⟩]) (P := some ⟨w.heap.size, 0, none⟩) (K := 2) (h.ext hx) hm rfl (fun j p hj => by
    match j with
    | 0 => simp at hj; subst hj; exact hb.ext hx
    | 1 => simp at hj; subst hj; exact hb'.ext hx
    | j + 2 => simp at hj) (fun _ => ⟨w.heap.size, t, rfl, Blk.new _ _ _⟩) (by simpa [pN] using hn) (by decide)
  simpa [pL] using h1
theorem mkE3 {m : BitVec 8} {A A' A'' : Option Addr} {n c n' c' n'' c'' t : Nat} {l l' l'' : List (BitVec 8)} (h : Mk w q k) (hm : mkB m = true) (hb : Bs w A n c l) (hb' : Bs w A' n' c' l') (hb'' : Bs w A'' n'' c'' l'') (hn : n + (n' + n'') ≤ 140737488351232) :
    Calls Tryz.prog 52 #[.pointer (some ⟨q, 0, none⟩), .int .u8 (ub m), .slice (some ⟨w.heap.size, 0, none⟩) 3 3] (w.alloc (.cells #[.slice A n c, .slice A' n' c', .slice A'' n'' c''] t)) (MkE (w.alloc (.cells #[.slice A n c, .slice A' n' c', .slice A'' n'' c''] t)) q (elmK m (l ++ (l' ++ l''))) (noteK k (amiK (l ++ (l' ++ l''))))) := by
  have hx : Ext w (w.alloc (.cells #[.slice A n c, .slice A' n' c', .slice A'' n'' c''] t)) := (by (repeat (first | assumption | exact Ext.refl _ | apply Ext.drew | apply Ext.drewN | apply Ext.alloc | refine Ext.trans ?_ (by assumption))); first | done | fail)
  have h1 := mkElement (ps := [⟨A, n, c, l⟩, ⟨A', n', c', l'⟩, ⟨A'', n'', c'', l''⟩]) (P := some ⟨w.heap.size, 0, none⟩) (K := 3) (h.ext hx) hm rfl (fun j p hj => by
    match j with
    | 0 => simp at hj; subst hj; exact hb.ext hx
    | 1 => simp at hj; subst hj; exact hb'.ext hx
    | 2 => simp at hj; subst hj; exact hb''.ext hx
    | j + 3 => simp at hj) (fun _ => ⟨w.heap.size, t, rfl, Blk.new _ _ _⟩) (by simpa [pN] using hn) (by decide)
  simpa [pL] using h1
theorem mkE0 {m : BitVec 8} (h : Mk w q k) (hm : mkB m = true) :
    Calls Tryz.prog 52 #[.pointer (some ⟨q, 0, none⟩), .int .u8 (ub m), .slice none 0 0] w (MkE w q (elm m []) k) := by
  have h1 := mkElement (ps := []) (P := none) (K := 0) h hm rfl (fun j p hj => by simp at hj) (fun h => absurd h (by decide)) (by simp [pN]) (by decide)
  rw [show pL [] = [] from rfl, elmK_le (by simp), amiK_le (by simp)] at h1
  exact h1
set_option maxHeartbeats 4000000 in
theorem mkKind {o : List (BitVec 8)} (h : Mk w q k) (ho : o.length ≤ 100) : Calls Tryz.prog 53 #[.pointer (some ⟨q, 0, none⟩), .string (strOf o)] w (MkE w q (elm 48 (elm 6 o ++ elm 5 [])) k) := by
  obtain ⟨c0, W, hr, hb, hx⟩ := str_bytes o w
  have E1 := Kp.mk (mkE1 (m := 6) (t := 39) (h.ext hx) (by decide) hb (by omega))
  rw [elmK_le (by omega), amiK_le (by omega)] at E1
  have X0 := Kp.mk hx
  have H0 := Kp.mk ho
  have XA := Kp.mk (show Ext W (W.alloc (.cells #[.slice (some ⟨w.heap.size, 0, none⟩) o.length c0] 39)) from (by (repeat (first | assumption | exact Ext.refl _ | apply Ext.drew | apply Ext.drewN | apply Ext.alloc | refine Ext.trans ?_ (by assumption))); first | done | fail))
  clear h hb hx
  go_enter Tryz.func53, Tryz.ntmps53
  go_wp2_with fail
  refine E1.out.mono ?_
  rintro e w1 ⟨A1, n1, c1, rfl, o1, k1, m1⟩
  have E2 := Kp.mk (mkE0 (m := 5) k1 (by decide))
  have O1 := Kp.mk (And.intro o1 k1)
  have M1 := Kp.mk (((X0.out.trans XA.out).mds [q]).trans m1)
  clear o1 k1 m1
  go_wp2_with fail
  refine E2.out.mono ?_
  rintro e w2 ⟨A2, n2, c2, rfl, o2, k2, m2⟩
  have O1 := Kp.mk (own_mk O1.out.1 O1.out.2 m2)
  have hl1 := O1.out.bs.len
  have hl2 := o2.bs.len
  have hl3 := elm_hi 6 o
  have hl4 : (elm 5 []).length = 2 := rfl
  have hl5 := H0.out
  have hl6 : (elm 6 o ++ elm 5 []).length ≤ 65535 := by rw [List.length_append]; omega
  have E3 := Kp.mk (mkE2 (m := 48) (t := 39) k2 (by decide) O1.out.bs o2.bs (by omega))
  rw [elmK_le hl6, amiK_le hl6] at E3
  have M2 := Kp.mk (M1.out.trans m2)
  have XB := Kp.mk (show Ext w2 (w2.alloc (.cells #[.slice A1 n1 c1, .slice A2 n2 c2] 39)) from (by (repeat (first | assumption | exact Ext.refl _ | apply Ext.drew | apply Ext.drewN | apply Ext.alloc | refine Ext.trans ?_ (by assumption))); first | done | fail))
  clear k2 m2 o2 hl1 hl2 hl3 hl4 hl5 hl6
  go_wp2_with fail
  refine E3.out.mono ?_
  rintro e w3 ⟨A3, n3, c3, rfl, o3, k3, m3⟩
  have O3 := Kp.mk o3
  have K3 := Kp.mk k3
  have M3 := Kp.mk (M2.out.trans ((XB.out.mds [q]).trans m3))
  have L3 : Kp (w.heap.size ≤ (w2.alloc (.cells #[.slice A1 n1 c1, .slice A2 n2 c2] 39)).heap.size) := ⟨Nat.le_trans M2.out.size XB.out.size⟩
  clear o3 k3 m3
  go_wp2_with fail
  go_ret
  exact ⟨_, _, _, rfl, O3.out.lower L3.out, K3.out, M3.out⟩
end
end Go.Proofs.YtkdjhklnlnfhfaaGreatDoor
namespace Go.Proofs.YtkdjhklnlnfhfaaGreatDoor
open Go Go.RowKit
set_option maxRecDepth 4000

theorem or_bytes (x y : BitVec 8) : bits .or .i64 (ub x * 256) (ub y) = ub x * 256 + ub y := by
  have hx := x.isLt
  have hy := y.isLt
  have e1 : ub x * (256 : Int) = ((x.toNat <<< 8 : Nat) : Int) := by unfold ub; rw [Nat.shiftLeft_eq]; omega
  rw [e1]
  unfold ub
  show IntKind.i64.wrap ((BitVec.ofInt 64 ((x.toNat <<< 8 : Nat) : Int) ||| BitVec.ofInt 64 (y.toNat : Int)).toNat : Int) = _
  rw [BitVec.ofInt_natCast, BitVec.ofInt_natCast, BitVec.toNat_or, BitVec.toNat_ofNat, BitVec.toNat_ofNat, Nat.mod_eq_of_lt (by rw [Nat.shiftLeft_eq]; omega), Nat.mod_eq_of_lt (by omega), ← Nat.shiftLeft_add_eq_or_of_lt (by omega : y.toNat < 2 ^ 8)]
  rw [IntKind.wrap_i64, Nat.shiftLeft_eq]
  omega
theorem ub_ne {x : BitVec 8} {k : BitVec 8} (h : x ≠ k) (z : Int) (hz : ub k = z) : (ub x == z) = false ∧ ¬ ub x = z := by
  have e : ¬ ub x = z := fun e => h (by rw [← hz] at e; unfold ub at e; exact BitVec.eq_of_toNat_eq (by omega))
  exact ⟨beq_eq_false_iff_ne.2 e, e⟩
set_option maxHeartbeats 2000000 in
theorem lengthOf_any {b : List (BitVec 8)} {A : Option Addr} {n c : Nat} {w : World} (h : Bs w A n c b) : Calls Tryz.prog 194 #[.slice A n c] w fun e w' => e = .returned (.int .i64 (lnOf b : Int)) ∧ Ext w w' := by
  have hl := h.len
  by_cases h1 : n ≤ 1
  · have e : lnOf b = 0 := by unfold lnOf; rw [if_neg (by omega), if_neg (by omega), if_neg (by omega)]
    rw [e]
    have b1 : decide ((3 : Int) < (n : Int)) = false := decide_eq_false (by omega)
    have b2 : decide ((2 : Int) < (n : Int)) = false := decide_eq_false (by omega)
    have b3 : decide ((1 : Int) < (n : Int)) = false := decide_eq_false (by omega)
    have b4 : decide (1 < n) = false := decide_eq_false (by omega)
    have b5 : ¬ 1 < n := by omega
    clear h hl e h1
    go_enter Tryz.func194, Tryz.ntmps194
    go_wp2_with fail
    go_ret
    exact ⟨rfl, (by (repeat (first | assumption | exact Ext.refl _ | apply Ext.drew | apply Ext.drewN | apply Ext.alloc | refine Ext.trans ?_ (by assumption))); first | done | fail)⟩
  · obtain ⟨g, o, rfl, hc⟩ := h.s.2.2.2 (by omega)
    have c1 := fun (w' : World) (hx : Ext w w') => ((h.ext hx).s.2.2.2 (by omega))
    have k1 : ∀ (w' : World), Ext w w' → w'.cell? ⟨g, o + 1, none⟩ = some (.int .u8 (ub (gb b 1))) := fun w' hx => by
      obtain ⟨g', o', e, hc'⟩ := c1 w' hx
      cases e
      exact hc' 1 (by omega)
    have a1 : (1 : Int) < (n : Int) := by omega
    by_cases h2 : n = 2
    · have e : lnOf b = (gb b 1).toNat := by unfold lnOf; rw [if_neg (by omega), if_neg (by omega), if_pos (by omega)]
      have e2 : ((lnOf b : Nat) : Int) = ub (gb b 1) := by rw [e]; rfl
      rw [e2]
      have b1 : decide ((3 : Int) < (n : Int)) = false := decide_eq_false (by omega)
      have b2 : decide ((2 : Int) < (n : Int)) = false := decide_eq_false (by omega)
      subst h2
      clear h hl e h1 hc c1 e2 b1 b2
      generalize gb b 1 = x1 at *
      have hx := x1.isLt
      have w1 : IntKind.i64.wrap (ub x1) = ub x1 := by unfold ub; rw [IntKind.wrap_i64]; omega
      clear hx
      go_enter Tryz.func194, Tryz.ntmps194
      go_wp2_with fail
      go_ret
      exact ⟨rfl, (by (repeat (first | assumption | exact Ext.refl _ | apply Ext.drew | apply Ext.drewN | apply Ext.alloc | refine Ext.trans ?_ (by assumption))); first | done | fail)⟩
    · have a2 : (2 : Int) < (n : Int) := by omega
      have k2 : ∀ (w' : World), Ext w w' → w'.cell? ⟨g, o + 2, none⟩ = some (.int .u8 (ub (gb b 2))) := fun w' hx => by
        obtain ⟨g', o', e, hc'⟩ := c1 w' hx
        cases e
        exact hc' 2 (by omega)
      by_cases h3 : 3 < n ∧ gb b 1 = 130
      · have e : lnOf b = (gb b 2).toNat * 256 + (gb b 3).toNat := by unfold lnOf; rw [if_pos ⟨by omega, h3.2⟩]
        have e2 : ((lnOf b : Nat) : Int) = ub (gb b 2) * 256 + ub (gb b 3) := by rw [e]; unfold ub; omega
        rw [e2]
        have a3 : (3 : Int) < (n : Int) := by omega
        have k3 : ∀ (w' : World), Ext w w' → w'.cell? ⟨g, o + 3, none⟩ = some (.int .u8 (ub (gb b 3))) := fun w' hx => by
          obtain ⟨g', o', e, hc'⟩ := c1 w' hx
          cases e
          exact hc' 3 (by omega)
        rw [h3.2] at k1
        have u1 : ub (130 : BitVec 8) = 130 := rfl
        rw [u1] at k1
        clear h hl e h1 hc c1 e2 h2 h3
        generalize gb b 2 = x2 at *
        generalize gb b 3 = x3 at *
        have hx2 := x2.isLt
        have hx3 := x3.isLt
        have hor := or_bytes x2 x3
        have w2 : IntKind.i64.wrap (ub x2) = ub x2 := by unfold ub; rw [IntKind.wrap_i64]; omega
        have w3 : IntKind.i64.wrap (ub x3) = ub x3 := by unfold ub; rw [IntKind.wrap_i64]; omega
        have w4 : IntKind.i64.wrap (ub x2 * 256) = ub x2 * 256 := by unfold ub; rw [IntKind.wrap_i64]; omega
        clear hx2 hx3
        go_enter Tryz.func194, Tryz.ntmps194
        go_wp2_with fail
        refine wp_region_held_drew (S := fun w' => Ext w w') (by kernel_rfl) (Ext.refl w).drew (fun hHeld => ?_)
        refine wpAnyH_take (i := 0) (oi := ⟨some 13, _, _, _, _, _⟩) (v := ?_) rfl (by kernel_rfl) (by kernel_rfl) (by kernel_rfl) (fun _ _ _ h => h) (Or.inl ⟨by rfl, ?_⟩) (by assumption) ?_
        rotate_left
        · (intro w hSw; (try dsimp only at hSw); go_simp; try with_reducible rfl)
        try simp only [Act.put, List.setIfInBounds_toArray, List.set_cons_zero, List.set_cons_succ]
        refine wpAnyH_take (i := 1) (oi := ⟨some 14, _, _, _, _, _⟩) (v := ?_) rfl (by kernel_rfl) (by kernel_rfl) (by kernel_rfl) (fun _ _ _ h => h) (Or.inl ⟨by rfl, ?_⟩) (by assumption) ?_
        rotate_left
        · (intro w hSw; (try dsimp only at hSw); go_simp; try with_reducible rfl)
        try simp only [Act.put, List.setIfInBounds_toArray, List.set_cons_zero, List.set_cons_succ]
        refine wpAnyH_take (i := 2) (oi := ⟨some 15, _, _, _, _, _⟩) (v := ?_) rfl (by kernel_rfl) (by kernel_rfl) (by kernel_rfl) (fun _ _ _ h => h) (Or.inl ⟨by rfl, ?_⟩) (by assumption) ?_
        rotate_left
        · (intro w hSw; (try dsimp only at hSw); go_simp; try with_reducible rfl)
        try simp only [Act.put, List.setIfInBounds_toArray, List.set_cons_zero, List.set_cons_succ]
        refine wpAnyH_take (i := 3) (oi := ⟨some 16, _, _, _, _, _⟩) (v := ?_) rfl (by kernel_rfl) (by kernel_rfl) (by kernel_rfl) (fun _ _ _ h => h) (Or.inl ⟨by rfl, ?_⟩) (by assumption) ?_
        rotate_left
        · (intro w hSw; (try dsimp only at hSw); go_simp; try with_reducible rfl)
        try simp only [Act.put, List.setIfInBounds_toArray, List.set_cons_zero, List.set_cons_succ]
        refine wpAnyH_take (i := 4) (oi := ⟨some 17, _, _, _, _, _⟩) (v := ?_) rfl (by kernel_rfl) (by kernel_rfl) (by kernel_rfl) (fun _ _ _ h => h) (Or.inl ⟨by rfl, ?_⟩) (by assumption) ?_
        rotate_left
        · (intro w hSw; (try dsimp only at hSw); go_simp; try with_reducible rfl)
        try simp only [Act.put, List.setIfInBounds_toArray, List.set_cons_zero, List.set_cons_succ]
        refine wpAnyH_take (i := 5) (oi := ⟨some 18, _, _, _, _, _⟩) (v := ?_) rfl (by kernel_rfl) (by kernel_rfl) (by kernel_rfl) (fun _ _ _ h => h) (Or.inl ⟨by rfl, ?_⟩) (by assumption) ?_
        rotate_left
        · (intro w hSw; (try dsimp only at hSw); go_simp; try with_reducible rfl)
        try simp only [Act.put, List.setIfInBounds_toArray, List.set_cons_zero, List.set_cons_succ]
        refine wpAnyH_take (i := 6) (oi := ⟨some 19, _, _, _, _, _⟩) (v := ?_) rfl (by kernel_rfl) (by kernel_rfl) (by kernel_rfl) (fun _ _ _ h => h) (Or.inl ⟨by rfl, ?_⟩) (by assumption) ?_
        rotate_left
        · (intro w hSw; (try dsimp only at hSw); go_simp; try with_reducible rfl)
        try simp only [Act.put, List.setIfInBounds_toArray, List.set_cons_zero, List.set_cons_succ]
        refine wpAnyH_take (i := 7) (oi := ⟨some 20, _, _, _, _, _⟩) (v := ?_) rfl (by kernel_rfl) (by kernel_rfl) (by kernel_rfl) (fun _ _ _ h => h) (Or.inl ⟨by rfl, ?_⟩) (by assumption) ?_
        rotate_left
        · (intro w hSw; (try dsimp only at hSw); go_simp; try with_reducible rfl)
        try simp only [Act.put, List.setIfInBounds_toArray, List.set_cons_zero, List.set_cons_succ]
        refine wpAnyH_take (i := 8) (oi := ⟨some 21, _, _, _, _, _⟩) (v := ?_) rfl (by kernel_rfl) (by kernel_rfl) (by kernel_rfl) (fun _ _ _ h => h) (Or.inl ⟨by rfl, ?_⟩) (by assumption) ?_
        rotate_left
        · (intro w hSw; (try dsimp only at hSw); go_simp; try with_reducible rfl)
        try simp only [Act.put, List.setIfInBounds_toArray, List.set_cons_zero, List.set_cons_succ]
        refine wpAnyH_take (i := 9) (oi := ⟨some 22, _, _, _, _, _⟩) (v := ?_) rfl (by kernel_rfl) (by kernel_rfl) (by kernel_rfl) (fun _ _ _ h => h) (Or.inl ⟨by rfl, ?_⟩) (by assumption) ?_
        rotate_left
        · (intro w hSw; (try dsimp only at hSw); go_simp; try with_reducible rfl)
        try simp only [Act.put, List.setIfInBounds_toArray, List.set_cons_zero, List.set_cons_succ]
        refine wpAnyH_take (i := 10) (oi := ⟨some 2, _, _, _, _, _⟩) (v := ?_) rfl (by kernel_rfl) (by kernel_rfl) (by kernel_rfl) (fun _ _ _ h => h) (Or.inl ⟨by rfl, ?_⟩) (by assumption) ?_
        rotate_left
        · (intro w hSw; (try dsimp only at hSw); go_simp; try with_reducible rfl)
        try simp only [Act.put, List.setIfInBounds_toArray, List.set_cons_zero, List.set_cons_succ]
        refine wpAnyH_done (by kernel_rfl) ?_ _
        go_wp2_with fail
        go_ret
        exact ⟨rfl, (by (repeat (first | assumption | exact Ext.refl _ | apply Ext.drew | apply Ext.drewN | apply Ext.alloc | refine Ext.trans ?_ (by assumption))); first | done | fail)⟩
      · by_cases h4 : gb b 1 = 129
        · have e : lnOf b = (gb b 2).toNat := by unfold lnOf; rw [if_neg (fun h => h3 ⟨by omega, h.2⟩), if_pos ⟨by omega, h4⟩]
          have e2 : ((lnOf b : Nat) : Int) = ub (gb b 2) := by rw [e]; rfl
          rw [e2]
          rw [h4] at k1
          have u1 : ub (129 : BitVec 8) = 129 := rfl
          rw [u1] at k1
          clear h hl e h1 hc c1 e2 h2 h3 h4
          generalize gb b 2 = x2 at *
          have hx2 := x2.isLt
          have w2 : IntKind.i64.wrap (ub x2) = ub x2 := by unfold ub; rw [IntKind.wrap_i64]; omega
          clear hx2
          go_enter Tryz.func194, Tryz.ntmps194
          go_wp2_with fail
          all_goals go_ret
          all_goals exact ⟨rfl, (by (repeat (first | assumption | exact Ext.refl _ | apply Ext.drew | apply Ext.drewN | apply Ext.alloc | refine Ext.trans ?_ (by assumption))); first | done | fail)⟩
        · have e : lnOf b = (gb b 1).toNat := by unfold lnOf; rw [if_neg (fun h => h3 ⟨by omega, h.2⟩), if_neg (fun h => h4 h.2), if_pos (by omega)]
          have e2 : ((lnOf b : Nat) : Int) = ub (gb b 1) := by rw [e]; rfl
          rw [e2]
          obtain ⟨d1, d2⟩ := ub_ne h4 129 rfl
          by_cases h5 : 3 < n
          · obtain ⟨d3, d4⟩ := ub_ne (fun e => h3 ⟨h5, e⟩) 130 rfl
            have a3 : (3 : Int) < (n : Int) := by omega
            clear h hl e h1 hc c1 e2 h2 h3 h4 h5
            generalize gb b 1 = x1 at *
            have hx := x1.isLt
            have w1 : IntKind.i64.wrap (ub x1) = ub x1 := by unfold ub; rw [IntKind.wrap_i64]; omega
            clear hx
            go_enter Tryz.func194, Tryz.ntmps194
            go_wp2_with fail
            go_ret
            exact ⟨rfl, (by (repeat (first | assumption | exact Ext.refl _ | apply Ext.drew | apply Ext.drewN | apply Ext.alloc | refine Ext.trans ?_ (by assumption))); first | done | fail)⟩
          · have b1 : decide ((3 : Int) < (n : Int)) = false := decide_eq_false (by omega)
            have b1' : ¬ (3 : Int) < (n : Int) := by omega
            clear h hl e h1 hc c1 e2 h2 h3 h4 h5
            generalize gb b 1 = x1 at *
            have hx := x1.isLt
            have w1 : IntKind.i64.wrap (ub x1) = ub x1 := by unfold ub; rw [IntKind.wrap_i64]; omega
            clear hx
            go_enter Tryz.func194, Tryz.ntmps194
            go_wp2_with fail
            go_ret
            exact ⟨rfl, (by (repeat (first | assumption | exact Ext.refl _ | apply Ext.drew | apply Ext.drewN | apply Ext.alloc | refine Ext.trans ?_ (by assumption))); first | done | fail)⟩
end Go.Proofs.YtkdjhklnlnfhfaaGreatDoor
namespace Go.Proofs.YtkdjhklnlnfhfaaGreatDoor
open Go Go.RowKit
set_option maxRecDepth 4000

abbrev elt : TypeId := 188
theorem szEl : (Tryz.prog.info? elt).map (·.size) = some 3 := by kernel_rfl
/-- what elementOf tells where none begins -/
def ElN (w : World) (k : Int) (e : Ending) (w' : World) : Prop := e = .returned (.tuple #[.agg #[.slice none 0 0, .slice none 0 0, .slice none 0 0], err k]) ∧ Ext w w'
theorem results_el {fn : Func} {p u : Tmp} (h : fn.results = #[.cell p elt, .tmp u]) (tmps : Array Value) (w : World) (g : Nat) (a b d v : Value)
    (hp : tmps.getD p undef = .pointer (some ⟨g, 0, none⟩)) (hv : tmps.getD u undef = v) (hg : Blk w g elt #[a, b, d]) :
    (results fn tmps).run Tryz.prog w = .ok (.tuple #[.agg #[a, b, d], v]) w :=
  results_cell_row2 h tmps w g elt #[a, b, d] v _ hp hv hg Tryz.underlying188 rfl szEl
set_option maxHeartbeats 1000000 in
theorem elementOf_none {A : Option Addr} {c : Nat} {w : World} : Calls Tryz.prog 156 #[.slice A 0 c] w (ElN w 13) := by
  have HB := Kp.mk (Blk.new w elt #[.slice none 0 0, .slice none 0 0, .slice none 0 0])
  have HX := Kp.mk (Ext.setRow ((by (repeat (first | assumption | exact Ext.refl _ | apply Ext.drew | apply Ext.drewN | apply Ext.alloc | refine Ext.trans ?_ (by assumption))); first | done | fail) : Ext w (w.alloc (.cells #[.slice none 0 0, .slice none 0 0, .slice none 0 0] elt))) (Nat.le_refl _) #[.slice none 0 0, .slice none 0 0, .slice none 0 0])
  go_enter Tryz.func156, Tryz.ntmps156
  go_wp2_with (first | ((with_reducible refine at_store 2 11 ?_); refine wpList_store_row rfl elt _ _ rfl w.heap.size #[.slice none 0 0, .slice none 0 0, .slice none 0 0] rfl rfl elt _ HB.out.h szEl rfl (one_three _ _ _ _ _ _ _ _ _) ?_) | fail)
  refine bodyPost_ret (results_el rfl _ _ w.heap.size _ _ _ _ rfl rfl (HB.out.row _)) rfl ?_
  exact ⟨rfl, HX.out⟩
/-- where no element begins -/
theorem el_no {b : List (BitVec 8)} (h : ¬ ∃ m x r, El b m x r) (hm : mkB (gb b 0) = true) : b.take (hdn (lnOf b)) ≠ hdr (gb b 0) (lnOf b) ∨ (b.take (hdn (lnOf b)) = hdr (gb b 0) (lnOf b) ∧ b.length < hdn (lnOf b) + lnOf b) := by
  by_cases hp : b.take (hdn (lnOf b)) = hdr (gb b 0) (lnOf b)
  · by_cases hr : hdn (lnOf b) + lnOf b ≤ b.length
    · exact absurd ⟨_, _, _, el_of hm (lnOf_hi b) hp hr⟩ h
    · exact .inr ⟨hp, by omega⟩
  · exact .inl hp
set_option maxHeartbeats 4000000 in
theorem elementOf_form {b : List (BitVec 8)} {A : Option Addr} {n c : Nat} {w : World} (hb : Bs w A n c b) (hn : 0 < n) (hn2 : n ≤ 1000000000000) (h : ¬ ∃ m x r, El b m x r) : Calls Tryz.prog 156 #[.slice A n c] w (ElN w 2) := by
  have hl := hb.len
  have hx0 : Ext w (w.alloc (.cells #[.slice none 0 0, .slice none 0 0, .slice none 0 0] elt)) := (by (repeat (first | assumption | exact Ext.refl _ | apply Ext.drew | apply Ext.drewN | apply Ext.alloc | refine Ext.trans ?_ (by assumption))); first | done | fail)
  have hB0 := Blk.new w elt #[.slice none 0 0, .slice none 0 0, .slice none 0 0]
  have b0 : ((n : Int) == 0) = false := beq_eq_false_iff_ne.2 (by omega)
  have b0' : ¬ n = 0 := by omega
  have b1 : 0 < (n : Int) := by omega
  obtain ⟨g, o, rfl, hc⟩ := hb.s.2.2.2 hn
  have k0 : ∀ (w' : World), Ext w w' → w'.cell? ⟨g, o, none⟩ = some (.int .u8 (ub (gb b 0))) := fun w' hx => by
    obtain ⟨g', o', e, hc'⟩ := (hb.ext hx).s.2.2.2 hn
    cases e
    have h1 := hc' 0 hn
    rwa [Nat.add_zero] at h1
  have LO := Kp.mk (lengthOf_any (hb.ext hx0))
  have HB0 := Kp.mk hB0
  have HX0 := Kp.mk hx0
  have hk0 := k0 _ hx0
  have HBB := Kp.mk hb
  cases hm : mkB (gb b 0) with
  | false =>
    have C := Kp.mk (fun u => Head_arg (gb b 0) ((lnOf b : Nat) : Int) (.inl hm) u)
    generalize gb b 0 = x0 at *
    generalize lnOf b = N at *
    clear h hl hb hc hB0 hx0 hm
    go_enter Tryz.func156, Tryz.ntmps156
    go_wp2_with (first | (go_at_call 194; refine LO.out.mono ?_; rintro e w1 ⟨rfl, hx1⟩; have HX1 := Kp.mk (HX0.out.trans hx1); have k01 := k0 w1 HX1.out; have HB1 := Kp.mk (HB0.out.ext hx1); clear hx1) | (go_at_call 101; refine (C.out _).mono ?_; rintro e w2 ⟨rfl, hx2⟩; have HX2 := Kp.mk (HX1.out.trans hx2); have HB2 := Kp.mk (HB1.out.ext hx2); clear hx2) | ((with_reducible refine at_store 2 40 ?_); refine wpList_store_row rfl elt _ _ rfl w.heap.size #[.slice none 0 0, .slice none 0 0, .slice none 0 0] rfl rfl elt _ HB2.out.h szEl rfl (one_three _ _ _ _ _ _ _ _ _) ?_) | fail)
    refine bodyPost_ret (results_el rfl _ _ w.heap.size _ _ _ _ rfl rfl (HB2.out.row _)) rfl ?_
    exact ⟨rfl, HX2.out.setRow (Nat.le_refl _) _⟩
  | true =>
    have hhi := hdn_hi (lnOf b)
    have hlo := hdn_lo (lnOf b)
    have C := Kp.mk (fun u => Head_ok (gb b 0) (lnOf b) (lnOf_hi b) hm u)
    rcases el_no h hm with hp | ⟨hp, hr⟩
    · have HP := Kp.mk hp
      obtain ⟨D, hD⟩ : ∃ D, hdr (gb b 0) (lnOf b) = D := ⟨_, rfl⟩
      obtain ⟨k, hk⟩ : ∃ k, hdn (lnOf b) = k := ⟨_, rfl⟩
      rw [hD, hk] at C HP
      rw [hk] at hhi hlo
      generalize gb b 0 = x0 at *
      generalize lnOf b = N at *
      have HK : Kp (k ≤ 4611686018427387904) := ⟨by omega⟩
      have HN : Kp (n ≤ 4611686018427387904) := ⟨by omega⟩
      clear h hl hb hc hB0 hx0 hm hhi hlo hp hn2
      go_enter Tryz.func156, Tryz.ntmps156
      go_wp2_with (first | (go_at_call 194; refine LO.out.mono ?_; rintro e w1 ⟨rfl, hx1⟩; have HX1 := Kp.mk (HX0.out.trans hx1); have k01 := k0 w1 HX1.out; have HB1 := Kp.mk (HB0.out.ext hx1); clear hx1) | (go_at_call 101; refine (C.out _).mono ?_; rintro e w2 ⟨A2, c2, rfl, hs2, ho2, hx2⟩; have HX2 := Kp.mk (HX1.out.trans hx2); have HB2 := Kp.mk (HB1.out.ext hx2); have HS2 := Kp.mk hs2; clear hx2 hs2 ho2) | (go_at_call 195; refine (HasPrefix_any (HBB.out.ext HX2.out) HS2.out HN.out HK.out false (by simp [HP.out])).mono ?_; rintro e w3 ⟨rfl, rfl⟩) | ((with_reducible refine at_store 2 40 ?_); refine wpList_store_row rfl elt _ _ rfl w.heap.size #[.slice none 0 0, .slice none 0 0, .slice none 0 0] rfl rfl elt _ HB2.out.h szEl rfl (one_three _ _ _ _ _ _ _ _ _) ?_) | fail)
      refine bodyPost_ret (results_el rfl _ _ w.heap.size _ _ _ _ rfl rfl (HB2.out.row _)) rfl ?_
      exact ⟨rfl, HX2.out.setRow (Nat.le_refl _) _⟩
    · have HP := Kp.mk hp
      have hnl := lnOf_hi b
      have hkn : hdn (lnOf b) ≤ b.length := by
        have := congrArg List.length hp
        rw [List.length_take, hdr_len] at this
        omega
      obtain ⟨D, hD⟩ : ∃ D, hdr (gb b 0) (lnOf b) = D := ⟨_, rfl⟩
      obtain ⟨k, hk⟩ : ∃ k, hdn (lnOf b) = k := ⟨_, rfl⟩
      rw [hD, hk] at C HP
      rw [hk] at hhi hlo hr hkn
      rw [hl] at hr hkn
      generalize gb b 0 = x0 at *
      generalize lnOf b = N at *
      have HK : Kp (k ≤ 4611686018427387904) := ⟨by omega⟩
      have HN : Kp (n ≤ 4611686018427387904) := ⟨by omega⟩
      obtain ⟨z, hz⟩ : ∃ z : Nat, n - k = z := ⟨_, rfl⟩
      have b2 : IntKind.i64.wrap ((n : Int) - (k : Int)) = (z : Int) := by rw [IntKind.wrap_i64]; omega
      have b3 : (z : Int) < (N : Int) := by omega
      clear h hl hb hc hB0 hx0 hm hhi hlo hp hn2 hr hkn hz hnl
      go_enter Tryz.func156, Tryz.ntmps156
      go_wp2_with (first | (go_at_call 194; refine LO.out.mono ?_; rintro e w1 ⟨rfl, hx1⟩; have HX1 := Kp.mk (HX0.out.trans hx1); have k01 := k0 w1 HX1.out; have HB1 := Kp.mk (HB0.out.ext hx1); clear hx1) | (go_at_call 101; refine (C.out _).mono ?_; rintro e w2 ⟨A2, c2, rfl, hs2, ho2, hx2⟩; have HX2 := Kp.mk (HX1.out.trans hx2); have HB2 := Kp.mk (HB1.out.ext hx2); have HS2 := Kp.mk hs2; clear hx2 hs2 ho2) | (go_at_call 195; refine (HasPrefix_any (HBB.out.ext HX2.out) HS2.out HN.out HK.out true (by simp [HP.out])).mono ?_; rintro e w3 ⟨rfl, rfl⟩) | ((with_reducible refine at_store 2 40 ?_); refine wpList_store_row rfl elt _ _ rfl w.heap.size #[.slice none 0 0, .slice none 0 0, .slice none 0 0] rfl rfl elt _ HB2.out.h szEl rfl (one_three _ _ _ _ _ _ _ _ _) ?_) | fail)
      refine bodyPost_ret (results_el rfl _ _ w.heap.size _ _ _ _ rfl rfl (HB2.out.row _)) rfl ?_
      exact ⟨rfl, HX2.out.setRow (Nat.le_refl _) _⟩
end Go.Proofs.YtkdjhklnlnfhfaaGreatDoor
namespace Go.Proofs.YtkdjhklnlnfhfaaGreatDoor
open Go Go.RowKit
set_option maxRecDepth 4000

/-- a slice's cells lie in these blocks -/
def In (A : Option Addr) (n : Nat) (ds : List Nat) : Prop := ∀ ad, 0 < n → A = some ad → ad.block ∈ ds
theorem In.none (n : Nat) (ds : List Nat) : In Option.none n ds := fun _ _ h => by cases h
theorem In.zero (A : Option Addr) (ds : List Nat) : In A 0 ds := fun _ h => absurd h (Nat.lt_irrefl 0)
theorem In.off {A : Option Addr} {n : Nat} {ds G : List Nat} (h : In A n ds) (ha : Ap ds G) : Off A n G := fun ad hn e => ha _ (h ad hn e)
theorem In.less {A : Option Addr} {n m : Nat} {ds : List Nat} (h : In A n ds) (hm : 0 < m → 0 < n) : In A m ds := fun ad hn e => h ad (hm hn) e
theorem In.sub {A : Option Addr} {n m c k : Nat} {ds : List Nat} (h : In A n ds) (hm : 0 < m → 0 < n) : In (if c = k then A else A.map (·.add k)) m ds := fun ad hn e => by
  cases A with
  | none => split at e <;> simp at e
  | some a =>
    have h1 := h a (hm hn) rfl
    split at e
    · cases e; exact h1
    · simp only [Option.map_some, Option.some.injEq] at e
      rw [← e]
      unfold Addr.add
      split <;> exact h1
/-- s[i:j] -/
theorem run_midA {P : Program} (A : Option Addr) (n c t e : Nat) (ht : P.underlying t = some (.slice e)) (hs : (P.info? e).map (·.size) = some 1) (i j : Nat) (x y : Int) (hx : x = (i : Int)) (hy : y = (j : Int)) (hij : i ≤ j) (hj : j ≤ c) (w : World) :
    (Instr.sliceAt t (.slice A n c) (some (.int .i64 x)) (some (.int .i64 y)) none).run P w = .ok (.slice (if c = i then A else A.map (·.add i)) (j - i) (c - i)) w := by
  subst hx hy
  cases hq : P.info? e with
  | none => simp [hq] at hs
  | some i' =>
    have hs1 : i'.size = 1 := by simpa [hq] using hs
    simp [Instr.sliceAt, Instr.slice, run_underlying ht, Instr.sliceBounds, Instr.sliceBound, asIntOf, sizeOf, typeInfo, hq, hs1, hij, hj]
/-- what elementOf tells of an element -/
def ElR (w : World) (ds : List Nat) (m : BitVec 8) (x r : List (BitVec 8)) (e : Ending) (w' : World) : Prop :=
  ∃ A1 n1 c1 A2 n2 c2 A3 n3 c3, e = .returned (.tuple #[.agg #[.slice A1 n1 c1, .slice A2 n2 c2, .slice A3 n3 c3], .nilIface]) ∧
    Bs w' A1 n1 c1 (elm m x) ∧ Bs w' A2 n2 c2 x ∧ Bs w' A3 n3 c3 r ∧ In A1 n1 ds ∧ In A2 n2 ds ∧ In A3 n3 ds ∧ Ext w w'
set_option maxHeartbeats 8000000 in
theorem elementOf_ok {b x r : List (BitVec 8)} {m : BitVec 8} {A : Option Addr} {n c : Nat} {w : World} {ds : List Nat} (hb : Bs w A n c b) (hi : In A n ds) (hn2 : n ≤ 1000000000000) (h : El b m x r) : Calls Tryz.prog 156 #[.slice A n c] w (ElR w ds m x r) := by
  have hl := hb.len
  obtain ⟨p1, p2, p3, p4, p5, p6⟩ := el_parts h
  have hlo := hdn_lo x.length
  have hhi := hdn_hi x.length
  have hcap := hb.cap
  have hn : 0 < n := by omega
  have hx0 : Ext w (w.alloc (.cells #[.slice none 0 0, .slice none 0 0, .slice none 0 0] elt)) := (by (repeat (first | assumption | exact Ext.refl _ | apply Ext.drew | apply Ext.drewN | apply Ext.alloc | refine Ext.trans ?_ (by assumption))); first | done | fail)
  have hB0 := Blk.new w elt #[.slice none 0 0, .slice none 0 0, .slice none 0 0]
  have b0 : ((n : Int) == 0) = false := beq_eq_false_iff_ne.2 (by omega)
  have b0' : ¬ n = 0 := by omega
  have b1 : 0 < (n : Int) := by omega
  have k0 : ∃ g o, A = some ⟨g, o, none⟩ ∧ ∀ (w' : World), Ext w w' → w'.cell? ⟨g, o, none⟩ = some (.int .u8 (ub m)) := by
    obtain ⟨g, o, e, hc⟩ := hb.s.2.2.2 hn
    refine ⟨g, o, e, fun w' hx => ?_⟩
    obtain ⟨g', o', e', hc'⟩ := (hb.ext hx).s.2.2.2 hn
    rw [e] at e'
    cases e'
    have h1 := hc' 0 hn
    rwa [Nat.add_zero, p1] at h1
  have LO := Kp.mk (lengthOf_any (hb.ext hx0))
  rw [lnOf_el h] at LO
  have C := Kp.mk (fun u => Head_ok m x.length h.2.1 h.1 u)
  have HP : Kp (b.take (hdn x.length) = hdr m x.length) := ⟨p2⟩
  obtain ⟨D, hD⟩ : ∃ D, hdr m x.length = D := ⟨_, rfl⟩
  obtain ⟨k, hk⟩ : ∃ k, hdn x.length = k := ⟨_, rfl⟩
  obtain ⟨N, hN⟩ : ∃ N, x.length = N := ⟨_, rfl⟩
  obtain ⟨T, hT⟩ : ∃ T, k + N = T := ⟨_, rfl⟩
  have p7 : (b.take T).drop k = x := by
    rw [List.drop_take, ← hT, show k + N - k = N by omega, ← hk, ← hN]
    exact p5
  rw [hD, hk] at C HP
  rw [hN] at C LO p3 p4 p5 p6
  rw [show hdn N = k by rw [← hN, hk]] at p3 p4 p5 p6
  rw [hk] at hlo hhi
  rw [hT] at p4 p6
  have hTn : T ≤ n := by omega
  have hs1 := fun W => run_upto (P := Tryz.prog) A n c 39 5 Tryz.underlying39 szB T (T : Int) rfl (by omega) W
  have hs2 := fun W => run_midA (P := Tryz.prog) A n c 39 5 Tryz.underlying39 szB k T (k : Int) (T : Int) rfl rfl (by omega) (by omega) W
  have hs3 := fun W => run_from (P := Tryz.prog) A n c 39 5 Tryz.underlying39 szB T (T : Int) rfl (by omega) W
  have R1 := Kp.mk (hb.take T hTn)
  have R2 := Kp.mk ((hb.take T hTn).drop k (by omega))
  have R3 := Kp.mk (hb.drop T hTn)
  rw [p4] at R1
  rw [p7] at R2
  rw [p6] at R3
  have I1 := Kp.mk (hi.less (m := T) (fun _ => hn))
  have I2 := Kp.mk (hi.sub (m := T - k) (c := c) (k := k) (fun _ => hn))
  have I3 := Kp.mk (hi.sub (m := n - T) (c := c) (k := T) (fun _ => hn))
  obtain ⟨A2, hA2⟩ : ∃ A2, (if c = k then A else A.map (·.add k)) = A2 := ⟨_, rfl⟩
  obtain ⟨A3, hA3⟩ : ∃ A3, (if c = T then A else A.map (·.add T)) = A3 := ⟨_, rfl⟩
  rw [hA2] at R2 I2
  rw [hA3] at R3 I3
  simp only [hA2] at hs2
  simp only [hA3] at hs3
  obtain ⟨n2, hn2'⟩ : ∃ n2, T - k = n2 := ⟨_, rfl⟩
  obtain ⟨n3, hn3⟩ : ∃ n3, n - T = n3 := ⟨_, rfl⟩
  obtain ⟨c2, hc2⟩ : ∃ c2, c - k = c2 := ⟨_, rfl⟩
  obtain ⟨c3, hc3⟩ : ∃ c3, c - T = c3 := ⟨_, rfl⟩
  rw [hn2', hc2] at R2
  rw [hn2'] at I2
  rw [hn3, hc3] at R3
  rw [hn3] at I3
  simp only [hn2', hc2] at hs2
  simp only [hn3, hc3] at hs3
  obtain ⟨z, hz⟩ : ∃ z : Nat, n - k = z := ⟨_, rfl⟩
  have b2 : IntKind.i64.wrap ((n : Int) - (k : Int)) = (z : Int) := by rw [IntKind.wrap_i64]; omega
  have b3 : decide ((z : Int) < (N : Int)) = false := decide_eq_false (by omega)
  have b3' : decide (z < N) = false := decide_eq_false (by omega)
  have b3'' : ¬ z < N := by omega
  have b4 : IntKind.i64.wrap ((k : Int) + (N : Int)) = (T : Int) := by rw [IntKind.wrap_i64]; omega
  have HK : Kp (k ≤ 4611686018427387904) := ⟨by omega⟩
  have HN : Kp (n ≤ 4611686018427387904) := ⟨by omega⟩
  have HB0 := Kp.mk hB0
  have HX0 := Kp.mk hx0
  have HBB := Kp.mk hb
  obtain ⟨g, o, rfl, k0⟩ := k0
  have hk0 := k0 _ hx0
  clear h hl hb hi hB0 hx0 hhi hlo hcap hn hn2 p1 p2 p3 p4 p5 p6 p7 hD hk hN hT hTn hA2 hA3 hn2' hn3 hc2 hc3 hz
  go_enter Tryz.func156, Tryz.ntmps156
  go_wp2_with (first | (go_at_call 194; refine LO.out.mono ?_; rintro e w1 ⟨rfl, hx1⟩; have HX1 := Kp.mk (HX0.out.trans hx1); have k01 := k0 w1 HX1.out; have HB1 := Kp.mk (HB0.out.ext hx1); clear hx1) | (go_at_call 101; refine (C.out _).mono ?_; rintro e w2 ⟨A5, c5, rfl, hs5, ho5, hx5⟩; have HX2 := Kp.mk (HX1.out.trans hx5); have HB2 := Kp.mk (HB1.out.ext hx5); have HS2 := Kp.mk hs5; clear hx5 hs5 ho5) | (go_at_call 195; refine (HasPrefix_any (HBB.out.ext HX2.out) HS2.out HN.out HK.out true (by simp [HP.out])).mono ?_; rintro e w3 ⟨rfl, rfl⟩) | fail)
  refine wp_region_held_drew (S := fun _ => True) (by kernel_rfl) trivial (fun hHeld => ?_)
  refine wpAnyH_take (i := 0) (oi := ⟨some 46, _, _, _, _, _⟩) (v := ?_) rfl (by kernel_rfl) (by kernel_rfl) (by kernel_rfl) (fun _ _ _ h => h) (Or.inl ⟨by rfl, ?_⟩) (by assumption) ?_
  rotate_left
  · (intro w hSw; (try dsimp only at hSw); go_simp; try with_reducible rfl)
  try simp only [Act.put, List.setIfInBounds_toArray, List.set_cons_zero, List.set_cons_succ]
  refine wpAnyH_take (i := 1) (oi := ⟨some 47, _, _, _, _, _⟩) (v := ?_) rfl (by kernel_rfl) (by kernel_rfl) (by kernel_rfl) (fun _ _ _ h => h) (Or.inl ⟨by rfl, ?_⟩) (by assumption) ?_
  rotate_left
  · (intro w hSw; (try dsimp only at hSw); go_simp; try with_reducible rfl)
  try simp only [Act.put, List.setIfInBounds_toArray, List.set_cons_zero, List.set_cons_succ]
  refine wpAnyH_take (i := 2) (oi := ⟨some 48, _, _, _, _, _⟩) (v := ?_) rfl (by kernel_rfl) (by kernel_rfl) (by kernel_rfl) (fun _ _ _ h => h) (Or.inl ⟨by rfl, ?_⟩) (by assumption) ?_
  rotate_left
  · (intro w hSw; (try dsimp only at hSw); go_simp; try with_reducible rfl)
  try simp only [Act.put, List.setIfInBounds_toArray, List.set_cons_zero, List.set_cons_succ]
  refine wpAnyH_take (i := 3) (oi := ⟨some 49, _, _, _, _, _⟩) (v := ?_) rfl (by kernel_rfl) (by kernel_rfl) (by kernel_rfl) (fun _ _ _ h => h) (Or.inl ⟨by rfl, ?_⟩) (by assumption) ?_
  rotate_left
  · (intro w hSw; (try dsimp only at hSw); go_simp; try with_reducible rfl)
  try simp only [Act.put, List.setIfInBounds_toArray, List.set_cons_zero, List.set_cons_succ]
  refine wpAnyH_take (i := 4) (oi := ⟨some 50, _, _, _, _, _⟩) (v := ?_) rfl (by kernel_rfl) (by kernel_rfl) (by kernel_rfl) (fun _ _ _ h => h) (Or.inl ⟨by rfl, ?_⟩) (by assumption) ?_
  rotate_left
  · (intro w hSw; (try dsimp only at hSw); go_simp; try with_reducible rfl)
  try simp only [Act.put, List.setIfInBounds_toArray, List.set_cons_zero, List.set_cons_succ]
  refine wpAnyH_take (i := 5) (oi := ⟨some 51, _, _, _, _, _⟩) (v := ?_) rfl (by kernel_rfl) (by kernel_rfl) (by kernel_rfl) (fun _ _ _ h => h) (Or.inl ⟨by rfl, ?_⟩) (by assumption) ?_
  rotate_left
  · (intro w hSw; (try dsimp only at hSw); go_simp; try with_reducible rfl)
  try simp only [Act.put, List.setIfInBounds_toArray, List.set_cons_zero, List.set_cons_succ]
  refine wpAnyH_take (i := 6) (oi := ⟨some 52, _, _, _, _, _⟩) (v := ?_) rfl (by kernel_rfl) (by kernel_rfl) (by kernel_rfl) (fun _ _ _ h => h) (Or.inl ⟨by rfl, ?_⟩) (by assumption) ?_
  rotate_left
  · (intro w hSw; (try dsimp only at hSw); go_simp; try with_reducible rfl)
  try simp only [Act.put, List.setIfInBounds_toArray, List.set_cons_zero, List.set_cons_succ]
  refine wpAnyH_take (i := 7) (oi := ⟨some 53, _, _, _, _, _⟩) (v := ?_) rfl (by kernel_rfl) (by kernel_rfl) (by kernel_rfl) (fun _ _ _ h => h) (Or.inl ⟨by rfl, ?_⟩) (by assumption) ?_
  rotate_left
  · (intro w hSw; (try dsimp only at hSw); go_simp; try with_reducible rfl)
  try simp only [Act.put, List.setIfInBounds_toArray, List.set_cons_zero, List.set_cons_succ]
  refine wpAnyH_take (i := 8) (oi := ⟨some 54, _, _, _, _, _⟩) (v := ?_) rfl (by kernel_rfl) (by kernel_rfl) (by kernel_rfl) (fun _ _ _ h => h) (Or.inl ⟨by rfl, ?_⟩) (by assumption) ?_
  rotate_left
  · (intro w hSw; (try dsimp only at hSw); go_simp; try with_reducible rfl)
  try simp only [Act.put, List.setIfInBounds_toArray, List.set_cons_zero, List.set_cons_succ]
  refine wpAnyH_take (i := 9) (oi := ⟨some 55, _, _, _, _, _⟩) (v := ?_) rfl (by kernel_rfl) (by kernel_rfl) (by kernel_rfl) (fun _ _ _ h => h) (Or.inl ⟨by rfl, ?_⟩) (by assumption) ?_
  rotate_left
  · (intro w hSw; (try dsimp only at hSw); go_simp; try with_reducible rfl)
  try simp only [Act.put, List.setIfInBounds_toArray, List.set_cons_zero, List.set_cons_succ]
  refine wpAnyH_take (i := 10) (oi := ⟨some 56, _, _, _, _, _⟩) (v := ?_) rfl (by kernel_rfl) (by kernel_rfl) (by kernel_rfl) (fun _ _ _ h => h) (Or.inl ⟨by rfl, ?_⟩) (by assumption) ?_
  rotate_left
  · (intro w hSw; (try dsimp only at hSw); go_simp; try with_reducible rfl)
  try simp only [Act.put, List.setIfInBounds_toArray, List.set_cons_zero, List.set_cons_succ]
  refine wpAnyH_take (i := 11) (oi := ⟨some 57, _, _, _, _, _⟩) (v := ?_) rfl (by kernel_rfl) (by kernel_rfl) (by kernel_rfl) (fun _ _ _ h => h) (Or.inl ⟨by rfl, ?_⟩) (by assumption) ?_
  rotate_left
  · (intro w hSw; (try dsimp only at hSw); go_simp; try with_reducible rfl)
  try simp only [Act.put, List.setIfInBounds_toArray, List.set_cons_zero, List.set_cons_succ]
  refine next_one 12 (by kernel_rfl) rfl (by rfl) fun K' HK' => ?_
  refine wp_store_row elt (.tmp 2) (.tmp 57) rfl w.heap.size #[.slice (some ⟨g, o, none⟩) T c, .slice A2 n2 c2, .slice A3 n3 c3] rfl rfl elt _ (HB2.out.ext (by (repeat (first | assumption | exact Ext.refl _ | apply Ext.drew | apply Ext.drewN | apply Ext.alloc | refine Ext.trans ?_ (by assumption))); first | done | fail)).h szEl rfl (one_three _ _ _ _ _ _ _ _ _) ?_
  refine held_go HK' trivial (fun hHeld => ?_)
  clear HK'
  try simp only [Act.put, List.setIfInBounds_toArray, List.set_cons_zero, List.set_cons_succ]
  refine wpAnyH_take (i := 13) (oi := ⟨some 3, _, _, _, _, _⟩) (v := ?_) rfl (by kernel_rfl) (by kernel_rfl) (by kernel_rfl) (fun _ _ _ h => h) (Or.inl ⟨by rfl, ?_⟩) (by assumption) ?_
  rotate_left
  · (intro w hSw; (try dsimp only at hSw); go_simp; try with_reducible rfl)
  try simp only [Act.put, List.setIfInBounds_toArray, List.set_cons_zero, List.set_cons_succ]
  refine wpAnyH_done (by kernel_rfl) ?_ _
  have hx := (HX2.out.trans ((by (repeat (first | assumption | exact Ext.refl _ | apply Ext.drew | apply Ext.drewN | apply Ext.alloc | refine Ext.trans ?_ (by assumption))); first | done | fail) : Ext w3 w3.drew)).setRow (Nat.le_refl _) #[Value.slice (some ⟨g, o, none⟩) T c, .slice A2 n2 c2, .slice A3 n3 c3]
  go_wp2_with fail
  refine bodyPost_ret (results_el rfl _ _ w.heap.size _ _ _ _ rfl rfl ((HB2.out.ext ((by (repeat (first | assumption | exact Ext.refl _ | apply Ext.drew | apply Ext.drewN | apply Ext.alloc | refine Ext.trans ?_ (by assumption))); first | done | fail) : Ext w3 w3.drew)).row _)) rfl ?_
  exact ⟨_, _, _, _, _, _, _, _, _, rfl, R1.out.ext hx, R2.out.ext hx, R3.out.ext hx, I1.out, I2.out, I3.out, hx⟩
end Go.Proofs.YtkdjhklnlnfhfaaGreatDoor
