/-
  The walks of the reference's Keys and Encrypt.
-/
import Derived.Test.YtjjoghdlbnlicaaDoorBr
import Derived.Test.YtjjoghdlbnlicaaDoorRo
namespace Go.Proofs.YtjjoghdlbnlicaaDoor
open Go Go.RowKit

/-- the rounds' keys, told -/
def kl (key : List (BitVec 8)) (n : Nat) : List (List (BitVec 8)) := (List.range n).map (ks key)
theorem kl_len (key : List (BitVec 8)) (n : Nat) : (kl key n).length = n := by simp [kl]
theorem kl_succ (key : List (BitVec 8)) (n : Nat) : kl key (n + 1) = kl key n ++ [ks key n] := by unfold kl; rw [List.range_succ, List.map_append]; rfl
theorem kl_at (key : List (BitVec 8)) (n j : Nat) (h : j < n) : (kl key n)[j]? = some (ks key j) := by simp [kl, h]
theorem nkF_lo (l : List (BitVec 8)) (r : BitVec 8) (j : Nat) (h : j < 4) : nkF l r j = gb l j ^^^ (if j = 0 then sb (gb l 13) ^^^ r else sb (gb l (12 + (j + 1) % 4))) := by
  match j with
  | 0 => rfl
  | 1 => rfl
  | 2 => rfl
  | 3 => rfl
  | j + 4 => omega
theorem Bs.cell {w : World} {A : Option Addr} {n c : Nat} {l : List (BitVec 8)} (h : Bs w A n c l) (hn : 0 < n) : ∃ g o, A = some ⟨g, o, none⟩ ∧ ∀ j, j < n → w.cell? ⟨g, o + j, none⟩ = some (.int .u8 (ub (gb l j))) := h.s.2.2.2 hn

set_option maxHeartbeats 4000000 in
theorem refKeys_any {key : List (BitVec 8)} {T A : Option Addr} {ct c : Nat} {w : World} (ht : Bs w T 256 ct SB) (hk : Bs w A 16 c key) :
    Calls Tryd.prog 33 #[.slice T 256 ct, .slice A 16 c] w fun e w' => ∃ Ao co, e = .returned (.slice Ao 11 co) ∧ Rws w' w.heap.size (.slice Ao 11 co) (kl key 11) ∧ Ext w w' := by
  have hkl := hk.len
  go_enter Tryd.func33, Tryd.ntmps33
  go_wp2_with (first | (at_builtin; refine wpList_append_bs rfl (.tmp 13) (.tmp 14) rfl w.heap.size _ 0 [] rfl (Own.new w w.heap.size 0 [] rfl (Nat.le_refl _) (by decide)) A 16 c key rfl (hk.ext (by (repeat (first | assumption | exact Ext.refl _ | apply Ext.drew | apply Ext.drewN | apply Ext.alloc | refine Ext.trans ?_ (by assumption))); first | done | fail)) (by omega) 16 rfl key rfl w (by (repeat (first | assumption | exact Ext.refl _ | apply Ext.drew | apply Ext.drewN | apply Ext.alloc | refine Ext.trans ?_ (by assumption))); first | done | fail) (Nat.le_refl _) (Ext.size (by (repeat (first | assumption | exact Ext.refl _ | apply Ext.drew | apply Ext.drewN | apply Ext.alloc | refine Ext.trans ?_ (by assumption))); first | done | fail)) ?_; intro A1 c1 w1 ho1 hx1 _) | fail)
  have ho1' : Own (w1.alloc (.cells #[.slice A1 16 c1] 22)) w.heap.size (.slice A1 16 c1) key.length key := by rw [hkl]; exact ho1.ext (by (repeat (first | assumption | exact Ext.refl _ | apply Ext.drew | apply Ext.drewN | apply Ext.alloc | refine Ext.trans ?_ (by assumption))); first | done | fail)
  have hr0 : Rws (w1.alloc (.cells #[.slice A1 16 c1] 22)) w.heap.size (.slice (some ⟨w1.heap.size, 0, none⟩) 1 1) [key] := Rws.one ho1' hx1.size (Has.new _ _ _ _ rfl)
  have hx0 : Ext w (w1.alloc (.cells #[.slice A1 16 c1] 22)) := hx1.alloc _
  obtain ⟨gt, ot, rfl, htc⟩ := ht.cell (by decide)
  have HT := Kp.mk ht
  have HKL := Kp.mk hkl
  clear ho1 ho1' hx1 hk htc ht hkl
  go_loopw [5, 6, 7] (fun ov nv iv wr => ∃ n m : Nat, m = n + 1 ∧ n ≤ 10 ∧ iv = .int .i64 n ∧ nv = .int .u8 (ub (num n)) ∧ (∃ A c, ov = .slice A m c) ∧ Rws wr w.heap.size ov (kl key m) ∧ Ext w wr) (fun _ _ i _ => 10 - (intOf i).toNat)
  case atStart => exact ⟨0, 1, rfl, by omega, rfl, rfl, ⟨_, _, rfl⟩, hr0, hx0⟩
  case round =>
    clear hr0 hx0
    obtain ⟨n, m, hm, hn, rfl, rfl, ⟨Ao, co, rfl⟩, ho, hx⟩ := hrel
    by_cases hlt : n < 10
    · have b1 : (n : Int) < 10 := by omega
      have b4 : n < m := by omega
      have b5 : m ≤ 10 := by omega
      obtain ⟨g, c', Aw, dw, e1, hg1, hg2, hcw, how, hne⟩ := ho.get n _ (kl_at key m n (by omega))
      obtain ⟨rfl, rfl⟩ : Ao = some ⟨g, 0, none⟩ ∧ c' = co := by rw [kl_len] at e1; cases e1; exact ⟨rfl, rfl⟩
      clear e1 hne
      have hll := ks_len key HKL.out n
      rw [hll] at hcw how
      obtain ⟨gw, rfl, hgw, hgw2⟩ := how.some_ (by decide)
      have HTM : Kp (∀ w', Calls Tryd.prog 34 #[.int .u8 (ub (num n)), .int .u8 2] w' fun e w'' => e = .returned (.int .u8 (ub (num (n + 1)))) ∧ w' = w'') := ⟨fun w' => by
        have h := Times_any (num n) 2 w'
        rw [tm_two] at h
        exact h⟩
      have hks : li 16 (nkF (ks key n) (num n)) = ks key (n + 1) := rfl
      have HKS := Kp.mk hks
      have hwc : ∀ w', Ext wr w' → ∀ j, j < 16 → w'.cell? ⟨gw, j, none⟩ = some (.int .u8 (ub (gb (ks key n) j))) := fun w' hx j hj => (how.ext hx).cell j hj
      have htc : ∀ w', Ext wr w' → ∀ x : BitVec 8, w'.cell? ⟨gt, ot + x.toNat, none⟩ = some (.int .u8 (ub (sb x))) := fun w' hx' x => by
        obtain ⟨g9, o9, e9, h9⟩ := ((HT.out.ext hx).ext hx').cell (by decide)
        cases e9
        exact h9 _ x.isLt
      have HWC := Kp.mk hwc
      have HTC := Kp.mk htc
      have HM := Kp.mk hm
      have HO := Kp.mk ho
      have HX := Kp.mk hx
      clear hks hwc htc how ho hx hm hll hgw hgw2
      generalize ks key n = l at *
      obtain ⟨r, hr⟩ : ∃ r, num n = r := ⟨_, rfl⟩
      rw [hr] at HTM HKS ⊢
      have HR := Kp.mk hr
      clear hr
      go_wp2_with fail
      obtain ⟨wo, rfl⟩ : ∃ wo : World, wo = wr := ⟨_, rfl⟩
      go_loopw [9, 10] (fun kv jv w' => ∃ j : Nat, j ≤ 4 ∧ jv = .int .i64 j ∧ (∃ A c, kv = .slice A j c) ∧ Own w' wo.heap.size kv j (li j (nkF l r)) ∧ Ext wo w') (fun _ j _ => 4 - (intOf j).toNat)
      case atStart => exact ⟨0, by omega, rfl, ⟨_, _, rfl⟩, Own.nil _ _, Ext.refl _⟩
      case round =>
        obtain ⟨j, hj, rfl, ⟨Ak, ck, rfl⟩, hk, hx⟩ := hrel
        by_cases hlj : j < 4
        · have b2 : (j : Int) < 4 := by omega
          have HLI : Kp (li (j + 1) (nkF l r) = li j (nkF l r) ++ [nkF l r j]) := ⟨li_succ j (nkF l r)⟩
          by_cases hj0 : j = 0
          · subst hj0
            have c1 : wr.cell? ⟨gw, 13, none⟩ = some (.int .u8 ((gb l 13).toNat : Int)) := HWC.out _ hx 13 (by decide)
            have c2 := HTC.out _ hx (gb l 13)
            have l2 := (gb l 13).isLt
            have c3 := HWC.out _ hx 0 (by decide)
            have HN : Kp (nkF l r 0 = gb l 0 ^^^ (sb (gb l 13) ^^^ r)) := ⟨rfl⟩
            generalize gb l 13 = x at *
            generalize gb l 0 = y at *
            go_wp2_with (first | (at_builtin; refine wpList_append_bs rfl (.tmp 44) (.tmp 51) rfl wo.heap.size _ 0 _ rfl (hk.ext (by (repeat (first | assumption | exact Ext.refl _ | apply Ext.drew | apply Ext.drewN | apply Ext.alloc | refine Ext.trans ?_ (by assumption))); first | done | fail)) _ 1 1 [y ^^^ (sb x ^^^ r)] rfl (one_bs wr _) (by omega) 1 rfl _ rfl wo (hx.trans (by (repeat (first | assumption | exact Ext.refl _ | apply Ext.drew | apply Ext.drewN | apply Ext.alloc | refine Ext.trans ?_ (by assumption))); first | done | fail)) (Nat.le_refl _) (hx.trans (by (repeat (first | assumption | exact Ext.refl _ | apply Ext.drew | apply Ext.drewN | apply Ext.alloc | refine Ext.trans ?_ (by assumption))); first | done | fail)).size ?_; intro A4 c4 w4 ho4 hx4 _) | fail)
            go_roundw
            case rel =>
              refine ⟨1, by omega, by go_num, ⟨_, _, rfl⟩, ?_, hx4⟩
              rw [HLI.out, HN.out]
              exact ho4
            case measure => simp [intOf]
          · have b3 : ¬ (j : Int) = 0 := by omega
            have c1 : wr.cell? ⟨gw, 12 + (j + 1) % 4, none⟩ = some (.int .u8 ((gb l (12 + (j + 1) % 4)).toNat : Int)) := HWC.out _ hx _ (by omega)
            have c2 := HTC.out _ hx (gb l (12 + (j + 1) % 4))
            have l2 := (gb l (12 + (j + 1) % 4)).isLt
            have c3 := HWC.out _ hx j (by omega)
            have HN : Kp (nkF l r j = gb l j ^^^ sb (gb l (12 + (j + 1) % 4))) := ⟨by rw [nkF_lo l r j hlj, if_neg hj0]⟩
            generalize gb l (12 + (j + 1) % 4) = x at *
            generalize gb l j = y at *
            go_wp2_with (first | (at_builtin; refine wpList_append_bs rfl (.tmp 44) (.tmp 51) rfl wo.heap.size _ j _ rfl (hk.ext (by (repeat (first | assumption | exact Ext.refl _ | apply Ext.drew | apply Ext.drewN | apply Ext.alloc | refine Ext.trans ?_ (by assumption))); first | done | fail)) _ 1 1 [y ^^^ sb x] rfl (one_bs wr _) (by omega) (j + 1) rfl _ rfl wo (hx.trans (by (repeat (first | assumption | exact Ext.refl _ | apply Ext.drew | apply Ext.drewN | apply Ext.alloc | refine Ext.trans ?_ (by assumption))); first | done | fail)) (Nat.le_refl _) (hx.trans (by (repeat (first | assumption | exact Ext.refl _ | apply Ext.drew | apply Ext.drewN | apply Ext.alloc | refine Ext.trans ?_ (by assumption))); first | done | fail)).size ?_; intro A4 c4 w4 ho4 hx4 _) | fail)
            go_roundw
            case rel =>
              refine ⟨j + 1, by omega, by go_num, ⟨_, _, rfl⟩, ?_, hx4⟩
              rw [HLI.out, HN.out]
              exact ho4
            case measure => simp [intOf]; omega
        · obtain rfl : j = 4 := by omega
          go_wp2_with fail
          obtain ⟨wp, rfl⟩ : ∃ wo : World, wo = wr := ⟨_, rfl⟩
          rw [show ((4 : Nat) : Int) = 4 from rfl]
          go_loopw [9, 12] (fun kv jv w' => ∃ j : Nat, 4 ≤ j ∧ j ≤ 16 ∧ jv = .int .i64 j ∧ (∃ A c, kv = .slice A j c) ∧ Own w' wo.heap.size kv j (li j (nkF l r)) ∧ Ext wo w') (fun _ j _ => 16 - (intOf j).toNat)
          case atStart => exact ⟨4, by omega, by omega, rfl, ⟨_, _, rfl⟩, hk, hx⟩
          case round =>
            clear hk hx
            obtain ⟨j, hj4, hj, rfl, ⟨Ak, ck, rfl⟩, hk, hx⟩ := hrel
            by_cases hlj : j < 16
            · have b2 : (j : Int) < 16 := by omega
              have HLI : Kp (li (j + 1) (nkF l r) = li j (nkF l r) ++ [gb l j ^^^ nkF l r (j - 4)]) := ⟨by rw [li_succ, nkF_step l r j hj4]⟩
              obtain ⟨gk, rfl, hgk, hgk2⟩ := hk.some_ (by omega)
              have c1 : ∀ w', Ext wo w' → w'.cell? ⟨gw, j, none⟩ = some (.int .u8 (ub (gb l j))) := fun w' hx' => HWC.out _ hx' j hlj
              have c2 : wr.cell? ⟨gk, j - 4, none⟩ = some (.int .u8 (ub (nkF l r (j - 4)))) := (hk.cell (j - 4) (by omega)).trans (by rw [li_gb _ _ _ (by omega)])
              have b6 : (4 : Int) ≤ (j : Int) := by omega
              obtain ⟨q, hq⟩ : ∃ q, j - 4 = q := ⟨_, rfl⟩
              have b7 : IntKind.i64.wrap ((j : Int) - 4) = (q : Int) := by rw [IntKind.wrap_i64]; omega
              have b8 : (q : Int) < (j : Int) := by omega
              rw [hq] at c2 HLI
              clear hq
              have HK := Kp.mk hk
              clear hk
              generalize nkF l r q = y at *
              generalize gb l j = x at *
              go_wp2_with fail
              refine wp_region_held_drew (S := fun w' => Ext wo w') (by kernel_rfl) hx.drew (fun hHeld => ?_)
              refine wpAnyH_take (i := 0) (oi := ⟨some 57, _, _, _, _, _⟩) (v := ?_) rfl (by kernel_rfl) (by kernel_rfl) (by kernel_rfl) (fun _ _ _ h => h) (Or.inl ⟨by rfl, ?_⟩) (by assumption) ?_
              rotate_left
              · (intro w hSw; (try dsimp only at hSw); go_simp; try with_reducible rfl)
              try simp only [Act.put, List.setIfInBounds_toArray, List.set_cons_zero, List.set_cons_succ]
              refine wpAnyH_take (i := 1) (oi := ⟨some 58, _, _, _, _, _⟩) (v := ?_) rfl (by kernel_rfl) (by kernel_rfl) (by kernel_rfl) (fun _ _ _ h => h) (Or.inl ⟨by rfl, ?_⟩) (by assumption) ?_
              rotate_left
              · (intro w hSw; (try dsimp only at hSw); go_simp; try with_reducible rfl)
              try simp only [Act.put, List.setIfInBounds_toArray, List.set_cons_zero, List.set_cons_succ]
              refine wpAnyH_take (i := 2) (oi := ⟨some 59, _, _, _, _, _⟩) (v := ?_) rfl (by kernel_rfl) (by kernel_rfl) (by kernel_rfl) (fun _ _ _ h => h) (Or.inl ⟨by rfl, ?_⟩) (by assumption) ?_
              rotate_left
              · (intro w hSw; (try dsimp only at hSw); go_simp; try with_reducible rfl)
              try simp only [Act.put, List.setIfInBounds_toArray, List.set_cons_zero, List.set_cons_succ]
              refine wpAnyH_take (i := 3) (oi := ⟨some 60, _, _, _, _, _⟩) (v := ?_) rfl (by kernel_rfl) (by kernel_rfl) (by kernel_rfl) (fun _ _ _ h => h) (Or.inl ⟨by rfl, ?_⟩) (by assumption) ?_
              rotate_left
              · (intro w hSw; (try dsimp only at hSw); go_simp; try with_reducible rfl)
              try simp only [Act.put, List.setIfInBounds_toArray, List.set_cons_zero, List.set_cons_succ]
              refine wpAnyH_take (i := 4) (oi := ⟨some 61, _, _, _, _, _⟩) (v := ?_) rfl (by kernel_rfl) (by kernel_rfl) (by kernel_rfl) (fun _ _ _ h => h) (Or.inl ⟨by rfl, ?_⟩) (by assumption) ?_
              rotate_left
              · (intro w hSw; (try dsimp only at hSw); go_simp; try with_reducible rfl)
              try simp only [Act.put, List.setIfInBounds_toArray, List.set_cons_zero, List.set_cons_succ]
              refine wpAnyH_take (i := 5) (oi := ⟨some 62, _, _, _, _, _⟩) (v := ?_) rfl (by kernel_rfl) (by kernel_rfl) (by kernel_rfl) (fun _ _ _ h => h) (Or.inl ⟨by rfl, ?_⟩) (by assumption) ?_
              rotate_left
              · (intro w hSw; (try dsimp only at hSw); go_simp; try with_reducible rfl)
              try simp only [Act.put, List.setIfInBounds_toArray, List.set_cons_zero, List.set_cons_succ]
              refine wpAnyH_take (i := 6) (oi := ⟨some 63, _, _, _, _, _⟩) (v := ?_) rfl (by kernel_rfl) (by kernel_rfl) (by kernel_rfl) (fun _ _ _ h => h) (Or.inl ⟨by rfl, ?_⟩) (by assumption) ?_
              rotate_left
              · (intro w hSw; (try dsimp only at hSw); go_simp; try with_reducible rfl)
              try simp only [Act.put, List.setIfInBounds_toArray, List.set_cons_zero, List.set_cons_succ]
              refine wpAnyH_take (i := 7) (oi := ⟨some 64, _, _, _, _, _⟩) (v := ?_) rfl (by kernel_rfl) (by kernel_rfl) (by kernel_rfl) (fun _ _ _ h => h) (Or.inl ⟨by rfl, ?_⟩) (by assumption) ?_
              rotate_left
              · (intro w hSw; (try dsimp only at hSw); go_simp; try with_reducible rfl)
              try simp only [Act.put, List.setIfInBounds_toArray, List.set_cons_zero, List.set_cons_succ]
              refine wpAnyH_take (i := 8) (oi := ⟨some 65, _, _, _, _, _⟩) (v := ?_) rfl (by kernel_rfl) (by kernel_rfl) (by kernel_rfl) (fun _ _ _ h => h) (Or.inl ⟨by rfl, ?_⟩) (by assumption) ?_
              rotate_left
              · (intro w hSw; (try dsimp only at hSw); go_simp; try with_reducible rfl)
              try simp only [Act.put, List.setIfInBounds_toArray, List.set_cons_zero, List.set_cons_succ]
              refine next_one 9 (by kernel_rfl) rfl (by rfl) fun K' HK' => ?_
              go_simp
              refine held_go HK' (by (repeat (first | assumption | exact Ext.refl _ | apply Ext.drew | apply Ext.drewN | apply Ext.alloc | refine Ext.trans ?_ (by assumption))); first | done | fail) (fun hHeld => ?_)
              clear HK'
              try simp only [Act.put, List.setIfInBounds_toArray, List.set_cons_zero, List.set_cons_succ]
              refine wpAnyH_take (i := 10) (oi := ⟨some 67, _, _, _, _, _⟩) (v := ?_) rfl (by kernel_rfl) (by kernel_rfl) (by kernel_rfl) (fun _ _ _ h => h) (Or.inl ⟨by rfl, ?_⟩) (by assumption) ?_
              rotate_left
              · (intro w hSw; (try dsimp only at hSw); go_simp; try with_reducible rfl)
              try simp only [Act.put, List.setIfInBounds_toArray, List.set_cons_zero, List.set_cons_succ]
              refine next_one 11 (by kernel_rfl) rfl (by rfl) fun K' HK' => ?_
              go_simp
              refine held_go HK' (by (repeat (first | assumption | exact Ext.refl _ | apply Ext.drew | apply Ext.drewN | apply Ext.alloc | refine Ext.trans ?_ (by assumption))); first | done | fail) (fun hHeld => ?_)
              clear HK'
              try simp only [Act.put, List.setIfInBounds_toArray, List.set_cons_zero, List.set_cons_succ]
              refine next_one 12 (by kernel_rfl) rfl (by rfl) fun K' HK' => ?_
              refine wp_append_bs (.tmp 57) (.tmp 68) rfl wo.heap.size _ j (li j (nkF l r)) rfl (HK.out.ext (by (repeat (first | assumption | exact Ext.refl _ | apply Ext.drew | apply Ext.drewN | apply Ext.alloc | refine Ext.trans ?_ (by assumption))); first | done | fail)) _ 1 1 [x ^^^ y] rfl (Bs.ext (one_bs wr (x ^^^ y)) (by (repeat (first | assumption | exact Ext.refl _ | apply Ext.drew | apply Ext.drewN | apply Ext.alloc | refine Ext.trans ?_ (by assumption))); first | done | fail)) (by omega) (j + 1) rfl _ rfl wo (by (repeat (first | assumption | exact Ext.refl _ | apply Ext.drew | apply Ext.drewN | apply Ext.alloc | refine Ext.trans ?_ (by assumption))); first | done | fail) (Nat.le_refl _) (Ext.size (by (repeat (first | assumption | exact Ext.refl _ | apply Ext.drew | apply Ext.drewN | apply Ext.alloc | refine Ext.trans ?_ (by assumption))); first | done | fail)) ?_
              intro A4 c4 w4 ho4 hx4 _
              refine held_go HK' hx4 (fun hHeld => ?_)
              clear HK'
              try simp only [Act.put, List.setIfInBounds_toArray, List.set_cons_zero, List.set_cons_succ]
              refine wpAnyH_take (i := 13) (oi := ⟨some 9, _, _, _, _, _⟩) (v := ?_) rfl (by kernel_rfl) (by kernel_rfl) (by kernel_rfl) (fun _ _ _ h => h) (Or.inl ⟨by rfl, ?_⟩) (by assumption) ?_
              rotate_left
              · (intro w hSw; (try dsimp only at hSw); go_simp; try with_reducible rfl)
              try simp only [Act.put, List.setIfInBounds_toArray, List.set_cons_zero, List.set_cons_succ]
              refine wpAnyH_done (by kernel_rfl) ?_ _
              go_wp2_with fail
              go_roundw
              case rel =>
                refine ⟨j + 1, by omega, by omega, by go_num, ⟨_, _, rfl⟩, ?_, hx4⟩
                rw [HLI.out]
                exact ho4
              case measure => simp [intOf]; omega
            · obtain rfl : j = 16 := by omega
              rw [HKS.out] at hk
              have hxw := HX.out.trans hx
              have hk' : Own (wr.alloc (.cells #[.slice Ak 16 ck] 22)) w.heap.size (.slice Ak 16 ck) (ks key (n + 1)).length (ks key (n + 1)) := by rw [ks_len key HKL.out]; exact (hk.lower HX.out.size).ext (by (repeat (first | assumption | exact Ext.refl _ | apply Ext.drew | apply Ext.drewN | apply Ext.alloc | refine Ext.trans ?_ (by assumption))); first | done | fail)
              go_wp2_with (first | (go_at_call 34; refine (HTM.out _).mono ?_; rintro e w5 ⟨rfl, rfl⟩) | (at_builtin; refine wpList_append_rw rfl (.tmp 70) (.tmp 72) rfl w.heap.size _ (kl key m) rfl ((HO.out.ext hx).ext (by (repeat (first | assumption | exact Ext.refl _ | apply Ext.drew | apply Ext.drewN | apply Ext.alloc | refine Ext.trans ?_ (by assumption))); first | done | fail)) ⟨wr.heap.size, 0, none⟩ 1 (.slice Ak 16 ck) (ks key (n + 1)) rfl ((Has.new _ _ _ _ rfl).cell 0) hk' (by rw [kl_len]; omega) (m + 1) (by rw [kl_len]) w (hxw.trans (by (repeat (first | assumption | exact Ext.refl _ | apply Ext.drew | apply Ext.drewN | apply Ext.alloc | refine Ext.trans ?_ (by assumption))); first | done | fail)) (Nat.le_refl _) (hxw.trans (by (repeat (first | assumption | exact Ext.refl _ | apply Ext.drew | apply Ext.drewN | apply Ext.alloc | refine Ext.trans ?_ (by assumption))); first | done | fail)).size ?_; intro A6 c6 w6 ho6 hx6) | fail)
              go_roundw
              case rel =>
                refine ⟨n + 1, m + 1, by rw [HM.out], by omega, by go_num, rfl, ⟨_, _, rfl⟩, ?_, hx6⟩
                rw [kl_succ, HM.out]
                rw [HM.out] at ho6
                exact ho6
              case measure => simp [intOf]; omega
    · obtain rfl : n = 10 := by omega
      subst hm
      go_wp2_with fail
      go_ret
      exact ⟨_, _, rfl, ho, hx⟩
end Go.Proofs.YtjjoghdlbnlicaaDoor
