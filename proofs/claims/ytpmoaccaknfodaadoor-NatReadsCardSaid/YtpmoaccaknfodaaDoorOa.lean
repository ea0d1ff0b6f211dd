/-
  nat: Cmp.
-/
import Derived.Test.YtpmoaccaknfodaaDoorNj
namespace Go.Proofs.YtpmoaccaknfodaaDoor
open Go Go.RowKit

set_option maxHeartbeats 2000000 in
theorem CmpN_any {a b : List Nat} {A B : Option Addr} {n c m d : Nat} {w : World} (ha : Rd vL w A n c a) (hb : Rd vL w B m d b) (da : Dg BB a) (db : Dg BB b) (hn : n ≤ 1000000000) (hm : m ≤ 1000000000) :
    Calls Tryd.prog 22 #[.slice A n c, .slice B m d] w fun e w' => e = .returned (.int .i64 (cmpI (vl BB a) (vl BB b))) ∧ Ext w w' := by
  have C1 := Kp.mk (counted_rd ha da (by omega))
  have C2 := Kp.mk (counted_rd hb db (by omega))
  obtain ⟨va, hva⟩ : ∃ v, vl BB a = v := ⟨_, rfl⟩
  obtain ⟨vb, hvb⟩ : ∃ v, vl BB b = v := ⟨_, rfl⟩
  rw [hva] at C1 ⊢
  rw [hvb] at C2 ⊢
  clear ha hb da db hva hvb
  go_enter Tryd.func22, Tryd.ntmps22
  go_wp2_with fail
  refine C1.out.mono ?_
  rintro e w1 ⟨rfl, l1, r1, rfl⟩
  have R1 : Kp (Rd vL w1 A (nl va) c (dgs BB va)) := Kp.mk r1
  clear r1
  go_wp2_with fail
  refine C2.out.mono ?_
  rintro e w2 ⟨rfl, l2, r2, rfl⟩
  have R2 : Kp (Rd vL w2 B (nl vb) d (dgs BB vb)) := Kp.mk r2
  clear r2 C1 C2
  have ca := Kp.mk (cn_dgs (B := BB) (by decide) va)
  have cb := Kp.mk (cn_dgs (B := BB) (by decide) vb)
  have va1 := Kp.mk (vl_dgs (B := BB) (by decide) va)
  have vb1 := Kp.mk (vl_dgs (B := BB) (by decide) vb)
  have hla : (dgs BB va).length = nl va := rfl
  have hlb : (dgs BB vb).length = nl vb := rfl
  generalize dgs BB va = a at *
  generalize dgs BB vb = b at *
  generalize nl va = N at *
  generalize nl vb = M at *
  rcases Nat.lt_trichotomy N M with hq | hq | hq
  · have q1 : ¬ (N : Int) = (M : Int) := by omega
    have hlt := cn_len_lt (by decide) ca.out cb.out (by omega)
    rw [va1.out, vb1.out] at hlt
    have HC := Kp.mk (Compare_any N M)
    have HE := Kp.mk (show cmpI N M = cmpI va vb by rw [cmpI_lt hlt, cmpI_lt hq])
    generalize cmpI N M = z at *
    clear hlt
    go_wp2_with fail
    refine (HC.out _).mono ?_
    rintro e w3 ⟨rfl, rfl⟩
    go_wp2_with fail
    go_ret
    exact ⟨by rw [HE.out]; rfl, Ext.refl _⟩
  · subst hq
    go_wp2_with fail
    go_loopw [23] (fun iv wr => ∃ i : Nat, i ≤ N ∧ iv = .int .i64 (i : Int) ∧ a.drop (N - i) = b.drop (N - i) ∧ Ext w2 wr) (fun iv _ => N - (intOf iv).toNat)
    case atStart => exact ⟨0, by omega, rfl, by rw [List.drop_eq_nil_of_le (by omega), List.drop_eq_nil_of_le (by omega)], Ext.refl _⟩
    case round =>
      obtain ⟨i, hi, rfl, hdr, hx⟩ := hrel
      by_cases hlt : i < N
      · obtain ⟨p, hp⟩ : ∃ p, N - i = p + 1 := ⟨N - i - 1, by omega⟩
        rw [hp] at hdr
        have HD := Kp.mk hdr
        have e1 : (N : Int) - 1 - (i : Int) = (p : Int) := by omega
        have b0 : (i : Int) < (N : Int) := by omega
        have b1 : (p : Int) < (N : Int) := by omega
        obtain ⟨g1, o1, rfl⟩ := R1.out.some_ (by omega)
        obtain ⟨g2, o2, rfl⟩ := R2.out.some_ (by omega)
        have k1 := (R1.out.ext hx).dig p (by omega)
        have k2 := (R2.out.ext hx).dig p (by omega)
        have m1 := fun (w' : World) (h : Ext wr.drew w') => (R1.out.ext (hx.trans ((Ext.refl wr).drew.trans h))).dig p (by omega)
        have m2 := fun (w' : World) (h : Ext wr.drew w') => (R2.out.ext (hx.trans ((Ext.refl wr).drew.trans h))).dig p (by omega)
        unfold vL at k1 k2 m1 m2
        clear hdr
        rcases Nat.lt_trichotomy (dg a p) (dg b p) with hq | hq | hq
        · have hl := vl_lt_at (by decide) ca.out.d p (by omega) (by omega) HD.out hq
          rw [va1.out, vb1.out] at hl
          have HC := Kp.mk (Compareu_any (dg a p) (dg b p))
          have HE := Kp.mk (show cmpI (dg a p) (dg b p) = cmpI va vb by rw [cmpI_lt hl, cmpI_lt hq])
          have q1 : ((dg a p : Int) != (dg b p : Int)) = true := bne_iff_ne.2 (by omega)
          clear hl hq
          generalize cmpI (dg a p) (dg b p) = z at *
          generalize dg a p = x at *
          generalize dg b p = y at *
          go_wp2_with fail
          go_region
          go_wp2_with fail
          refine wp_region_held_drew (S := fun w' => Ext wr.drew w') (by kernel_rfl) (Ext.refl wr.drew).drew (fun hHeld => ?_)
          refine wpAnyH_take (i := 0) (oi := ⟨some 40, _, _, _, _, _⟩) (v := ?_) rfl (by kernel_rfl) (by kernel_rfl) (by kernel_rfl) (fun _ _ _ h => h) (Or.inl ⟨by rfl, ?_⟩) (by assumption) ?_
          rotate_left
          · (intro w hSw; (try dsimp only at hSw); go_simp; try with_reducible rfl)
          try simp only [Act.put, List.setIfInBounds_toArray, List.set_cons_zero, List.set_cons_succ]
          refine wpAnyH_take (i := 1) (oi := ⟨some 41, _, _, _, _, _⟩) (v := ?_) rfl (by kernel_rfl) (by kernel_rfl) (by kernel_rfl) (fun _ _ _ h => h) (Or.inl ⟨by rfl, ?_⟩) (by assumption) ?_
          rotate_left
          · (intro w hSw; (try dsimp only at hSw); go_simp; try with_reducible rfl)
          try simp only [Act.put, List.setIfInBounds_toArray, List.set_cons_zero, List.set_cons_succ]
          refine wpAnyH_take (i := 2) (oi := ⟨some 42, _, _, _, _, _⟩) (v := ?_) rfl (by kernel_rfl) (by kernel_rfl) (by kernel_rfl) (fun _ _ _ h => h) (Or.inl ⟨by rfl, ?_⟩) (by assumption) ?_
          rotate_left
          · (intro w hSw; (try dsimp only at hSw); go_simp; try with_reducible rfl)
          try simp only [Act.put, List.setIfInBounds_toArray, List.set_cons_zero, List.set_cons_succ]
          refine wpAnyH_take (i := 3) (oi := ⟨some 43, _, _, _, _, _⟩) (v := ?_) rfl (by kernel_rfl) (by kernel_rfl) (by kernel_rfl) (fun _ _ _ h => h) (Or.inl ⟨by rfl, ?_⟩) (by assumption) ?_
          rotate_left
          · (intro w hSw; (try dsimp only at hSw); go_simp; try with_reducible rfl)
          try simp only [Act.put, List.setIfInBounds_toArray, List.set_cons_zero, List.set_cons_succ]
          refine wpAnyH_take (i := 4) (oi := ⟨some 44, _, _, _, _, _⟩) (v := ?_) rfl (by kernel_rfl) (by kernel_rfl) (by kernel_rfl) (fun _ _ _ h => h) (Or.inl ⟨by rfl, ?_⟩) (by assumption) ?_
          rotate_left
          · (intro w hSw; (try dsimp only at hSw); go_simp; try with_reducible rfl)
          try simp only [Act.put, List.setIfInBounds_toArray, List.set_cons_zero, List.set_cons_succ]
          refine wpAnyH_take (i := 5) (oi := ⟨some 45, _, _, _, _, _⟩) (v := ?_) rfl (by kernel_rfl) (by kernel_rfl) (by kernel_rfl) (fun _ _ _ h => h) (Or.inl ⟨by rfl, ?_⟩) (by assumption) ?_
          rotate_left
          · (intro w hSw; (try dsimp only at hSw); go_simp; try with_reducible rfl)
          try simp only [Act.put, List.setIfInBounds_toArray, List.set_cons_zero, List.set_cons_succ]
          refine wpAnyH_take (i := 6) (oi := ⟨some 46, _, _, _, _, _⟩) (v := ?_) rfl (by kernel_rfl) (by kernel_rfl) (by kernel_rfl) (fun _ _ _ h => h) (Or.inl ⟨by rfl, ?_⟩) (by assumption) ?_
          rotate_left
          · (intro w hSw; (try dsimp only at hSw); go_simp; try with_reducible rfl)
          try simp only [Act.put, List.setIfInBounds_toArray, List.set_cons_zero, List.set_cons_succ]
          refine wpAnyH_take (i := 7) (oi := ⟨some 47, _, _, _, _, _⟩) (v := ?_) rfl (by kernel_rfl) (by kernel_rfl) (by kernel_rfl) (fun _ _ _ h => h) (Or.inl ⟨by rfl, ?_⟩) (by assumption) ?_
          rotate_left
          · (intro w hSw; (try dsimp only at hSw); go_simp; try with_reducible rfl)
          try simp only [Act.put, List.setIfInBounds_toArray, List.set_cons_zero, List.set_cons_succ]
          refine next_one 8 (by kernel_rfl) rfl (by rfl) fun K' HK' => ?_
          go_simp
          refine (HC.out _).mono ?_
          rintro e w3 ⟨rfl, hw3⟩
          have hx3 : Ext wr.drew.drew w3 := by rw [hw3]; exact Ext.refl _
          clear hw3
          have hS2 := Ext.trans hHeld hx3
          refine held_go HK' hS2 (fun _ => ?_)
          clear HK'
          refine held_more (S' := fun w' => Ext w3 w') (fun _ h => Ext.trans hS2 h) _ _ _ _ ?_
          clear hHeld hS2
          have hHeld : Ext w3 w3 := Ext.refl _
          try simp only [Act.put, List.setIfInBounds_toArray, List.set_cons_zero, List.set_cons_succ]
          refine wpAnyH_take (i := 9) (oi := ⟨some 4, _, _, _, _, _⟩) (v := ?_) rfl (by kernel_rfl) (by kernel_rfl) (by kernel_rfl) (fun _ _ _ h => h) (Or.inl ⟨by rfl, ?_⟩) (by assumption) ?_
          rotate_left
          · (intro w hSw; (try dsimp only at hSw); go_simp; try with_reducible rfl)
          try simp only [Act.put, List.setIfInBounds_toArray, List.set_cons_zero, List.set_cons_succ]
          refine wpAnyH_done (by kernel_rfl) ?_ _
          go_wp2_with fail
          go_ret
          exact ⟨by rw [HE.out]; rfl, hx.trans ((Ext.refl wr).drew.drew.trans hx3)⟩
        · have HDR := Kp.mk (drop_dg a b p (by omega) (by omega) HD.out hq)
          have q1 : ((dg a p : Int) != (dg b p : Int)) = false := by rw [bne_eq_false_iff_eq]; omega
          clear hq
          generalize dg a p = x at *
          generalize dg b p = y at *
          go_wp2_with fail
          go_region
          go_wp2_with fail
          go_roundw
          case rel => exact ⟨i + 1, by omega, by go_num, by rw [show N - (i + 1) = p by omega]; exact HDR.out, hx.drew⟩
          case measure => simp [intOf]; omega
        · have hl := vl_lt_at (by decide) cb.out.d p (by omega) (by omega) HD.out.symm hq
          rw [va1.out, vb1.out] at hl
          have HC := Kp.mk (Compareu_any (dg a p) (dg b p))
          have HE := Kp.mk (show cmpI (dg a p) (dg b p) = cmpI va vb by rw [cmpI_gt hl, cmpI_gt hq])
          have q1 : ((dg a p : Int) != (dg b p : Int)) = true := bne_iff_ne.2 (by omega)
          clear hl hq
          generalize cmpI (dg a p) (dg b p) = z at *
          generalize dg a p = x at *
          generalize dg b p = y at *
          go_wp2_with fail
          go_region
          go_wp2_with fail
          refine wp_region_held_drew (S := fun w' => Ext wr.drew w') (by kernel_rfl) (Ext.refl wr.drew).drew (fun hHeld => ?_)
          refine wpAnyH_take (i := 0) (oi := ⟨some 40, _, _, _, _, _⟩) (v := ?_) rfl (by kernel_rfl) (by kernel_rfl) (by kernel_rfl) (fun _ _ _ h => h) (Or.inl ⟨by rfl, ?_⟩) (by assumption) ?_
          rotate_left
          · (intro w hSw; (try dsimp only at hSw); go_simp; try with_reducible rfl)
          try simp only [Act.put, List.setIfInBounds_toArray, List.set_cons_zero, List.set_cons_succ]
          refine wpAnyH_take (i := 1) (oi := ⟨some 41, _, _, _, _, _⟩) (v := ?_) rfl (by kernel_rfl) (by kernel_rfl) (by kernel_rfl) (fun _ _ _ h => h) (Or.inl ⟨by rfl, ?_⟩) (by assumption) ?_
          rotate_left
          · (intro w hSw; (try dsimp only at hSw); go_simp; try with_reducible rfl)
          try simp only [Act.put, List.setIfInBounds_toArray, List.set_cons_zero, List.set_cons_succ]
          refine wpAnyH_take (i := 2) (oi := ⟨some 42, _, _, _, _, _⟩) (v := ?_) rfl (by kernel_rfl) (by kernel_rfl) (by kernel_rfl) (fun _ _ _ h => h) (Or.inl ⟨by rfl, ?_⟩) (by assumption) ?_
          rotate_left
          · (intro w hSw; (try dsimp only at hSw); go_simp; try with_reducible rfl)
          try simp only [Act.put, List.setIfInBounds_toArray, List.set_cons_zero, List.set_cons_succ]
          refine wpAnyH_take (i := 3) (oi := ⟨some 43, _, _, _, _, _⟩) (v := ?_) rfl (by kernel_rfl) (by kernel_rfl) (by kernel_rfl) (fun _ _ _ h => h) (Or.inl ⟨by rfl, ?_⟩) (by assumption) ?_
          rotate_left
          · (intro w hSw; (try dsimp only at hSw); go_simp; try with_reducible rfl)
          try simp only [Act.put, List.setIfInBounds_toArray, List.set_cons_zero, List.set_cons_succ]
          refine wpAnyH_take (i := 4) (oi := ⟨some 44, _, _, _, _, _⟩) (v := ?_) rfl (by kernel_rfl) (by kernel_rfl) (by kernel_rfl) (fun _ _ _ h => h) (Or.inl ⟨by rfl, ?_⟩) (by assumption) ?_
          rotate_left
          · (intro w hSw; (try dsimp only at hSw); go_simp; try with_reducible rfl)
          try simp only [Act.put, List.setIfInBounds_toArray, List.set_cons_zero, List.set_cons_succ]
          refine wpAnyH_take (i := 5) (oi := ⟨some 45, _, _, _, _, _⟩) (v := ?_) rfl (by kernel_rfl) (by kernel_rfl) (by kernel_rfl) (fun _ _ _ h => h) (Or.inl ⟨by rfl, ?_⟩) (by assumption) ?_
          rotate_left
          · (intro w hSw; (try dsimp only at hSw); go_simp; try with_reducible rfl)
          try simp only [Act.put, List.setIfInBounds_toArray, List.set_cons_zero, List.set_cons_succ]
          refine wpAnyH_take (i := 6) (oi := ⟨some 46, _, _, _, _, _⟩) (v := ?_) rfl (by kernel_rfl) (by kernel_rfl) (by kernel_rfl) (fun _ _ _ h => h) (Or.inl ⟨by rfl, ?_⟩) (by assumption) ?_
          rotate_left
          · (intro w hSw; (try dsimp only at hSw); go_simp; try with_reducible rfl)
          try simp only [Act.put, List.setIfInBounds_toArray, List.set_cons_zero, List.set_cons_succ]
          refine wpAnyH_take (i := 7) (oi := ⟨some 47, _, _, _, _, _⟩) (v := ?_) rfl (by kernel_rfl) (by kernel_rfl) (by kernel_rfl) (fun _ _ _ h => h) (Or.inl ⟨by rfl, ?_⟩) (by assumption) ?_
          rotate_left
          · (intro w hSw; (try dsimp only at hSw); go_simp; try with_reducible rfl)
          try simp only [Act.put, List.setIfInBounds_toArray, List.set_cons_zero, List.set_cons_succ]
          refine next_one 8 (by kernel_rfl) rfl (by rfl) fun K' HK' => ?_
          go_simp
          refine (HC.out _).mono ?_
          rintro e w3 ⟨rfl, hw3⟩
          have hx3 : Ext wr.drew.drew w3 := by rw [hw3]; exact Ext.refl _
          clear hw3
          have hS2 := Ext.trans hHeld hx3
          refine held_go HK' hS2 (fun _ => ?_)
          clear HK'
          refine held_more (S' := fun w' => Ext w3 w') (fun _ h => Ext.trans hS2 h) _ _ _ _ ?_
          clear hHeld hS2
          have hHeld : Ext w3 w3 := Ext.refl _
          try simp only [Act.put, List.setIfInBounds_toArray, List.set_cons_zero, List.set_cons_succ]
          refine wpAnyH_take (i := 9) (oi := ⟨some 4, _, _, _, _, _⟩) (v := ?_) rfl (by kernel_rfl) (by kernel_rfl) (by kernel_rfl) (fun _ _ _ h => h) (Or.inl ⟨by rfl, ?_⟩) (by assumption) ?_
          rotate_left
          · (intro w hSw; (try dsimp only at hSw); go_simp; try with_reducible rfl)
          try simp only [Act.put, List.setIfInBounds_toArray, List.set_cons_zero, List.set_cons_succ]
          refine wpAnyH_done (by kernel_rfl) ?_ _
          go_wp2_with fail
          go_ret
          exact ⟨by rw [HE.out]; rfl, hx.trans ((Ext.refl wr).drew.drew.trans hx3)⟩
      · obtain rfl : i = N := by omega
        rw [Nat.sub_self, List.drop_zero, List.drop_zero] at hdr
        have hvv : va = vb := by rw [← va1.out, ← vb1.out, hdr]
        have HE := Kp.mk (show (0 : Int) = cmpI va vb by rw [hvv, cmpI_eq])
        clear hdr hvv
        go_wp2_with fail
        go_ret
        exact ⟨by rw [← HE.out]; rfl, hx⟩
  · have q1 : ¬ (N : Int) = (M : Int) := by omega
    have hlt := cn_len_lt (by decide) cb.out ca.out (by omega)
    rw [va1.out, vb1.out] at hlt
    have HC := Kp.mk (Compare_any N M)
    have HE := Kp.mk (show cmpI N M = cmpI va vb by rw [cmpI_gt hlt, cmpI_gt hq])
    generalize cmpI N M = z at *
    clear hlt
    go_wp2_with fail
    refine (HC.out _).mono ?_
    rintro e w3 ⟨rfl, rfl⟩
    go_wp2_with fail
    go_ret
    exact ⟨by rw [HE.out]; rfl, Ext.refl _⟩
end Go.Proofs.YtpmoaccaknfodaaDoor
