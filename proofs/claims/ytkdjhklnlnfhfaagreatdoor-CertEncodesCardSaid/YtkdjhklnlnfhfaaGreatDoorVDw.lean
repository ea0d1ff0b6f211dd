/-
  The reference's Split.
-/
import Derived.Test.YtkdjhklnlnfhfaaGreatDoorM34
import Derived.Test.YtkdjhklnlnfhfaaGreatDoorM4
import Derived.Test.YtkdjhklnlnfhfaaGreatDoorM11
import Derived.Test.YtkdjhklnlnfhfaaGreatDoorVXg
import Derived.BigQuiet
namespace Go.Proofs.YtkdjhklnlnfhfaaGreatDoor
open Go Go.RowKit
set_option maxRecDepth 4000

theorem PartsZ (w : World) : Calls Tryz.prog 63 #[.slice none 0 0] w fun e w' => ∃ (A : Option Addr) (c : Nat), e = .returned (.tuple #[.slice A 0 c, .bool true]) ∧ Ext w w' :=
  (Parts_any (Bs.nil w) (by decide)).mono fun e w' h => by
    obtain ⟨x, (⟨h1, _⟩ | ⟨vs, A', c', h1, h2, _, _⟩)⟩ := h
    · have h2 : prtL [] = some [] := prt_iff.2 ⟨rfl, fun z h => by cases h⟩
      rw [h2] at h1; cases h1
    · have h3 : prtL [] = some [] := prt_iff.2 ⟨rfl, fun z h => by cases h⟩
      rw [h3] at h1
      have h4 := congrArg List.length (Option.some.inj h1)
      rw [List.length_map] at h4
      have h5 : vs.length = 0 := h4.symm
      rw [h5] at h2
      exact ⟨A', c', h2, x⟩
theorem strE_eq (x : List (BitVec 8)) : ((strOf x).toList != (strOf x).toList) = false := by rw [bne, beq_self_eq_true]; rfl
/-- what the reference's Split tells -/
def RSpR (w : World) (b : List (BitVec 8)) (e : Ending) (w' : World) : Prop :=
  (∃ x s A1 n1 c1 A2 n2 c2, splL b = some (x, s) ∧ e = .returned (.tuple #[.slice A1 n1 c1, .slice A2 n2 c2, .bool true]) ∧ Bs w' A1 n1 c1 x ∧ Bs w' A2 n2 c2 s ∧ Ext w w') ∨
  (splL b = none ∧ e = .returned (.tuple #[.slice none 0 0, .slice none 0 0, .bool false]) ∧ Ext w w')
set_option maxHeartbeats 16000000 in
theorem rSplit {w : World} {b : List (BitVec 8)} {A : Option Addr} {n c : Nat} (h : Bs w A n c b) (hn : n ≤ 1000000) : Calls Tryz.prog 19 #[.slice A n c] w (RSpR w b) := by
  have hB := Body_any h (by omega) 48
  have HB := Kp.mk h
  have HSP : Kp (splL b = (bodL b 48).bind fun i => (prtL i).bind spl3) := ⟨rfl⟩
  have HBL := Kp.mk h.len
  clear h
  unfold RSpR
  generalize splL b = SP at *
  go_enter Tryz.func19, Tryz.ntmps19
  go_wp2_with fail
  refine hB.mono ?_
  rintro e w1 ⟨x1, (⟨hb1, rfl⟩ | ⟨i, A1, c1, hb1, rfl, hs1⟩)⟩
  · have HN : Kp (SP = none) := ⟨by rw [HSP.out, hb1]; rfl⟩
    have X1 := Kp.mk x1
    clear hb1 x1 hB HSP
    go_wp2_with fail
    refine (PartsZ _).mono ?_
    rintro e w2 ⟨A2, c2, rfl, x2⟩
    have X2 := Kp.mk (X1.out.trans x2)
    clear x2
    go_wp2_with fail
    go_quiet (fail)
    go_wp2_with fail
    go_ret3
    exact .inr ⟨HN.out, rfl, X2.out.trans (by (repeat (first | assumption | exact Ext.refl _ | apply Ext.drew | apply Ext.drewN | apply Ext.alloc | refine Ext.trans ?_ (by assumption))); first | done | fail)⟩
  · have hi : i.length ≤ n := by
      have h1 := (bod_iff.1 hb1).2.2
      have h2 := congrArg List.length h1
      have := HBL.out
      rw [elm_len] at h2
      omega
    have HSP := Kp.mk (show SP = (prtL i).bind spl3 by rw [HSP.out, hb1]; rfl)
    have HB1 := Kp.mk (hs1 w1 (HB.out.ext x1))
    have X1 := Kp.mk x1
    have HP := Kp.mk (Parts_any HB1.out (by omega))
    clear hb1 x1 hs1 hB
    go_wp2_with fail
    refine HP.out.mono ?_
    rintro e w2 ⟨x2, (⟨hp2, rfl⟩ | ⟨vs, A2, c2, hp2, rfl, hr2, hsb⟩)⟩
    · have HN : Kp (SP = none) := ⟨by rw [HSP.out, hp2]; rfl⟩
      have X2 := Kp.mk (X1.out.trans x2)
      clear hp2 x2 HSP HP
      go_wp2_with fail
      go_quiet (fail)
      go_wp2_with fail
      go_ret3
      exact .inr ⟨HN.out, rfl, X2.out.trans (by (repeat (first | assumption | exact Ext.refl _ | apply Ext.drew | apply Ext.drewN | apply Ext.alloc | refine Ext.trans ?_ (by assumption))); first | done | fail)⟩
    · have HSP := Kp.mk (show SP = spl3 (vs.map Prod.snd) by rw [HSP.out, hp2]; rfl)
      by_cases h3 : vs.length = 3
      · match vs, h3 with
        | [v0, v1, v2], _ =>
          obtain ⟨g, o, rfl, hc⟩ := hr2.at_ (by simp)
          have c0 := hc 0 v0.1 rfl
          have c1 := hc 1 v1.1 rfl
          have c2 := hc 2 v2.1 rfl
          have hall := (prt_iff.1 hp2).2
          have z0l : 0 < v0.2.length := by
            obtain ⟨m0, y0, _, _, e0⟩ := hall v0.2 (by simp)
            rw [e0, elm_len]
            have := hdn_lo y0.length
            omega
          have hfl := (prt_iff.1 hp2).1
          have z2l : v2.2.length ≤ i.length := by
            rw [← hfl]
            simp
            omega
          have B0 := Kp.mk (hsb v0 (by simp) w2 (HB1.out.ext x2))
          have B1 := Kp.mk (hsb v1 (by simp) w2 (HB1.out.ext x2))
          have B2 := Kp.mk (hsb v2 (by simp) w2 (HB1.out.ext x2))
          obtain ⟨⟨A0, n0, k0⟩, z0⟩ := v0
          obtain ⟨⟨A4, n4, k4⟩, z1⟩ := v1
          obtain ⟨⟨A5, n5, k5⟩, z2⟩ := v2
          simp only at B0 B1 B2 z0l z2l
          have HSP := Kp.mk (show SP = spl3 [z0, z1, z2] from HSP.out)
          have X2 := Kp.mk (X1.out.trans x2)
          have hn0 := B0.out.len
          obtain ⟨g0, o0, rfl, hb0⟩ := B0.out.s.2.2.2 (by omega)
          have b0 := hb0 0 (by omega)
          rw [Nat.add_zero] at b0 c0
          have m0 := fun (w' : World) (hx : Ext w2 w') => cell_lat c0 hx
          have m1 := fun (w' : World) (hx : Ext w2 w') => cell_lat c1 hx
          have m2 := fun (w' : World) (hx : Ext w2 w') => cell_lat c2 hx
          have mb := fun (w' : World) (hx : Ext w2 w') => cell_lat b0 hx
          have hp0 : 0 < n0 := by omega
          have hp1 : (0 : Int) < (n0 : Int) := by omega
          have Z2 : Kp (z2.length ≤ 1000000) := ⟨by omega⟩
          unfold cuE at m0 m1 m2
          simp only at m0 m1 m2
          have q0 := m0 _ (Ext.refl _)
          have qb := mb _ (Ext.refl _)
          clear hall hfl z0l z2l hb0 b0 c0 c1 c2 hc hr2 hsb hp2 x2 HP hn0
          by_cases h48 : gb z0 0 = 48
          · rw [h48] at mb qb
            have H48 := Kp.mk h48
            clear h48
            have RS := Kp.mk rSign
            by_cases hz : z1 = sgnE
            · subst hz
              have HE := strE_eq sgnE
              have HSP := Kp.mk (show SP = (bodL z2 3).bind fun s => (tl0 s).map fun t => (z0, t) by rw [HSP.out]; exact if_pos ⟨H48.out, rfl⟩)
              have C2 := Kp.mk (fun W (hx : Ext w2 W) => Body_any (B2.out.ext hx) (by have := B2.out.len; have := Z2.out; omega) 3)
              go_wp2_with fail
              refine wp_region_held_drew (S := fun w' => Ext w2 w') (by kernel_rfl) (Ext.refl w2).drew (fun hHeld => ?_)
              refine wpAnyH_take (i := 0) (oi := ⟨some 21, _, _, _, _, _⟩) (v := ?_) rfl (by kernel_rfl) (by kernel_rfl) (by kernel_rfl) (fun _ _ _ h => h) (Or.inl ⟨by rfl, ?_⟩) (by assumption) ?_
              rotate_left
              · (intro w hSw; (try dsimp only at hSw); go_simp; try with_reducible rfl)
              try simp only [Act.put, List.setIfInBounds_toArray, List.set_cons_zero, List.set_cons_succ]
              refine wpAnyH_take (i := 1) (oi := ⟨some 22, _, _, _, _, _⟩) (v := ?_) rfl (by kernel_rfl) (by kernel_rfl) (by kernel_rfl) (fun _ _ _ h => h) (Or.inl ⟨by rfl, ?_⟩) (by assumption) ?_
              rotate_left
              · (intro w hSw; (try dsimp only at hSw); go_simp; try with_reducible rfl)
              try simp only [Act.put, List.setIfInBounds_toArray, List.set_cons_zero, List.set_cons_succ]
              refine wpAnyH_take (i := 2) (oi := ⟨some 23, _, _, _, _, _⟩) (v := ?_) rfl (by kernel_rfl) (by kernel_rfl) (by kernel_rfl) (fun _ _ _ h => h) (Or.inl ⟨by rfl, ?_⟩) (by assumption) ?_
              rotate_left
              · (intro w hSw; (try dsimp only at hSw); go_simp; try with_reducible rfl)
              try simp only [Act.put, List.setIfInBounds_toArray, List.set_cons_zero, List.set_cons_succ]
              refine wpAnyH_take (i := 3) (oi := ⟨some 24, _, _, _, _, _⟩) (v := ?_) rfl (by kernel_rfl) (by kernel_rfl) (by kernel_rfl) (fun _ _ _ h => h) (Or.inl ⟨by rfl, ?_⟩) (by assumption) ?_
              rotate_left
              · (intro w hSw; (try dsimp only at hSw); go_simp; try with_reducible rfl)
              try simp only [Act.put, List.setIfInBounds_toArray, List.set_cons_zero, List.set_cons_succ]
              refine wpAnyH_take (i := 4) (oi := ⟨some 25, _, _, _, _, _⟩) (v := ?_) rfl (by kernel_rfl) (by kernel_rfl) (by kernel_rfl) (fun _ _ _ h => h) (Or.inl ⟨by rfl, ?_⟩) (by assumption) ?_
              rotate_left
              · (intro w hSw; (try dsimp only at hSw); go_simp; try with_reducible rfl)
              try simp only [Act.put, List.setIfInBounds_toArray, List.set_cons_zero, List.set_cons_succ]
              refine wpAnyH_take (i := 5) (oi := ⟨some 26, _, _, _, _, _⟩) (v := ?_) rfl (by kernel_rfl) (by kernel_rfl) (by kernel_rfl) (fun _ _ _ h => h) (Or.inl ⟨by rfl, ?_⟩) (by assumption) ?_
              rotate_left
              · (intro w hSw; (try dsimp only at hSw); go_simp; try with_reducible rfl)
              try simp only [Act.put, List.setIfInBounds_toArray, List.set_cons_zero, List.set_cons_succ]
              refine wpAnyH_take (i := 6) (oi := ⟨some 27, _, _, _, _, _⟩) (v := ?_) rfl (by kernel_rfl) (by kernel_rfl) (by kernel_rfl) (fun _ _ _ h => h) (Or.inl ⟨by rfl, ?_⟩) (by assumption) ?_
              rotate_left
              · (intro w hSw; (try dsimp only at hSw); go_simp; try with_reducible rfl)
              try simp only [Act.put, List.setIfInBounds_toArray, List.set_cons_zero, List.set_cons_succ]
              refine wpAnyH_take (i := 7) (oi := ⟨some 28, _, _, _, _, _⟩) (v := ?_) rfl (by kernel_rfl) (by kernel_rfl) (by kernel_rfl) (fun _ _ _ h => h) (Or.inl ⟨by rfl, ?_⟩) (by assumption) ?_
              rotate_left
              · (intro w hSw; (try dsimp only at hSw); go_simp; try with_reducible rfl)
              try simp only [Act.put, List.setIfInBounds_toArray, List.set_cons_zero, List.set_cons_succ]
              refine wpAnyH_take (i := 8) (oi := ⟨some 29, _, _, _, _, _⟩) (v := ?_) rfl (by kernel_rfl) (by kernel_rfl) (by kernel_rfl) (fun _ _ _ h => h) (Or.inl ⟨by rfl, ?_⟩) (by assumption) ?_
              rotate_left
              · (intro w hSw; (try dsimp only at hSw); go_simp; try with_reducible rfl)
              try simp only [Act.put, List.setIfInBounds_toArray, List.set_cons_zero, List.set_cons_succ]
              refine wpAnyH_take (i := 9) (oi := ⟨some 30, _, _, _, _, _⟩) (v := ?_) rfl (by kernel_rfl) (by kernel_rfl) (by kernel_rfl) (fun _ _ _ h => h) (Or.inl ⟨by rfl, ?_⟩) (by assumption) ?_
              rotate_left
              · (intro w hSw; (try dsimp only at hSw); go_simp; try with_reducible rfl)
              try simp only [Act.put, List.setIfInBounds_toArray, List.set_cons_zero, List.set_cons_succ]
              refine wpAnyH_take (i := 10) (oi := ⟨some 31, _, _, _, _, _⟩) (v := ?_) rfl (by kernel_rfl) (by kernel_rfl) (by kernel_rfl) (fun _ _ _ h => h) (Or.inl ⟨by rfl, ?_⟩) (by assumption) ?_
              rotate_left
              · (intro w hSw; (try dsimp only at hSw); go_simp; try with_reducible rfl)
              try simp only [Act.put, List.setIfInBounds_toArray, List.set_cons_zero, List.set_cons_succ]
              refine wpAnyH_take (i := 11) (oi := ⟨some 32, _, _, _, _, _⟩) (v := ?_) rfl (by kernel_rfl) (by kernel_rfl) (by kernel_rfl) (fun _ _ _ h => h) (Or.inl ⟨by rfl, ?_⟩) (by assumption) ?_
              rotate_left
              · (intro w hSw; (try dsimp only at hSw); go_simp; try with_reducible rfl)
              try simp only [Act.put, List.setIfInBounds_toArray, List.set_cons_zero, List.set_cons_succ]
              refine wpAnyH_take (i := 12) (oi := ⟨some 33, _, _, _, _, _⟩) (v := ?_) rfl (by kernel_rfl) (by kernel_rfl) (by kernel_rfl) (fun _ _ _ h => h) (Or.inl ⟨by rfl, ?_⟩) (by assumption) ?_
              rotate_left
              · (intro w hSw; (try dsimp only at hSw); go_simp; try with_reducible rfl)
              try simp only [Act.put, List.setIfInBounds_toArray, List.set_cons_zero, List.set_cons_succ]
              refine wpAnyH_take (i := 13) (oi := ⟨some 34, _, _, _, _, _⟩) (v := ?_) rfl (by kernel_rfl) (by kernel_rfl) (by kernel_rfl) (fun _ _ _ h => h) (Or.inl ⟨by rfl, ?_⟩) (by assumption) ?_
              rotate_left
              · (intro w hSw; (try dsimp only at hSw); go_simp; try with_reducible rfl)
              try simp only [Act.put, List.setIfInBounds_toArray, List.set_cons_zero, List.set_cons_succ]
              refine wpAnyH_take (i := 14) (oi := ⟨some 35, _, _, _, _, _⟩) (v := ?_) rfl (by kernel_rfl) (by kernel_rfl) (by kernel_rfl) (fun _ _ _ h => h) (Or.inl ⟨by rfl, ?_⟩) (by assumption) ?_
              rotate_left
              · (intro w hSw; (try dsimp only at hSw); go_simp; try with_reducible rfl)
              try simp only [Act.put, List.setIfInBounds_toArray, List.set_cons_zero, List.set_cons_succ]
              refine wpAnyH_take (i := 15) (oi := ⟨some 36, _, _, _, _, _⟩) (v := ?_) rfl (by kernel_rfl) (by kernel_rfl) (by kernel_rfl) (fun _ _ _ h => h) (Or.inl ⟨by rfl, ?_⟩) (by assumption) ?_
              rotate_left
              · (intro w hSw; (try dsimp only at hSw); go_simp; try with_reducible rfl)
              try simp only [Act.put, List.setIfInBounds_toArray, List.set_cons_zero, List.set_cons_succ]
              refine wpAnyH_take (i := 16) (oi := ⟨some 37, _, _, _, _, _⟩) (v := ?_) rfl (by kernel_rfl) (by kernel_rfl) (by kernel_rfl) (fun _ _ _ h => h) (Or.inl ⟨by rfl, ?_⟩) (by assumption) ?_
              rotate_left
              · (intro w hSw; (try dsimp only at hSw); go_simp; try with_reducible rfl)
              try simp only [Act.put, List.setIfInBounds_toArray, List.set_cons_zero, List.set_cons_succ]
              refine wpAnyH_take (i := 17) (oi := ⟨some 38, _, _, _, _, _⟩) (v := ?_) rfl (by kernel_rfl) (by kernel_rfl) (by kernel_rfl) (fun _ _ _ h => h) (Or.inl ⟨by rfl, ?_⟩) (by assumption) ?_
              rotate_left
              · (intro w hSw; (try dsimp only at hSw); go_simp; try with_reducible rfl)
              try simp only [Act.put, List.setIfInBounds_toArray, List.set_cons_zero, List.set_cons_succ]
              refine wpAnyH_take (i := 18) (oi := ⟨some 39, _, _, _, _, _⟩) (v := ?_) rfl (by kernel_rfl) (by kernel_rfl) (by kernel_rfl) (fun _ _ _ h => h) (Or.inl ⟨by rfl, ?_⟩) (by assumption) ?_
              rotate_left
              · (intro w hSw; (try dsimp only at hSw); go_simp; try with_reducible rfl)
              try simp only [Act.put, List.setIfInBounds_toArray, List.set_cons_zero, List.set_cons_succ]
              refine wpAnyH_take (i := 19) (oi := ⟨some 40, _, _, _, _, _⟩) (v := ?_) rfl (by kernel_rfl) (by kernel_rfl) (by kernel_rfl) (fun _ _ _ h => h) (Or.inl ⟨by rfl, ?_⟩) (by assumption) ?_
              rotate_left
              · (intro w hSw; (try dsimp only at hSw); go_simp; try with_reducible rfl)
              try simp only [Act.put, List.setIfInBounds_toArray, List.set_cons_zero, List.set_cons_succ]
              refine wpAnyH_take (i := 20) (oi := ⟨some 41, _, _, _, _, _⟩) (v := ?_) rfl (by kernel_rfl) (by kernel_rfl) (by kernel_rfl) (fun _ _ _ h => h) (Or.inl ⟨by rfl, ?_⟩) (by assumption) ?_
              rotate_left
              · (intro w hSw; (try dsimp only at hSw); go_simp; try with_reducible rfl)
              try simp only [Act.put, List.setIfInBounds_toArray, List.set_cons_zero, List.set_cons_succ]
              refine wpAnyH_take (i := 21) (oi := ⟨some 42, _, _, _, _, _⟩) (v := ?_) rfl (by kernel_rfl) (by kernel_rfl) (by kernel_rfl) (fun _ _ _ h => h) (Or.inl ⟨by rfl, ?_⟩) (by assumption) ?_
              rotate_left
              · (intro w hSw; (try dsimp only at hSw); go_simp; try with_reducible rfl)
              try simp only [Act.put, List.setIfInBounds_toArray, List.set_cons_zero, List.set_cons_succ]
              refine wpAnyH_take (i := 22) (oi := ⟨some 43, _, _, _, _, _⟩) (v := ?_) rfl (by kernel_rfl) (by kernel_rfl) (by kernel_rfl) (fun _ _ _ h => h) (Or.inl ⟨by rfl, ?_⟩) (by assumption) ?_
              rotate_left
              · (intro w hSw; (try dsimp only at hSw); go_simp; try with_reducible rfl)
              try simp only [Act.put, List.setIfInBounds_toArray, List.set_cons_zero, List.set_cons_succ]
              have S1 := fun (w' : World) (hx : Ext w2 w') => B1.out.str hx
              refine wpAnyH_take (i := 23) (oi := ⟨some 44, _, _, _, _, _⟩) (v := ?_) rfl (by kernel_rfl) (by kernel_rfl) (by kernel_rfl) (fun _ _ _ h => h) (Or.inl ⟨by rfl, ?_⟩) (by assumption) ?_
              rotate_left
              · (intro w hSw; (try dsimp only at hSw); go_simp; try with_reducible rfl)
              try simp only [Act.put, List.setIfInBounds_toArray, List.set_cons_zero, List.set_cons_succ]
              refine next_one 24 (by kernel_rfl) rfl (by rfl) fun K' HK' => ?_
              go_simp
              refine (RS.out _).mono ?_
              rintro e w3 ⟨A3, n3, c3, rfl, ho3, hx3⟩
              have hx23 : Ext w2 w3 := (by (repeat (first | assumption | exact Ext.refl _ | apply Ext.drew | apply Ext.drewN | apply Ext.alloc | refine Ext.trans ?_ (by assumption))); first | done | fail)
              have hS2 := Ext.trans hHeld hx3
              refine held_go HK' hS2 (fun _ => ?_)
              clear HK'
              refine held_more (S' := fun w' => Ext w3 w') (fun _ h => Ext.trans hS2 h) _ _ _ _ ?_
              clear hHeld hS2
              have hHeld : Ext w3 w3 := Ext.refl _
              try simp only [Act.put, List.setIfInBounds_toArray, List.set_cons_zero, List.set_cons_succ]
              have S3 := fun (w' : World) (hx : Ext w3 w') => ho3.bs.str hx
              refine wpAnyH_take (i := 25) (oi := ⟨some 46, _, _, _, _, _⟩) (v := ?_) rfl (by kernel_rfl) (by kernel_rfl) (by kernel_rfl) (fun _ _ _ h => h) (Or.inl ⟨by rfl, ?_⟩) (by assumption) ?_
              rotate_left
              · (intro w hSw; (try dsimp only at hSw); go_simp; try with_reducible rfl)
              try simp only [Act.put, List.setIfInBounds_toArray, List.set_cons_zero, List.set_cons_succ]
              refine wpAnyH_take (i := 26) (oi := ⟨some 47, _, _, _, _, _⟩) (v := ?_) rfl (by kernel_rfl) (by kernel_rfl) (by kernel_rfl) (fun _ _ _ h => h) (Or.inl ⟨by rfl, ?_⟩) (by assumption) ?_
              rotate_left
              · (intro w hSw; (try dsimp only at hSw); go_simp; try with_reducible rfl)
              try simp only [Act.put, List.setIfInBounds_toArray, List.set_cons_zero, List.set_cons_succ]
              refine wpAnyH_take (i := 27) (oi := ⟨some 48, _, _, _, _, _⟩) (v := ?_) rfl (by kernel_rfl) (by kernel_rfl) (by kernel_rfl) (fun _ _ _ h => h) (Or.inl ⟨by rfl, ?_⟩) (by assumption) ?_
              rotate_left
              · (intro w hSw; (try dsimp only at hSw); go_simp; try with_reducible rfl)
              try simp only [Act.put, List.setIfInBounds_toArray, List.set_cons_zero, List.set_cons_succ]
              refine wpAnyH_done (by kernel_rfl) ?_ _
              have HX3 := Kp.mk hx23
              have M0 := Kp.mk (fun w' hx => m0 w' (hx23.trans hx))
              have q2 := m2 _ hx23
              clear S1 S3 hx3 ho3 m0 m1 m2 mb q0 qb
              go_wp2_with fail
              refine (C2.out _ HX3.out).mono ?_
              rintro e w4 ⟨x4, (⟨hb4, rfl⟩ | ⟨s, A6, c6, hb4, rfl, hs4⟩)⟩
              · have HN : Kp (SP = none) := ⟨by rw [HSP.out, hb4]; rfl⟩
                have X4 := Kp.mk (X2.out.trans (HX3.out.trans x4))
                clear x4 hb4 HSP
                go_wp2_with fail
                go_ret3
                exact .inr ⟨HN.out, rfl, X4.out⟩
              · have HSP := Kp.mk (show SP = (tl0 s).map fun t => (z0, t) by rw [HSP.out, hb4]; rfl)
                have X4 := Kp.mk (X2.out.trans (HX3.out.trans x4))
                have B6 := Kp.mk (hs4 w4 (B2.out.ext (HX3.out.trans x4)))
                have B04 := Kp.mk (B0.out.ext (HX3.out.trans x4))
                have q04 := M0.out w4 x4
                clear x4 hb4 hs4
                match s with
                | [] =>
                  have HN : Kp (SP = none) := ⟨by rw [HSP.out]; rfl⟩
                  clear HSP
                  go_wp2_with fail
                  go_ret3
                  exact .inr ⟨HN.out, rfl, X4.out⟩
                | y :: t =>
                  have hl6 := B6.out.len
                  have D1 := Kp.mk (B6.out.drop 1 (by rw [List.length_cons]; omega))
                  obtain ⟨g6, o6, rfl, hc6⟩ := B6.out.s.2.2.2 (by rw [List.length_cons]; omega)
                  have r0 := hc6 0 (by rw [List.length_cons]; omega)
                  rw [Nat.add_zero, show gb (y :: t) 0 = y from rfl] at r0
                  have hcap := B6.out.cap
                  obtain ⟨N, hN⟩ : ∃ N, (y :: t).length = N := ⟨_, rfl⟩
                  have hN0 : 0 < N := by rw [← hN, List.length_cons]; omega
                  rw [hN] at hl6 D1 hcap ⊢
                  have hN1 : (0 : Int) < (N : Int) := by omega
                  have hN2 : ((N : Int) == 0) = false := beq_eq_false_iff_ne.2 (by omega)
                  have hN3 : ¬ N = 0 := by omega
                  have LT : Kp (t.length = N - 1) := ⟨by rw [← hN, List.length_cons]; rfl⟩
                  clear hc6 hl6 hN
                  by_cases hy : y = 0
                  · subst hy
                    have HN : Kp (SP = some (z0, t)) := ⟨by rw [HSP.out]; rfl⟩
                    have hm1 := fun W => run_from (P := Tryz.prog) (some ⟨g6, o6, none⟩) N c6 39 5 Tryz.underlying39 (by kernel_rfl) 1 1 rfl (by omega) W
                    generalize (if c6 = 1 then (some ⟨g6, o6, none⟩ : Option Addr) else (some ⟨g6, o6, none⟩ : Option Addr).map (·.add 1)) = Az at D1 hm1
                    clear HSP
                    go_wp2_with fail
                    go_region
                    go_wp2_with fail
                    go_ret3
                    have hxx : Ext w4 w4.drew := (by (repeat (first | assumption | exact Ext.refl _ | apply Ext.drew | apply Ext.drewN | apply Ext.alloc | refine Ext.trans ?_ (by assumption))); first | done | fail)
                    exact .inl ⟨z0, t, some ⟨g0, o0, none⟩, n0, k0, Az, N - 1, c6 - 1, HN.out, rfl, B04.out.ext hxx, D1.out.ext hxx, X4.out.trans hxx⟩
                  · have HN : Kp (SP = none) := ⟨by
                      rw [HSP.out]
                      show (if y = 0 then some t else none).map _ = none
                      rw [if_neg hy]
                      rfl⟩
                    have hne := (ub_ne hy 0 rfl).1
                    have hne2 := (ub_ne hy 0 rfl).2
                    clear HSP hy D1
                    go_wp2_with fail
                    go_ret3
                    exact .inr ⟨HN.out, rfl, X4.out⟩
            · have HE : ((strOf z1).toList == (strOf sgnE).toList) = false := beq_eq_false_iff_ne.2 fun e => hz (strOf_inj e)
              have HN : Kp (SP = none) := ⟨by rw [HSP.out]; exact if_neg fun h => hz h.2⟩
              clear hz HSP
              go_wp2_with fail
              refine wp_region_held_drew (S := fun w' => Ext w2 w') (by kernel_rfl) (Ext.refl w2).drew (fun hHeld => ?_)
              refine wpAnyH_take (i := 0) (oi := ⟨some 21, _, _, _, _, _⟩) (v := ?_) rfl (by kernel_rfl) (by kernel_rfl) (by kernel_rfl) (fun _ _ _ h => h) (Or.inl ⟨by rfl, ?_⟩) (by assumption) ?_
              rotate_left
              · (intro w hSw; (try dsimp only at hSw); go_simp; try with_reducible rfl)
              try simp only [Act.put, List.setIfInBounds_toArray, List.set_cons_zero, List.set_cons_succ]
              refine wpAnyH_take (i := 1) (oi := ⟨some 22, _, _, _, _, _⟩) (v := ?_) rfl (by kernel_rfl) (by kernel_rfl) (by kernel_rfl) (fun _ _ _ h => h) (Or.inl ⟨by rfl, ?_⟩) (by assumption) ?_
              rotate_left
              · (intro w hSw; (try dsimp only at hSw); go_simp; try with_reducible rfl)
              try simp only [Act.put, List.setIfInBounds_toArray, List.set_cons_zero, List.set_cons_succ]
              refine wpAnyH_take (i := 2) (oi := ⟨some 23, _, _, _, _, _⟩) (v := ?_) rfl (by kernel_rfl) (by kernel_rfl) (by kernel_rfl) (fun _ _ _ h => h) (Or.inl ⟨by rfl, ?_⟩) (by assumption) ?_
              rotate_left
              · (intro w hSw; (try dsimp only at hSw); go_simp; try with_reducible rfl)
              try simp only [Act.put, List.setIfInBounds_toArray, List.set_cons_zero, List.set_cons_succ]
              refine wpAnyH_take (i := 3) (oi := ⟨some 24, _, _, _, _, _⟩) (v := ?_) rfl (by kernel_rfl) (by kernel_rfl) (by kernel_rfl) (fun _ _ _ h => h) (Or.inl ⟨by rfl, ?_⟩) (by assumption) ?_
              rotate_left
              · (intro w hSw; (try dsimp only at hSw); go_simp; try with_reducible rfl)
              try simp only [Act.put, List.setIfInBounds_toArray, List.set_cons_zero, List.set_cons_succ]
              refine wpAnyH_take (i := 4) (oi := ⟨some 25, _, _, _, _, _⟩) (v := ?_) rfl (by kernel_rfl) (by kernel_rfl) (by kernel_rfl) (fun _ _ _ h => h) (Or.inl ⟨by rfl, ?_⟩) (by assumption) ?_
              rotate_left
              · (intro w hSw; (try dsimp only at hSw); go_simp; try with_reducible rfl)
              try simp only [Act.put, List.setIfInBounds_toArray, List.set_cons_zero, List.set_cons_succ]
              refine wpAnyH_take (i := 5) (oi := ⟨some 26, _, _, _, _, _⟩) (v := ?_) rfl (by kernel_rfl) (by kernel_rfl) (by kernel_rfl) (fun _ _ _ h => h) (Or.inl ⟨by rfl, ?_⟩) (by assumption) ?_
              rotate_left
              · (intro w hSw; (try dsimp only at hSw); go_simp; try with_reducible rfl)
              try simp only [Act.put, List.setIfInBounds_toArray, List.set_cons_zero, List.set_cons_succ]
              refine wpAnyH_take (i := 6) (oi := ⟨some 27, _, _, _, _, _⟩) (v := ?_) rfl (by kernel_rfl) (by kernel_rfl) (by kernel_rfl) (fun _ _ _ h => h) (Or.inl ⟨by rfl, ?_⟩) (by assumption) ?_
              rotate_left
              · (intro w hSw; (try dsimp only at hSw); go_simp; try with_reducible rfl)
              try simp only [Act.put, List.setIfInBounds_toArray, List.set_cons_zero, List.set_cons_succ]
              refine wpAnyH_take (i := 7) (oi := ⟨some 28, _, _, _, _, _⟩) (v := ?_) rfl (by kernel_rfl) (by kernel_rfl) (by kernel_rfl) (fun _ _ _ h => h) (Or.inl ⟨by rfl, ?_⟩) (by assumption) ?_
              rotate_left
              · (intro w hSw; (try dsimp only at hSw); go_simp; try with_reducible rfl)
              try simp only [Act.put, List.setIfInBounds_toArray, List.set_cons_zero, List.set_cons_succ]
              refine wpAnyH_take (i := 8) (oi := ⟨some 29, _, _, _, _, _⟩) (v := ?_) rfl (by kernel_rfl) (by kernel_rfl) (by kernel_rfl) (fun _ _ _ h => h) (Or.inl ⟨by rfl, ?_⟩) (by assumption) ?_
              rotate_left
              · (intro w hSw; (try dsimp only at hSw); go_simp; try with_reducible rfl)
              try simp only [Act.put, List.setIfInBounds_toArray, List.set_cons_zero, List.set_cons_succ]
              refine wpAnyH_take (i := 9) (oi := ⟨some 30, _, _, _, _, _⟩) (v := ?_) rfl (by kernel_rfl) (by kernel_rfl) (by kernel_rfl) (fun _ _ _ h => h) (Or.inl ⟨by rfl, ?_⟩) (by assumption) ?_
              rotate_left
              · (intro w hSw; (try dsimp only at hSw); go_simp; try with_reducible rfl)
              try simp only [Act.put, List.setIfInBounds_toArray, List.set_cons_zero, List.set_cons_succ]
              refine wpAnyH_take (i := 10) (oi := ⟨some 31, _, _, _, _, _⟩) (v := ?_) rfl (by kernel_rfl) (by kernel_rfl) (by kernel_rfl) (fun _ _ _ h => h) (Or.inl ⟨by rfl, ?_⟩) (by assumption) ?_
              rotate_left
              · (intro w hSw; (try dsimp only at hSw); go_simp; try with_reducible rfl)
              try simp only [Act.put, List.setIfInBounds_toArray, List.set_cons_zero, List.set_cons_succ]
              refine wpAnyH_take (i := 11) (oi := ⟨some 32, _, _, _, _, _⟩) (v := ?_) rfl (by kernel_rfl) (by kernel_rfl) (by kernel_rfl) (fun _ _ _ h => h) (Or.inl ⟨by rfl, ?_⟩) (by assumption) ?_
              rotate_left
              · (intro w hSw; (try dsimp only at hSw); go_simp; try with_reducible rfl)
              try simp only [Act.put, List.setIfInBounds_toArray, List.set_cons_zero, List.set_cons_succ]
              refine wpAnyH_take (i := 12) (oi := ⟨some 33, _, _, _, _, _⟩) (v := ?_) rfl (by kernel_rfl) (by kernel_rfl) (by kernel_rfl) (fun _ _ _ h => h) (Or.inl ⟨by rfl, ?_⟩) (by assumption) ?_
              rotate_left
              · (intro w hSw; (try dsimp only at hSw); go_simp; try with_reducible rfl)
              try simp only [Act.put, List.setIfInBounds_toArray, List.set_cons_zero, List.set_cons_succ]
              refine wpAnyH_take (i := 13) (oi := ⟨some 34, _, _, _, _, _⟩) (v := ?_) rfl (by kernel_rfl) (by kernel_rfl) (by kernel_rfl) (fun _ _ _ h => h) (Or.inl ⟨by rfl, ?_⟩) (by assumption) ?_
              rotate_left
              · (intro w hSw; (try dsimp only at hSw); go_simp; try with_reducible rfl)
              try simp only [Act.put, List.setIfInBounds_toArray, List.set_cons_zero, List.set_cons_succ]
              refine wpAnyH_take (i := 14) (oi := ⟨some 35, _, _, _, _, _⟩) (v := ?_) rfl (by kernel_rfl) (by kernel_rfl) (by kernel_rfl) (fun _ _ _ h => h) (Or.inl ⟨by rfl, ?_⟩) (by assumption) ?_
              rotate_left
              · (intro w hSw; (try dsimp only at hSw); go_simp; try with_reducible rfl)
              try simp only [Act.put, List.setIfInBounds_toArray, List.set_cons_zero, List.set_cons_succ]
              refine wpAnyH_take (i := 15) (oi := ⟨some 36, _, _, _, _, _⟩) (v := ?_) rfl (by kernel_rfl) (by kernel_rfl) (by kernel_rfl) (fun _ _ _ h => h) (Or.inl ⟨by rfl, ?_⟩) (by assumption) ?_
              rotate_left
              · (intro w hSw; (try dsimp only at hSw); go_simp; try with_reducible rfl)
              try simp only [Act.put, List.setIfInBounds_toArray, List.set_cons_zero, List.set_cons_succ]
              refine wpAnyH_take (i := 16) (oi := ⟨some 37, _, _, _, _, _⟩) (v := ?_) rfl (by kernel_rfl) (by kernel_rfl) (by kernel_rfl) (fun _ _ _ h => h) (Or.inl ⟨by rfl, ?_⟩) (by assumption) ?_
              rotate_left
              · (intro w hSw; (try dsimp only at hSw); go_simp; try with_reducible rfl)
              try simp only [Act.put, List.setIfInBounds_toArray, List.set_cons_zero, List.set_cons_succ]
              refine wpAnyH_take (i := 17) (oi := ⟨some 38, _, _, _, _, _⟩) (v := ?_) rfl (by kernel_rfl) (by kernel_rfl) (by kernel_rfl) (fun _ _ _ h => h) (Or.inl ⟨by rfl, ?_⟩) (by assumption) ?_
              rotate_left
              · (intro w hSw; (try dsimp only at hSw); go_simp; try with_reducible rfl)
              try simp only [Act.put, List.setIfInBounds_toArray, List.set_cons_zero, List.set_cons_succ]
              refine wpAnyH_take (i := 18) (oi := ⟨some 39, _, _, _, _, _⟩) (v := ?_) rfl (by kernel_rfl) (by kernel_rfl) (by kernel_rfl) (fun _ _ _ h => h) (Or.inl ⟨by rfl, ?_⟩) (by assumption) ?_
              rotate_left
              · (intro w hSw; (try dsimp only at hSw); go_simp; try with_reducible rfl)
              try simp only [Act.put, List.setIfInBounds_toArray, List.set_cons_zero, List.set_cons_succ]
              refine wpAnyH_take (i := 19) (oi := ⟨some 40, _, _, _, _, _⟩) (v := ?_) rfl (by kernel_rfl) (by kernel_rfl) (by kernel_rfl) (fun _ _ _ h => h) (Or.inl ⟨by rfl, ?_⟩) (by assumption) ?_
              rotate_left
              · (intro w hSw; (try dsimp only at hSw); go_simp; try with_reducible rfl)
              try simp only [Act.put, List.setIfInBounds_toArray, List.set_cons_zero, List.set_cons_succ]
              refine wpAnyH_take (i := 20) (oi := ⟨some 41, _, _, _, _, _⟩) (v := ?_) rfl (by kernel_rfl) (by kernel_rfl) (by kernel_rfl) (fun _ _ _ h => h) (Or.inl ⟨by rfl, ?_⟩) (by assumption) ?_
              rotate_left
              · (intro w hSw; (try dsimp only at hSw); go_simp; try with_reducible rfl)
              try simp only [Act.put, List.setIfInBounds_toArray, List.set_cons_zero, List.set_cons_succ]
              refine wpAnyH_take (i := 21) (oi := ⟨some 42, _, _, _, _, _⟩) (v := ?_) rfl (by kernel_rfl) (by kernel_rfl) (by kernel_rfl) (fun _ _ _ h => h) (Or.inl ⟨by rfl, ?_⟩) (by assumption) ?_
              rotate_left
              · (intro w hSw; (try dsimp only at hSw); go_simp; try with_reducible rfl)
              try simp only [Act.put, List.setIfInBounds_toArray, List.set_cons_zero, List.set_cons_succ]
              refine wpAnyH_take (i := 22) (oi := ⟨some 43, _, _, _, _, _⟩) (v := ?_) rfl (by kernel_rfl) (by kernel_rfl) (by kernel_rfl) (fun _ _ _ h => h) (Or.inl ⟨by rfl, ?_⟩) (by assumption) ?_
              rotate_left
              · (intro w hSw; (try dsimp only at hSw); go_simp; try with_reducible rfl)
              try simp only [Act.put, List.setIfInBounds_toArray, List.set_cons_zero, List.set_cons_succ]
              have S1 := fun (w' : World) (hx : Ext w2 w') => B1.out.str hx
              refine wpAnyH_take (i := 23) (oi := ⟨some 44, _, _, _, _, _⟩) (v := ?_) rfl (by kernel_rfl) (by kernel_rfl) (by kernel_rfl) (fun _ _ _ h => h) (Or.inl ⟨by rfl, ?_⟩) (by assumption) ?_
              rotate_left
              · (intro w hSw; (try dsimp only at hSw); go_simp; try with_reducible rfl)
              try simp only [Act.put, List.setIfInBounds_toArray, List.set_cons_zero, List.set_cons_succ]
              refine next_one 24 (by kernel_rfl) rfl (by rfl) fun K' HK' => ?_
              go_simp
              refine (RS.out _).mono ?_
              rintro e w3 ⟨A3, n3, c3, rfl, ho3, hx3⟩
              have hx23 : Ext w2 w3 := (by (repeat (first | assumption | exact Ext.refl _ | apply Ext.drew | apply Ext.drewN | apply Ext.alloc | refine Ext.trans ?_ (by assumption))); first | done | fail)
              have hS2 := Ext.trans hHeld hx3
              refine held_go HK' hS2 (fun _ => ?_)
              clear HK'
              refine held_more (S' := fun w' => Ext w3 w') (fun _ h => Ext.trans hS2 h) _ _ _ _ ?_
              clear hHeld hS2
              have hHeld : Ext w3 w3 := Ext.refl _
              try simp only [Act.put, List.setIfInBounds_toArray, List.set_cons_zero, List.set_cons_succ]
              have S3 := fun (w' : World) (hx : Ext w3 w') => ho3.bs.str hx
              refine wpAnyH_take (i := 25) (oi := ⟨some 46, _, _, _, _, _⟩) (v := ?_) rfl (by kernel_rfl) (by kernel_rfl) (by kernel_rfl) (fun _ _ _ h => h) (Or.inl ⟨by rfl, ?_⟩) (by assumption) ?_
              rotate_left
              · (intro w hSw; (try dsimp only at hSw); go_simp; try with_reducible rfl)
              try simp only [Act.put, List.setIfInBounds_toArray, List.set_cons_zero, List.set_cons_succ]
              refine wpAnyH_take (i := 26) (oi := ⟨some 47, _, _, _, _, _⟩) (v := ?_) rfl (by kernel_rfl) (by kernel_rfl) (by kernel_rfl) (fun _ _ _ h => h) (Or.inl ⟨by rfl, ?_⟩) (by assumption) ?_
              rotate_left
              · (intro w hSw; (try dsimp only at hSw); go_simp; try with_reducible rfl)
              try simp only [Act.put, List.setIfInBounds_toArray, List.set_cons_zero, List.set_cons_succ]
              refine wpAnyH_take (i := 27) (oi := ⟨some 48, _, _, _, _, _⟩) (v := ?_) rfl (by kernel_rfl) (by kernel_rfl) (by kernel_rfl) (fun _ _ _ h => h) (Or.inl ⟨by rfl, ?_⟩) (by assumption) ?_
              rotate_left
              · (intro w hSw; (try dsimp only at hSw); go_simp; try with_reducible rfl)
              try simp only [Act.put, List.setIfInBounds_toArray, List.set_cons_zero, List.set_cons_succ]
              refine wpAnyH_done (by kernel_rfl) ?_ _
              have X3 := Kp.mk (X2.out.trans hx23)
              clear S1 S3 hx3 ho3 m0 m1 m2 mb q0 qb
              go_wp2_with fail
              go_ret3
              exact .inr ⟨HN.out, rfl, X3.out⟩
          · have HN : Kp (SP = none) := ⟨by rw [HSP.out]; exact if_neg fun h => h48 h.1⟩
            have hne := (ub_ne h48 48 rfl).1
            have hne2 := (ub_ne h48 48 rfl).2
            clear HSP h48 m0 m1 m2 mb
            go_wp2_with fail
            go_quiet (fail)
            go_wp2_with fail
            go_ret3
            exact .inr ⟨HN.out, rfl, X2.out.trans (by (repeat (first | assumption | exact Ext.refl _ | apply Ext.drew | apply Ext.drewN | apply Ext.alloc | refine Ext.trans ?_ (by assumption))); first | done | fail)⟩
      · have HN : Kp (SP = none) := ⟨by
          rw [HSP.out]
          unfold spl3
          split
          · rename_i hq
            have := congrArg List.length hq
            rw [List.length_map] at this
            exact absurd this h3
          · rfl⟩
        have X2 := Kp.mk (X1.out.trans x2)
        generalize vs.length = N at *
        have hne : ((N : Int) == 3) = false := beq_eq_false_iff_ne.2 (by omega)
        have hne2 : ((N : Int) != 3) = true := by rw [bne, hne]; rfl
        clear hp2 x2 HSP HP hr2 hsb
        go_wp2_with fail
        go_quiet (fail)
        go_wp2_with fail
        go_ret3
        exact .inr ⟨HN.out, rfl, X2.out.trans (by (repeat (first | assumption | exact Ext.refl _ | apply Ext.drew | apply Ext.drewN | apply Ext.alloc | refine Ext.trans ?_ (by assumption))); first | done | fail)⟩
end Go.Proofs.YtkdjhklnlnfhfaaGreatDoor
