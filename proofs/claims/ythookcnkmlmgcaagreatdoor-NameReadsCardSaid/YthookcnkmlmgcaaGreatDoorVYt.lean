/-
  The reference's Attr.
-/
import Derived.Test.YthookcnkmlmgcaaGreatDoorVYq
import Derived.Test.YthookcnkmlmgcaaGreatDoorM8
import Derived.Test.YthookcnkmlmgcaaGreatDoorVIf
import Derived.Test.YthookcnkmlmgcaaGreatDoorVZf
namespace Go.Proofs.YthookcnkmlmgcaaGreatDoor
open Go Go.RowKit
set_option maxRecDepth 4000

/-- new bytes, and true -/
def FreshT (w : World) (n : Nat) (l : List (BitVec 8)) (e : Ending) (w' : World) : Prop := ∃ A c, e = .returned (.tuple #[.slice A n c, .bool true]) ∧ Bs w' A n c l ∧ Own w' w.heap.size (.slice A n c) n l ∧ Ext w w'
/-- what the reference's Attr tells -/
def RaR (w : World) (a : Atr) (e : Ending) (w' : World) : Prop := (MayA textB a ∧ FreshT w (atrB a).length (atrB a) e w') ∨ (¬ MayA textB a ∧ e = .returned (.tuple #[.slice none 0 0, .bool false]) ∧ Ext w w')
set_option maxHeartbeats 8000000 in
theorem refAttr_any {w : World} {T : Option Addr} {t t1 : Nat} {B : Option Addr} {m d : Nat} {a : Atr} (hk : Rd vL w T t t1 a.ty) (hd : Dg 4294967296 a.ty) (hb : Bs w B m d a.tx) (hm : m ≤ 1000000) :
    Calls Tryz.prog 32 #[.agg #[.slice T t t1, .int .u8 (ub a.mark), .slice B m d]] w (RaR w a) := by
  obtain ⟨w0, hw0⟩ : ∃ w0, w.alloc (.cells #[.slice T t t1, .int .u8 (ub a.mark), .slice B m d] 38) = w0 := ⟨_, rfl⟩
  have hx0 : Ext w w0 := by rw [← hw0]; exact (by (repeat (first | assumption | exact Ext.refl _ | apply Ext.drew | apply Ext.drewN | apply Ext.alloc | refine Ext.trans ?_ (by assumption))); first | done | fail)
  have e0 : ∀ W, Ext w0 W → W.cell? ⟨w.heap.size, 0, none⟩ = some (.slice T t t1) := fun W hW => cell_fwd (by rw [← hw0]; simp) hW
  have e1 : ∀ W, Ext w0 W → W.cell? ⟨w.heap.size, 1, none⟩ = some (.int .u8 (ub a.mark)) := fun W hW => cell_fwd (by rw [← hw0]; simp) hW
  have e2 : ∀ W, Ext w0 W → W.cell? ⟨w.heap.size, 2, none⟩ = some (.slice B m d) := fun W hW => cell_fwd (by rw [← hw0]; simp) hW
  have X0 := Kp.mk hx0
  have W0 := Kp.mk hw0
  have hl := hb.len
  have HMW := Kp.mk (may_word (a := a))
  have HK := Kp.mk hk
  have HB := Kp.mk hb
  have HL := Kp.mk hl
  clear hx0 hw0 hk hb hl
  by_cases hmk : a.mark = 12 ∨ a.mark = 19
  · have hz : ((ub a.mark == 12) = true ∧ (ub a.mark != 12) = false) ∨ ((ub a.mark == 12) = false ∧ (ub a.mark != 12) = true ∧ (ub a.mark == 19) = true ∧ (ub a.mark != 19) = false) := by
      rcases hmk with e | e
      · rw [e]; exact .inl ⟨rfl, rfl⟩
      · rw [e]; exact .inr ⟨rfl, rfl, rfl, rfl⟩
    by_cases h1 : m < 1
    · have HN : Kp (¬ MayA textB a) := ⟨fun h => by have := h.lo; have := HL.out; omega⟩
      obtain rfl : m = 0 := by omega
      clear hmk h1
      generalize ub a.mark = z at *
      rcases hz with ⟨k1, k2⟩ | ⟨k1, k2, k3, k4⟩
      · go_enter Tryz.func32, Tryz.ntmps32
        go_wp2_with fail
        go_ret2
        exact .inr ⟨HN.out, rfl, by rw [W0.out]; exact X0.out⟩
      · go_enter Tryz.func32, Tryz.ntmps32
        go_wp2_with fail
        go_ret2
        exact .inr ⟨HN.out, rfl, by rw [W0.out]; exact X0.out⟩
    have b1 : ¬ (m : Int) < 1 := by omega
    by_cases h64 : 64 < m
    · have HN : Kp (¬ MayA textB a) := ⟨fun h => by have := h.hi; have := HL.out; omega⟩
      have b2 : (64 : Int) < (m : Int) := by omega
      clear hmk h1
      generalize ub a.mark = z at *
      rcases hz with ⟨k1, k2⟩ | ⟨k1, k2, k3, k4⟩
      · go_enter Tryz.func32, Tryz.ntmps32
        go_wp2_with fail
        go_ret2
        exact .inr ⟨HN.out, rfl, by rw [W0.out]; exact X0.out⟩
      · go_enter Tryz.func32, Tryz.ntmps32
        go_wp2_with fail
        go_ret2
        exact .inr ⟨HN.out, rfl, by rw [W0.out]; exact X0.out⟩
    have b2 : ¬ (64 : Int) < (m : Int) := by omega
    have HOi := Kp.mk (refOid_any (HK.out.ext X0.out))
    have HTx := Kp.mk (fun (W : World) (hW : Ext w W) => refText_any a.mark (by rcases hmk with e | e; exact .inl e; exact .inr (.inl e)) (HB.out.ext hW) hm)
    have HIF := Kp.mk (oidK_iff hd)
    have HMK := Kp.mk hmk
    have Q0 := e0 w0 (Ext.refl _)
    have Q1 := e1 w0 (Ext.refl _)
    have Q2 := e2 w0 (Ext.refl _)
    have hbody : OidP a.ty → ∀ W, Ext w W → Calls Tryz.prog 31 #[.slice T t t1] W fun e w' => Fresh W (oidB a.ty).length (oidB a.ty) e w' := fun hP W hW => OidBody_any (HK.out.ext hW) hP
    have HBody := Kp.mk hbody
    clear hmk h1 hbody hd
    rcases hz with ⟨k1, k2⟩ | ⟨k1, k2, k3, k4⟩
    · go_enter Tryz.func32, Tryz.ntmps32
      go_wp2_with fail
      rw [W0.out]
      refine HOi.out.mono ?_
      rintro e w1 ⟨rfl, hw⟩
      obtain rfl : w0 = w1 := hw.symm
      cases hok : oidK a.ty with
      | false =>
        have HN : Kp (¬ MayA textB a) := ⟨fun h => by rw [HIF.out.2 h.oid] at hok; cases hok⟩
        clear hok
        go_wp2_with fail
        go_ret2
        exact .inr ⟨HN.out, rfl, X0.out⟩
      | true =>
        have HP := Kp.mk (HIF.out.1 hok)
        clear hok
        go_wp2_with fail
        refine (HTx.out _ X0.out).mono ?_
        rintro e w2 ⟨rfl, x2⟩
        have X2 := Kp.mk (X0.out.trans x2)
        have q0 : ∀ W, Ext w2 W → W.cell? ⟨w.heap.size, 0, none⟩ = some (.slice T t t1) := fun W hW => e0 W (x2.trans hW)
        have q1 : ∀ W, Ext w2 W → W.cell? ⟨w.heap.size, 1, none⟩ = some (.int .u8 (ub a.mark)) := fun W hW => e1 W (x2.trans hW)
        have q2 : ∀ W, Ext w2 W → W.cell? ⟨w.heap.size, 2, none⟩ = some (.slice B m d) := fun W hW => e2 W (x2.trans hW)
        cases htx : textB a.mark a.tx with
        | false =>
          have HN : Kp (¬ MayA textB a) := ⟨fun h => by rw [h.text] at htx; cases htx⟩
          clear htx
          go_wp2_with fail
          go_ret2
          exact .inr ⟨HN.out, rfl, X2.out⟩
        | true =>
          have HMA : Kp (MayA textB a) := ⟨⟨HP.out, HMK.out, by have := HL.out; omega, by have := HL.out; omega, htx⟩⟩
          have hob := oidB_len HP.out
          have hbd := HMA.out.body
          have HBD := Kp.mk hbd
          clear htx x2 e0 e1 e2 Q0 Q1 Q2
          go_wp2_with fail
          refine wp_region_held_drew (S := fun w' => Ext w2 w') (by kernel_rfl) (Ext.refl w2).drew (fun hHeld => ?_)
          refine wpAnyH_take (i := 0) (oi := ⟨some 37, _, _, _, _, _⟩) (v := ?_) rfl (by kernel_rfl) (by kernel_rfl) (by kernel_rfl) (fun _ _ _ h => h) (Or.inl ⟨by rfl, ?_⟩) (by assumption) ?_
          rotate_left
          · (intro w hSw; (try dsimp only at hSw); go_simp; try with_reducible rfl)
          try simp only [Act.put, List.setIfInBounds_toArray, List.set_cons_zero, List.set_cons_succ]
          refine wpAnyH_take (i := 1) (oi := ⟨some 38, _, _, _, _, _⟩) (v := ?_) rfl (by kernel_rfl) (by kernel_rfl) (by kernel_rfl) (fun _ _ _ h => h) (Or.inl ⟨by rfl, ?_⟩) (by assumption) ?_
          rotate_left
          · (intro w hSw; (try dsimp only at hSw); go_simp; try with_reducible rfl)
          try simp only [Act.put, List.setIfInBounds_toArray, List.set_cons_zero, List.set_cons_succ]
          refine wpAnyH_take (i := 4) (oi := ⟨some 41, _, _, _, _, _⟩) (v := ?_) rfl (by kernel_rfl) (by kernel_rfl) (by kernel_rfl) (fun _ _ _ h => h) (Or.inl ⟨by rfl, ?_⟩) (by assumption) ?_
          rotate_left
          · (intro w hSw; (try dsimp only at hSw); go_simp; try with_reducible rfl)
          try simp only [Act.put, List.setIfInBounds_toArray, List.set_cons_zero, List.set_cons_succ]
          refine wpAnyH_take (i := 5) (oi := ⟨some 42, _, _, _, _, _⟩) (v := ?_) rfl (by kernel_rfl) (by kernel_rfl) (by kernel_rfl) (fun _ _ _ h => h) (Or.inl ⟨by rfl, ?_⟩) (by assumption) ?_
          rotate_left
          · (intro w hSw; (try dsimp only at hSw); go_simp; try with_reducible rfl)
          try simp only [Act.put, List.setIfInBounds_toArray, List.set_cons_zero, List.set_cons_succ]
          refine wpAnyH_take (i := 6) (oi := ⟨some 43, _, _, _, _, _⟩) (v := ?_) rfl (by kernel_rfl) (by kernel_rfl) (by kernel_rfl) (fun _ _ _ h => h) (Or.inl ⟨by rfl, ?_⟩) (by assumption) ?_
          rotate_left
          · (intro w hSw; (try dsimp only at hSw); go_simp; try with_reducible rfl)
          try simp only [Act.put, List.setIfInBounds_toArray, List.set_cons_zero, List.set_cons_succ]
          refine wpAnyH_take (i := 7) (oi := ⟨some 44, _, _, _, _, _⟩) (v := ?_) rfl (by kernel_rfl) (by kernel_rfl) (by kernel_rfl) (fun _ _ _ h => h) (Or.inl ⟨by rfl, ?_⟩) (by assumption) ?_
          rotate_left
          · (intro w hSw; (try dsimp only at hSw); go_simp; try with_reducible rfl)
          try simp only [Act.put, List.setIfInBounds_toArray, List.set_cons_zero, List.set_cons_succ]
          refine next_one 2 (by kernel_rfl) rfl (by rfl) fun K' HK' => ?_
          go_simp
          refine (HBody.out HP.out _ (X2.out.trans (by (repeat (first | assumption | exact Ext.refl _ | apply Ext.drew | apply Ext.drewN | apply Ext.alloc | refine Ext.trans ?_ (by assumption))); first | done | fail))).mono ?_
          rintro e w3 ⟨A3, c3, rfl, hs3, ho3, hx3⟩
          have hS3 : Ext w2 w3 := (by (repeat (first | assumption | exact Ext.refl _ | apply Ext.drew | apply Ext.drewN | apply Ext.alloc | refine Ext.trans ?_ (by assumption))); first | done | fail)
          refine held_go HK' (hS3) (fun _ => ?_)
          clear HK'
          try simp only [Act.put, List.setIfInBounds_toArray, List.set_cons_zero, List.set_cons_succ]
          refine next_one 3 (by kernel_rfl) rfl (by rfl) fun K' HK' => ?_
          go_simp
          refine (refElement_ok 6 hs3 (by omega)).mono ?_
          rintro e w4 ⟨A4, c4, rfl, hs4, ho4, hx4⟩
          have hS4 : Ext w2 w4 := hS3.trans hx4
          refine held_go HK' (hS4) (fun _ => ?_)
          clear HK'
          try simp only [Act.put, List.setIfInBounds_toArray, List.set_cons_zero, List.set_cons_succ]
          refine next_one 8 (by kernel_rfl) rfl (by rfl) fun K' HK' => ?_
          go_simp
          refine (refElement_ok a.mark (HB.out.ext (X2.out.trans hS4)) (by omega)).mono ?_
          rintro e w5 ⟨A5, c5, rfl, hs5, ho5, hx5⟩
          have hS5 : Ext w2 w5 := hS4.trans hx5
          refine held_go HK' (hS5) (fun _ => ?_)
          clear HK'
          try simp only [Act.put, List.setIfInBounds_toArray, List.set_cons_zero, List.set_cons_succ]
          have hh6 := hdn_hi (oidB a.ty).length
          have hhm := hdn_hi m
          refine next_one 9 (by kernel_rfl) rfl (by rfl) fun K' HK' => ?_
          refine wp_append_bs (.tmp 40) (.tmp 45) rfl w2.heap.size _ (hdn (oidB a.ty).length + (oidB a.ty).length) (elm 6 (oidB a.ty)) rfl ((ho4.lower hS3.size).ext hx5) A5 (hdn m + m) c5 (elm a.mark a.tx) rfl hs5 (by omega) (hdn (oidB a.ty).length + (oidB a.ty).length + (hdn m + m)) rfl _ rfl w2 hS5 (Nat.le_refl _) hS5.size ?_
          intro A6 c6 w6 ho6 hx6 hap6
          refine held_go HK' (hx6) (fun _ => ?_)
          clear HK'
          try simp only [Act.put, List.setIfInBounds_toArray, List.set_cons_zero, List.set_cons_succ]
          refine next_one 10 (by kernel_rfl) rfl (by rfl) fun K' HK' => ?_
          go_simp
          refine held_go HK' (hx6) (fun _ => ?_)
          clear HK'
          try simp only [Act.put, List.setIfInBounds_toArray, List.set_cons_zero, List.set_cons_succ]
          refine wpAnyH_done (by kernel_rfl) ?_ _
          have HO6 := Kp.mk ho6
          have X6 := Kp.mk hx6
          have HL6 := Kp.mk ho6.len
          clear q0 q1 q2 hs3 hs4 hs5 ho3 ho4 ho5 ho6 hx3 hx4 hx5 hx6 hap6 hS3 hS4 hS5 hbd
          generalize hN6 : hdn (oidB a.ty).length + (oidB a.ty).length + (hdn m + m) = N6 at *
          have HN6 := Kp.mk hN6
          clear hN6
          go_wp2_with fail
          refine (refElement_ok 48 HO6.out.bs (by have := HBD.out; have := HL6.out; omega)).mono ?_
          rintro e w7 ⟨A7, c7, rfl, hs7, ho7, x7⟩
          go_wp2_with fail
          go_ret2
          have hlen : (atrB a).length = hdn N6 + N6 := by unfold atrB; rw [elm_len, HL6.out]
          refine .inl ⟨HMA.out, A7, c7, ?_, ?_, ?_, (X2.out.trans X6.out).trans x7⟩
          · rw [hlen]; rfl
          · rw [hlen]; exact hs7
          · rw [hlen]; exact ho7.lower (X2.out.trans X6.out).size
    · go_enter Tryz.func32, Tryz.ntmps32
      go_wp2_with fail
      rw [W0.out]
      refine HOi.out.mono ?_
      rintro e w1 ⟨rfl, hw⟩
      obtain rfl : w0 = w1 := hw.symm
      cases hok : oidK a.ty with
      | false =>
        have HN : Kp (¬ MayA textB a) := ⟨fun h => by rw [HIF.out.2 h.oid] at hok; cases hok⟩
        clear hok
        go_wp2_with fail
        go_ret2
        exact .inr ⟨HN.out, rfl, X0.out⟩
      | true =>
        have HP := Kp.mk (HIF.out.1 hok)
        clear hok
        go_wp2_with fail
        refine (HTx.out _ X0.out).mono ?_
        rintro e w2 ⟨rfl, x2⟩
        have X2 := Kp.mk (X0.out.trans x2)
        have q0 : ∀ W, Ext w2 W → W.cell? ⟨w.heap.size, 0, none⟩ = some (.slice T t t1) := fun W hW => e0 W (x2.trans hW)
        have q1 : ∀ W, Ext w2 W → W.cell? ⟨w.heap.size, 1, none⟩ = some (.int .u8 (ub a.mark)) := fun W hW => e1 W (x2.trans hW)
        have q2 : ∀ W, Ext w2 W → W.cell? ⟨w.heap.size, 2, none⟩ = some (.slice B m d) := fun W hW => e2 W (x2.trans hW)
        cases htx : textB a.mark a.tx with
        | false =>
          have HN : Kp (¬ MayA textB a) := ⟨fun h => by rw [h.text] at htx; cases htx⟩
          clear htx
          go_wp2_with fail
          go_ret2
          exact .inr ⟨HN.out, rfl, X2.out⟩
        | true =>
          have HMA : Kp (MayA textB a) := ⟨⟨HP.out, HMK.out, by have := HL.out; omega, by have := HL.out; omega, htx⟩⟩
          have hob := oidB_len HP.out
          have hbd := HMA.out.body
          have HBD := Kp.mk hbd
          clear htx x2 e0 e1 e2 Q0 Q1 Q2
          go_wp2_with fail
          refine wp_region_held_drew (S := fun w' => Ext w2 w') (by kernel_rfl) (Ext.refl w2).drew (fun hHeld => ?_)
          refine wpAnyH_take (i := 0) (oi := ⟨some 37, _, _, _, _, _⟩) (v := ?_) rfl (by kernel_rfl) (by kernel_rfl) (by kernel_rfl) (fun _ _ _ h => h) (Or.inl ⟨by rfl, ?_⟩) (by assumption) ?_
          rotate_left
          · (intro w hSw; (try dsimp only at hSw); go_simp; try with_reducible rfl)
          try simp only [Act.put, List.setIfInBounds_toArray, List.set_cons_zero, List.set_cons_succ]
          refine wpAnyH_take (i := 1) (oi := ⟨some 38, _, _, _, _, _⟩) (v := ?_) rfl (by kernel_rfl) (by kernel_rfl) (by kernel_rfl) (fun _ _ _ h => h) (Or.inl ⟨by rfl, ?_⟩) (by assumption) ?_
          rotate_left
          · (intro w hSw; (try dsimp only at hSw); go_simp; try with_reducible rfl)
          try simp only [Act.put, List.setIfInBounds_toArray, List.set_cons_zero, List.set_cons_succ]
          refine wpAnyH_take (i := 4) (oi := ⟨some 41, _, _, _, _, _⟩) (v := ?_) rfl (by kernel_rfl) (by kernel_rfl) (by kernel_rfl) (fun _ _ _ h => h) (Or.inl ⟨by rfl, ?_⟩) (by assumption) ?_
          rotate_left
          · (intro w hSw; (try dsimp only at hSw); go_simp; try with_reducible rfl)
          try simp only [Act.put, List.setIfInBounds_toArray, List.set_cons_zero, List.set_cons_succ]
          refine wpAnyH_take (i := 5) (oi := ⟨some 42, _, _, _, _, _⟩) (v := ?_) rfl (by kernel_rfl) (by kernel_rfl) (by kernel_rfl) (fun _ _ _ h => h) (Or.inl ⟨by rfl, ?_⟩) (by assumption) ?_
          rotate_left
          · (intro w hSw; (try dsimp only at hSw); go_simp; try with_reducible rfl)
          try simp only [Act.put, List.setIfInBounds_toArray, List.set_cons_zero, List.set_cons_succ]
          refine wpAnyH_take (i := 6) (oi := ⟨some 43, _, _, _, _, _⟩) (v := ?_) rfl (by kernel_rfl) (by kernel_rfl) (by kernel_rfl) (fun _ _ _ h => h) (Or.inl ⟨by rfl, ?_⟩) (by assumption) ?_
          rotate_left
          · (intro w hSw; (try dsimp only at hSw); go_simp; try with_reducible rfl)
          try simp only [Act.put, List.setIfInBounds_toArray, List.set_cons_zero, List.set_cons_succ]
          refine wpAnyH_take (i := 7) (oi := ⟨some 44, _, _, _, _, _⟩) (v := ?_) rfl (by kernel_rfl) (by kernel_rfl) (by kernel_rfl) (fun _ _ _ h => h) (Or.inl ⟨by rfl, ?_⟩) (by assumption) ?_
          rotate_left
          · (intro w hSw; (try dsimp only at hSw); go_simp; try with_reducible rfl)
          try simp only [Act.put, List.setIfInBounds_toArray, List.set_cons_zero, List.set_cons_succ]
          refine next_one 2 (by kernel_rfl) rfl (by rfl) fun K' HK' => ?_
          go_simp
          refine (HBody.out HP.out _ (X2.out.trans (by (repeat (first | assumption | exact Ext.refl _ | apply Ext.drew | apply Ext.drewN | apply Ext.alloc | refine Ext.trans ?_ (by assumption))); first | done | fail))).mono ?_
          rintro e w3 ⟨A3, c3, rfl, hs3, ho3, hx3⟩
          have hS3 : Ext w2 w3 := (by (repeat (first | assumption | exact Ext.refl _ | apply Ext.drew | apply Ext.drewN | apply Ext.alloc | refine Ext.trans ?_ (by assumption))); first | done | fail)
          refine held_go HK' (hS3) (fun _ => ?_)
          clear HK'
          try simp only [Act.put, List.setIfInBounds_toArray, List.set_cons_zero, List.set_cons_succ]
          refine next_one 3 (by kernel_rfl) rfl (by rfl) fun K' HK' => ?_
          go_simp
          refine (refElement_ok 6 hs3 (by omega)).mono ?_
          rintro e w4 ⟨A4, c4, rfl, hs4, ho4, hx4⟩
          have hS4 : Ext w2 w4 := hS3.trans hx4
          refine held_go HK' (hS4) (fun _ => ?_)
          clear HK'
          try simp only [Act.put, List.setIfInBounds_toArray, List.set_cons_zero, List.set_cons_succ]
          refine next_one 8 (by kernel_rfl) rfl (by rfl) fun K' HK' => ?_
          go_simp
          refine (refElement_ok a.mark (HB.out.ext (X2.out.trans hS4)) (by omega)).mono ?_
          rintro e w5 ⟨A5, c5, rfl, hs5, ho5, hx5⟩
          have hS5 : Ext w2 w5 := hS4.trans hx5
          refine held_go HK' (hS5) (fun _ => ?_)
          clear HK'
          try simp only [Act.put, List.setIfInBounds_toArray, List.set_cons_zero, List.set_cons_succ]
          have hh6 := hdn_hi (oidB a.ty).length
          have hhm := hdn_hi m
          refine next_one 9 (by kernel_rfl) rfl (by rfl) fun K' HK' => ?_
          refine wp_append_bs (.tmp 40) (.tmp 45) rfl w2.heap.size _ (hdn (oidB a.ty).length + (oidB a.ty).length) (elm 6 (oidB a.ty)) rfl ((ho4.lower hS3.size).ext hx5) A5 (hdn m + m) c5 (elm a.mark a.tx) rfl hs5 (by omega) (hdn (oidB a.ty).length + (oidB a.ty).length + (hdn m + m)) rfl _ rfl w2 hS5 (Nat.le_refl _) hS5.size ?_
          intro A6 c6 w6 ho6 hx6 hap6
          refine held_go HK' (hx6) (fun _ => ?_)
          clear HK'
          try simp only [Act.put, List.setIfInBounds_toArray, List.set_cons_zero, List.set_cons_succ]
          refine next_one 10 (by kernel_rfl) rfl (by rfl) fun K' HK' => ?_
          go_simp
          refine held_go HK' (hx6) (fun _ => ?_)
          clear HK'
          try simp only [Act.put, List.setIfInBounds_toArray, List.set_cons_zero, List.set_cons_succ]
          refine wpAnyH_done (by kernel_rfl) ?_ _
          have HO6 := Kp.mk ho6
          have X6 := Kp.mk hx6
          have HL6 := Kp.mk ho6.len
          clear q0 q1 q2 hs3 hs4 hs5 ho3 ho4 ho5 ho6 hx3 hx4 hx5 hx6 hap6 hS3 hS4 hS5 hbd
          generalize hN6 : hdn (oidB a.ty).length + (oidB a.ty).length + (hdn m + m) = N6 at *
          have HN6 := Kp.mk hN6
          clear hN6
          go_wp2_with fail
          refine (refElement_ok 48 HO6.out.bs (by have := HBD.out; have := HL6.out; omega)).mono ?_
          rintro e w7 ⟨A7, c7, rfl, hs7, ho7, x7⟩
          go_wp2_with fail
          go_ret2
          have hlen : (atrB a).length = hdn N6 + N6 := by unfold atrB; rw [elm_len, HL6.out]
          refine .inl ⟨HMA.out, A7, c7, ?_, ?_, ?_, (X2.out.trans X6.out).trans x7⟩
          · rw [hlen]; rfl
          · rw [hlen]; exact hs7
          · rw [hlen]; exact ho7.lower (X2.out.trans X6.out).size
  · have HN : Kp (¬ MayA textB a) := ⟨fun h => hmk h.mark⟩
    have k1 : (ub a.mark == 12) = false := (ub_neY (k := 12) fun e => hmk (.inl e)).1
    have k2 : (ub a.mark != 12) = true := (ub_neY (k := 12) fun e => hmk (.inl e)).2
    have k3 : (ub a.mark == 19) = false := (ub_neY (k := 19) fun e => hmk (.inr e)).1
    have k4 : (ub a.mark != 19) = true := (ub_neY (k := 19) fun e => hmk (.inr e)).2
    clear hmk
    generalize ub a.mark = z at *
    go_enter Tryz.func32, Tryz.ntmps32
    go_wp2_with fail
    go_ret2
    exact .inr ⟨HN.out, rfl, by rw [W0.out]; exact X0.out⟩
end Go.Proofs.YthookcnkmlmgcaaGreatDoor
