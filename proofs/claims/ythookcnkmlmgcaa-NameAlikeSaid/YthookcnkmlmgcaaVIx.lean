/-
  The reference's Alike, Within.
-/
import Derived.Test.YthookcnkmlmgcaaVIw
import Derived.Test.YthookcnkmlmgcaaVIv
namespace Go.Proofs.Ythookcnkmlmgcaa
open Go Go.RowKit
set_option maxRecDepth 4000

theorem alS_no1 {s t : List Atr} {k : Nat} {a : Atr} (ha : s[k]? = some a) (h : hasA t a = false) : alS s t = false := by
  cases hq : alS s t with
  | false => rfl
  | true =>
    unfold alS at hq
    rw [Bool.and_eq_true, List.all_eq_true, List.all_eq_true] at hq
    have := hq.1 a (List.mem_of_getElem? ha)
    rw [h] at this
    cases this
theorem alS_no2 {s t : List Atr} {k : Nat} {a : Atr} (ha : t[k]? = some a) (h : hasA s a = false) : alS s t = false := by rw [alS_symm]; exact alS_no1 ha h
theorem alS_yes {s t : List Atr} (h1 : ∀ (k : Nat) (a : Atr), s[k]? = some a → hasA t a = true) (h2 : ∀ (k : Nat) (a : Atr), t[k]? = some a → hasA s a = true) : alS s t = true := by
  unfold alS
  rw [Bool.and_eq_true, List.all_eq_true, List.all_eq_true]
  constructor
  · intro a ha
    obtain ⟨k, hk⟩ := List.getElem?_of_mem ha
    exact h1 k a hk
  · intro a ha
    obtain ⟨k, hk⟩ := List.getElem?_of_mem ha
    exact h2 k a hk
theorem alN_no {x y : List (List Atr)} {i : Nat} {s t : List Atr} (hs : x[i]? = some s) (ht : y[i]? = some t) (h : alS s t = false) : alN x y = false := by
  cases hq : alN x y with
  | false => rfl
  | true =>
    have := (alN_iff.1 hq).2 i (List.getElem?_eq_some_iff.1 hs).1
    rw [List.getD_eq_getElem?_getD, hs, List.getD_eq_getElem?_getD, ht] at this
    exact absurd (h.symm.trans this) (by decide)
set_option maxHeartbeats 16000000 in
theorem refAlike_any {w : World} {A B : Option Addr} {n c m d : Nat} {x y : List (List Atr)} (h : Nam w A n c x) (h' : Nam w B m d y) (hx : FitN x) (hy : FitN y) :
    Calls Try.prog 11 #[.slice A n c, .slice B m d] w fun e w' => e = .returned (.bool (alN x y)) ∧ Ext w w' := by
  have hl := h.len
  have hl' := h'.len
  obtain ⟨D, hD⟩ : ∃ D, alN x y = D := ⟨_, rfl⟩
  rw [hD]
  by_cases hnm : n = m
  · subst hnm
    have HD := Kp.mk hD
    have H1 := Kp.mk h
    have H2 := Kp.mk h'
    have HL := Kp.mk hl
    have HL' := Kp.mk hl'
    have FX := Kp.mk hx
    have FY := Kp.mk hy
    have hn1 : n ≤ 1000000 := by have := hx.hi; omega
    clear h h' hl hl' hD hx hy
    go_enter Try.func11, Try.ntmps11
    go_wp2_with fail
    go_loopw [5] (fun iv wr => ∃ i : Nat, i ≤ n ∧ iv = .int .i64 (i : Int) ∧ (∀ q, q < i → alS (x.getD q []) (y.getD q []) = true) ∧ Ext w wr) (fun iv _ => n - (intOf iv).toNat)
    case atStart => exact ⟨0, Nat.zero_le _, rfl, (fun q hq => absurd hq (Nat.not_lt_zero _)), Ext.refl _⟩
    case round =>
      obtain ⟨wo, rfl⟩ : ∃ wo : World, wo = wr := ⟨_, rfl⟩
      obtain ⟨i, hi, rfl, hq, hxw⟩ := hrel
      have HQ := Kp.mk hq
      have HX := Kp.mk hxw
      clear hq
      by_cases hlt : i < n
      · have b1 : (i : Int) < (n : Int) := by omega
        obtain ⟨g, o, B1, m1, d1, s, rfl, hs, k1, hst⟩ := H1.out.get i hlt
        obtain ⟨g', o', B2, m2, d2, t, rfl, ht, k2, htt⟩ := H2.out.get i hlt
        have c1 : ∀ W, Ext wo W → W.cell? ⟨g, o + i, none⟩ = some (.slice B1 m1 d1) := fun W hW => cell_fwd k1 (hxw.trans hW)
        have c2 : ∀ W, Ext wo W → W.cell? ⟨g', o' + i, none⟩ = some (.slice B2 m2 d2) := fun W hW => cell_fwd k2 (hxw.trans hW)
        have HST := Kp.mk (hst.ext hxw)
        have HTT := Kp.mk (htt.ext hxw)
        have FS := Kp.mk (FX.out.all s (List.mem_of_getElem? hs))
        have FT := Kp.mk (FY.out.all t (List.mem_of_getElem? ht))
        have HS := Kp.mk hs
        have HT := Kp.mk ht
        have es : x.getD i [] = s := by rw [List.getD_eq_getElem?_getD, hs]; rfl
        have et : y.getD i [] = t := by rw [List.getD_eq_getElem?_getD, ht]; rfl
        have ES := Kp.mk es
        have ET := Kp.mk et
        have LS := Kp.mk hst.len
        have LT := Kp.mk htt.len
        have C1 := Kp.mk c1
        have C2 := Kp.mk c2
        have c1' := c1 wo (Ext.refl _)
        have c2' := c2 wo (Ext.refl _)
        clear hst htt hs ht k1 k2 es et hxw c1 c2
        have hm1 : m1 ≤ 1000000 := by have := FS.out.1; have := LS.out; omega
        go_wp2_with fail
        go_loopw [6] (fun jv ws => ∃ j : Nat, j ≤ m1 ∧ jv = .int .i64 (j : Int) ∧ (∀ (q : Nat) (a : Atr), q < j → s[q]? = some a → hasA t a = true) ∧ Ext wo ws) (fun jv _ => m1 - (intOf jv).toNat)
        case atStart => exact ⟨0, Nat.zero_le _, rfl, (fun q a hq => absurd hq (Nat.not_lt_zero _)), Ext.refl _⟩
        case round =>
          obtain ⟨ws, rfl⟩ : ∃ ws : World, ws = wr := ⟨_, rfl⟩
          obtain ⟨j, hj, rfl, hq, hxs⟩ := hrel
          have JQ := Kp.mk hq
          have JX := Kp.mk hxs
          have a1 := C1.out ws hxs
          have a2 := C2.out ws hxs
          clear hq
          by_cases hlt2 : j < m1
          · have b2 : (j : Int) < (m1 : Int) := by omega
            obtain ⟨ga, oa, T, t0, t1, Bt, mt, dt, a, rfl, ha, k1, k2, k3, k4, k5, k6⟩ := HST.out.get j hlt2
            have e1 : ∀ W, Ext ws W → W.cell? ⟨g, o + i, none⟩ = some (.slice (some ⟨ga, oa, none⟩) m1 d1) := fun W hW => C1.out W (hxs.trans hW)
            have e2 : ∀ W, Ext ws W → W.cell? ⟨g', o' + i, none⟩ = some (.slice B2 m2 d2) := fun W hW => C2.out W (hxs.trans hW)
            have e3 : ∀ W, Ext ws W → W.cell? ⟨ga, oa + j * 3, none⟩ = some (.slice T t0 t1) := fun W hW => cell_fwd k1 (hxs.trans hW)
            have e4 : ∀ W, Ext ws W → W.cell? ⟨ga, oa + j * 3 + 1, none⟩ = some (.int .u8 (ub a.mark)) := fun W hW => cell_fwd k2 (hxs.trans hW)
            have e5 : ∀ W, Ext ws W → W.cell? ⟨ga, oa + j * 3 + 2, none⟩ = some (.slice Bt mt dt) := fun W hW => cell_fwd k3 (hxs.trans hW)
            have HC := Kp.mk (fun (W : World) (mk : Int) (hW : Ext ws W) => has_any (mk := mk) (HTT.out.ext (hxs.trans hW)) FT.out.2 (by have := FT.out.1; have := LT.out; omega) (k4.ext (hxs.trans hW)) (k6.ext (hxs.trans hW)) (by have := (FS.out.2 a (List.mem_of_getElem? ha)).1; have := k6.len; omega))
            have HA := Kp.mk ha
            clear k1 k2 k3 k4 k5 k6 ha hxs
            generalize ub a.mark = mk at *
            by_cases hh : hasA t a = true
            · have HH := Kp.mk hh
              rw [hh] at HC
              clear hh
              go_wp2_with fail
              refine wp_region_held_drew (S := fun w' => Ext ws w') (by kernel_rfl) (Ext.refl ws).drew (fun hHeld => ?_)
              refine wpAnyH_take (i := 0) (oi := ⟨some 30, _, _, _, _, _⟩) (v := ?_) rfl (by kernel_rfl) (by kernel_rfl) (by kernel_rfl) (fun _ _ _ h => h) (Or.inl ⟨by rfl, ?_⟩) (by assumption) ?_
              rotate_left
              · (intro w hSw; (try dsimp only at hSw); go_simp; try with_reducible rfl)
              try simp only [Act.put, List.setIfInBounds_toArray, List.set_cons_zero, List.set_cons_succ]
              refine wpAnyH_take (i := 1) (oi := ⟨some 31, _, _, _, _, _⟩) (v := ?_) rfl (by kernel_rfl) (by kernel_rfl) (by kernel_rfl) (fun _ _ _ h => h) (Or.inl ⟨by rfl, ?_⟩) (by assumption) ?_
              rotate_left
              · (intro w hSw; (try dsimp only at hSw); go_simp; try with_reducible rfl)
              try simp only [Act.put, List.setIfInBounds_toArray, List.set_cons_zero, List.set_cons_succ]
              refine wpAnyH_take (i := 2) (oi := ⟨some 32, _, _, _, _, _⟩) (v := ?_) rfl (by kernel_rfl) (by kernel_rfl) (by kernel_rfl) (fun _ _ _ h => h) (Or.inl ⟨by rfl, ?_⟩) (by assumption) ?_
              rotate_left
              · (intro w hSw; (try dsimp only at hSw); go_simp; try with_reducible rfl)
              try simp only [Act.put, List.setIfInBounds_toArray, List.set_cons_zero, List.set_cons_succ]
              refine wpAnyH_take (i := 3) (oi := ⟨some 33, _, _, _, _, _⟩) (v := ?_) rfl (by kernel_rfl) (by kernel_rfl) (by kernel_rfl) (fun _ _ _ h => h) (Or.inl ⟨by rfl, ?_⟩) (by assumption) ?_
              rotate_left
              · (intro w hSw; (try dsimp only at hSw); go_simp; try with_reducible rfl)
              try simp only [Act.put, List.setIfInBounds_toArray, List.set_cons_zero, List.set_cons_succ]
              refine wpAnyH_take (i := 4) (oi := ⟨some 34, _, _, _, _, _⟩) (v := ?_) rfl (by kernel_rfl) (by kernel_rfl) (by kernel_rfl) (fun _ _ _ h => h) (Or.inl ⟨by rfl, ?_⟩) (by assumption) ?_
              rotate_left
              · (intro w hSw; (try dsimp only at hSw); go_simp; try with_reducible rfl)
              try simp only [Act.put, List.setIfInBounds_toArray, List.set_cons_zero, List.set_cons_succ]
              refine wpAnyH_take (i := 5) (oi := ⟨some 35, _, _, _, _, _⟩) (v := ?_) rfl (by kernel_rfl) (by kernel_rfl) (by kernel_rfl) (fun _ _ _ h => h) (Or.inl ⟨by rfl, ?_⟩) (by assumption) ?_
              rotate_left
              · (intro w hSw; (try dsimp only at hSw); go_simp; try with_reducible rfl)
              try simp only [Act.put, List.setIfInBounds_toArray, List.set_cons_zero, List.set_cons_succ]
              refine wpAnyH_take (i := 6) (oi := ⟨some 36, _, _, _, _, _⟩) (v := ?_) rfl (by kernel_rfl) (by kernel_rfl) (by kernel_rfl) (fun _ _ _ h => h) (Or.inl ⟨by rfl, ?_⟩) (by assumption) ?_
              rotate_left
              · (intro w hSw; (try dsimp only at hSw); go_simp; try with_reducible rfl)
              try simp only [Act.put, List.setIfInBounds_toArray, List.set_cons_zero, List.set_cons_succ]
              refine wpAnyH_take (i := 7) (oi := ⟨some 37, _, _, _, _, _⟩) (v := ?_) rfl (by kernel_rfl) (by kernel_rfl) (by kernel_rfl) (fun _ _ _ h => h) (Or.inl ⟨by rfl, ?_⟩) (by assumption) ?_
              rotate_left
              · (intro w hSw; (try dsimp only at hSw); go_simp; try with_reducible rfl)
              try simp only [Act.put, List.setIfInBounds_toArray, List.set_cons_zero, List.set_cons_succ]
              refine wpAnyH_take (i := 8) (oi := ⟨some 38, _, _, _, _, _⟩) (v := ?_) rfl (by kernel_rfl) (by kernel_rfl) (by kernel_rfl) (fun _ _ _ h => h) (Or.inl ⟨by rfl, ?_⟩) (by assumption) ?_
              rotate_left
              · (intro w hSw; (try dsimp only at hSw); go_simp; try with_reducible rfl)
              try simp only [Act.put, List.setIfInBounds_toArray, List.set_cons_zero, List.set_cons_succ]
              refine wpAnyH_take (i := 9) (oi := ⟨some 39, _, _, _, _, _⟩) (v := ?_) rfl (by kernel_rfl) (by kernel_rfl) (by kernel_rfl) (fun _ _ _ h => h) (Or.inl ⟨by rfl, ?_⟩) (by assumption) ?_
              rotate_left
              · (intro w hSw; (try dsimp only at hSw); go_simp; try with_reducible rfl)
              try simp only [Act.put, List.setIfInBounds_toArray, List.set_cons_zero, List.set_cons_succ]
              refine wpAnyH_take (i := 10) (oi := ⟨some 40, _, _, _, _, _⟩) (v := ?_) rfl (by kernel_rfl) (by kernel_rfl) (by kernel_rfl) (fun _ _ _ h => h) (Or.inl ⟨by rfl, ?_⟩) (by assumption) ?_
              rotate_left
              · (intro w hSw; (try dsimp only at hSw); go_simp; try with_reducible rfl)
              try simp only [Act.put, List.setIfInBounds_toArray, List.set_cons_zero, List.set_cons_succ]
              refine next_one 11 (by kernel_rfl) rfl (by rfl) fun K' HK' => ?_
              go_simp
              refine (HC.out _ _ (by (repeat (first | assumption | exact Ext.refl _ | apply Ext.drew | apply Ext.drewN | apply Ext.alloc | refine Ext.trans ?_ (by assumption))); first | done | fail)).mono ?_
              rintro e w3 ⟨rfl, hx3⟩
              have hR3 : Ext ws w3 := (by (repeat (first | assumption | exact Ext.refl _ | apply Ext.drew | apply Ext.drewN | apply Ext.alloc | refine Ext.trans ?_ (by assumption))); first | done | fail)
              have hS2 := Ext.trans hHeld hx3
              refine held_go HK' hS2 (fun _ => ?_)
              clear HK'
              refine held_more (S' := fun w' => Ext w3 w') (fun _ h => Ext.trans hS2 h) _ _ _ _ ?_
              clear hHeld hS2
              have hHeld : Ext w3 w3 := Ext.refl _
              try simp only [Act.put, List.setIfInBounds_toArray, List.set_cons_zero, List.set_cons_succ]
              refine wpAnyH_take (i := 12) (oi := ⟨some 7, _, _, _, _, _⟩) (v := ?_) rfl (by kernel_rfl) (by kernel_rfl) (by kernel_rfl) (fun _ _ _ h => h) (Or.inl ⟨by rfl, ?_⟩) (by assumption) ?_
              rotate_left
              · (intro w hSw; (try dsimp only at hSw); go_simp; try with_reducible rfl)
              try simp only [Act.put, List.setIfInBounds_toArray, List.set_cons_zero, List.set_cons_succ]
              refine wpAnyH_done (by kernel_rfl) ?_ _
              have HX3 := Kp.mk hR3
              clear a1 a2 e1 e2 e3 e4 e5 hx3 hR3
              go_wp2_with fail
              go_roundw
              case rel =>
                refine ⟨j + 1, by omega, by go_num, fun q b hq hb => ?_, JX.out.trans HX3.out⟩
                by_cases e : q = j
                · subst e
                  rw [HA.out] at hb
                  cases hb
                  exact HH.out
                · exact JQ.out q b (by omega) hb
              case measure => simp [intOf]; omega
            · have hh' : hasA t a = false := by cases hq : hasA t a <;> simp_all
              have HE : Kp (D = false) := ⟨by rw [← HD.out]; exact alN_no HS.out HT.out (alS_no1 HA.out hh')⟩
              rw [hh'] at HC
              clear hh hh'
              go_wp2_with fail
              refine wp_region_held_drew (S := fun w' => Ext ws w') (by kernel_rfl) (Ext.refl ws).drew (fun hHeld => ?_)
              refine wpAnyH_take (i := 0) (oi := ⟨some 30, _, _, _, _, _⟩) (v := ?_) rfl (by kernel_rfl) (by kernel_rfl) (by kernel_rfl) (fun _ _ _ h => h) (Or.inl ⟨by rfl, ?_⟩) (by assumption) ?_
              rotate_left
              · (intro w hSw; (try dsimp only at hSw); go_simp; try with_reducible rfl)
              try simp only [Act.put, List.setIfInBounds_toArray, List.set_cons_zero, List.set_cons_succ]
              refine wpAnyH_take (i := 1) (oi := ⟨some 31, _, _, _, _, _⟩) (v := ?_) rfl (by kernel_rfl) (by kernel_rfl) (by kernel_rfl) (fun _ _ _ h => h) (Or.inl ⟨by rfl, ?_⟩) (by assumption) ?_
              rotate_left
              · (intro w hSw; (try dsimp only at hSw); go_simp; try with_reducible rfl)
              try simp only [Act.put, List.setIfInBounds_toArray, List.set_cons_zero, List.set_cons_succ]
              refine wpAnyH_take (i := 2) (oi := ⟨some 32, _, _, _, _, _⟩) (v := ?_) rfl (by kernel_rfl) (by kernel_rfl) (by kernel_rfl) (fun _ _ _ h => h) (Or.inl ⟨by rfl, ?_⟩) (by assumption) ?_
              rotate_left
              · (intro w hSw; (try dsimp only at hSw); go_simp; try with_reducible rfl)
              try simp only [Act.put, List.setIfInBounds_toArray, List.set_cons_zero, List.set_cons_succ]
              refine wpAnyH_take (i := 3) (oi := ⟨some 33, _, _, _, _, _⟩) (v := ?_) rfl (by kernel_rfl) (by kernel_rfl) (by kernel_rfl) (fun _ _ _ h => h) (Or.inl ⟨by rfl, ?_⟩) (by assumption) ?_
              rotate_left
              · (intro w hSw; (try dsimp only at hSw); go_simp; try with_reducible rfl)
              try simp only [Act.put, List.setIfInBounds_toArray, List.set_cons_zero, List.set_cons_succ]
              refine wpAnyH_take (i := 4) (oi := ⟨some 34, _, _, _, _, _⟩) (v := ?_) rfl (by kernel_rfl) (by kernel_rfl) (by kernel_rfl) (fun _ _ _ h => h) (Or.inl ⟨by rfl, ?_⟩) (by assumption) ?_
              rotate_left
              · (intro w hSw; (try dsimp only at hSw); go_simp; try with_reducible rfl)
              try simp only [Act.put, List.setIfInBounds_toArray, List.set_cons_zero, List.set_cons_succ]
              refine wpAnyH_take (i := 5) (oi := ⟨some 35, _, _, _, _, _⟩) (v := ?_) rfl (by kernel_rfl) (by kernel_rfl) (by kernel_rfl) (fun _ _ _ h => h) (Or.inl ⟨by rfl, ?_⟩) (by assumption) ?_
              rotate_left
              · (intro w hSw; (try dsimp only at hSw); go_simp; try with_reducible rfl)
              try simp only [Act.put, List.setIfInBounds_toArray, List.set_cons_zero, List.set_cons_succ]
              refine wpAnyH_take (i := 6) (oi := ⟨some 36, _, _, _, _, _⟩) (v := ?_) rfl (by kernel_rfl) (by kernel_rfl) (by kernel_rfl) (fun _ _ _ h => h) (Or.inl ⟨by rfl, ?_⟩) (by assumption) ?_
              rotate_left
              · (intro w hSw; (try dsimp only at hSw); go_simp; try with_reducible rfl)
              try simp only [Act.put, List.setIfInBounds_toArray, List.set_cons_zero, List.set_cons_succ]
              refine wpAnyH_take (i := 7) (oi := ⟨some 37, _, _, _, _, _⟩) (v := ?_) rfl (by kernel_rfl) (by kernel_rfl) (by kernel_rfl) (fun _ _ _ h => h) (Or.inl ⟨by rfl, ?_⟩) (by assumption) ?_
              rotate_left
              · (intro w hSw; (try dsimp only at hSw); go_simp; try with_reducible rfl)
              try simp only [Act.put, List.setIfInBounds_toArray, List.set_cons_zero, List.set_cons_succ]
              refine wpAnyH_take (i := 8) (oi := ⟨some 38, _, _, _, _, _⟩) (v := ?_) rfl (by kernel_rfl) (by kernel_rfl) (by kernel_rfl) (fun _ _ _ h => h) (Or.inl ⟨by rfl, ?_⟩) (by assumption) ?_
              rotate_left
              · (intro w hSw; (try dsimp only at hSw); go_simp; try with_reducible rfl)
              try simp only [Act.put, List.setIfInBounds_toArray, List.set_cons_zero, List.set_cons_succ]
              refine wpAnyH_take (i := 9) (oi := ⟨some 39, _, _, _, _, _⟩) (v := ?_) rfl (by kernel_rfl) (by kernel_rfl) (by kernel_rfl) (fun _ _ _ h => h) (Or.inl ⟨by rfl, ?_⟩) (by assumption) ?_
              rotate_left
              · (intro w hSw; (try dsimp only at hSw); go_simp; try with_reducible rfl)
              try simp only [Act.put, List.setIfInBounds_toArray, List.set_cons_zero, List.set_cons_succ]
              refine wpAnyH_take (i := 10) (oi := ⟨some 40, _, _, _, _, _⟩) (v := ?_) rfl (by kernel_rfl) (by kernel_rfl) (by kernel_rfl) (fun _ _ _ h => h) (Or.inl ⟨by rfl, ?_⟩) (by assumption) ?_
              rotate_left
              · (intro w hSw; (try dsimp only at hSw); go_simp; try with_reducible rfl)
              try simp only [Act.put, List.setIfInBounds_toArray, List.set_cons_zero, List.set_cons_succ]
              refine next_one 11 (by kernel_rfl) rfl (by rfl) fun K' HK' => ?_
              go_simp
              refine (HC.out _ _ (by (repeat (first | assumption | exact Ext.refl _ | apply Ext.drew | apply Ext.drewN | apply Ext.alloc | refine Ext.trans ?_ (by assumption))); first | done | fail)).mono ?_
              rintro e w3 ⟨rfl, hx3⟩
              have hR3 : Ext ws w3 := (by (repeat (first | assumption | exact Ext.refl _ | apply Ext.drew | apply Ext.drewN | apply Ext.alloc | refine Ext.trans ?_ (by assumption))); first | done | fail)
              have hS2 := Ext.trans hHeld hx3
              refine held_go HK' hS2 (fun _ => ?_)
              clear HK'
              refine held_more (S' := fun w' => Ext w3 w') (fun _ h => Ext.trans hS2 h) _ _ _ _ ?_
              clear hHeld hS2
              have hHeld : Ext w3 w3 := Ext.refl _
              try simp only [Act.put, List.setIfInBounds_toArray, List.set_cons_zero, List.set_cons_succ]
              refine wpAnyH_take (i := 12) (oi := ⟨some 7, _, _, _, _, _⟩) (v := ?_) rfl (by kernel_rfl) (by kernel_rfl) (by kernel_rfl) (fun _ _ _ h => h) (Or.inl ⟨by rfl, ?_⟩) (by assumption) ?_
              rotate_left
              · (intro w hSw; (try dsimp only at hSw); go_simp; try with_reducible rfl)
              try simp only [Act.put, List.setIfInBounds_toArray, List.set_cons_zero, List.set_cons_succ]
              refine wpAnyH_done (by kernel_rfl) ?_ _
              have HX3 := Kp.mk hR3
              clear a1 a2 e1 e2 e3 e4 e5 hx3 hR3
              go_wp2_with fail
              go_ret
              exact ⟨by rw [HE.out]; rfl, HX.out.trans (JX.out.trans HX3.out)⟩
          · obtain rfl : j = m1 := by omega
            have b2 : ¬ (j : Int) < (j : Int) := by omega
            have JQF : Kp (∀ (q : Nat) (a : Atr), s[q]? = some a → hasA t a = true) := ⟨fun q a hqa => JQ.out q a (by have := (List.getElem?_eq_some_iff.1 hqa).1; have := LS.out; omega) hqa⟩
            clear hxs hj
            have hm2 : m2 ≤ 1000000 := by have := FT.out.1; have := LT.out; omega
            go_wp2_with fail
            go_loopw [8] (fun jv ws => ∃ j : Nat, j ≤ m2 ∧ jv = .int .i64 (j : Int) ∧ (∀ (q : Nat) (a : Atr), q < j → t[q]? = some a → hasA s a = true) ∧ Ext wo ws) (fun jv _ => m2 - (intOf jv).toNat)
            case atStart => exact ⟨0, Nat.zero_le _, rfl, (fun q a hq => absurd hq (Nat.not_lt_zero _)), JX.out⟩
            case round =>
              obtain ⟨wt, rfl⟩ : ∃ wt : World, wt = wr := ⟨_, rfl⟩
              obtain ⟨k, hj, rfl, hq, hxs⟩ := hrel
              have KQ := Kp.mk hq
              have KX := Kp.mk hxs
              have a1 := C1.out wt hxs
              have a2 := C2.out wt hxs
              clear hq
              by_cases hlt3 : k < m2
              · have b3 : (k : Int) < (m2 : Int) := by omega
                obtain ⟨ga, oa, T, t0, t1, Bt, mt, dt, a, rfl, ha, k1, k2, k3, k4, k5, k6⟩ := HTT.out.get k hlt3
                have e1 : ∀ W, Ext wt W → W.cell? ⟨g, o + i, none⟩ = some (.slice B1 j d1) := fun W hW => C1.out W (hxs.trans hW)
                have e2 : ∀ W, Ext wt W → W.cell? ⟨g', o' + i, none⟩ = some (.slice (some ⟨ga, oa, none⟩) m2 d2) := fun W hW => C2.out W (hxs.trans hW)
                have e3 : ∀ W, Ext wt W → W.cell? ⟨ga, oa + k * 3, none⟩ = some (.slice T t0 t1) := fun W hW => cell_fwd k1 (hxs.trans hW)
                have e4 : ∀ W, Ext wt W → W.cell? ⟨ga, oa + k * 3 + 1, none⟩ = some (.int .u8 (ub a.mark)) := fun W hW => cell_fwd k2 (hxs.trans hW)
                have e5 : ∀ W, Ext wt W → W.cell? ⟨ga, oa + k * 3 + 2, none⟩ = some (.slice Bt mt dt) := fun W hW => cell_fwd k3 (hxs.trans hW)
                have HC := Kp.mk (fun (W : World) (mk : Int) (hW : Ext wt W) => has_any (mk := mk) (HST.out.ext (hxs.trans hW)) FS.out.2 (by have := FS.out.1; have := LS.out; omega) (k4.ext (hxs.trans hW)) (k6.ext (hxs.trans hW)) (by have := (FT.out.2 a (List.mem_of_getElem? ha)).1; have := k6.len; omega))
                have HA := Kp.mk ha
                clear k1 k2 k3 k4 k5 k6 ha hxs
                generalize ub a.mark = mk at *
                by_cases hh : hasA s a = true
                · have HH := Kp.mk hh
                  rw [hh] at HC
                  clear hh
                  go_wp2_with fail
                  refine wp_region_held_drew (S := fun w' => Ext wt w') (by kernel_rfl) (Ext.refl wt).drew (fun hHeld => ?_)
                  refine wpAnyH_take (i := 0) (oi := ⟨some 53, _, _, _, _, _⟩) (v := ?_) rfl (by kernel_rfl) (by kernel_rfl) (by kernel_rfl) (fun _ _ _ h => h) (Or.inl ⟨by rfl, ?_⟩) (by assumption) ?_
                  rotate_left
                  · (intro w hSw; (try dsimp only at hSw); go_simp; try with_reducible rfl)
                  try simp only [Act.put, List.setIfInBounds_toArray, List.set_cons_zero, List.set_cons_succ]
                  refine wpAnyH_take (i := 1) (oi := ⟨some 54, _, _, _, _, _⟩) (v := ?_) rfl (by kernel_rfl) (by kernel_rfl) (by kernel_rfl) (fun _ _ _ h => h) (Or.inl ⟨by rfl, ?_⟩) (by assumption) ?_
                  rotate_left
                  · (intro w hSw; (try dsimp only at hSw); go_simp; try with_reducible rfl)
                  try simp only [Act.put, List.setIfInBounds_toArray, List.set_cons_zero, List.set_cons_succ]
                  refine wpAnyH_take (i := 2) (oi := ⟨some 55, _, _, _, _, _⟩) (v := ?_) rfl (by kernel_rfl) (by kernel_rfl) (by kernel_rfl) (fun _ _ _ h => h) (Or.inl ⟨by rfl, ?_⟩) (by assumption) ?_
                  rotate_left
                  · (intro w hSw; (try dsimp only at hSw); go_simp; try with_reducible rfl)
                  try simp only [Act.put, List.setIfInBounds_toArray, List.set_cons_zero, List.set_cons_succ]
                  refine wpAnyH_take (i := 3) (oi := ⟨some 56, _, _, _, _, _⟩) (v := ?_) rfl (by kernel_rfl) (by kernel_rfl) (by kernel_rfl) (fun _ _ _ h => h) (Or.inl ⟨by rfl, ?_⟩) (by assumption) ?_
                  rotate_left
                  · (intro w hSw; (try dsimp only at hSw); go_simp; try with_reducible rfl)
                  try simp only [Act.put, List.setIfInBounds_toArray, List.set_cons_zero, List.set_cons_succ]
                  refine wpAnyH_take (i := 4) (oi := ⟨some 57, _, _, _, _, _⟩) (v := ?_) rfl (by kernel_rfl) (by kernel_rfl) (by kernel_rfl) (fun _ _ _ h => h) (Or.inl ⟨by rfl, ?_⟩) (by assumption) ?_
                  rotate_left
                  · (intro w hSw; (try dsimp only at hSw); go_simp; try with_reducible rfl)
                  try simp only [Act.put, List.setIfInBounds_toArray, List.set_cons_zero, List.set_cons_succ]
                  refine wpAnyH_take (i := 5) (oi := ⟨some 58, _, _, _, _, _⟩) (v := ?_) rfl (by kernel_rfl) (by kernel_rfl) (by kernel_rfl) (fun _ _ _ h => h) (Or.inl ⟨by rfl, ?_⟩) (by assumption) ?_
                  rotate_left
                  · (intro w hSw; (try dsimp only at hSw); go_simp; try with_reducible rfl)
                  try simp only [Act.put, List.setIfInBounds_toArray, List.set_cons_zero, List.set_cons_succ]
                  refine wpAnyH_take (i := 6) (oi := ⟨some 59, _, _, _, _, _⟩) (v := ?_) rfl (by kernel_rfl) (by kernel_rfl) (by kernel_rfl) (fun _ _ _ h => h) (Or.inl ⟨by rfl, ?_⟩) (by assumption) ?_
                  rotate_left
                  · (intro w hSw; (try dsimp only at hSw); go_simp; try with_reducible rfl)
                  try simp only [Act.put, List.setIfInBounds_toArray, List.set_cons_zero, List.set_cons_succ]
                  refine wpAnyH_take (i := 7) (oi := ⟨some 60, _, _, _, _, _⟩) (v := ?_) rfl (by kernel_rfl) (by kernel_rfl) (by kernel_rfl) (fun _ _ _ h => h) (Or.inl ⟨by rfl, ?_⟩) (by assumption) ?_
                  rotate_left
                  · (intro w hSw; (try dsimp only at hSw); go_simp; try with_reducible rfl)
                  try simp only [Act.put, List.setIfInBounds_toArray, List.set_cons_zero, List.set_cons_succ]
                  refine wpAnyH_take (i := 8) (oi := ⟨some 61, _, _, _, _, _⟩) (v := ?_) rfl (by kernel_rfl) (by kernel_rfl) (by kernel_rfl) (fun _ _ _ h => h) (Or.inl ⟨by rfl, ?_⟩) (by assumption) ?_
                  rotate_left
                  · (intro w hSw; (try dsimp only at hSw); go_simp; try with_reducible rfl)
                  try simp only [Act.put, List.setIfInBounds_toArray, List.set_cons_zero, List.set_cons_succ]
                  refine wpAnyH_take (i := 9) (oi := ⟨some 62, _, _, _, _, _⟩) (v := ?_) rfl (by kernel_rfl) (by kernel_rfl) (by kernel_rfl) (fun _ _ _ h => h) (Or.inl ⟨by rfl, ?_⟩) (by assumption) ?_
                  rotate_left
                  · (intro w hSw; (try dsimp only at hSw); go_simp; try with_reducible rfl)
                  try simp only [Act.put, List.setIfInBounds_toArray, List.set_cons_zero, List.set_cons_succ]
                  refine wpAnyH_take (i := 10) (oi := ⟨some 63, _, _, _, _, _⟩) (v := ?_) rfl (by kernel_rfl) (by kernel_rfl) (by kernel_rfl) (fun _ _ _ h => h) (Or.inl ⟨by rfl, ?_⟩) (by assumption) ?_
                  rotate_left
                  · (intro w hSw; (try dsimp only at hSw); go_simp; try with_reducible rfl)
                  try simp only [Act.put, List.setIfInBounds_toArray, List.set_cons_zero, List.set_cons_succ]
                  refine next_one 11 (by kernel_rfl) rfl (by rfl) fun K' HK' => ?_
                  go_simp
                  refine (HC.out _ _ (by (repeat (first | assumption | exact Ext.refl _ | apply Ext.drew | apply Ext.drewN | apply Ext.alloc | refine Ext.trans ?_ (by assumption))); first | done | fail)).mono ?_
                  rintro e w3 ⟨rfl, hx3⟩
                  have hR3 : Ext wt w3 := (by (repeat (first | assumption | exact Ext.refl _ | apply Ext.drew | apply Ext.drewN | apply Ext.alloc | refine Ext.trans ?_ (by assumption))); first | done | fail)
                  have hS2 := Ext.trans hHeld hx3
                  refine held_go HK' hS2 (fun _ => ?_)
                  clear HK'
                  refine held_more (S' := fun w' => Ext w3 w') (fun _ h => Ext.trans hS2 h) _ _ _ _ ?_
                  clear hHeld hS2
                  have hHeld : Ext w3 w3 := Ext.refl _
                  try simp only [Act.put, List.setIfInBounds_toArray, List.set_cons_zero, List.set_cons_succ]
                  refine wpAnyH_take (i := 12) (oi := ⟨some 9, _, _, _, _, _⟩) (v := ?_) rfl (by kernel_rfl) (by kernel_rfl) (by kernel_rfl) (fun _ _ _ h => h) (Or.inl ⟨by rfl, ?_⟩) (by assumption) ?_
                  rotate_left
                  · (intro w hSw; (try dsimp only at hSw); go_simp; try with_reducible rfl)
                  try simp only [Act.put, List.setIfInBounds_toArray, List.set_cons_zero, List.set_cons_succ]
                  refine wpAnyH_done (by kernel_rfl) ?_ _
                  have HX3 := Kp.mk hR3
                  clear a1 a2 e1 e2 e3 e4 e5 hx3 hR3
                  go_wp2_with fail
                  go_roundw
                  case rel =>
                    refine ⟨k + 1, by omega, by go_num, fun q b hq hb => ?_, KX.out.trans HX3.out⟩
                    by_cases e : q = k
                    · subst e
                      rw [HA.out] at hb
                      cases hb
                      exact HH.out
                    · exact KQ.out q b (by omega) hb
                  case measure => simp [intOf]; omega
                · have hh' : hasA s a = false := by cases hq : hasA s a <;> simp_all
                  have HE : Kp (D = false) := ⟨by rw [← HD.out]; exact alN_no HS.out HT.out (alS_no2 HA.out hh')⟩
                  rw [hh'] at HC
                  clear hh hh'
                  go_wp2_with fail
                  refine wp_region_held_drew (S := fun w' => Ext wt w') (by kernel_rfl) (Ext.refl wt).drew (fun hHeld => ?_)
                  refine wpAnyH_take (i := 0) (oi := ⟨some 53, _, _, _, _, _⟩) (v := ?_) rfl (by kernel_rfl) (by kernel_rfl) (by kernel_rfl) (fun _ _ _ h => h) (Or.inl ⟨by rfl, ?_⟩) (by assumption) ?_
                  rotate_left
                  · (intro w hSw; (try dsimp only at hSw); go_simp; try with_reducible rfl)
                  try simp only [Act.put, List.setIfInBounds_toArray, List.set_cons_zero, List.set_cons_succ]
                  refine wpAnyH_take (i := 1) (oi := ⟨some 54, _, _, _, _, _⟩) (v := ?_) rfl (by kernel_rfl) (by kernel_rfl) (by kernel_rfl) (fun _ _ _ h => h) (Or.inl ⟨by rfl, ?_⟩) (by assumption) ?_
                  rotate_left
                  · (intro w hSw; (try dsimp only at hSw); go_simp; try with_reducible rfl)
                  try simp only [Act.put, List.setIfInBounds_toArray, List.set_cons_zero, List.set_cons_succ]
                  refine wpAnyH_take (i := 2) (oi := ⟨some 55, _, _, _, _, _⟩) (v := ?_) rfl (by kernel_rfl) (by kernel_rfl) (by kernel_rfl) (fun _ _ _ h => h) (Or.inl ⟨by rfl, ?_⟩) (by assumption) ?_
                  rotate_left
                  · (intro w hSw; (try dsimp only at hSw); go_simp; try with_reducible rfl)
                  try simp only [Act.put, List.setIfInBounds_toArray, List.set_cons_zero, List.set_cons_succ]
                  refine wpAnyH_take (i := 3) (oi := ⟨some 56, _, _, _, _, _⟩) (v := ?_) rfl (by kernel_rfl) (by kernel_rfl) (by kernel_rfl) (fun _ _ _ h => h) (Or.inl ⟨by rfl, ?_⟩) (by assumption) ?_
                  rotate_left
                  · (intro w hSw; (try dsimp only at hSw); go_simp; try with_reducible rfl)
                  try simp only [Act.put, List.setIfInBounds_toArray, List.set_cons_zero, List.set_cons_succ]
                  refine wpAnyH_take (i := 4) (oi := ⟨some 57, _, _, _, _, _⟩) (v := ?_) rfl (by kernel_rfl) (by kernel_rfl) (by kernel_rfl) (fun _ _ _ h => h) (Or.inl ⟨by rfl, ?_⟩) (by assumption) ?_
                  rotate_left
                  · (intro w hSw; (try dsimp only at hSw); go_simp; try with_reducible rfl)
                  try simp only [Act.put, List.setIfInBounds_toArray, List.set_cons_zero, List.set_cons_succ]
                  refine wpAnyH_take (i := 5) (oi := ⟨some 58, _, _, _, _, _⟩) (v := ?_) rfl (by kernel_rfl) (by kernel_rfl) (by kernel_rfl) (fun _ _ _ h => h) (Or.inl ⟨by rfl, ?_⟩) (by assumption) ?_
                  rotate_left
                  · (intro w hSw; (try dsimp only at hSw); go_simp; try with_reducible rfl)
                  try simp only [Act.put, List.setIfInBounds_toArray, List.set_cons_zero, List.set_cons_succ]
                  refine wpAnyH_take (i := 6) (oi := ⟨some 59, _, _, _, _, _⟩) (v := ?_) rfl (by kernel_rfl) (by kernel_rfl) (by kernel_rfl) (fun _ _ _ h => h) (Or.inl ⟨by rfl, ?_⟩) (by assumption) ?_
                  rotate_left
                  · (intro w hSw; (try dsimp only at hSw); go_simp; try with_reducible rfl)
                  try simp only [Act.put, List.setIfInBounds_toArray, List.set_cons_zero, List.set_cons_succ]
                  refine wpAnyH_take (i := 7) (oi := ⟨some 60, _, _, _, _, _⟩) (v := ?_) rfl (by kernel_rfl) (by kernel_rfl) (by kernel_rfl) (fun _ _ _ h => h) (Or.inl ⟨by rfl, ?_⟩) (by assumption) ?_
                  rotate_left
                  · (intro w hSw; (try dsimp only at hSw); go_simp; try with_reducible rfl)
                  try simp only [Act.put, List.setIfInBounds_toArray, List.set_cons_zero, List.set_cons_succ]
                  refine wpAnyH_take (i := 8) (oi := ⟨some 61, _, _, _, _, _⟩) (v := ?_) rfl (by kernel_rfl) (by kernel_rfl) (by kernel_rfl) (fun _ _ _ h => h) (Or.inl ⟨by rfl, ?_⟩) (by assumption) ?_
                  rotate_left
                  · (intro w hSw; (try dsimp only at hSw); go_simp; try with_reducible rfl)
                  try simp only [Act.put, List.setIfInBounds_toArray, List.set_cons_zero, List.set_cons_succ]
                  refine wpAnyH_take (i := 9) (oi := ⟨some 62, _, _, _, _, _⟩) (v := ?_) rfl (by kernel_rfl) (by kernel_rfl) (by kernel_rfl) (fun _ _ _ h => h) (Or.inl ⟨by rfl, ?_⟩) (by assumption) ?_
                  rotate_left
                  · (intro w hSw; (try dsimp only at hSw); go_simp; try with_reducible rfl)
                  try simp only [Act.put, List.setIfInBounds_toArray, List.set_cons_zero, List.set_cons_succ]
                  refine wpAnyH_take (i := 10) (oi := ⟨some 63, _, _, _, _, _⟩) (v := ?_) rfl (by kernel_rfl) (by kernel_rfl) (by kernel_rfl) (fun _ _ _ h => h) (Or.inl ⟨by rfl, ?_⟩) (by assumption) ?_
                  rotate_left
                  · (intro w hSw; (try dsimp only at hSw); go_simp; try with_reducible rfl)
                  try simp only [Act.put, List.setIfInBounds_toArray, List.set_cons_zero, List.set_cons_succ]
                  refine next_one 11 (by kernel_rfl) rfl (by rfl) fun K' HK' => ?_
                  go_simp
                  refine (HC.out _ _ (by (repeat (first | assumption | exact Ext.refl _ | apply Ext.drew | apply Ext.drewN | apply Ext.alloc | refine Ext.trans ?_ (by assumption))); first | done | fail)).mono ?_
                  rintro e w3 ⟨rfl, hx3⟩
                  have hR3 : Ext wt w3 := (by (repeat (first | assumption | exact Ext.refl _ | apply Ext.drew | apply Ext.drewN | apply Ext.alloc | refine Ext.trans ?_ (by assumption))); first | done | fail)
                  have hS2 := Ext.trans hHeld hx3
                  refine held_go HK' hS2 (fun _ => ?_)
                  clear HK'
                  refine held_more (S' := fun w' => Ext w3 w') (fun _ h => Ext.trans hS2 h) _ _ _ _ ?_
                  clear hHeld hS2
                  have hHeld : Ext w3 w3 := Ext.refl _
                  try simp only [Act.put, List.setIfInBounds_toArray, List.set_cons_zero, List.set_cons_succ]
                  refine wpAnyH_take (i := 12) (oi := ⟨some 9, _, _, _, _, _⟩) (v := ?_) rfl (by kernel_rfl) (by kernel_rfl) (by kernel_rfl) (fun _ _ _ h => h) (Or.inl ⟨by rfl, ?_⟩) (by assumption) ?_
                  rotate_left
                  · (intro w hSw; (try dsimp only at hSw); go_simp; try with_reducible rfl)
                  try simp only [Act.put, List.setIfInBounds_toArray, List.set_cons_zero, List.set_cons_succ]
                  refine wpAnyH_done (by kernel_rfl) ?_ _
                  have HX3 := Kp.mk hR3
                  clear a1 a2 e1 e2 e3 e4 e5 hx3 hR3
                  go_wp2_with fail
                  go_ret
                  exact ⟨by rw [HE.out]; rfl, HX.out.trans (KX.out.trans HX3.out)⟩
              · obtain rfl : k = m2 := by omega
                have b3 : ¬ (k : Int) < (k : Int) := by omega
                clear hxs
                go_wp2_with fail
                go_roundw
                case rel =>
                  refine ⟨i + 1, by omega, by go_num, fun q hq => ?_, HX.out.trans KX.out⟩
                  by_cases e : q = i
                  · subst e
                    rw [ES.out, ET.out]
                    exact alS_yes JQF.out fun q a hqa => KQ.out q a (by have := (List.getElem?_eq_some_iff.1 hqa).1; have := LT.out; omega) hqa
                  · exact HQ.out q (by omega)
                case measure => simp [intOf]; omega
      · obtain rfl : i = n := by omega
        have b1 : ¬ (i : Int) < (i : Int) := by omega
        have HE : Kp (D = true) := ⟨by
          rw [← HD.out, alN_iff]
          exact ⟨by rw [HL.out, HL'.out], fun q hq => HQ.out q (by have := HL.out; omega)⟩⟩
        clear hxw
        go_wp2_with fail
        go_ret
        exact ⟨by rw [HE.out]; rfl, HX.out⟩
  · have hd : D = false := by
      rw [← hD]
      cases h : alN x y with
      | false => rfl
      | true => exact absurd (alN_len h) (by omega)
    subst hd
    have b1 : ((n : Int) == (m : Int)) = false := beq_eq_false_iff_ne.2 (by omega)
    have b2 : ((n : Int) != (m : Int)) = true := by rw [bne, b1]; rfl
    clear h h' hl hl' hD hx hy
    go_enter Try.func11, Try.ntmps11
    go_wp2_with fail
    go_ret
    exact ⟨rfl, Ext.refl _⟩
theorem refWithin_any {w : World} {A B : Option Addr} {n c m d : Nat} {x y : List (List Atr)} (h : Nam w A n c x) (h' : Nam w B m d y) (hx : FitN x) (hy : FitN y) :
    Calls Try.prog 13 #[.slice A n c, .slice B m d] w fun e w' => e = .returned (.bool (wiN x y)) ∧ Ext w w' := by
  have hl := h.len
  have hl' := h'.len
  have hcap := h.cap
  by_cases hmn : m ≤ n
  · have b1 : (m : Int) ≤ (n : Int) := by omega
    have e : wiN x y = alN (x.take m) y := by unfold wiN; rw [hl, hl', decide_eq_true hmn, Bool.true_and]
    rw [e]
    have hup := fun W => run_upto (P := Try.prog) A n c 27 34 Try.underlying27 szSt m (m : Int) rfl (by omega) W
    have HC := Kp.mk (refAlike_any (h.take m hmn) h' (hx.take m) hy)
    clear h h' hx hy hl hl' e hcap
    generalize alN (x.take m) y = D at *
    go_enter Try.func13, Try.ntmps13
    go_wp2_with (first | (go_at_call 11; refine HC.out.mono ?_; rintro e w2 ⟨rfl, hx2⟩) | fail)
    go_ret
    exact ⟨rfl, hx2⟩
  · have b1 : ¬ (m : Int) ≤ (n : Int) := by omega
    have e : wiN x y = false := by unfold wiN; rw [hl, hl', decide_eq_false hmn, Bool.false_and]
    rw [e]
    clear h h' hx hy hl hl' e hcap
    go_enter Try.func13, Try.ntmps13
    go_wp2_with fail
    go_ret
    exact ⟨rfl, Ext.refl _⟩
end Go.Proofs.Ythookcnkmlmgcaa
