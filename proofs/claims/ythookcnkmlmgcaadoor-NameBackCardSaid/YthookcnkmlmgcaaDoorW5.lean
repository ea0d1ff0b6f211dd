/-
  The walk of slices.CompactFunc at what attributes that are alike have in common.
-/
import Derived.Test.YthookcnkmlmgcaaDoorW4
namespace Go.Proofs.YthookcnkmlmgcaaDoor
open Go Go.RowKit Go.Sort
set_option maxRecDepth 4000

/-- what it leaves -/
def CmR (w : World) (g : Nat) (qs : List SSn) (e : Ending) (w' : World) : Prop :=
  ∃ m c, e = .returned (.slice (some ⟨g, 0, none⟩) m c) ∧ qs.length = m ∧ Mds [g] w w' ∧ ∀ (k : Nat) (p : SSn), qs[k]? = some p → w'.cell? ⟨g, k * 2, none⟩ = some (kdV p.1) ∧ w'.cell? ⟨g, k * 2 + 1, none⟩ = some (txV p.1)
set_option maxHeartbeats 16000000 in
theorem Compact_any {w : World} {g n c : Nat} {ps : List SSn} (h : CmI w w g ps []) (hr : ∀ p ∈ ps, SnF w g p.1 p.2) (hg : g < w.heap.size) (hl : ps.length = n) (hn : n ≤ 1000000) (hc : n ≤ c) :
    Calls Tryd.prog 71 #[.slice (some ⟨g, 0, none⟩) n c, .func (.func 58) #[] #[]] w (CmR w g (cpt Prod.snd ps)) := by
  obtain ⟨f, hf⟩ : ∃ f : Nat → List SSn, f = fun j => cpt Prod.snd (ps.take j) := ⟨_, rfl⟩
  have fS : ∀ (j k : Nat) (x y : SSn), k = j + 1 → ps[k]? = some x → ps[j]? = some y → f (k + 1) = f k ++ (if x.2 = y.2 then [] else [x]) := fun j k x y hk hx hy => by
    subst hk
    rw [hf]
    exact cpt_take hx hy
  have f1 : f 1 = ps.take 1 := by
    rw [hf]
    cases ps with
    | nil => rfl
    | cons a t => rfl
  have f0 : f 0 = ps.take 0 := by rw [hf]; rfl
  have fN : f n = cpt Prod.snd ps := by rw [hf]; show cpt Prod.snd (ps.take n) = _; rw [List.take_of_length_le (by omega)]
  have fL : ∀ j, (f j).length ≤ j := fun j => by
    rw [hf]
    have := cpt_len_le (key := Prod.snd) (ps.take j)
    rw [List.length_take] at this
    show (cpt Prod.snd (ps.take j)).length ≤ j
    omega
  rw [← fN]
  have HSS := Kp.mk fS
  have HF1 := Kp.mk f1
  have HFL := Kp.mk fL
  have HI := Kp.mk h
  have HR := Kp.mk hr
  have HL := Kp.mk hl
  have get : ∀ k, k < n → ∃ p, ps[k]? = some p := fun k hk => ⟨_, List.getElem?_eq_getElem (by omega)⟩
  have HG := Kp.mk get
  have HS := Kp.mk (fun (W : World) (i j : Nat) (p q : SSn) (hp : ps[i]? = some p) (hq : ps[j]? = some q) (hx : Mds [g] w W) => sameSense_any ((hr p (List.mem_of_getElem? hp)).mds hx).r ((hr q (List.mem_of_getElem? hq)).mds hx).r)
  by_cases h2 : n < 2
  · have b1 : (n : Int) < 2 := by omega
    have HE : Kp (f n = ps) := ⟨by
      rcases Nat.lt_or_ge n 1 with h3 | h3
      · rw [show n = 0 by omega, f0, List.take_zero]
        exact (List.eq_nil_of_length_eq_zero (by omega)).symm
      · rw [show n = 1 by omega, f1, List.take_of_length_le (by omega)]⟩
    clear fS f1 f0 fN fL h hr hl get hf HSS HF1 HFL
    go_enter Tryd.func71, Tryd.ntmps71
    go_wp2_with fail
    go_ret
    rw [HE.out]
    exact ⟨n, c, rfl, HL.out, HI.out.m, fun k p hk => HI.out.hi k p (Nat.zero_le _) hk⟩
  · have b1 : ¬ (n : Int) < 2 := by omega
    have b1' : decide ((n : Int) < 2) = false := decide_eq_false b1
    clear fS f1 f0 fN fL h hr hl get hf
    go_enter Tryd.func71, Tryd.ntmps71
    go_wp2_with fail
    go_loopw [5] (fun kv wr => ∃ k : Nat, 1 ≤ k ∧ k ≤ n ∧ kv = .int .i64 (k : Int) ∧ f k = ps.take k ∧ Ext w wr) (fun kv _ => n - (intOf kv).toNat)
    case atStart => exact ⟨1, by omega, by omega, rfl, HF1.out, Ext.refl _⟩
    case round =>
      obtain ⟨k, hk1, hkn, rfl, hfk, hx⟩ := hrel
      have HK := Kp.mk hfk
      have HX := Kp.mk hx
      clear hfk
      by_cases hlt : k < n
      · have b2 : (k : Int) < (n : Int) := by omega
        obtain ⟨q, hq⟩ : ∃ q, q = k - 1 := ⟨_, rfl⟩
        have e1 : (k : Int) - 1 = (q : Int) := by omega
        have e2 : IntKind.i64.wrap (q : Int) = (q : Int) := by rw [IntKind.wrap_i64]; omega
        have e3 : q < n := by omega
        have e4 : (q : Int) < (n : Int) := by omega
        obtain ⟨px, hpx⟩ := HG.out k hlt
        obtain ⟨py, hpy⟩ := HG.out q e3
        have c1 : ∀ W, Ext wr W → W.cell? ⟨g, k * 2, none⟩ = some (kdV px.1) := fun W hW => cell_fwd (HI.out.hi k px (Nat.zero_le _) hpx).1 (hx.trans hW)
        have c2 : ∀ W, Ext wr W → W.cell? ⟨g, k * 2 + 1, none⟩ = some (txV px.1) := fun W hW => cell_fwd (HI.out.hi k px (Nat.zero_le _) hpx).2 (hx.trans hW)
        have c3 : ∀ W, Ext wr W → W.cell? ⟨g, q * 2, none⟩ = some (kdV py.1) := fun W hW => cell_fwd (HI.out.hi q py (Nat.zero_le _) hpy).1 (hx.trans hW)
        have c4 : ∀ W, Ext wr W → W.cell? ⟨g, q * 2 + 1, none⟩ = some (txV py.1) := fun W hW => cell_fwd (HI.out.hi q py (Nat.zero_le _) hpy).2 (hx.trans hW)
        have hstep := HSS.out q k px py (by omega) hpx hpy
        have HC := Kp.mk (fun (W : World) (h : Ext wr W) => HS.out W k q px py hpx hpy (Ext.mds (hx.trans h) _))
        have HPX := Kp.mk hpx
        unfold kdV txV at *
        clear hpx hpy hx hq
        by_cases he : px.2 = py.2
        · rw [if_pos he, List.append_nil, HK.out] at hstep
          have hd : decide (px.2 = py.2) = true := decide_eq_true he
          rw [hd] at HC
          have HST := Kp.mk hstep
          obtain ⟨r, hr⟩ : ∃ r, n - k = r := ⟨_, rfl⟩
          obtain ⟨d, hd2⟩ : ∃ d, c - k = d := ⟨_, rfl⟩
          have hfr := fun W => run_from2 (P := Tryd.prog) g n c 94 96 Tryd.underlying94 szSn k r d (k : Int) rfl hlt hc hr hd2 W
          have HRr := Kp.mk hr
          have hrn : r ≤ n := by omega
          have HDd := Kp.mk hd2
          clear he hd hstep hr hd2
          go_wp2_with fail
          refine wp_region_held_drew (S := fun w' => Ext wr w') (by kernel_rfl) (Ext.refl wr).drew (fun hHeld => ?_)
          refine wpAnyH_take (i := 0) (oi := ⟨some 18, _, _, _, _, _⟩) (v := ?_) rfl (by kernel_rfl) (by kernel_rfl) (by kernel_rfl) (fun _ _ _ h => h) (Or.inl ⟨by rfl, ?_⟩) (by assumption) ?_
          rotate_left
          · (intro w hSw; (try dsimp only at hSw); go_simp; try with_reducible rfl)
          try simp only [Act.put, List.setIfInBounds_toArray, List.set_cons_zero, List.set_cons_succ]
          refine wpAnyH_take (i := 1) (oi := ⟨some 19, _, _, _, _, _⟩) (v := ?_) rfl (by kernel_rfl) (by kernel_rfl) (by kernel_rfl) (fun _ _ _ h => h) (Or.inl ⟨by rfl, ?_⟩) (by assumption) ?_
          rotate_left
          · (intro w hSw; (try dsimp only at hSw); go_simp; try with_reducible rfl)
          try simp only [Act.put, List.setIfInBounds_toArray, List.set_cons_zero, List.set_cons_succ]
          refine wpAnyH_take (i := 2) (oi := ⟨some 20, _, _, _, _, _⟩) (v := ?_) rfl (by kernel_rfl) (by kernel_rfl) (by kernel_rfl) (fun _ _ _ h => h) (Or.inl ⟨by rfl, ?_⟩) (by assumption) ?_
          rotate_left
          · (intro w hSw; (try dsimp only at hSw); go_simp; try with_reducible rfl)
          try simp only [Act.put, List.setIfInBounds_toArray, List.set_cons_zero, List.set_cons_succ]
          refine wpAnyH_take (i := 3) (oi := ⟨some 21, _, _, _, _, _⟩) (v := ?_) rfl (by kernel_rfl) (by kernel_rfl) (by kernel_rfl) (fun _ _ _ h => h) (Or.inl ⟨by rfl, ?_⟩) (by assumption) ?_
          rotate_left
          · (intro w hSw; (try dsimp only at hSw); go_simp; try with_reducible rfl)
          try simp only [Act.put, List.setIfInBounds_toArray, List.set_cons_zero, List.set_cons_succ]
          refine wpAnyH_take (i := 4) (oi := ⟨some 22, _, _, _, _, _⟩) (v := ?_) rfl (by kernel_rfl) (by kernel_rfl) (by kernel_rfl) (fun _ _ _ h => h) (Or.inl ⟨by rfl, ?_⟩) (by assumption) ?_
          rotate_left
          · (intro w hSw; (try dsimp only at hSw); go_simp; try with_reducible rfl)
          try simp only [Act.put, List.setIfInBounds_toArray, List.set_cons_zero, List.set_cons_succ]
          refine wpAnyH_take (i := 5) (oi := ⟨some 23, _, _, _, _, _⟩) (v := ?_) rfl (by kernel_rfl) (by kernel_rfl) (by kernel_rfl) (fun _ _ _ h => h) (Or.inl ⟨by rfl, ?_⟩) (by assumption) ?_
          rotate_left
          · (intro w hSw; (try dsimp only at hSw); go_simp; try with_reducible rfl)
          try simp only [Act.put, List.setIfInBounds_toArray, List.set_cons_zero, List.set_cons_succ]
          refine wpAnyH_take (i := 6) (oi := ⟨some 24, _, _, _, _, _⟩) (v := ?_) rfl (by kernel_rfl) (by kernel_rfl) (by kernel_rfl) (fun _ _ _ h => h) (Or.inl ⟨by rfl, ?_⟩) (by assumption) ?_
          rotate_left
          · (intro w hSw; (try dsimp only at hSw); go_simp; try with_reducible rfl)
          try simp only [Act.put, List.setIfInBounds_toArray, List.set_cons_zero, List.set_cons_succ]
          refine wpAnyH_take (i := 7) (oi := ⟨some 25, _, _, _, _, _⟩) (v := ?_) rfl (by kernel_rfl) (by kernel_rfl) (by kernel_rfl) (fun _ _ _ h => h) (Or.inl ⟨by rfl, ?_⟩) (by assumption) ?_
          rotate_left
          · (intro w hSw; (try dsimp only at hSw); go_simp; try with_reducible rfl)
          try simp only [Act.put, List.setIfInBounds_toArray, List.set_cons_zero, List.set_cons_succ]
          refine wpAnyH_take (i := 8) (oi := ⟨some 26, _, _, _, _, _⟩) (v := ?_) rfl (by kernel_rfl) (by kernel_rfl) (by kernel_rfl) (fun _ _ _ h => h) (Or.inl ⟨by rfl, ?_⟩) (by assumption) ?_
          rotate_left
          · (intro w hSw; (try dsimp only at hSw); go_simp; try with_reducible rfl)
          try simp only [Act.put, List.setIfInBounds_toArray, List.set_cons_zero, List.set_cons_succ]
          refine wpAnyH_take (i := 9) (oi := ⟨some 27, _, _, _, _, _⟩) (v := ?_) rfl (by kernel_rfl) (by kernel_rfl) (by kernel_rfl) (fun _ _ _ h => h) (Or.inl ⟨by rfl, ?_⟩) (by assumption) ?_
          rotate_left
          · (intro w hSw; (try dsimp only at hSw); go_simp; try with_reducible rfl)
          try simp only [Act.put, List.setIfInBounds_toArray, List.set_cons_zero, List.set_cons_succ]
          refine next_one 10 (by kernel_rfl) rfl (by rfl) fun K' HK' => ?_
          go_simp
          refine (HC.out _ (by (repeat (first | assumption | exact Ext.refl _ | apply Ext.drew | apply Ext.drewN | apply Ext.alloc | refine Ext.trans ?_ (by assumption))); first | done | fail)).mono ?_
          rintro e w3 ⟨rfl, hx3⟩
          have hS2 := Ext.trans hHeld hx3
          refine held_go HK' hS2 (fun _ => ?_)
          clear HK'
          refine held_more (S' := fun w' => Ext w3 w') (fun _ h => Ext.trans hS2 h) _ _ _ _ ?_
          clear hHeld hS2
          have hHeld : Ext w3 w3 := Ext.refl _
          try simp only [Act.put, List.setIfInBounds_toArray, List.set_cons_zero, List.set_cons_succ]
          refine wpAnyH_done (by kernel_rfl) ?_ _
          have HX3 : Kp (Ext wr w3) := ⟨(by (repeat (first | assumption | exact Ext.refl _ | apply Ext.drew | apply Ext.drewN | apply Ext.alloc | refine Ext.trans ?_ (by assumption))); first | done | fail)⟩
          have HIn := Kp.mk (HI.out.ext (HX.out.trans HX3.out) hg)
          have HG3 : Kp (g < w3.heap.size) := ⟨Nat.lt_of_lt_of_le hg (HX.out.trans HX3.out).size⟩
          clear HC c1 c2 c3 c4 hx3
          go_wp2_with fail
          go_loopw [5, 7] (fun kv jv ws => ∃ K j i : Nat, 1 ≤ i ∧ i ≤ r ∧ j = k + i ∧ kv = .int .i64 (K : Int) ∧ jv = .int .i64 (i : Int) ∧ (f j).length = K ∧ K < j ∧ CmI w ws g ps (f j) ∧ g < ws.heap.size) (fun _ jv _ => r - (intOf jv).toNat)
          case atStart =>
            refine ⟨k, k + 1, 1, Nat.le_refl _, by have := HRr.out; omega, rfl, rfl, rfl, ?_, Nat.lt_succ_self _, ?_, HG3.out⟩
            · rw [HST.out, List.length_take]
              have := HL.out
              omega
            · rw [HST.out]
              refine ⟨HIn.out.m, fun i p hi => HIn.out.hi i p (Nat.zero_le _) ?_, fun i p _ hi => HIn.out.hi i p (Nat.zero_le _) hi, HIn.out.fr⟩
              have := (List.getElem?_eq_some_iff.1 hi).1
              rw [List.getElem?_take] at hi
              split at hi
              · exact hi
              · cases hi
          case round =>
            obtain ⟨K, j, i, hi1, hir, hj, rfl, rfl, hfl, hKj, hcm, hgs⟩ := hrel
            have HJ := Kp.mk hj
            have HFLj := Kp.mk hfl
            have HKJ := Kp.mk hKj
            have HCM := Kp.mk hcm
            have HGS := Kp.mk hgs
            clear hj hfl hKj hcm hgs
            by_cases hlt2 : i < r
            · have b3 : (i : Int) < (r : Int) := by omega
              obtain ⟨q2, hq2⟩ : ∃ q2, q2 = i - 1 := ⟨_, rfl⟩
              have g1 : (i : Int) - 1 = (q2 : Int) := by omega
              have g2 : IntKind.i64.wrap (q2 : Int) = (q2 : Int) := by have := HRr.out; rw [IntKind.wrap_i64]; omega
              have g3 : q2 < r := by omega
              have g4 : (q2 : Int) < (r : Int) := by omega
              have hjn : j < n := by have := HJ.out; have := HRr.out; omega
              obtain ⟨qx, hqx⟩ := HG.out j hjn
              obtain ⟨qy, hqy⟩ := HG.out (j - 1) (by omega)
              have i1 : j * 2 = k * 2 + i * 2 := by have := HJ.out; omega
              have i2 : (j - 1) * 2 = k * 2 + q2 * 2 := by have := HJ.out; omega
              have d1 : ∀ W, Ext wr W → W.cell? ⟨g, k * 2 + i * 2, none⟩ = some (kdV qx.1) := fun W hW => by rw [← i1]; exact cell_fwd (HCM.out.hi j qx (by have := HFLj.out; have := HKJ.out; omega) hqx).1 hW
              have d2 : ∀ W, Ext wr W → W.cell? ⟨g, k * 2 + i * 2 + 1, none⟩ = some (txV qx.1) := fun W hW => by rw [← i1]; exact cell_fwd (HCM.out.hi j qx (by have := HFLj.out; have := HKJ.out; omega) hqx).2 hW
              have d3 : ∀ W, Ext wr W → W.cell? ⟨g, k * 2 + q2 * 2, none⟩ = some (kdV qy.1) := fun W hW => by rw [← i2]; exact cell_fwd (HCM.out.hi (j - 1) qy (by have := HFLj.out; have := HKJ.out; omega) hqy).1 hW
              have d4 : ∀ W, Ext wr W → W.cell? ⟨g, k * 2 + q2 * 2 + 1, none⟩ = some (txV qy.1) := fun W hW => by rw [← i2]; exact cell_fwd (HCM.out.hi (j - 1) qy (by have := HFLj.out; have := HKJ.out; omega) hqy).2 hW
              have hstep := HSS.out (j - 1) j qx qy (by omega) hqx hqy
              have HC2 := Kp.mk (fun (W : World) (h : Ext wr W) => HS.out W j (j - 1) qx qy hqx hqy (HCM.out.m.trans (h.mds _)))
              unfold kdV txV at *
              clear hqx hqy i1 i2 hq2
              by_cases he : qx.2 = qy.2
              · rw [if_pos he, List.append_nil] at hstep
                have hd : decide (qx.2 = qy.2) = true := decide_eq_true he
                rw [hd] at HC2
                have HST2 := Kp.mk hstep
                clear he hd hstep
                go_wp2_with fail
                refine wp_region_held_drew (S := fun w' => Ext wr w') (by kernel_rfl) (Ext.refl wr).drew (fun hHeld => ?_)
                refine wpAnyH_take (i := 0) (oi := ⟨some 38, _, _, _, _, _⟩) (v := ?_) rfl (by kernel_rfl) (by kernel_rfl) (by kernel_rfl) (fun _ _ _ h => h) (Or.inl ⟨by rfl, ?_⟩) (by assumption) ?_
                rotate_left
                · (intro w hSw; (try dsimp only at hSw); go_simp; try with_reducible rfl)
                try simp only [Act.put, List.setIfInBounds_toArray, List.set_cons_zero, List.set_cons_succ]
                refine wpAnyH_take (i := 1) (oi := ⟨some 39, _, _, _, _, _⟩) (v := ?_) rfl (by kernel_rfl) (by kernel_rfl) (by kernel_rfl) (fun _ _ _ h => h) (Or.inl ⟨by rfl, ?_⟩) (by assumption) ?_
                rotate_left
                · (intro w hSw; (try dsimp only at hSw); go_simp; try with_reducible rfl)
                try simp only [Act.put, List.setIfInBounds_toArray, List.set_cons_zero, List.set_cons_succ]
                refine wpAnyH_take (i := 2) (oi := ⟨some 40, _, _, _, _, _⟩) (v := ?_) rfl (by kernel_rfl) (by kernel_rfl) (by kernel_rfl) (fun _ _ _ h => h) (Or.inl ⟨by rfl, ?_⟩) (by assumption) ?_
                rotate_left
                · (intro w hSw; (try dsimp only at hSw); go_simp; try with_reducible rfl)
                try simp only [Act.put, List.setIfInBounds_toArray, List.set_cons_zero, List.set_cons_succ]
                refine wpAnyH_take (i := 3) (oi := ⟨some 41, _, _, _, _, _⟩) (v := ?_) rfl (by kernel_rfl) (by kernel_rfl) (by kernel_rfl) (fun _ _ _ h => h) (Or.inl ⟨by rfl, ?_⟩) (by assumption) ?_
                rotate_left
                · (intro w hSw; (try dsimp only at hSw); go_simp; try with_reducible rfl)
                try simp only [Act.put, List.setIfInBounds_toArray, List.set_cons_zero, List.set_cons_succ]
                refine wpAnyH_take (i := 4) (oi := ⟨some 42, _, _, _, _, _⟩) (v := ?_) rfl (by kernel_rfl) (by kernel_rfl) (by kernel_rfl) (fun _ _ _ h => h) (Or.inl ⟨by rfl, ?_⟩) (by assumption) ?_
                rotate_left
                · (intro w hSw; (try dsimp only at hSw); go_simp; try with_reducible rfl)
                try simp only [Act.put, List.setIfInBounds_toArray, List.set_cons_zero, List.set_cons_succ]
                refine wpAnyH_take (i := 5) (oi := ⟨some 43, _, _, _, _, _⟩) (v := ?_) rfl (by kernel_rfl) (by kernel_rfl) (by kernel_rfl) (fun _ _ _ h => h) (Or.inl ⟨by rfl, ?_⟩) (by assumption) ?_
                rotate_left
                · (intro w hSw; (try dsimp only at hSw); go_simp; try with_reducible rfl)
                try simp only [Act.put, List.setIfInBounds_toArray, List.set_cons_zero, List.set_cons_succ]
                refine wpAnyH_take (i := 6) (oi := ⟨some 44, _, _, _, _, _⟩) (v := ?_) rfl (by kernel_rfl) (by kernel_rfl) (by kernel_rfl) (fun _ _ _ h => h) (Or.inl ⟨by rfl, ?_⟩) (by assumption) ?_
                rotate_left
                · (intro w hSw; (try dsimp only at hSw); go_simp; try with_reducible rfl)
                try simp only [Act.put, List.setIfInBounds_toArray, List.set_cons_zero, List.set_cons_succ]
                refine wpAnyH_take (i := 7) (oi := ⟨some 45, _, _, _, _, _⟩) (v := ?_) rfl (by kernel_rfl) (by kernel_rfl) (by kernel_rfl) (fun _ _ _ h => h) (Or.inl ⟨by rfl, ?_⟩) (by assumption) ?_
                rotate_left
                · (intro w hSw; (try dsimp only at hSw); go_simp; try with_reducible rfl)
                try simp only [Act.put, List.setIfInBounds_toArray, List.set_cons_zero, List.set_cons_succ]
                refine wpAnyH_take (i := 8) (oi := ⟨some 46, _, _, _, _, _⟩) (v := ?_) rfl (by kernel_rfl) (by kernel_rfl) (by kernel_rfl) (fun _ _ _ h => h) (Or.inl ⟨by rfl, ?_⟩) (by assumption) ?_
                rotate_left
                · (intro w hSw; (try dsimp only at hSw); go_simp; try with_reducible rfl)
                try simp only [Act.put, List.setIfInBounds_toArray, List.set_cons_zero, List.set_cons_succ]
                refine wpAnyH_take (i := 9) (oi := ⟨some 47, _, _, _, _, _⟩) (v := ?_) rfl (by kernel_rfl) (by kernel_rfl) (by kernel_rfl) (fun _ _ _ h => h) (Or.inl ⟨by rfl, ?_⟩) (by assumption) ?_
                rotate_left
                · (intro w hSw; (try dsimp only at hSw); go_simp; try with_reducible rfl)
                try simp only [Act.put, List.setIfInBounds_toArray, List.set_cons_zero, List.set_cons_succ]
                refine next_one 10 (by kernel_rfl) rfl (by rfl) fun K' HK' => ?_
                go_simp
                refine (HC2.out _ (by (repeat (first | assumption | exact Ext.refl _ | apply Ext.drew | apply Ext.drewN | apply Ext.alloc | refine Ext.trans ?_ (by assumption))); first | done | fail)).mono ?_
                rintro e w5 ⟨rfl, hx5⟩
                have hS2 := Ext.trans hHeld hx5
                refine held_go HK' hS2 (fun _ => ?_)
                clear HK'
                refine held_more (S' := fun w' => Ext w5 w') (fun _ h => Ext.trans hS2 h) _ _ _ _ ?_
                clear hHeld hS2
                have hHeld : Ext w5 w5 := Ext.refl _
                try simp only [Act.put, List.setIfInBounds_toArray, List.set_cons_zero, List.set_cons_succ]
                refine wpAnyH_take (i := 11) (oi := ⟨some 49, _, _, _, _, _⟩) (v := ?_) rfl (by kernel_rfl) (by kernel_rfl) (by kernel_rfl) (fun _ _ _ h => h) (Or.inl ⟨by rfl, ?_⟩) (by assumption) ?_
                rotate_left
                · (intro w hSw; (try dsimp only at hSw); go_simp; try with_reducible rfl)
                try simp only [Act.put, List.setIfInBounds_toArray, List.set_cons_zero, List.set_cons_succ]
                refine wpAnyH_done (by kernel_rfl) ?_ _
                have HX5 : Kp (Ext wr w5) := ⟨(by (repeat (first | assumption | exact Ext.refl _ | apply Ext.drew | apply Ext.drewN | apply Ext.alloc | refine Ext.trans ?_ (by assumption))); first | done | fail)⟩
                clear HC2 d1 d2 d3 d4 hx5
                go_wp2_with fail
                go_roundw
                case rel => exact ⟨K, j + 1, i + 1, by omega, by omega, by have := HJ.out; omega, rfl, by go_num, by rw [HST2.out]; exact HFLj.out, by have := HKJ.out; omega, by rw [HST2.out]; exact HCM.out.ext HX5.out HGS.out, Nat.lt_of_lt_of_le HGS.out HX5.out.size⟩
                case measure => simp [intOf]; omega
              · rw [if_neg he] at hstep
                have hd : decide (qx.2 = qy.2) = false := decide_eq_false he
                rw [hd] at HC2
                have HST2 := Kp.mk hstep
                have hKn : K < n := by have := HKJ.out; omega
                have hKn' : (K : Int) < (n : Int) := by omega
                obtain ⟨qk, hqk⟩ := HG.out K hKn
                have HQK := Kp.mk hqk
                clear he hd hstep hqk
                go_wp2_with fail
                refine wp_region_held_drew (S := fun w' => Ext wr w') (by kernel_rfl) (Ext.refl wr).drew (fun hHeld => ?_)
                refine wpAnyH_take (i := 0) (oi := ⟨some 38, _, _, _, _, _⟩) (v := ?_) rfl (by kernel_rfl) (by kernel_rfl) (by kernel_rfl) (fun _ _ _ h => h) (Or.inl ⟨by rfl, ?_⟩) (by assumption) ?_
                rotate_left
                · (intro w hSw; (try dsimp only at hSw); go_simp; try with_reducible rfl)
                try simp only [Act.put, List.setIfInBounds_toArray, List.set_cons_zero, List.set_cons_succ]
                refine wpAnyH_take (i := 1) (oi := ⟨some 39, _, _, _, _, _⟩) (v := ?_) rfl (by kernel_rfl) (by kernel_rfl) (by kernel_rfl) (fun _ _ _ h => h) (Or.inl ⟨by rfl, ?_⟩) (by assumption) ?_
                rotate_left
                · (intro w hSw; (try dsimp only at hSw); go_simp; try with_reducible rfl)
                try simp only [Act.put, List.setIfInBounds_toArray, List.set_cons_zero, List.set_cons_succ]
                refine wpAnyH_take (i := 2) (oi := ⟨some 40, _, _, _, _, _⟩) (v := ?_) rfl (by kernel_rfl) (by kernel_rfl) (by kernel_rfl) (fun _ _ _ h => h) (Or.inl ⟨by rfl, ?_⟩) (by assumption) ?_
                rotate_left
                · (intro w hSw; (try dsimp only at hSw); go_simp; try with_reducible rfl)
                try simp only [Act.put, List.setIfInBounds_toArray, List.set_cons_zero, List.set_cons_succ]
                refine wpAnyH_take (i := 3) (oi := ⟨some 41, _, _, _, _, _⟩) (v := ?_) rfl (by kernel_rfl) (by kernel_rfl) (by kernel_rfl) (fun _ _ _ h => h) (Or.inl ⟨by rfl, ?_⟩) (by assumption) ?_
                rotate_left
                · (intro w hSw; (try dsimp only at hSw); go_simp; try with_reducible rfl)
                try simp only [Act.put, List.setIfInBounds_toArray, List.set_cons_zero, List.set_cons_succ]
                refine wpAnyH_take (i := 4) (oi := ⟨some 42, _, _, _, _, _⟩) (v := ?_) rfl (by kernel_rfl) (by kernel_rfl) (by kernel_rfl) (fun _ _ _ h => h) (Or.inl ⟨by rfl, ?_⟩) (by assumption) ?_
                rotate_left
                · (intro w hSw; (try dsimp only at hSw); go_simp; try with_reducible rfl)
                try simp only [Act.put, List.setIfInBounds_toArray, List.set_cons_zero, List.set_cons_succ]
                refine wpAnyH_take (i := 5) (oi := ⟨some 43, _, _, _, _, _⟩) (v := ?_) rfl (by kernel_rfl) (by kernel_rfl) (by kernel_rfl) (fun _ _ _ h => h) (Or.inl ⟨by rfl, ?_⟩) (by assumption) ?_
                rotate_left
                · (intro w hSw; (try dsimp only at hSw); go_simp; try with_reducible rfl)
                try simp only [Act.put, List.setIfInBounds_toArray, List.set_cons_zero, List.set_cons_succ]
                refine wpAnyH_take (i := 6) (oi := ⟨some 44, _, _, _, _, _⟩) (v := ?_) rfl (by kernel_rfl) (by kernel_rfl) (by kernel_rfl) (fun _ _ _ h => h) (Or.inl ⟨by rfl, ?_⟩) (by assumption) ?_
                rotate_left
                · (intro w hSw; (try dsimp only at hSw); go_simp; try with_reducible rfl)
                try simp only [Act.put, List.setIfInBounds_toArray, List.set_cons_zero, List.set_cons_succ]
                refine wpAnyH_take (i := 7) (oi := ⟨some 45, _, _, _, _, _⟩) (v := ?_) rfl (by kernel_rfl) (by kernel_rfl) (by kernel_rfl) (fun _ _ _ h => h) (Or.inl ⟨by rfl, ?_⟩) (by assumption) ?_
                rotate_left
                · (intro w hSw; (try dsimp only at hSw); go_simp; try with_reducible rfl)
                try simp only [Act.put, List.setIfInBounds_toArray, List.set_cons_zero, List.set_cons_succ]
                refine wpAnyH_take (i := 8) (oi := ⟨some 46, _, _, _, _, _⟩) (v := ?_) rfl (by kernel_rfl) (by kernel_rfl) (by kernel_rfl) (fun _ _ _ h => h) (Or.inl ⟨by rfl, ?_⟩) (by assumption) ?_
                rotate_left
                · (intro w hSw; (try dsimp only at hSw); go_simp; try with_reducible rfl)
                try simp only [Act.put, List.setIfInBounds_toArray, List.set_cons_zero, List.set_cons_succ]
                refine wpAnyH_take (i := 9) (oi := ⟨some 47, _, _, _, _, _⟩) (v := ?_) rfl (by kernel_rfl) (by kernel_rfl) (by kernel_rfl) (fun _ _ _ h => h) (Or.inl ⟨by rfl, ?_⟩) (by assumption) ?_
                rotate_left
                · (intro w hSw; (try dsimp only at hSw); go_simp; try with_reducible rfl)
                try simp only [Act.put, List.setIfInBounds_toArray, List.set_cons_zero, List.set_cons_succ]
                refine next_one 10 (by kernel_rfl) rfl (by rfl) fun K' HK' => ?_
                go_simp
                refine (HC2.out _ (by (repeat (first | assumption | exact Ext.refl _ | apply Ext.drew | apply Ext.drewN | apply Ext.alloc | refine Ext.trans ?_ (by assumption))); first | done | fail)).mono ?_
                rintro e w5 ⟨rfl, hx5⟩
                have hS2 := Ext.trans hHeld hx5
                refine held_go HK' hS2 (fun _ => ?_)
                clear HK'
                refine held_more (S' := fun w' => Ext w5 w') (fun _ h => Ext.trans hS2 h) _ _ _ _ ?_
                clear hHeld hS2
                have hHeld : Ext w5 w5 := Ext.refl _
                try simp only [Act.put, List.setIfInBounds_toArray, List.set_cons_zero, List.set_cons_succ]
                refine wpAnyH_take (i := 11) (oi := ⟨some 49, _, _, _, _, _⟩) (v := ?_) rfl (by kernel_rfl) (by kernel_rfl) (by kernel_rfl) (fun _ _ _ h => h) (Or.inl ⟨by rfl, ?_⟩) (by assumption) ?_
                rotate_left
                · (intro w hSw; (try dsimp only at hSw); go_simp; try with_reducible rfl)
                try simp only [Act.put, List.setIfInBounds_toArray, List.set_cons_zero, List.set_cons_succ]
                refine wpAnyH_done (by kernel_rfl) ?_ _
                have HX5 : Kp (Ext wr w5) := ⟨(by (repeat (first | assumption | exact Ext.refl _ | apply Ext.drew | apply Ext.drewN | apply Ext.alloc | refine Ext.trans ?_ (by assumption))); first | done | fail)⟩
                have HC5 := Kp.mk (HCM.out.ext HX5.out HGS.out)
                have k1 := d1 w5 HX5.out
                have k2 := d2 w5 HX5.out
                obtain ⟨k3, k4⟩ := HC5.out.hi K qk (by rw [HFLj.out]; exact Nat.le_refl _) HQK.out
                have f1 := HC5.out.fr (K * 2) (by have := HL.out; omega)
                have f2 := HC5.out.fr (K * 2 + 1) (by have := HL.out; omega)
                have k5 : ∀ v, (w5.setCell ⟨g, K * 2, none⟩ v).cell? ⟨g, K * 2 + 1, none⟩ = some (txV qk.1) := fun v => by
                  rw [World.cell?_setCell_other _ _ _ _ (fun e => by injection e with _ e; omega)]
                  exact k4
                unfold kdV txV at *
                clear HC2 d1 d2 d3 d4 hx5
                go_wp2_with fail
                go_roundw
                case rel => exact ⟨K + 1, j + 1, i + 1, by omega, by omega, by have := HJ.out; omega, by go_num, by go_num, by rw [HST2.out, List.length_append, HFLj.out]; rfl, by have := HKJ.out; omega, by rw [HST2.out]; exact HC5.out.put (by rw [HFLj.out]; exact HQK.out) K HFLj.out, by
                  show g < ((w5.setCell _ _).setCell _ _).heap.size
                  simpa [World.setCell] using Nat.lt_of_lt_of_le HGS.out HX5.out.size⟩
                case measure => simp [intOf]; omega
            · obtain rfl : i = r := by omega
              have b3 : ¬ (i : Int) < (i : Int) := by omega
              obtain rfl : j = n := by have := HJ.out; have := HRr.out; omega
              have hKn : K < j := HKJ.out
              have hKn' : (K : Int) < (j : Int) := by omega
              obtain ⟨r', hr'⟩ : ∃ r', j - K = r' := ⟨_, rfl⟩
              obtain ⟨d', hd'⟩ : ∃ d', c - K = d' := ⟨_, rfl⟩
              have hfr2 := fun W => run_from2 (P := Tryd.prog) g j c 94 96 Tryd.underlying94 szSn K r' d' (K : Int) rfl hKn hc hr' hd' W
              have hup := fun W => run_uptoK (P := Tryd.prog) (some ⟨g, 0, none⟩) j c 94 96 2 Tryd.underlying94 szSn K (K : Int) rfl (by omega) W
              obtain ⟨L, _, hcl⟩ := run_clear2 (P := Tryd.prog) wr 94 96 (.agg #[.slice none 0 0, .slice none 0 0]) Tryd.underlying94 zeroSn rfl (by decide) g (K * 2) r' d' (by omega)
                (fun q hq => by
                  obtain ⟨p, hp⟩ := HG.out ((K * 2 + q) / 2) (by omega)
                  obtain ⟨h1, h2⟩ := HCM.out.hi _ p (by rw [HFLj.out]; omega) hp
                  rcases Nat.mod_two_eq_zero_or_one (K * 2 + q) with h3 | h3
                  · rw [show (K * 2 + q) / 2 * 2 = K * 2 + q by omega] at h1
                    rw [h1]; rfl
                  · rw [show (K * 2 + q) / 2 * 2 + 1 = K * 2 + q by omega] at h2
                    rw [h2]; rfl)
                (fun q hq => HCM.out.fr _ (by have := HL.out; omega))
              have HCUT := Kp.mk (HCM.out.cut L K HFLj.out)
              clear hr' hd'
              go_wp2_with fail
              go_ret
              exact ⟨K, c, rfl, HFLj.out, HCUT.out.1, HCUT.out.2⟩
        · rw [if_neg he, HK.out] at hstep
          have hd : decide (px.2 = py.2) = false := decide_eq_false he
          rw [hd] at HC
          have HST : Kp (f (k + 1) = ps.take (k + 1)) := ⟨by
            rw [hstep, List.take_add_one, HPX.out]
            rfl⟩
          clear he hd hstep
          go_wp2_with fail
          refine wp_region_held_drew (S := fun w' => Ext wr w') (by kernel_rfl) (Ext.refl wr).drew (fun hHeld => ?_)
          refine wpAnyH_take (i := 0) (oi := ⟨some 18, _, _, _, _, _⟩) (v := ?_) rfl (by kernel_rfl) (by kernel_rfl) (by kernel_rfl) (fun _ _ _ h => h) (Or.inl ⟨by rfl, ?_⟩) (by assumption) ?_
          rotate_left
          · (intro w hSw; (try dsimp only at hSw); go_simp; try with_reducible rfl)
          try simp only [Act.put, List.setIfInBounds_toArray, List.set_cons_zero, List.set_cons_succ]
          refine wpAnyH_take (i := 1) (oi := ⟨some 19, _, _, _, _, _⟩) (v := ?_) rfl (by kernel_rfl) (by kernel_rfl) (by kernel_rfl) (fun _ _ _ h => h) (Or.inl ⟨by rfl, ?_⟩) (by assumption) ?_
          rotate_left
          · (intro w hSw; (try dsimp only at hSw); go_simp; try with_reducible rfl)
          try simp only [Act.put, List.setIfInBounds_toArray, List.set_cons_zero, List.set_cons_succ]
          refine wpAnyH_take (i := 2) (oi := ⟨some 20, _, _, _, _, _⟩) (v := ?_) rfl (by kernel_rfl) (by kernel_rfl) (by kernel_rfl) (fun _ _ _ h => h) (Or.inl ⟨by rfl, ?_⟩) (by assumption) ?_
          rotate_left
          · (intro w hSw; (try dsimp only at hSw); go_simp; try with_reducible rfl)
          try simp only [Act.put, List.setIfInBounds_toArray, List.set_cons_zero, List.set_cons_succ]
          refine wpAnyH_take (i := 3) (oi := ⟨some 21, _, _, _, _, _⟩) (v := ?_) rfl (by kernel_rfl) (by kernel_rfl) (by kernel_rfl) (fun _ _ _ h => h) (Or.inl ⟨by rfl, ?_⟩) (by assumption) ?_
          rotate_left
          · (intro w hSw; (try dsimp only at hSw); go_simp; try with_reducible rfl)
          try simp only [Act.put, List.setIfInBounds_toArray, List.set_cons_zero, List.set_cons_succ]
          refine wpAnyH_take (i := 4) (oi := ⟨some 22, _, _, _, _, _⟩) (v := ?_) rfl (by kernel_rfl) (by kernel_rfl) (by kernel_rfl) (fun _ _ _ h => h) (Or.inl ⟨by rfl, ?_⟩) (by assumption) ?_
          rotate_left
          · (intro w hSw; (try dsimp only at hSw); go_simp; try with_reducible rfl)
          try simp only [Act.put, List.setIfInBounds_toArray, List.set_cons_zero, List.set_cons_succ]
          refine wpAnyH_take (i := 5) (oi := ⟨some 23, _, _, _, _, _⟩) (v := ?_) rfl (by kernel_rfl) (by kernel_rfl) (by kernel_rfl) (fun _ _ _ h => h) (Or.inl ⟨by rfl, ?_⟩) (by assumption) ?_
          rotate_left
          · (intro w hSw; (try dsimp only at hSw); go_simp; try with_reducible rfl)
          try simp only [Act.put, List.setIfInBounds_toArray, List.set_cons_zero, List.set_cons_succ]
          refine wpAnyH_take (i := 6) (oi := ⟨some 24, _, _, _, _, _⟩) (v := ?_) rfl (by kernel_rfl) (by kernel_rfl) (by kernel_rfl) (fun _ _ _ h => h) (Or.inl ⟨by rfl, ?_⟩) (by assumption) ?_
          rotate_left
          · (intro w hSw; (try dsimp only at hSw); go_simp; try with_reducible rfl)
          try simp only [Act.put, List.setIfInBounds_toArray, List.set_cons_zero, List.set_cons_succ]
          refine wpAnyH_take (i := 7) (oi := ⟨some 25, _, _, _, _, _⟩) (v := ?_) rfl (by kernel_rfl) (by kernel_rfl) (by kernel_rfl) (fun _ _ _ h => h) (Or.inl ⟨by rfl, ?_⟩) (by assumption) ?_
          rotate_left
          · (intro w hSw; (try dsimp only at hSw); go_simp; try with_reducible rfl)
          try simp only [Act.put, List.setIfInBounds_toArray, List.set_cons_zero, List.set_cons_succ]
          refine wpAnyH_take (i := 8) (oi := ⟨some 26, _, _, _, _, _⟩) (v := ?_) rfl (by kernel_rfl) (by kernel_rfl) (by kernel_rfl) (fun _ _ _ h => h) (Or.inl ⟨by rfl, ?_⟩) (by assumption) ?_
          rotate_left
          · (intro w hSw; (try dsimp only at hSw); go_simp; try with_reducible rfl)
          try simp only [Act.put, List.setIfInBounds_toArray, List.set_cons_zero, List.set_cons_succ]
          refine wpAnyH_take (i := 9) (oi := ⟨some 27, _, _, _, _, _⟩) (v := ?_) rfl (by kernel_rfl) (by kernel_rfl) (by kernel_rfl) (fun _ _ _ h => h) (Or.inl ⟨by rfl, ?_⟩) (by assumption) ?_
          rotate_left
          · (intro w hSw; (try dsimp only at hSw); go_simp; try with_reducible rfl)
          try simp only [Act.put, List.setIfInBounds_toArray, List.set_cons_zero, List.set_cons_succ]
          refine next_one 10 (by kernel_rfl) rfl (by rfl) fun K' HK' => ?_
          go_simp
          refine (HC.out _ (by (repeat (first | assumption | exact Ext.refl _ | apply Ext.drew | apply Ext.drewN | apply Ext.alloc | refine Ext.trans ?_ (by assumption))); first | done | fail)).mono ?_
          rintro e w3 ⟨rfl, hx3⟩
          have hS2 := Ext.trans hHeld hx3
          refine held_go HK' hS2 (fun _ => ?_)
          clear HK'
          refine held_more (S' := fun w' => Ext w3 w') (fun _ h => Ext.trans hS2 h) _ _ _ _ ?_
          clear hHeld hS2
          have hHeld : Ext w3 w3 := Ext.refl _
          try simp only [Act.put, List.setIfInBounds_toArray, List.set_cons_zero, List.set_cons_succ]
          refine wpAnyH_done (by kernel_rfl) ?_ _
          have HX3 : Kp (Ext wr w3) := ⟨(by (repeat (first | assumption | exact Ext.refl _ | apply Ext.drew | apply Ext.drewN | apply Ext.alloc | refine Ext.trans ?_ (by assumption))); first | done | fail)⟩
          clear HC c1 c2 c3 c4 hx3
          go_wp2_with fail
          go_roundw
          case rel => exact ⟨k + 1, by omega, by omega, by go_num, HST.out, HX.out.trans HX3.out⟩
          case measure => simp [intOf]; omega
      · obtain rfl : k = n := by omega
        have b2 : ¬ (k : Int) < (k : Int) := by omega
        have HE : Kp (f k = ps) := ⟨by rw [HK.out, List.take_of_length_le (by have := HL.out; omega)]⟩
        clear hx
        go_wp2_with fail
        go_ret
        rw [HE.out]
        exact ⟨_, _, rfl, HL.out, Ext.mds HX.out _, fun i p hi => ⟨cell_fwd (HI.out.hi i p (Nat.zero_le _) hi).1 HX.out, cell_fwd (HI.out.hi i p (Nat.zero_le _) hi).2 HX.out⟩⟩
end Go.Proofs.YthookcnkmlmgcaaDoor
