/-
  name: sensesOf, stepsAlike.
-/
import Derived.Test.YthookcnkmlmgcaaVIt
import Derived.Test.YthookcnkmlmgcaaVIr
import Derived.Test.YthookcnkmlmgcaaVIk
namespace Go.Proofs.Ythookcnkmlmgcaa
open Go Go.RowKit Go.Sort
set_option maxRecDepth 4000

theorem Compact_none (A : Option Addr) (c : Nat) (f : Value) (w : World) : Calls Try.prog 24 #[.slice A 0 c, f] w fun e w' => e = .returned (.slice A 0 c) ∧ w' = w := by
  go_enter Try.func24, Try.ntmps24
  go_wp2_with fail
  go_ret
  exact ⟨rfl, rfl⟩
/-- what sensesOf tells -/
def SnO (w : World) (s : List Atr) (e : Ending) (w' : World) : Prop :=
  ∃ A n c qs, e = .returned (.slice A n c) ∧ SnL w' A n qs ∧ n ≤ s.length ∧ Ris cmpS (qs.map Prod.snd) ∧ (∀ x, x ∈ qs.map Prod.snd ↔ x ∈ s.map snA) ∧ Ext w w'
/-- a row of them as the sort wants it -/
theorem SnW.some_ {w0 w : World} {A : Option Addr} {n c : Nat} {ps : List SSn} (h : SnW w0 w (.slice A n c) n ps) (hx : Ext w0 w) (hn : 0 < n) :
    ∃ g, A = some ⟨g, 0, none⟩ ∧ w0.heap.size ≤ g ∧ g < w.heap.size ∧ n ≤ c ∧ (∀ (k : Nat) (p : SSn), ps[k]? = some p → w.cell? ⟨g, k * 2, none⟩ = some (kdV p.1) ∧ w.cell? ⟨g, k * 2 + 1, none⟩ = some (txV p.1)) ∧ (∀ k, w.frozen? ⟨g, k, none⟩ = false) ∧ ∀ p ∈ ps, SnF w g p.1 p.2 := by
  rcases h.row.2 with ⟨_, e⟩ | ⟨g, cap, cur, e, hB, hh, hc, hm, hs, ht⟩
  · omega
  · cases e
    have hg : g < w.heap.size := (Array.getElem?_eq_some_iff.1 hh).1
    have hfr : ∀ k, w.frozen? ⟨g, k, none⟩ = false := fun k => h.row.frozenAt k
    have hcl := cellsS_len ps
    have hl := h.len
    refine ⟨g, rfl, hB, hg, hc, fun k p hk => ?_, hfr, fun p hp => ?_⟩
    · have hkl := (List.getElem?_eq_some_iff.1 hk).1
      obtain ⟨h1, h2⟩ := cellsS_get ps k p hk
      exact ⟨(h.row.cellAt (k * 2) (by omega)).trans h1, (h.row.cellAt (k * 2 + 1) (by omega)).trans h2⟩
    · obtain ⟨h1, h2⟩ := h.kd p hp
      have h3 := h.tx p hp
      refine ⟨⟨h1.ext hx, h2, h3.bs⟩, fun ad hn e hk => ?_, fun ad hn e hk => ?_⟩
      · obtain ⟨g', o, e2, hc⟩ := h1.at_ hn
        rw [e] at e2
        cases e2
        obtain ⟨x, hx0⟩ : ∃ x, p.2.1[0]? = some x := ⟨_, List.getElem?_eq_getElem (by rw [h1.len]; exact hn)⟩
        have := World.block_lt_of_cell? _ _ (hc 0 x hx0)
        simp at hk
        subst hk
        simp at this
        omega
      · have h4 := own_apart h3 h.row (by decide)
        unfold txV at h4
        rw [e] at h4
        simp [Value.ownBlock] at h4
        simp at hk
        exact h4 hk
set_option maxHeartbeats 16000000 in
theorem sensesOf_any {w : World} {A : Option Addr} {n c : Nat} {s : List Atr} (h : Stp w A n c s) (hlt : ∀ a ∈ s, a.tx.length ≤ 1000000 ∧ a.ty.length ≤ 1000000) (hn : n ≤ 1000000) :
    Calls Try.prog 19 #[.slice A n c] w (SnO w s) := by
  have hl := h.len
  have H := Kp.mk h
  have HT := Kp.mk hlt
  have HL := Kp.mk hl
  clear h hlt hl
  go_enter Try.func19, Try.ntmps19
  go_wp2_with fail
  go_loopw [3, 8] (fun v iv wr => ∃ (j : Nat) (A' : Option Addr) (c' : Nat) (ps : List SSn), j ≤ n ∧ v = .slice A' j c' ∧ iv = .int .i64 (j : Int) ∧ SnW w wr (.slice A' j c') j ps ∧ ps.map Prod.snd = (s.take j).map snA ∧ Ext w wr) (fun _ iv _ => n - (intOf iv).toNat)
  case atStart => exact ⟨0, none, 0, [], Nat.zero_le _, rfl, rfl, SnW.nil _ _, rfl, Ext.refl _⟩
  case round =>
    obtain ⟨j, A', c', ps, hj, rfl, rfl, hw, hm, hx⟩ := hrel
    have HW := Kp.mk hw
    have HM := Kp.mk hm
    have HX := Kp.mk hx
    clear hw hm
    by_cases hjn : j < n
    · have b1 : (j : Int) < (n : Int) := by omega
      obtain ⟨g, o, T, t, t1, B, m, d, a, rfl, ha, k1, k2, k3, k4, k5, k6⟩ := H.out.get j hjn
      have ham := HT.out a (List.mem_of_getElem? ha)
      have c1 := cell_fwd k1 hx
      have c2 := cell_fwd k2 hx
      have c3 := cell_fwd k3 hx
      obtain ⟨wb, hwb⟩ : ∃ wb, wr.alloc (.cells #[.slice T t t1, .int .u8 (ub a.mark), .slice B m d] 33) = wb := ⟨_, rfl⟩
      have hxb : Ext wr wb := by rw [← hwb]; exact (by (repeat (first | assumption | exact Ext.refl _ | apply Ext.drew | apply Ext.drewN | apply Ext.alloc | refine Ext.trans ?_ (by assumption))); first | done | fail)
      have hbk : Blk wb wr.heap.size 33 #[.slice T t t1, .int .u8 (ub a.mark), .slice B m d] := by rw [← hwb]; exact Blk.new _ _ _
      have HBX : Kp (BxS w wr.heap.size (.slice T t t1) (.int .u8 (ub a.mark)) (.slice B m d) wb) := ⟨⟨hx.trans hxb, hbk, hbk.h.cell 0, hbk.h.cell 2⟩⟩
      have HXB := Kp.mk hxb
      have HP := Kp.mk (fun (W : World) (hW : Ext w W) => Plain_any (k6.ext hW) (by have := k6.len; omega))
      have HKD : Kp (Rd vL w T t t1 a.ty ∧ t ≤ 1000000) := ⟨k4, by have := k4.len; omega⟩
      have HA := Kp.mk ha
      have HWB := Kp.mk hwb
      clear k1 k2 k3 k4 k5 k6 ha ham hwb hx hxb hbk
      generalize ub a.mark = mk at *
      go_wp2_with fail
      rw [HWB.out]
      refine wp_region_held_drew (S := fun W => BxS w wr.heap.size (.slice T t t1) (.int .u8 mk) (.slice B m d) W) (by kernel_rfl) (HBX.out.ext ((Ext.refl _).drew)) (fun hHeld => ?_)
      refine wpAnyH_take (i := 0) (oi := ⟨some 12, _, _, _, _, _⟩) (v := ?_) rfl (by kernel_rfl) (by kernel_rfl) (by kernel_rfl) (fun _ _ _ h => h) (Or.inl ⟨by rfl, ?_⟩) (by assumption) ?_
      rotate_left
      · (intro w hSw; (try dsimp only at hSw); go_simp; try with_reducible rfl)
      try simp only [Act.put, List.setIfInBounds_toArray, List.set_cons_zero, List.set_cons_succ]
      refine wpAnyH_take (i := 1) (oi := ⟨some 13, _, _, _, _, _⟩) (v := ?_) rfl (by kernel_rfl) (by kernel_rfl) (by kernel_rfl) (fun _ _ _ h => h) (Or.inl ⟨by rfl, ?_⟩) (by assumption) ?_
      rotate_left
      · (intro w hSw; (try dsimp only at hSw); go_simp; try with_reducible rfl)
      try simp only [Act.put, List.setIfInBounds_toArray, List.set_cons_zero, List.set_cons_succ]
      refine wpAnyH_take (i := 2) (oi := ⟨some 14, _, _, _, _, _⟩) (v := ?_) rfl (by kernel_rfl) (by kernel_rfl) (by kernel_rfl) (fun _ _ _ h => h) (Or.inl ⟨by rfl, ?_⟩) (by assumption) ?_
      rotate_left
      · (intro w hSw; (try dsimp only at hSw); go_simp; try with_reducible rfl)
      try simp only [Act.put, List.setIfInBounds_toArray, List.set_cons_zero, List.set_cons_succ]
      refine wpAnyH_take (i := 3) (oi := ⟨some 15, _, _, _, _, _⟩) (v := ?_) rfl (by kernel_rfl) (by kernel_rfl) (by kernel_rfl) (fun _ _ _ h => h) (Or.inl ⟨by rfl, ?_⟩) (by assumption) ?_
      rotate_left
      · (intro w hSw; (try dsimp only at hSw); go_simp; try with_reducible rfl)
      try simp only [Act.put, List.setIfInBounds_toArray, List.set_cons_zero, List.set_cons_succ]
      refine wpAnyH_take (i := 4) (oi := ⟨some 16, _, _, _, _, _⟩) (v := ?_) rfl (by kernel_rfl) (by kernel_rfl) (by kernel_rfl) (fun _ _ _ h => h) (Or.inl ⟨by rfl, ?_⟩) (by assumption) ?_
      rotate_left
      · (intro w hSw; (try dsimp only at hSw); go_simp; try with_reducible rfl)
      try simp only [Act.put, List.setIfInBounds_toArray, List.set_cons_zero, List.set_cons_succ]
      refine next_one 5 (by kernel_rfl) rfl (by rfl) fun K' HK' => ?_
      go_simp
      refine (HP.out _ hHeld.1).mono ?_
      rintro e w3 ⟨A3, c3, rfl, hs3, ho3, hx3⟩
      have hB3 := BxS.ext hHeld hx3
      have hR3 : Ext wr w3 := HXB.out.trans (Ext.trans ((Ext.refl wb).drew) hx3)
      clear hHeld hx3
      refine held_go HK' hB3 (fun _ => ?_)
      clear HK'
      try simp only [Act.put, List.setIfInBounds_toArray, List.set_cons_zero, List.set_cons_succ]
      refine next_one 6 (by kernel_rfl) rfl (by rfl) fun K' HK' => ?_
      go_simp
      refine held_go HK' hB3 (fun _ => ?_)
      clear HK'
      try simp only [Act.put, List.setIfInBounds_toArray, List.set_cons_zero, List.set_cons_succ]
      refine next_one 7 (by kernel_rfl) rfl (by rfl) fun K' HK' => ?_
      go_simp
      have hB7 := BxS.ext hB3 ((Ext.refl _).alloc (.cells #[.slice T t t1, .slice A3 (plainL a.tx).length c3] 42))
      refine held_go HK' hB7 (fun _ => ?_)
      clear HK'
      try simp only [Act.put, List.setIfInBounds_toArray, List.set_cons_zero, List.set_cons_succ]
      refine next_one 8 (by kernel_rfl) rfl (by rfl) fun K' HK' => ?_
      refine wp_append_sn (.tmp 12) (.tmp 19) rfl (.slice A' j c') j ps rfl (HW.out.ext (hR3.alloc _)) hB7.1 w3.heap.size 1 (((T, t, t1), (A3, (plainL a.tx).length, c3)), snA a) rfl (by simp [kdV]) (by simp [txV]) HKD.out ((ho3.lower ?_).ext ((Ext.refl _).alloc _)) (by omega) ?_
      · exact (HX.out.trans HXB.out).size
      intro A4 c4 w4 hw4 hx4 hg4
      have hB4 := BxS.grown hB7 hx4 (HW.out.ext (hR3.alloc _)) hg4
      refine held_go HK' hB4 (fun _ => ?_)
      clear HK'
      try simp only [Act.put, List.setIfInBounds_toArray, List.set_cons_zero, List.set_cons_succ]
      refine next_one 9 (by kernel_rfl) rfl (by rfl) fun K' HK' => ?_
      go_simp
      refine held_go HK' hB4 (fun _ => ?_)
      clear HK'
      try simp only [Act.put, List.setIfInBounds_toArray, List.set_cons_zero, List.set_cons_succ]
      refine wpAnyH_done (by kernel_rfl) ?_ _
      have HW4 := Kp.mk hw4
      have HX4 := Kp.mk hx4
      clear hw4 hx4 hs3 ho3 hR3 hB3 hB7 hB4 hg4
      go_wp2_with fail
      go_roundw
      case rel =>
        refine ⟨j + 1, A4, c4, _, by omega, rfl, by go_num, HW4.out, ?_, HX4.out⟩
        rw [List.map_append, HM.out, List.take_add_one, HA.out, List.map_append]
        rfl
      case measure => simp [intOf]; omega
    · obtain rfl : j = n := by omega
      have b1 : ¬ (j : Int) < (j : Int) := by omega
      have hms : ps.map Prod.snd = s.map snA := by rw [HM.out, List.take_of_length_le (by have := HL.out; omega)]
      have HMS := Kp.mk hms
      clear hms hx
      by_cases h0 : j = 0
      · subst h0
        have HS := Kp.mk (SortSn_none A' c')
        have HC := Kp.mk (Compact_none A' c')
        go_wp2_with (first | (go_at_call 22; refine (HS.out _).mono ?_; rintro e w2 ⟨rfl, hw⟩; obtain rfl : wr = w2 := hw.symm) | (go_at_call 24; refine (HC.out _ _).mono ?_; rintro e w2 ⟨rfl, hw⟩; obtain rfl : wr = w2 := hw.symm) | fail)
        go_ret
        have hs0 : s = [] := List.eq_nil_of_length_eq_zero HL.out
        refine ⟨A', 0, c', [], rfl, ⟨rfl, (fun h => absurd h (Nat.lt_irrefl 0)), (fun p h => by cases h)⟩, Nat.zero_le _, List.Pairwise.nil, fun x => by rw [hs0]; rfl, HX.out⟩
      · obtain ⟨g, rfl, hB, hg, hjc, hcells, hfr, hsf⟩ := HW.out.some_ HX.out (by omega)
        have HS := Kp.mk (SortSn_some ps g c' j hsf HW.out.len hg hcells hfr hn)
        have HG := Kp.mk hB
        have HGW := Kp.mk hg
        have HJC := Kp.mk hjc
        clear hcells hfr hsf hB hg hjc
        go_wp2_with fail
        refine HS.out.mono ?_
        rintro e w2 ⟨rfl, qs, hp, hsor, hmd, hcm, hsf⟩
        have hql : qs.length = j := hp.length_eq.trans HW.out.len
        have HC := Kp.mk (Compact_any (c := c') hcm hsf (Nat.lt_of_lt_of_le HGW.out hmd.size) hql hn HJC.out)
        have HP := Kp.mk hp
        have HSO := Kp.mk hsor
        have HMD := Kp.mk hmd
        have HSF := Kp.mk hsf
        have HQL := Kp.mk hql
        clear hp hsor hmd hcm hsf hql
        go_wp2_with fail
        refine HC.out.mono ?_
        rintro e w3 ⟨m, c3, rfl, hm3, hmd3, hcells⟩
        have HM3 := Kp.mk hm3
        have HMD3 := Kp.mk hmd3
        have HCL := Kp.mk hcells
        clear hm3 hmd3 hcells
        go_wp2_with fail
        go_ret
        obtain ⟨r1, r2⟩ := cpt_ris cmpS_is (key := Prod.snd) HSO.out
        have hsub : ∀ p ∈ cpt Prod.snd qs, p ∈ qs := cpt_sub qs
        refine ⟨some ⟨g, 0, none⟩, m, c3, cpt Prod.snd qs, rfl, ⟨HM3.out, fun _ => ⟨g, rfl, HCL.out⟩, fun p hp => ((HSF.out p (hsub p hp)).mds HMD3.out).r⟩, ?_, r1, fun x => ?_, ?_⟩
        · have h1 := cpt_len_le (key := Prod.snd) qs
          have := HM3.out
          have := HQL.out
          have := HL.out
          omega
        · rw [r2 x, (HP.out.map Prod.snd).mem_iff, HMS.out]
        · exact (HMD.out.trans HMD3.out).ext HX.out (fun k hk => by rw [List.mem_singleton.1 hk]; exact HG.out)
end Go.Proofs.Ythookcnkmlmgcaa
