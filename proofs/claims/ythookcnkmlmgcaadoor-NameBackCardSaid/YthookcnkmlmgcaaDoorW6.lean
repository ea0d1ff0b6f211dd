/-
  name: sensesOf, stepsAlike.
  name: stepsAlike, slices.EqualFunc at names, Alike, Within.
-/
import Derived.Test.YthookcnkmlmgcaaDoorW4
import Derived.Test.YthookcnkmlmgcaaDoorW5
import Derived.Test.YthookcnkmlmgcaaDoorM10
import Derived.Test.YthookcnkmlmgcaaDoorVIm
namespace Go.Proofs.YthookcnkmlmgcaaDoor
open Go Go.RowKit Go.Sort
set_option maxRecDepth 4000

theorem Compact_none (A : Option Addr) (c : Nat) (f : Value) (w : World) : Calls Tryd.prog 71 #[.slice A 0 c, f] w fun e w' => e = .returned (.slice A 0 c) ∧ w' = w := by
  go_enter Tryd.func71, Tryd.ntmps71
  go_wp2_with fail
  go_ret
  exact ⟨rfl, rfl⟩
/-- what sensesOf tells -/
def SnO (w : World) (s : List Atr) (e : Ending) (w' : World) : Prop :=
  ∃ A n c qs, e = .returned (.slice A n c) ∧ SnL w' A n qs ∧ n ≤ s.length ∧ Ris cmpS (qs.map Prod.snd) ∧ (∀ x, x ∈ qs.map Prod.snd ↔ x ∈ s.map snA) ∧ Ext w w'
/-- a row of them as the sort wants it -/
theorem SnW.some_ {w0 w : World} {A : Option Addr} {n c : Nat} {ps : List SSn} (h : SnW w0 w (.slice A n c) n ps) (hx : Ext w0 w) (hn : 0 < n) :
    ∃ g, A = some ⟨g, 0, none⟩ ∧ w0.heap.size ≤ g ∧ g < w.heap.size ∧ n ≤ c ∧ (∀ (k : Nat) (p : SSn), ps[k]? = some p → w.cell? ⟨g, k * 2, none⟩ = some (kdV p.1) ∧ w.cell? ⟨g, k * 2 + 1, none⟩ = some (txV p.1)) ∧ (∀ k, w.frozen? ⟨g, k, none⟩ = false) ∧ ∀ p ∈ ps, SnF w g p.1 p.2 := by
  rcases h.row.2 with ⟨_, e⟩ | ⟨g, cap, cur, e, hB, hh, hc, hm, hs, ht⟩
  · omega
  · cases e
    have hg : g < w.heap.size := (Array.getElem?_eq_some_iff.1 hh).1
    have hfr : ∀ k, w.frozen? ⟨g, k, none⟩ = false := fun k => h.row.frozenAt k
    have hcl := cellsS_len ps
    have hl := h.len
    refine ⟨g, rfl, hB, hg, hc, fun k p hk => ?_, hfr, fun p hp => ?_⟩
    · have hkl := (List.getElem?_eq_some_iff.1 hk).1
      obtain ⟨h1, h2⟩ := cellsS_get ps k p hk
      exact ⟨(h.row.cellAt (k * 2) (by omega)).trans h1, (h.row.cellAt (k * 2 + 1) (by omega)).trans h2⟩
    · obtain ⟨h1, h2⟩ := h.kd p hp
      have h3 := h.tx p hp
      refine ⟨⟨h1.ext hx, h2, h3.bs⟩, fun ad hn e hk => ?_, fun ad hn e hk => ?_⟩
      · obtain ⟨g', o, e2, hc⟩ := h1.at_ hn
        rw [e] at e2
        cases e2
        obtain ⟨x, hx0⟩ : ∃ x, p.2.1[0]? = some x := ⟨_, List.getElem?_eq_getElem (by rw [h1.len]; exact hn)⟩
        have := World.block_lt_of_cell? _ _ (hc 0 x hx0)
        simp at hk
        subst hk
        simp at this
        omega
      · have h4 := own_apart h3 h.row (by decide)
        unfold txV at h4
        rw [e] at h4
        simp [Value.ownBlock] at h4
        simp at hk
        exact h4 hk
set_option maxHeartbeats 16000000 in
theorem sensesOf_any {w : World} {A : Option Addr} {n c : Nat} {s : List Atr} (h : Stp w A n c s) (hlt : ∀ a ∈ s, a.tx.length ≤ 1000000 ∧ a.ty.length ≤ 1000000) (hn : n ≤ 1000000) :
    Calls Tryd.prog 57 #[.slice A n c] w (SnO w s) := by
  have hl := h.len
  have H := Kp.mk h
  have HT := Kp.mk hlt
  have HL := Kp.mk hl
  clear h hlt hl
  go_enter Tryd.func57, Tryd.ntmps57
  go_wp2_with fail
  go_loopw [3, 8] (fun v iv wr => ∃ (j : Nat) (A' : Option Addr) (c' : Nat) (ps : List SSn), j ≤ n ∧ v = .slice A' j c' ∧ iv = .int .i64 (j : Int) ∧ SnW w wr (.slice A' j c') j ps ∧ ps.map Prod.snd = (s.take j).map snA ∧ Ext w wr) (fun _ iv _ => n - (intOf iv).toNat)
  case atStart => exact ⟨0, none, 0, [], Nat.zero_le _, rfl, rfl, SnW.nil _ _, rfl, Ext.refl _⟩
  case round =>
    obtain ⟨j, A', c', ps, hj, rfl, rfl, hw, hm, hx⟩ := hrel
    have HW := Kp.mk hw
    have HM := Kp.mk hm
    have HX := Kp.mk hx
    clear hw hm
    by_cases hjn : j < n
    · have b1 : (j : Int) < (n : Int) := by omega
      obtain ⟨g, o, T, t, t1, B, m, d, a, rfl, ha, k1, k2, k3, k4, k5, k6⟩ := H.out.get j hjn
      have ham := HT.out a (List.mem_of_getElem? ha)
      have c1 := cell_fwd k1 hx
      have c2 := cell_fwd k2 hx
      have c3 := cell_fwd k3 hx
      obtain ⟨wb, hwb⟩ : ∃ wb, wr.alloc (.cells #[.slice T t t1, .int .u8 (ub a.mark), .slice B m d] 42) = wb := ⟨_, rfl⟩
      have hxb : Ext wr wb := by rw [← hwb]; exact (by (repeat (first | assumption | exact Ext.refl _ | apply Ext.drew | apply Ext.drewN | apply Ext.alloc | refine Ext.trans ?_ (by assumption))); first | done | fail)
      have hbk : Blk wb wr.heap.size 42 #[.slice T t t1, .int .u8 (ub a.mark), .slice B m d] := by rw [← hwb]; exact Blk.new _ _ _
      have HBX : Kp (BxS w wr.heap.size (.slice T t t1) (.int .u8 (ub a.mark)) (.slice B m d) wb) := ⟨⟨hx.trans hxb, hbk, hbk.h.cell 0, hbk.h.cell 2⟩⟩
      have HXB := Kp.mk hxb
      have HP := Kp.mk (fun (W : World) (hW : Ext w W) => Plain_any (k6.ext hW) (by have := k6.len; omega))
      have HKD : Kp (Rd vL w T t t1 a.ty ∧ t ≤ 1000000) := ⟨k4, by have := k4.len; omega⟩
      have HA := Kp.mk ha
      have HWB := Kp.mk hwb
      clear k1 k2 k3 k4 k5 k6 ha ham hwb hx hxb hbk
      generalize ub a.mark = mk at *
      go_wp2_with fail
      rw [HWB.out]
      refine wp_region_held_drew (S := fun W => BxS w wr.heap.size (.slice T t t1) (.int .u8 mk) (.slice B m d) W) (by kernel_rfl) (HBX.out.ext ((Ext.refl _).drew)) (fun hHeld => ?_)
      refine wpAnyH_take (i := 0) (oi := ⟨some 12, _, _, _, _, _⟩) (v := ?_) rfl (by kernel_rfl) (by kernel_rfl) (by kernel_rfl) (fun _ _ _ h => h) (Or.inl ⟨by rfl, ?_⟩) (by assumption) ?_
      rotate_left
      · (intro w hSw; (try dsimp only at hSw); go_simp; try with_reducible rfl)
      try simp only [Act.put, List.setIfInBounds_toArray, List.set_cons_zero, List.set_cons_succ]
      refine wpAnyH_take (i := 1) (oi := ⟨some 13, _, _, _, _, _⟩) (v := ?_) rfl (by kernel_rfl) (by kernel_rfl) (by kernel_rfl) (fun _ _ _ h => h) (Or.inl ⟨by rfl, ?_⟩) (by assumption) ?_
      rotate_left
      · (intro w hSw; (try dsimp only at hSw); go_simp; try with_reducible rfl)
      try simp only [Act.put, List.setIfInBounds_toArray, List.set_cons_zero, List.set_cons_succ]
      refine wpAnyH_take (i := 2) (oi := ⟨some 14, _, _, _, _, _⟩) (v := ?_) rfl (by kernel_rfl) (by kernel_rfl) (by kernel_rfl) (fun _ _ _ h => h) (Or.inl ⟨by rfl, ?_⟩) (by assumption) ?_
      rotate_left
      · (intro w hSw; (try dsimp only at hSw); go_simp; try with_reducible rfl)
      try simp only [Act.put, List.setIfInBounds_toArray, List.set_cons_zero, List.set_cons_succ]
      refine wpAnyH_take (i := 3) (oi := ⟨some 15, _, _, _, _, _⟩) (v := ?_) rfl (by kernel_rfl) (by kernel_rfl) (by kernel_rfl) (fun _ _ _ h => h) (Or.inl ⟨by rfl, ?_⟩) (by assumption) ?_
      rotate_left
      · (intro w hSw; (try dsimp only at hSw); go_simp; try with_reducible rfl)
      try simp only [Act.put, List.setIfInBounds_toArray, List.set_cons_zero, List.set_cons_succ]
      refine wpAnyH_take (i := 4) (oi := ⟨some 16, _, _, _, _, _⟩) (v := ?_) rfl (by kernel_rfl) (by kernel_rfl) (by kernel_rfl) (fun _ _ _ h => h) (Or.inl ⟨by rfl, ?_⟩) (by assumption) ?_
      rotate_left
      · (intro w hSw; (try dsimp only at hSw); go_simp; try with_reducible rfl)
      try simp only [Act.put, List.setIfInBounds_toArray, List.set_cons_zero, List.set_cons_succ]
      refine next_one 5 (by kernel_rfl) rfl (by rfl) fun K' HK' => ?_
      go_simp
      refine (HP.out _ hHeld.1).mono ?_
      rintro e w3 ⟨A3, c3, rfl, hs3, ho3, hx3⟩
      have hB3 := BxS.ext hHeld hx3
      have hR3 : Ext wr w3 := HXB.out.trans (Ext.trans ((Ext.refl wb).drew) hx3)
      clear hHeld hx3
      refine held_go HK' hB3 (fun _ => ?_)
      clear HK'
      try simp only [Act.put, List.setIfInBounds_toArray, List.set_cons_zero, List.set_cons_succ]
      refine next_one 6 (by kernel_rfl) rfl (by rfl) fun K' HK' => ?_
      go_simp
      refine held_go HK' hB3 (fun _ => ?_)
      clear HK'
      try simp only [Act.put, List.setIfInBounds_toArray, List.set_cons_zero, List.set_cons_succ]
      refine next_one 7 (by kernel_rfl) rfl (by rfl) fun K' HK' => ?_
      go_simp
      have hB7 := BxS.ext hB3 ((Ext.refl _).alloc (.cells #[.slice T t t1, .slice A3 (plainL a.tx).length c3] 96))
      refine held_go HK' hB7 (fun _ => ?_)
      clear HK'
      try simp only [Act.put, List.setIfInBounds_toArray, List.set_cons_zero, List.set_cons_succ]
      refine next_one 8 (by kernel_rfl) rfl (by rfl) fun K' HK' => ?_
      refine wp_append_sn (.tmp 12) (.tmp 19) rfl (.slice A' j c') j ps rfl (HW.out.ext (hR3.alloc _)) hB7.1 w3.heap.size 1 (((T, t, t1), (A3, (plainL a.tx).length, c3)), snA a) rfl (by simp [kdV]) (by simp [txV]) HKD.out ((ho3.lower ?_).ext ((Ext.refl _).alloc _)) (by omega) ?_
      · exact (HX.out.trans HXB.out).size
      intro A4 c4 w4 hw4 hx4 hg4
      have hB4 := BxS.grown hB7 hx4 (HW.out.ext (hR3.alloc _)) hg4
      refine held_go HK' hB4 (fun _ => ?_)
      clear HK'
      try simp only [Act.put, List.setIfInBounds_toArray, List.set_cons_zero, List.set_cons_succ]
      refine next_one 9 (by kernel_rfl) rfl (by rfl) fun K' HK' => ?_
      go_simp
      refine held_go HK' hB4 (fun _ => ?_)
      clear HK'
      try simp only [Act.put, List.setIfInBounds_toArray, List.set_cons_zero, List.set_cons_succ]
      refine wpAnyH_done (by kernel_rfl) ?_ _
      have HW4 := Kp.mk hw4
      have HX4 := Kp.mk hx4
      clear hw4 hx4 hs3 ho3 hR3 hB3 hB7 hB4 hg4
      go_wp2_with fail
      go_roundw
      case rel =>
        refine ⟨j + 1, A4, c4, _, by omega, rfl, by go_num, HW4.out, ?_, HX4.out⟩
        rw [List.map_append, HM.out, List.take_add_one, HA.out, List.map_append]
        rfl
      case measure => simp [intOf]; omega
    · obtain rfl : j = n := by omega
      have b1 : ¬ (j : Int) < (j : Int) := by omega
      have hms : ps.map Prod.snd = s.map snA := by rw [HM.out, List.take_of_length_le (by have := HL.out; omega)]
      have HMS := Kp.mk hms
      clear hms hx
      by_cases h0 : j = 0
      · subst h0
        have HS := Kp.mk (SortSn_none A' c')
        have HC := Kp.mk (Compact_none A' c')
        go_wp2_with (first | (go_at_call 69; refine (HS.out _).mono ?_; rintro e w2 ⟨rfl, hw⟩; obtain rfl : wr = w2 := hw.symm) | (go_at_call 71; refine (HC.out _ _).mono ?_; rintro e w2 ⟨rfl, hw⟩; obtain rfl : wr = w2 := hw.symm) | fail)
        go_ret
        have hs0 : s = [] := List.eq_nil_of_length_eq_zero HL.out
        refine ⟨A', 0, c', [], rfl, ⟨rfl, (fun h => absurd h (Nat.lt_irrefl 0)), (fun p h => by cases h)⟩, Nat.zero_le _, List.Pairwise.nil, fun x => by rw [hs0]; rfl, HX.out⟩
      · obtain ⟨g, rfl, hB, hg, hjc, hcells, hfr, hsf⟩ := HW.out.some_ HX.out (by omega)
        have HS := Kp.mk (SortSn_some ps g c' j hsf HW.out.len hg hcells hfr hn)
        have HG := Kp.mk hB
        have HGW := Kp.mk hg
        have HJC := Kp.mk hjc
        clear hcells hfr hsf hB hg hjc
        go_wp2_with fail
        refine HS.out.mono ?_
        rintro e w2 ⟨rfl, qs, hp, hsor, hmd, hcm, hsf⟩
        have hql : qs.length = j := hp.length_eq.trans HW.out.len
        have HC := Kp.mk (Compact_any (c := c') hcm hsf (Nat.lt_of_lt_of_le HGW.out hmd.size) hql hn HJC.out)
        have HP := Kp.mk hp
        have HSO := Kp.mk hsor
        have HMD := Kp.mk hmd
        have HSF := Kp.mk hsf
        have HQL := Kp.mk hql
        clear hp hsor hmd hcm hsf hql
        go_wp2_with fail
        refine HC.out.mono ?_
        rintro e w3 ⟨m, c3, rfl, hm3, hmd3, hcells⟩
        have HM3 := Kp.mk hm3
        have HMD3 := Kp.mk hmd3
        have HCL := Kp.mk hcells
        clear hm3 hmd3 hcells
        go_wp2_with fail
        go_ret
        obtain ⟨r1, r2⟩ := cpt_ris cmpS_is (key := Prod.snd) HSO.out
        have hsub : ∀ p ∈ cpt Prod.snd qs, p ∈ qs := cpt_sub qs
        refine ⟨some ⟨g, 0, none⟩, m, c3, cpt Prod.snd qs, rfl, ⟨HM3.out, fun _ => ⟨g, rfl, HCL.out⟩, fun p hp => ((HSF.out p (hsub p hp)).mds HMD3.out).r⟩, ?_, r1, fun x => ?_, ?_⟩
        · have h1 := cpt_len_le (key := Prod.snd) qs
          have := HM3.out
          have := HQL.out
          have := HL.out
          omega
        · rw [r2 x, (HP.out.map Prod.snd).mem_iff, HMS.out]
        · exact (HMD.out.trans HMD3.out).ext HX.out (fun k hk => by rw [List.mem_singleton.1 hk]; exact HG.out)
end Go.Proofs.YthookcnkmlmgcaaDoor
namespace Go.Proofs.YthookcnkmlmgcaaDoor
open Go Go.RowKit Go.Sort
set_option maxRecDepth 4000

set_option maxHeartbeats 4000000 in
theorem stepsAlike_any {w : World} {A B : Option Addr} {n c m d : Nat} {s t : List Atr} (h : Stp w A n c s) (h' : Stp w B m d t) (hs : ∀ a ∈ s, a.tx.length ≤ 1000000 ∧ a.ty.length ≤ 1000000) (ht : ∀ a ∈ t, a.tx.length ≤ 1000000 ∧ a.ty.length ≤ 1000000) (hn : n ≤ 1000000) (hm : m ≤ 1000000) :
    Calls Tryd.prog 40 #[.slice A n c, .slice B m d] w fun e w' => e = .returned (.bool (alS s t)) ∧ Ext w w' := by
  have H1 := Kp.mk (sensesOf_any h hs hn)
  have H2 := Kp.mk (fun (W : World) (hW : Ext w W) => sensesOf_any (h'.ext hW) ht hm)
  have HN : Kp (s.length ≤ 1000000) := ⟨by rw [h.len]; exact hn⟩
  clear h h' hs ht hn hm
  go_enter Tryd.func40, Tryd.ntmps40
  go_wp2_with fail
  refine H1.out.mono ?_
  rintro e w1 ⟨A1, n1, c1, qs, rfl, hl1, hn1, hr1, hm1, x1⟩
  have L1 := Kp.mk hl1
  have N1 := Kp.mk hn1
  have R1 := Kp.mk hr1
  have M1 := Kp.mk hm1
  have X1 := Kp.mk x1
  clear hl1 hn1 hr1 hm1 x1
  go_wp2_with fail
  refine (H2.out _ X1.out).mono ?_
  rintro e w2 ⟨A2, n2, c2, ks, rfl, hl2, hn2, hr2, hm2, x2⟩
  have L2 := Kp.mk hl2
  have R2 := Kp.mk hr2
  have M2 := Kp.mk hm2
  have X2 := Kp.mk x2
  clear hl2 hn2 hr2 hm2 x2
  have HE := Kp.mk (EqSense_any (c := c1) (d := c2) (L1.out.ext X2.out) L2.out (Nat.le_trans N1.out HN.out))
  have HA := Kp.mk (alS_ris R1.out R2.out M1.out M2.out)
  rw [← HA.out] at HE
  clear HA
  go_wp2_with fail
  refine HE.out.mono ?_
  rintro e w3 ⟨rfl, x3⟩
  go_wp2_with fail
  go_ret
  exact ⟨rfl, (X1.out.trans X2.out).trans x3⟩
/-- a name whose parts are not too long -/
structure FitN (x : List (List Atr)) : Prop where
  hi : x.length ≤ 1000000
  all : ∀ s ∈ x, s.length ≤ 1000000 ∧ ∀ a ∈ s, a.tx.length ≤ 1000000 ∧ a.ty.length ≤ 1000000
theorem LightP.fit {x : List (List Atr)} (h : LightP x) : FitN x := by
  refine ⟨by have := h.hi; omega, fun s hs => ?_⟩
  obtain ⟨i, hi⟩ := List.getElem?_of_mem hs
  obtain ⟨h1, h2⟩ := h.all i s hi
  refine ⟨by omega, fun a ha => ?_⟩
  obtain ⟨j, hj⟩ := List.getElem?_of_mem ha
  have := h2 j a hj
  omega
theorem FitN.take {x : List (List Atr)} (h : FitN x) (k : Nat) : FitN (x.take k) := by
  refine ⟨?_, fun s hs => h.all s (List.mem_of_mem_take hs)⟩
  rw [List.length_take]
  have := h.hi
  omega
set_option maxHeartbeats 8000000 in
theorem EqName_any {w : World} {A B : Option Addr} {n c m d : Nat} {x y : List (List Atr)} (h : Nam w A n c x) (h' : Nam w B m d y) (hx : FitN x) (hy : FitN y) :
    Calls Tryd.prog 39 #[.slice A n c, .slice B m d, .func (.func 40) #[] #[]] w fun e w' => e = .returned (.bool (alN x y)) ∧ Ext w w' := by
  have hl := h.len
  have hl' := h'.len
  obtain ⟨D, hD⟩ : ∃ D, alN x y = D := ⟨_, rfl⟩
  rw [hD]
  by_cases hnm : n = m
  · subst hnm
    have HD := Kp.mk hD
    have H1 := Kp.mk h
    have H2 := Kp.mk h'
    have HL := Kp.mk hl
    have HL' := Kp.mk hl'
    have FX := Kp.mk hx
    have FY := Kp.mk hy
    have hn1 : n ≤ 1000000 := by have := hx.hi; omega
    clear h h' hl hl' hD hx hy
    go_enter Tryd.func39, Tryd.ntmps39
    go_wp2_with fail
    go_loopw [17] (fun iv wr => ∃ j : Nat, j ≤ n ∧ iv = .int .i64 (j : Int) ∧ (∀ i, i < j → alS (x.getD i []) (y.getD i []) = true) ∧ Ext w wr) (fun iv _ => n - (intOf iv).toNat)
    case atStart => exact ⟨0, Nat.zero_le _, rfl, (fun i hi => absurd hi (Nat.not_lt_zero _)), Ext.refl _⟩
    case round =>
      obtain ⟨j, hj, rfl, hq, hxw⟩ := hrel
      have HQ := Kp.mk hq
      have HX := Kp.mk hxw
      clear hq
      by_cases hlt : j < n
      · have b1 : (j : Int) < (n : Int) := by omega
        obtain ⟨g, o, B1, m1, d1, s, rfl, hs, k1, hst⟩ := H1.out.get j hlt
        obtain ⟨g', o', B2, m2, d2, t, rfl, ht, k2, htt⟩ := H2.out.get j hlt
        have c1 := cell_fwd k1 hxw
        have c2 := cell_fwd k2 hxw
        have fs := FX.out.all s (List.mem_of_getElem? hs)
        have ft := FY.out.all t (List.mem_of_getElem? ht)
        have HC := Kp.mk (stepsAlike_any (hst.ext hxw) (htt.ext hxw) fs.2 ft.2 (by have := hst.len; omega) (by have := htt.len; omega))
        have es : x.getD j [] = s := by rw [List.getD_eq_getElem?_getD, hs]; rfl
        have et : y.getD j [] = t := by rw [List.getD_eq_getElem?_getD, ht]; rfl
        have ES := Kp.mk es
        have ET := Kp.mk et
        clear hst htt hs ht k1 k2 fs ft es et hxw
        by_cases he : alS s t = true
        · have HE := Kp.mk he
          rw [he] at HC
          clear he
          go_wp2_with (first | (go_at_call 40; refine HC.out.mono ?_; rintro e w2 ⟨rfl, hx2⟩) | fail)
          go_roundw
          case rel =>
            refine ⟨j + 1, by omega, by go_num, fun i hi => ?_, HX.out.trans hx2⟩
            by_cases e : i = j
            · subst e
              rw [ES.out, ET.out]
              exact HE.out
            · exact HQ.out i (by omega)
          case measure => simp [intOf]; omega
        · have he' : alS s t = false := by cases h : alS s t <;> simp_all
          have HE : Kp (D = false) := ⟨by
            rw [← HD.out]
            cases h : alN x y with
            | false => rfl
            | true =>
              have := (alN_iff.1 h).2 j (by rw [HL.out]; exact hlt)
              rw [ES.out, ET.out, he'] at this
              exact this.symm⟩
          rw [he'] at HC
          clear he he'
          go_wp2_with (first | (go_at_call 40; refine HC.out.mono ?_; rintro e w2 ⟨rfl, hx2⟩) | fail)
          go_ret
          exact ⟨by rw [HE.out]; rfl, HX.out.trans hx2⟩
      · obtain rfl : j = n := by omega
        have b1 : ¬ (j : Int) < (j : Int) := by omega
        have HE : Kp (D = true) := ⟨by
          rw [← HD.out, alN_iff]
          exact ⟨by rw [HL.out, HL'.out], fun i hi => HQ.out i (by have := HL.out; omega)⟩⟩
        clear hxw
        go_wp2_with fail
        go_ret
        exact ⟨by rw [HE.out]; rfl, HX.out⟩
  · have hd : D = false := by
      rw [← hD]
      cases h : alN x y with
      | false => rfl
      | true => exact absurd (alN_len h) (by omega)
    subst hd
    have b1 : ((n : Int) == (m : Int)) = false := beq_eq_false_iff_ne.2 (by omega)
    have b2 : ((n : Int) != (m : Int)) = true := by rw [bne, b1]; rfl
    clear h h' hl hl' hD hx hy
    go_enter Tryd.func39, Tryd.ntmps39
    go_wp2_with fail
    go_ret
    exact ⟨rfl, Ext.refl _⟩
theorem Alike_any {w : World} {A B : Option Addr} {n c m d : Nat} {x y : List (List Atr)} (h : Nam w A n c x) (h' : Nam w B m d y) (hx : FitN x) (hy : FitN y) :
    Calls Tryd.prog 25 #[.slice A n c, .slice B m d] w fun e w' => e = .returned (.bool (alN x y)) ∧ Ext w w' := by
  have HC := Kp.mk (EqName_any h h' hx hy)
  clear h h' hx hy
  generalize alN x y = D at *
  go_enter Tryd.func25, Tryd.ntmps25
  go_wp2_with (first | (go_at_call 39; refine HC.out.mono ?_; rintro e w2 ⟨rfl, hx2⟩) | fail)
  go_ret
  exact ⟨rfl, hx2⟩
theorem Within_any {w : World} {A B : Option Addr} {n c m d : Nat} {x y : List (List Atr)} (h : Nam w A n c x) (h' : Nam w B m d y) (hx : FitN x) (hy : FitN y) :
    Calls Tryd.prog 14 #[.slice A n c, .slice B m d] w fun e w' => e = .returned (.bool (wiN x y)) ∧ Ext w w' := by
  have hl := h.len
  have hl' := h'.len
  have hcap := h.cap
  by_cases hmn : m ≤ n
  · have b1 : (m : Int) ≤ (n : Int) := by omega
    have e : wiN x y = alN (x.take m) y := by unfold wiN; rw [hl, hl', decide_eq_true hmn, Bool.true_and]
    rw [e]
    have hup := fun W => run_upto (P := Tryd.prog) A n c 23 43 Tryd.underlying23 szSt m (m : Int) rfl (by omega) W
    have HC := Kp.mk (Alike_any (h.take m hmn) h' (hx.take m) hy)
    clear h h' hx hy hl hl' e hcap
    generalize alN (x.take m) y = D at *
    go_enter Tryd.func14, Tryd.ntmps14
    go_wp2_with (first | (go_at_call 25; refine HC.out.mono ?_; rintro e w2 ⟨rfl, hx2⟩) | fail)
    go_ret
    exact ⟨rfl, hx2⟩
  · have b1 : ¬ (m : Int) ≤ (n : Int) := by omega
    have e : wiN x y = false := by unfold wiN; rw [hl, hl', decide_eq_false hmn, Bool.false_and]
    rw [e]
    clear h h' hx hy hl hl' e hcap
    go_enter Tryd.func14, Tryd.ntmps14
    go_wp2_with fail
    go_ret
    exact ⟨rfl, Ext.refl _⟩
end Go.Proofs.YthookcnkmlmgcaaDoor
