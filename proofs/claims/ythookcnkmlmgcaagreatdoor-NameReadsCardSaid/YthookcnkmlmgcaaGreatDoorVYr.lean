/-
  name: stepBytes, Write, Check.
-/
import Derived.Test.YthookcnkmlmgcaaGreatDoorVYq
import Derived.Test.YthookcnkmlmgcaaGreatDoorM8
import Derived.Test.YthookcnkmlmgcaaGreatDoorVIf
namespace Go.Proofs.YthookcnkmlmgcaaGreatDoor
open Go Go.RowKit
set_option maxRecDepth 4000

theorem lt8_cmp : ∀ a b : List (BitVec 8), Lt8 a b ↔ cmpB a b < 0
  | [], [] => by simp [Lt8, cmpB, cmpL]
  | [], _ :: _ => by simp [Lt8, cmpB, cmpL]
  | _ :: _, [] => by simp [Lt8, cmpB, cmpL]
  | x :: a, y :: b => by
    have ih := lt8_cmp a b
    unfold Lt8 at *
    rw [List.map_cons, List.map_cons, List.cons_lt_cons_iff]
    show _ ↔ (if x.toNat < y.toNat then (-1 : Int) else if y.toNat < x.toNat then 1 else cmpB a b) < 0
    have e1 : (UInt8.ofBitVec x < UInt8.ofBitVec y) ↔ x.toNat < y.toNat := UInt8.lt_iff_toNat_lt
    by_cases h1 : x.toNat < y.toNat
    · rw [if_pos h1]
      simp [e1, h1]
    · rw [if_neg h1]
      by_cases h2 : y.toNat < x.toNat
      · rw [if_pos h2]
        have hne : UInt8.ofBitVec x ≠ UInt8.ofBitVec y := fun e => by
          have := congrArg UInt8.toNat e
          have h3 : x.toNat = y.toNat := this
          omega
        simp [e1, h1, hne]
      · rw [if_neg h2]
        have hxy : x = y := BitVec.eq_of_toNat_eq (by omega)
        subst hxy
        simp [e1, ih]
/-- one more behind a rising list -/
theorem rise_snoc {l : List (List (BitVec 8))} {b : List (BitVec 8)} (h : l.Pairwise Lt8) (hb : ∀ x, l[l.length - 1]? = some x → Lt8 x b) : (l ++ [b]).Pairwise Lt8 := by
  rw [rise_iff] at h ⊢
  intro k x y hx hy
  have hk := (List.getElem?_eq_some_iff.1 hy).1
  rw [List.length_append, List.length_singleton] at hk
  rw [List.getElem?_append_left (by omega)] at hx
  rcases Nat.lt_or_ge (k + 1) l.length with h1 | h1
  · rw [List.getElem?_append_left h1] at hy
    exact h k x y hx hy
  · rw [List.getElem?_append_right h1, show k + 1 - l.length = 0 by omega] at hy
    simp at hy
    subst hy
    exact hb x (by rw [show l.length - 1 = k by omega]; exact hx)
/-- what stepBytes tells -/
def SbR (w : World) (s : List Atr) (e : Ending) (w' : World) : Prop := (MayS textB s ∧ FreshE w (stpB s).length (stpB s) e w') ∨ (¬ MayS textB s ∧ e = .returned (.tuple #[.slice none 0 0, err 1]) ∧ Ext w w')
/-- between two rounds -/
structure SbI (w wr : World) (s : List Atr) (j : Nat) (v4 : Value) (P : Nat) (v5 : Value) (n5 : Nat) (lb : List (BitVec 8)) : Prop where
  o4 : Own wr w.heap.size v4 P ((s.take j).map atrB).flatten
  o5 : Own wr w.heap.size v5 n5 lb
  dj : Dj v4 v5
  l0 : j = 0 → lb = []
  ls : ∀ (k : Nat) (b : Atr), j = k + 1 → s[k]? = some b → lb = atrB b
  may : ∀ a ∈ s.take j, MayA textB a
  rise : ((s.take j).map atrB).Pairwise Lt8
  ext : Ext w wr
  hP : P ≤ j * 151
set_option maxHeartbeats 8000000 in
theorem stepBytes_any {w : World} {A : Option Addr} {n c : Nat} {s : List Atr} (h : Stp w A n c s) (hT : Tabs8 w) : Calls Tryz.prog 40 #[.slice A n c] w (SbR w s) := by
  have hl := h.len
  by_cases h1 : n < 1
  · have b1 : (n : Int) < 1 := by omega
    have HN : Kp (¬ MayS textB s) := ⟨fun hm => by have := hm.lo; omega⟩
    obtain rfl : n = 0 := by omega
    clear h hT hl h1 b1
    go_enter Tryz.func40, Tryz.ntmps40
    go_wp2_with fail
    go_ret2
    exact .inr ⟨HN.out, rfl, Ext.refl _⟩
  have b1 : ¬ (n : Int) < 1 := by omega
  by_cases h4 : 4 < n
  · have b2 : (4 : Int) < (n : Int) := by omega
    have HN : Kp (¬ MayS textB s) := ⟨fun hm => by have := hm.hi; omega⟩
    clear h hT hl h1
    go_enter Tryz.func40, Tryz.ntmps40
    go_wp2_with fail
    go_ret2
    exact .inr ⟨HN.out, rfl, Ext.refl _⟩
  have b2 : ¬ (4 : Int) < (n : Int) := by omega
  have H := Kp.mk h
  have HT := Kp.mk hT
  have HL := Kp.mk hl
  clear h hT hl
  go_enter Tryz.func40, Tryz.ntmps40
  go_wp2_with fail
  go_loopw [4, 5, 21] (fun v4 v5 iv wr => ∃ (j P n5 : Nat) (A4 A5 : Option Addr) (c4 c5 : Nat) (lb : List (BitVec 8)), j ≤ n ∧ v4 = .slice A4 P c4 ∧ v5 = .slice A5 n5 c5 ∧ iv = .int .i64 (j : Int) ∧ SbI w wr s j (.slice A4 P c4) P (.slice A5 n5 c5) n5 lb) (fun _ _ iv _ => n - (intOf iv).toNat)
  case atStart => exact ⟨0, 0, 0, none, none, 0, 0, [], Nat.zero_le _, rfl, rfl, rfl, ⟨Own.nil _ _, Own.nil _ _, Dj.nil _, fun _ => rfl, (fun k b e => by omega), (fun a h => by cases h), List.Pairwise.nil, Ext.refl _, Nat.zero_le _⟩⟩
  case round =>
    obtain ⟨j, P, n5, A4, A5, c4, c5, lb, hj, rfl, rfl, rfl, hI⟩ := hrel
    have HI := Kp.mk hI
    have hP := hI.hP
    clear hI
    by_cases hjn : j < n
    · have b3 : (j : Int) < (n : Int) := by omega
      obtain ⟨g, o, T, t, t1, B, m, d, a, rfl, ha, k1, k2, k3, k4, k5, k6⟩ := H.out.get j hjn
      have c1 := cell_fwd k1 HI.out.ext
      have c2 := cell_fwd k2 HI.out.ext
      have c3 := cell_fwd k3 HI.out.ext
      obtain ⟨wb, hwb⟩ : ∃ wb, wr.alloc (.cells #[.slice T t t1, .int .u8 (ub a.mark), .slice B m d] 38) = wb := ⟨_, rfl⟩
      have hxb : Ext wr wb := by rw [← hwb]; exact (by (repeat (first | assumption | exact Ext.refl _ | apply Ext.drew | apply Ext.drewN | apply Ext.alloc | refine Ext.trans ?_ (by assumption))); first | done | fail)
      have d0 : wb.cell? ⟨wr.heap.size, 0, none⟩ = some (.slice T t t1) := by rw [← hwb]; simp
      have d1 : wb.cell? ⟨wr.heap.size, 1, none⟩ = some (.int .u8 (ub a.mark)) := by rw [← hwb]; simp
      have d2 : wb.cell? ⟨wr.heap.size, 2, none⟩ = some (.slice B m d) := by rw [← hwb]; simp
      have HXB := Kp.mk hxb
      have HWB := Kp.mk hwb
      have HA := Kp.mk ha
      have HC := Kp.mk (attrBytes_any (k4.ext (HI.out.ext.trans hxb)) k5 (k6.ext (HI.out.ext.trans hxb)) (tabs_ext HT.out (HI.out.ext.trans hxb)))
      clear k1 k2 k3 k4 k5 k6 ha hxb hwb
      go_wp2_with fail
      rw [HWB.out]
      go_wp2_with fail
      refine HC.out.mono ?_
      rintro e w2 (⟨hm, A2, c2', rfl, hs2, ho2, x2⟩ | ⟨hm, rfl, x2⟩)
      · have HM := Kp.mk hm
        have HB2 := Kp.mk hs2
        have HO2 := Kp.mk ho2
        have X2 := Kp.mk (HXB.out.trans x2)
        have hNb : (atrB a).length ≤ 151 := hm.len
        have HCP := Kp.mk (bytesCompare_any (HI.out.o5.ext X2.out).bs HB2.out)
        clear hm hs2 ho2 x2 d0 d1 d2 c1 c2 c3
        by_cases hlt : cmpB lb (atrB a) < 0
        · have hge : ¬ (0 : Int) ≤ cmpB lb (atrB a) := by omega
          have HLT := Kp.mk hlt
          clear hlt
          go_wp2_with fail
          refine HCP.out.mono ?_
          rintro e w3 ⟨rfl, hw⟩
          obtain rfl : w2 = w3 := hw.symm
          go_wp2_with (first | (at_builtin; refine wpList_append_bs rfl (.tmp 38) (.tmp 39) rfl w.heap.size _ P _ rfl (HI.out.o4.ext X2.out) A2 (atrB a).length c2' (atrB a) rfl HB2.out (by omega) (P + (atrB a).length) rfl _ rfl w (HI.out.ext.trans X2.out) (Nat.le_refl _) (HI.out.ext.trans X2.out).size ?_; intro A6 c6 w6 ho6 hx6 hap6) | fail)
          go_roundw
          case rel =>
            have hkeep : Own w6 w.heap.size (.slice A2 (atrB a).length c2') (atrB a).length (atrB a) := hap6.keep (HO2.out.lower (HI.out.ext.trans HXB.out).size) ((HI.out.o4.dj HO2.out HXB.out.size).symm)
            have hdj : Dj (.slice A6 (P + (atrB a).length) c6) (.slice A2 (atrB a).length c2') := hap6.dj (HO2.out.lower (HI.out.ext.trans HXB.out).size) (HI.out.o4.dj HO2.out HXB.out.size)
            have htk : s.take (j + 1) = s.take j ++ [a] := by rw [List.take_add_one, HA.out]; rfl
            refine ⟨j + 1, P + (atrB a).length, (atrB a).length, A6, A2, c6, c2', atrB a, by omega, by first | rfl | trivial, by first | rfl | trivial, by go_num, ?_, hkeep, hdj, (fun e => by omega), ?_, ?_, ?_, hx6, by omega⟩
            · rw [htk, List.map_append, List.flatten_append]
              simpa using ho6
            · intro k b e hb
              obtain rfl : j = k := by omega
              rw [HA.out] at hb
              cases hb
              rfl
            · intro x hx
              rw [htk] at hx
              rcases List.mem_append.1 hx with hx | hx
              · exact HI.out.may x hx
              · rw [List.mem_singleton.1 hx]; exact HM.out
            · rw [htk, List.map_append]
              refine rise_snoc HI.out.rise fun x hx => ?_
              rw [List.length_map] at hx
              have hlj : (s.take j).length = j := by rw [List.length_take]; have := HL.out; omega
              rw [hlj] at hx
              rcases Nat.eq_zero_or_pos j with h0 | h0
              · subst h0
                simp at hx
              · rw [List.getElem?_map, List.getElem?_take, if_pos (by omega)] at hx
                obtain ⟨b, hb, e⟩ := Option.map_eq_some_iff.1 hx
                rw [← e, lt8_cmp, ← HI.out.ls (j - 1) b (by omega) hb]
                exact HLT.out
          case measure => simp [intOf]; omega
        · have hge : (0 : Int) ≤ cmpB lb (atrB a) := by omega
          have HN : Kp (¬ MayS textB s) := ⟨fun hm => by
            rcases Nat.eq_zero_or_pos j with h0 | h0
            · have e := HI.out.l0 h0
              rw [e] at hlt
              have hne : atrB a ≠ [] := HM.out.el.ne
              cases hq : atrB a with
              | nil => exact hne hq
              | cons y t =>
                rw [hq] at hlt
                exact hlt (show (-1 : Int) < 0 by decide)
            · obtain ⟨b, hb⟩ : ∃ b, s[j - 1]? = some b := ⟨_, List.getElem?_eq_getElem (by have := HL.out; omega)⟩
              have e := HI.out.ls (j - 1) b (by omega) hb
              have := rise_iff.1 hm.rise (j - 1) (atrB b) (atrB a) (by rw [List.getElem?_map, hb]; rfl) (by rw [show j - 1 + 1 = j by omega, List.getElem?_map, HA.out]; rfl)
              rw [lt8_cmp, ← e] at this
              exact hlt this⟩
          clear hlt
          go_wp2_with fail
          refine HCP.out.mono ?_
          rintro e w3 ⟨rfl, hw⟩
          obtain rfl : w2 = w3 := hw.symm
          go_wp2_with fail
          go_ret2
          exact .inr ⟨HN.out, rfl, HI.out.ext.trans X2.out⟩
      · have HN : Kp (¬ MayS textB s) := ⟨fun h => hm (h.all a (List.mem_of_getElem? HA.out))⟩
        have X2 := Kp.mk (HXB.out.trans x2)
        clear hm x2 d0 d1 d2 c1 c2 c3
        go_wp2_with fail
        go_ret2
        exact .inr ⟨HN.out, rfl, HI.out.ext.trans X2.out⟩
    · obtain rfl : j = n := by omega
      have b3 : ¬ (j : Int) < (j : Int) := by omega
      have htk : s.take j = s := List.take_of_length_le (by have := HL.out; omega)
      have HM : Kp (MayS textB s) := ⟨⟨by have := HL.out; omega, by have := HL.out; omega, by have := HI.out.may; rwa [htk] at this, by have := HI.out.rise; rwa [htk] at this⟩⟩
      have ho := HI.out.o4
      rw [htk] at ho
      have HC := Kp.mk (whole_any 49 (by decide) ho.bs (by omega) _ rfl)
      clear ho htk
      go_wp2_with fail
      refine HC.out.mono ?_
      rintro e w2 ⟨A2, c2', rfl, hs2, ho2, x2⟩
      go_wp2_with fail
      go_ret2
      exact .inl ⟨HM.out, A2, c2', rfl, hs2, ho2.lower HI.out.ext.size, HI.out.ext.trans x2⟩
end Go.Proofs.YthookcnkmlmgcaaGreatDoor
