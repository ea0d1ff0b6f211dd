/-
  The reference's Write.
-/
import Derived.Test.YthookcnkmlmgcaaGreatDoorVYt
import Derived.Test.YthookcnkmlmgcaaGreatDoorVYs
import Derived.Test.YthookcnkmlmgcaaGreatDoorM11
namespace Go.Proofs.YthookcnkmlmgcaaGreatDoor
open Go Go.RowKit
set_option maxRecDepth 4000

theorem less_cmp : ∀ a b : List (BitVec 8), Op.bytesLess (a.map UInt8.ofBitVec) (b.map UInt8.ofBitVec) = decide (cmpB a b < 0)
  | [], [] => rfl
  | [], _ :: _ => rfl
  | _ :: _, [] => rfl
  | x :: a, y :: b => by
    have ih := less_cmp a b
    rw [List.map_cons, List.map_cons]
    show (decide (UInt8.ofBitVec x < UInt8.ofBitVec y) || (UInt8.ofBitVec x == UInt8.ofBitVec y && Op.bytesLess (a.map UInt8.ofBitVec) (b.map UInt8.ofBitVec))) = decide ((if x.toNat < y.toNat then (-1 : Int) else if y.toNat < x.toNat then 1 else cmpB a b) < 0)
    rw [ih]
    have e1 : (UInt8.ofBitVec x < UInt8.ofBitVec y) ↔ x.toNat < y.toNat := UInt8.lt_iff_toNat_lt
    by_cases h1 : x.toNat < y.toNat
    · rw [if_pos h1]
      simp [e1, h1]
    · rw [if_neg h1]
      by_cases h2 : y.toNat < x.toNat
      · rw [if_pos h2]
        have hne : UInt8.ofBitVec x ≠ UInt8.ofBitVec y := fun e => by
          have := congrArg UInt8.toNat e
          have h3 : x.toNat = y.toNat := this
          omega
        simp [e1, h1, hne]
      · rw [if_neg h2]
        have hxy : x = y := BitVec.eq_of_toNat_eq (by omega)
        subst hxy
        simp [e1]
theorem str_less (a b : List (BitVec 8)) : Op.bytesLess (strOf a).toList (strOf b).toList = decide (cmpB a b < 0) := by rw [strOf_toList, strOf_toList, less_cmp]
/-- what the reference's Write tells -/
def RwR (w : World) (x : List (List Atr)) (e : Ending) (w' : World) : Prop := (MayN textB x ∧ FreshT w (namB x).length (namB x) e w') ∨ (¬ MayN textB x ∧ e = .returned (.tuple #[.slice none 0 0, .bool false]) ∧ Ext w w')
/-- between two rounds of the inner loop -/
structure RwI (wo wi : World) (s : List Atr) (k : Nat) (v6 : Value) (P6 : Nat) (lb : List (BitVec 8)) : Prop where
  o6 : Own wi wo.heap.size v6 P6 ((s.take k).map atrB).flatten
  l0 : k = 0 → lb = []
  ls : ∀ (q : Nat) (b : Atr), k = q + 1 → s[q]? = some b → lb = atrB b
  may : ∀ a ∈ s.take k, MayA textB a
  rise : ((s.take k).map atrB).Pairwise Lt8
  ext : Ext wo wi
  hP : P6 ≤ k * 151
theorem RwI.more {wo wi w6 : World} {s : List Atr} {k P6 N : Nat} {v6 v6' : Value} {lb : List (BitVec 8)} {a : Atr} (h : RwI wo wi s k v6 P6 lb) (ha : s[k]? = some a) (hm : MayA textB a) (hlt : k = 0 ∨ cmpB lb (atrB a) < 0) (ho : Own w6 wo.heap.size v6' (P6 + N) (((s.take k).map atrB).flatten ++ atrB a)) (hN : N ≤ 151) (hx : Ext wo w6) : RwI wo w6 s (k + 1) v6' (P6 + N) (atrB a) := by
  have htk : s.take (k + 1) = s.take k ++ [a] := by rw [List.take_add_one, ha]; rfl
  have hkl := (List.getElem?_eq_some_iff.1 ha).1
  refine ⟨?_, (fun e => by omega), ?_, ?_, ?_, hx, by have := h.hP; omega⟩
  · rw [htk, List.map_append, List.flatten_append]
    simpa using ho
  · intro q b e hb
    obtain rfl : k = q := by omega
    rw [ha] at hb
    cases hb
    rfl
  · intro y hy
    rw [htk] at hy
    rcases List.mem_append.1 hy with hy | hy
    · exact h.may y hy
    · rw [List.mem_singleton.1 hy]; exact hm
  · rw [htk, List.map_append]
    refine rise_snoc h.rise fun y hy => ?_
    rw [List.length_map] at hy
    have hlj : (s.take k).length = k := by rw [List.length_take]; omega
    rw [hlj] at hy
    rcases Nat.eq_zero_or_pos k with h0 | h0
    · subst h0
      simp at hy
    · rw [List.getElem?_map, List.getElem?_take, if_pos (by omega)] at hy
      obtain ⟨b, hb, e⟩ := Option.map_eq_some_iff.1 hy
      rw [← e, lt8_cmp, ← h.ls (k - 1) b (by omega) hb]
      exact hlt.resolve_left (by omega)
theorem RwI.no {wo wi : World} {s : List Atr} {k P6 : Nat} {v6 : Value} {lb : List (BitVec 8)} {a : Atr} (h : RwI wo wi s k v6 P6 lb) (ha : s[k]? = some a) (h0 : 0 < k) (hlt : ¬ cmpB lb (atrB a) < 0) : ¬ MayS textB s := fun hm => by
  have hkl := (List.getElem?_eq_some_iff.1 ha).1
  obtain ⟨b, hb⟩ : ∃ b, s[k - 1]? = some b := ⟨_, List.getElem?_eq_getElem (by omega)⟩
  have e := h.ls (k - 1) b (by omega) hb
  have := rise_iff.1 hm.rise (k - 1) (atrB b) (atrB a) (by rw [List.getElem?_map, hb]; rfl) (by rw [show k - 1 + 1 = k by omega, List.getElem?_map, ha]; rfl)
  rw [lt8_cmp, ← e] at this
  exact hlt this
set_option maxHeartbeats 16000000 in
theorem refWrite_any {w : World} {A : Option Addr} {n c : Nat} {x : List (List Atr)} (h : Nam w A n c x) (hf : ∀ s ∈ x, ∀ a ∈ s, a.tx.length ≤ 1000000) : Calls Tryz.prog 18 #[.slice A n c] w (RwR w x) := by
  have hl := h.len
  by_cases h8 : 8 < n
  · have b2 : (8 : Int) < (n : Int) := by omega
    have HN : Kp (¬ MayN textB x) := ⟨fun hm => by have := hm.hi; omega⟩
    clear h hl
    go_enter Tryz.func18, Tryz.ntmps18
    go_wp2_with fail
    go_ret2
    exact .inr ⟨HN.out, rfl, Ext.refl _⟩
  have b2 : ¬ (8 : Int) < (n : Int) := by omega
  have H := Kp.mk h
  have HL := Kp.mk hl
  have HF := Kp.mk hf
  clear h hl hf
  go_enter Tryz.func18, Tryz.ntmps18
  go_wp2_with fail
  go_loopw [4, 5] (fun v4 iv wr => ∃ (j P : Nat) (A4 : Option Addr) (c4 : Nat), j ≤ n ∧ v4 = .slice A4 P c4 ∧ iv = .int .i64 (j : Int) ∧ NbI w wr x j (.slice A4 P c4) P) (fun _ iv _ => n - (intOf iv).toNat)
  case atStart => exact ⟨0, 0, none, 0, Nat.zero_le _, rfl, rfl, ⟨Own.nil _ _, (fun a h => by cases h), Ext.refl _, Nat.zero_le _⟩⟩
  case round =>
    obtain ⟨wo, rfl⟩ : ∃ wo : World, wo = wr := ⟨_, rfl⟩
    obtain ⟨j, P, A4, c4, hj, rfl, rfl, hI⟩ := hrel
    have HI := Kp.mk hI
    have hP := hI.hP
    clear hI
    by_cases hjn : j < n
    · have b3 : (j : Int) < (n : Int) := by omega
      obtain ⟨g, o, B, m, d, s, rfl, hs, k1, k2⟩ := H.out.get j hjn
      have HS := Kp.mk hs
      have HST := Kp.mk (k2.ext HI.out.ext)
      have hm := k2.len
      have HM := Kp.mk hm
      have CW : Kp (∀ W, Ext wo W → W.cell? ⟨g, o + j, none⟩ = some (.slice B m d)) := ⟨fun W hW => cell_fwd k1 (HI.out.ext.trans hW)⟩
      have c1 := CW.out wo (Ext.refl _)
      clear k1 k2 hs
      by_cases h1 : m < 1
      · have b4 : (m : Int) < 1 := by omega
        have HN : Kp (¬ MayN textB x) := ⟨fun h => by have := (h.all s (List.mem_of_getElem? HS.out)).lo; omega⟩
        obtain rfl : m = 0 := by omega
        clear hm h1 b4
        go_wp2_with fail
        go_ret2
        exact .inr ⟨HN.out, rfl, HI.out.ext⟩
      have b4 : ¬ (m : Int) < 1 := by omega
      by_cases h4 : 4 < m
      · have b5 : (4 : Int) < (m : Int) := by omega
        have HN : Kp (¬ MayN textB x) := ⟨fun h => by have := (h.all s (List.mem_of_getElem? HS.out)).hi; omega⟩
        clear hm h1
        go_wp2_with fail
        go_ret2
        exact .inr ⟨HN.out, rfl, HI.out.ext⟩
      have b5 : ¬ (4 : Int) < (m : Int) := by omega
      clear hm
      go_wp2_with fail
      go_loopw [6, 7, 8] (fun v6 v7 kv wi => ∃ (k P6 : Nat) (A6 : Option Addr) (c6 : Nat) (lb : List (BitVec 8)), k ≤ m ∧ v6 = .slice A6 P6 c6 ∧ v7 = .string (strOf lb) ∧ kv = .int .i64 (k : Int) ∧ RwI wo wi s k (.slice A6 P6 c6) P6 lb) (fun _ _ kv _ => m - (intOf kv).toNat)
      case atStart => exact ⟨0, 0, none, 0, [], Nat.zero_le _, rfl, rfl, rfl, ⟨Own.nil _ _, fun _ => rfl, (fun k b e => by omega), (fun a h => by cases h), List.Pairwise.nil, Ext.refl _, Nat.zero_le _⟩⟩
      case round =>
        obtain ⟨k, P6, A6, c6, lb, hk, rfl, rfl, rfl, hJ⟩ := hrel
        have HJ := Kp.mk hJ
        have hP6 := hJ.hP
        have c2 := CW.out _ hJ.ext
        clear hJ
        by_cases hkm : k < m
        · have b6 : (k : Int) < (m : Int) := by omega
          obtain ⟨ga, oa, T, t, t1, Bt, mt, dt, a, rfl, ha, q1, q2, q3, q4, q5, q6⟩ := HST.out.get k hkm
          have e1 := cell_fwd q1 HJ.out.ext
          have e2 := cell_fwd q2 HJ.out.ext
          have e3 := cell_fwd q3 HJ.out.ext
          have HA := Kp.mk ha
          have HC := Kp.mk (refAttr_any (q4.ext HJ.out.ext) q5 (q6.ext HJ.out.ext) (by have := HF.out s (List.mem_of_getElem? HS.out) a (List.mem_of_getElem? ha); have := q6.len; omega))
          clear q1 q2 q3 q4 q5 q6 ha
          go_wp2_with fail
          refine HC.out.mono ?_
          rintro e w2 (⟨hma, A2, c2', rfl, hs2, ho2, x2⟩ | ⟨hma, rfl, x2⟩)
          · have HMA := Kp.mk hma
            have HB2 := Kp.mk hs2
            have X2 := Kp.mk x2
            have hNb : (atrB a).length ≤ 151 := hma.len
            have S2 := fun (W : World) (hW : Ext w2 W) => HB2.out.str hW
            have S2' := S2 w2 (Ext.refl _)
            clear hma hs2 ho2 x2 e1 e2 e3
            by_cases h0 : 0 < k
            · have b7 : (0 : Int) < (k : Int) := by omega
              by_cases hlt : cmpB lb (atrB a) < 0
              · have hbl : Op.bytesLess (strOf lb).toList (strOf (atrB a)).toList = true := by rw [str_less]; exact decide_eq_true hlt
                have HLT := Kp.mk hlt
                clear hlt
                go_wp2_with (first | (at_builtin; refine wpList_append_bs rfl (.tmp 68) (.tmp 69) rfl wo.heap.size _ P6 _ rfl (HJ.out.o6.ext X2.out) A2 (atrB a).length c2' (atrB a) rfl HB2.out (by omega) (P6 + (atrB a).length) rfl _ rfl wo (HJ.out.ext.trans X2.out) (Nat.le_refl _) (HJ.out.ext.trans X2.out).size ?_; intro A8 c8 w8 ho8 hx8 hap8) | fail)
                go_roundw
                case rel => exact ⟨k + 1, P6 + (atrB a).length, A8, c8, atrB a, by omega, by first | rfl | trivial, by first | rfl | trivial, by go_num, HJ.out.more HA.out HMA.out (.inr HLT.out) ho8 hNb hx8⟩
                case measure => simp [intOf]; omega
              · have hbl : Op.bytesLess (strOf lb).toList (strOf (atrB a)).toList = false := by rw [str_less]; exact decide_eq_false hlt
                have HN : Kp (¬ MayN textB x) := ⟨fun h => HJ.out.no HA.out h0 hlt (h.all s (List.mem_of_getElem? HS.out))⟩
                clear hlt
                go_wp2_with fail
                go_ret2
                exact .inr ⟨HN.out, rfl, (HI.out.ext.trans HJ.out.ext).trans X2.out⟩
            · obtain rfl : k = 0 := by omega
              go_wp2_with (first | (at_builtin; refine wpList_append_bs rfl (.tmp 68) (.tmp 69) rfl wo.heap.size _ P6 _ rfl (HJ.out.o6.ext X2.out) A2 (atrB a).length c2' (atrB a) rfl HB2.out (by omega) (P6 + (atrB a).length) rfl _ rfl wo (HJ.out.ext.trans X2.out) (Nat.le_refl _) (HJ.out.ext.trans X2.out).size ?_; intro A8 c8 w8 ho8 hx8 hap8) | fail)
              go_roundw
              case rel => exact ⟨0 + 1, P6 + (atrB a).length, A8, c8, atrB a, by omega, by first | rfl | trivial, by first | rfl | trivial, by go_num, HJ.out.more HA.out HMA.out (.inl rfl) ho8 hNb hx8⟩
              case measure => simp [intOf]; omega
          · have HN : Kp (¬ MayN textB x) := ⟨fun h => hma ((h.all s (List.mem_of_getElem? HS.out)).all a (List.mem_of_getElem? HA.out))⟩
            have X2 := Kp.mk x2
            clear hma x2 e1 e2 e3
            go_wp2_with fail
            go_ret2
            exact .inr ⟨HN.out, rfl, (HI.out.ext.trans HJ.out.ext).trans X2.out⟩
        · obtain rfl : k = m := by omega
          have b6 : ¬ (k : Int) < (k : Int) := by omega
          have htk : s.take k = s := List.take_of_length_le (by have := HM.out; omega)
          have HMS : Kp (MayS textB s) := ⟨⟨by have := HM.out; omega, by have := HM.out; omega, by have := HJ.out.may; rwa [htk] at this, by have := HJ.out.rise; rwa [htk] at this⟩⟩
          have ho := HJ.out.o6
          rw [htk] at ho
          have hlb := ho.len
          have HC := Kp.mk (refElement_ok 49 ho.bs (by omega))
          have hE : Kp (elm 49 (s.map atrB).flatten = stpB s) := ⟨rfl⟩
          have hLE : (stpB s).length ≤ 608 := HMS.out.len
          have hLN : (stpB s).length = hdn P6 + P6 := by unfold stpB; rw [elm_len, hlb]
          have hNb : hdn P6 + P6 ≤ 608 := by omega
          rw [hE.out] at HC
          clear ho htk hlb hLE hLN
          generalize hN : hdn P6 + P6 = N at *
          clear hN
          go_wp2_with fail
          refine HC.out.mono ?_
          rintro e w2 ⟨A2, c2', rfl, hs2, ho2, x2⟩
          have X2 := Kp.mk (HJ.out.ext.trans x2)
          have HB2 := Kp.mk hs2
          clear hs2 ho2 x2
          go_wp2_with (first | (at_builtin; refine wpList_append_bs rfl (.tmp 71) (.tmp 73) rfl w.heap.size _ P _ rfl (HI.out.o4.ext X2.out) A2 N c2' (stpB s) rfl HB2.out (by omega) (P + N) rfl _ rfl w (HI.out.ext.trans X2.out) (Nat.le_refl _) (HI.out.ext.trans X2.out).size ?_; intro A8 c8 w8 ho8 hx8 hap8) | fail)
          go_roundw
          case rel =>
            have htk : x.take (j + 1) = x.take j ++ [s] := by rw [List.take_add_one, HS.out]; rfl
            refine ⟨j + 1, P + N, A8, c8, by omega, by first | rfl | trivial, by go_num, ?_, ?_, hx8, by omega⟩
            · rw [htk, List.map_append, List.flatten_append]
              simpa using ho8
            · intro y hy
              rw [htk] at hy
              rcases List.mem_append.1 hy with hy | hy
              · exact HI.out.may y hy
              · rw [List.mem_singleton.1 hy]; exact HMS.out
          case measure => simp [intOf]; omega
    · obtain rfl : j = n := by omega
      have b3 : ¬ (j : Int) < (j : Int) := by omega
      have htk : x.take j = x := List.take_of_length_le (by have := HL.out; omega)
      have HM : Kp (MayN textB x) := ⟨⟨by have := HL.out; omega, by have := HI.out.may; rwa [htk] at this⟩⟩
      have ho := HI.out.o4
      rw [htk] at ho
      have HC := Kp.mk (refElement_ok 48 ho.bs (by omega))
      have HLN : Kp ((namB x).length = hdn P + P) := ⟨by unfold namB; rw [elm_len, ho.len]⟩
      have X0 := Kp.mk HI.out.ext
      clear ho htk
      go_wp2_with fail
      refine HC.out.mono ?_
      rintro e w2 ⟨A2, c2, rfl, hs2, ho2, x2⟩
      go_wp2_with fail
      go_ret2
      refine .inl ⟨HM.out, A2, c2, ?_, ?_, ?_, X0.out.trans x2⟩
      · rw [HLN.out]; rfl
      · rw [HLN.out]; exact hs2
      · rw [HLN.out]; exact ho2.lower X0.out.size
end Go.Proofs.YthookcnkmlmgcaaGreatDoor
