/-
  name: Write, Check.
-/
import Derived.Test.YthookcnkmlmgcaaGreatDoorVYr
namespace Go.Proofs.YthookcnkmlmgcaaGreatDoor
open Go Go.RowKit
set_option maxRecDepth 4000

/-- what Write tells -/
def NbR (w : World) (x : List (List Atr)) (e : Ending) (w' : World) : Prop := (MayN textB x ∧ FreshE w (namB x).length (namB x) e w') ∨ (¬ MayN textB x ∧ e = .returned (.tuple #[.slice none 0 0, err 1]) ∧ Ext w w')
/-- between two rounds -/
structure NbI (w wr : World) (x : List (List Atr)) (j : Nat) (v4 : Value) (P : Nat) : Prop where
  o4 : Own wr w.heap.size v4 P ((x.take j).map stpB).flatten
  may : ∀ s ∈ x.take j, MayS textB s
  ext : Ext w wr
  hP : P ≤ j * 608
set_option maxHeartbeats 8000000 in
theorem Write_any {w : World} {A : Option Addr} {n c : Nat} {x : List (List Atr)} (h : Nam w A n c x) (hT : Tabs8 w) : Calls Tryz.prog 28 #[.slice A n c] w (NbR w x) := by
  have hl := h.len
  by_cases h8 : 8 < n
  · have b2 : (8 : Int) < (n : Int) := by omega
    have HN : Kp (¬ MayN textB x) := ⟨fun hm => by have := hm.hi; omega⟩
    clear h hT hl
    go_enter Tryz.func28, Tryz.ntmps28
    go_wp2_with fail
    go_ret2
    exact .inr ⟨HN.out, rfl, Ext.refl _⟩
  have b2 : ¬ (8 : Int) < (n : Int) := by omega
  have H := Kp.mk h
  have HT := Kp.mk hT
  have HL := Kp.mk hl
  clear h hT hl
  go_enter Tryz.func28, Tryz.ntmps28
  go_wp2_with fail
  go_loopw [4, 15] (fun v4 iv wr => ∃ (j P : Nat) (A4 : Option Addr) (c4 : Nat), j ≤ n ∧ v4 = .slice A4 P c4 ∧ iv = .int .i64 (j : Int) ∧ NbI w wr x j (.slice A4 P c4) P) (fun _ iv _ => n - (intOf iv).toNat)
  case atStart => exact ⟨0, 0, none, 0, Nat.zero_le _, rfl, rfl, ⟨Own.nil _ _, (fun a h => by cases h), Ext.refl _, Nat.zero_le _⟩⟩
  case round =>
    obtain ⟨j, P, A4, c4, hj, rfl, rfl, hI⟩ := hrel
    have HI := Kp.mk hI
    have hP := hI.hP
    clear hI
    by_cases hjn : j < n
    · have b3 : (j : Int) < (n : Int) := by omega
      obtain ⟨g, o, B, m, d, s, rfl, hs, k1, k2⟩ := H.out.get j hjn
      have c1 := cell_fwd k1 HI.out.ext
      have HS := Kp.mk hs
      have HC := Kp.mk (stepBytes_any (k2.ext HI.out.ext) (tabs_ext HT.out HI.out.ext))
      clear k1 k2 hs
      go_wp2_with fail
      refine HC.out.mono ?_
      rintro e w2 (⟨hm, A2, c2, rfl, hs2, ho2, x2⟩ | ⟨hm, rfl, x2⟩)
      · have HM := Kp.mk hm
        have HB2 := Kp.mk hs2
        have X2 := Kp.mk x2
        have hNb : (stpB s).length ≤ 608 := hm.len
        clear hm hs2 ho2 x2 c1
        go_wp2_with (first | (at_builtin; refine wpList_append_bs rfl (.tmp 27) (.tmp 28) rfl w.heap.size _ P _ rfl (HI.out.o4.ext X2.out) A2 (stpB s).length c2 (stpB s) rfl HB2.out (by omega) (P + (stpB s).length) rfl _ rfl w (HI.out.ext.trans X2.out) (Nat.le_refl _) (HI.out.ext.trans X2.out).size ?_; intro A6 c6 w6 ho6 hx6 hap6) | fail)
        go_roundw
        case rel =>
          have htk : x.take (j + 1) = x.take j ++ [s] := by rw [List.take_add_one, HS.out]; rfl
          refine ⟨j + 1, P + (stpB s).length, A6, c6, by omega, by first | rfl | trivial, by go_num, ?_, ?_, hx6, by omega⟩
          · rw [htk, List.map_append, List.flatten_append]
            simpa using ho6
          · intro y hy
            rw [htk] at hy
            rcases List.mem_append.1 hy with hy | hy
            · exact HI.out.may y hy
            · rw [List.mem_singleton.1 hy]; exact HM.out
        case measure => simp [intOf]; omega
      · have HN : Kp (¬ MayN textB x) := ⟨fun h => hm (h.all s (List.mem_of_getElem? HS.out))⟩
        have X2 := Kp.mk x2
        clear hm x2 c1
        go_wp2_with fail
        go_ret2
        exact .inr ⟨HN.out, rfl, HI.out.ext.trans X2.out⟩
    · obtain rfl : j = n := by omega
      have b3 : ¬ (j : Int) < (j : Int) := by omega
      have htk : x.take j = x := List.take_of_length_le (by have := HL.out; omega)
      have HM : Kp (MayN textB x) := ⟨⟨by have := HL.out; omega, by have := HI.out.may; rwa [htk] at this⟩⟩
      have ho := HI.out.o4
      rw [htk] at ho
      have HC := Kp.mk (whole_any 48 (by decide) ho.bs (by omega) _ rfl)
      clear ho htk
      go_wp2_with fail
      refine HC.out.mono ?_
      rintro e w2 ⟨A2, c2, rfl, hs2, ho2, x2⟩
      go_wp2_with fail
      go_ret2
      exact .inl ⟨HM.out, A2, c2, rfl, hs2, ho2.lower HI.out.ext.size, HI.out.ext.trans x2⟩
/-- what Check tells -/
def CkR (w : World) (x : List (List Atr)) (e : Ending) (w' : World) : Prop := Ext w w' ∧ ((MayN textB x ∧ e = .returned .nilIface) ∨ (¬ MayN textB x ∧ e = .returned (err 1)))
theorem Check_any {w : World} {A : Option Addr} {n c : Nat} {x : List (List Atr)} (h : Nam w A n c x) (hT : Tabs8 w) : Calls Tryz.prog 14 #[.slice A n c] w (CkR w x) := by
  have HC := Kp.mk (Write_any h hT)
  clear h hT
  go_enter Tryz.func14, Tryz.ntmps14
  go_wp2_with fail
  refine HC.out.mono ?_
  rintro e w2 (⟨hm, A2, c2, rfl, hs2, ho2, x2⟩ | ⟨hm, rfl, x2⟩)
  · have HM := Kp.mk hm
    clear hm hs2 ho2
    go_wp2_with fail
    go_ret
    exact ⟨x2, .inl ⟨HM.out, rfl⟩⟩
  · have HM := Kp.mk hm
    clear hm
    go_wp2_with fail
    go_ret
    exact ⟨x2, .inr ⟨HM.out, rfl⟩⟩
end Go.Proofs.YthookcnkmlmgcaaGreatDoor
