/-
  The reference's Text.
-/
import Derived.Test.YthookcnkmlmgcaaGreatDoorVZe
namespace Go.Proofs.YthookcnkmlmgcaaGreatDoor
open Go Go.RowKit
set_option maxRecDepth 4000

theorem sgn_take (x : BitVec 8) (k : Nat) (hk : k < 12) : ((sgns.take (k + 1)).any fun y => y == x) = (((sgns.take k).any fun y => y == x) || (gb sgns k == x)) := by
  have hl : sgns.length = 12 := rfl
  rw [List.take_add_one, List.any_append, List.getElem?_eq_getElem (by omega)]
  simp [gb, show k < sgns.length by omega]
theorem ub_eqb (x y : BitVec 8) : (ub x == ub y) = (y == x) := by
  rw [Bool.eq_iff_iff, beq_iff_eq, beq_iff_eq]
  unfold ub
  constructor
  · intro h
    exact BitVec.eq_of_toNat_eq (by omega)
  · intro h
    rw [h]
theorem lit_sgns (W : World) : Bs (W.alloc (.cells #[.int .u8 32, .int .u8 39, .int .u8 40, .int .u8 41, .int .u8 43, .int .u8 44, .int .u8 45, .int .u8 46, .int .u8 47, .int .u8 58, .int .u8 61, .int .u8 63] 5)) (some ⟨W.heap.size, 0, none⟩) 12 12 sgns := by
  have h := (Blk.new W 5 (bv sgns)).bs 0 12 12 (by decide) (Nat.le_refl _)
  exact h
theorem plain_hi (x : BitVec 8) (h : 128 ≤ x.toNat) : plainB x = false := by
  revert x
  refine all8 ?_
  decide +kernel
theorem all_false {l : List (BitVec 8)} {P : BitVec 8 → Bool} (i : Nat) (hi : i < l.length) (h : P (gb l i) = false) : l.all P = false := by
  rw [List.all_eq_false]
  refine ⟨gb l i, ?_, by rw [h]; decide⟩
  have e1 : gb l i = l[i] := by simp [gb, hi]
  rw [e1]
  exact List.getElem_mem hi
theorem all_true {l : List (BitVec 8)} {P : BitVec 8 → Bool} (h : ∀ i, i < l.length → P (gb l i) = true) : l.all P = true := by
  rw [List.all_eq_true]
  intro x hx
  obtain ⟨i, hi⟩ := List.getElem?_of_mem hx
  have hil := (List.getElem?_eq_some_iff.1 hi).1
  have := h i hil
  rwa [show gb l i = x by unfold gb; rw [List.getD_eq_getElem?_getD, hi]; rfl] at this
set_option maxHeartbeats 4000000 in
theorem refAscii {l : List (BitVec 8)} {A : Option Addr} {n c : Nat} {w : World} (h : Bs w A n c l) (hn : n ≤ 1000000) : Calls Tryz.prog 45 #[.int .u8 22, .slice A n c] w fun e w' => e = .returned (.bool (l.all asciiB)) ∧ Ext w w' := by
  have HR := Kp.mk h
  have hl := h.len
  clear h
  go_enter Tryz.func45, Tryz.ntmps45
  go_wp2_with fail
  go_loopw [5] (fun iv wr => ∃ i : Nat, i ≤ n ∧ iv = .int .i64 (i : Int) ∧ (∀ j, j < i → asciiB (gb l j) = true) ∧ wr = w) (fun iv _ => n - (intOf iv).toNat)
  case atStart => exact ⟨0, Nat.zero_le _, rfl, fun j hj => by omega, rfl⟩
  case round =>
    obtain ⟨i, hi, rfl, hz, rfl⟩ := hrel
    have HZ := Kp.mk hz
    clear hz
    by_cases hlt : i < n
    · obtain ⟨g, o, rfl, hc⟩ := HR.out.s.2.2.2 (by omega)
      have c1 := hc i hlt
      unfold ub at c1
      have b1 : (i : Int) < (n : Int) := by omega
      clear hc
      by_cases h128 : 128 ≤ (gb l i).toNat
      · have hf := all_false (P := asciiB) (l := l) i (by omega) (by unfold asciiB; exact decide_eq_false (by omega))
        have HF := Kp.mk hf
        have d1 : (128 : Int) ≤ ((gb l i).toNat : Int) := by omega
        clear hf
        generalize (gb l i).toNat = x at *
        go_wp2_with fail
        go_ret
        exact ⟨by rw [HF.out]; rfl, Ext.refl _⟩
      · have HT := Kp.mk (show asciiB (gb l i) = true by unfold asciiB; exact decide_eq_true (by omega))
        have d1 : ¬ ((128 : Int) ≤ ((gb l i).toNat : Int)) := by omega
        generalize (gb l i).toNat = x at *
        go_wp2_with fail
        go_roundw
        case rel => exact ⟨i + 1, by omega, by go_num, (fun j hj => by
          by_cases he : j = i
          · subst he
            exact HT.out
          · exact HZ.out j (by omega)), by first | rfl | trivial⟩
        case measure => simp [intOf]; omega
    · obtain rfl : i = n := by omega
      have ht := all_true (P := asciiB) (l := l) (fun j hj => HZ.out j (by omega))
      have HF := Kp.mk ht
      clear ht
      go_wp2_with fail
      go_ret
      exact ⟨by rw [HF.out]; rfl, Ext.refl _⟩
set_option maxHeartbeats 8000000 in
theorem refPlain {l : List (BitVec 8)} {A : Option Addr} {n c : Nat} {w : World} (h : Bs w A n c l) (hn : n ≤ 1000000) : Calls Tryz.prog 45 #[.int .u8 19, .slice A n c] w fun e w' => e = .returned (.bool (l.all plainB)) ∧ Ext w w' := by
  have HR := Kp.mk h
  have hl := h.len
  clear h
  go_enter Tryz.func45, Tryz.ntmps45
  go_wp2_with fail
  go_loopw [5] (fun iv wr => ∃ i : Nat, i ≤ n ∧ iv = .int .i64 (i : Int) ∧ (∀ j, j < i → plainB (gb l j) = true) ∧ Ext w wr) (fun iv _ => n - (intOf iv).toNat)
  case atStart => exact ⟨0, Nat.zero_le _, rfl, fun j hj => by omega, Ext.refl _⟩
  case round =>
    obtain ⟨i, hi, rfl, hz, hxr⟩ := hrel
    have HZ := Kp.mk hz
    have HX := Kp.mk hxr
    clear hz hxr
    by_cases hlt : i < n
    · obtain ⟨g, o, rfl, hc⟩ := (HR.out.ext HX.out).s.2.2.2 (by omega)
      have c1 := hc i hlt
      have b1 : (i : Int) < (n : Int) := by omega
      have hil : i < l.length := by omega
      clear hc
      have hfa : plainB (gb l i) = false → l.all plainB = false := fun h => all_false i hil h
      have HFA := Kp.mk hfa
      clear hfa
      generalize hx : gb l i = x at *
      have HXX := Kp.mk hx
      clear hx
      unfold ub at c1
      by_cases h128 : 128 ≤ x.toNat
      · have HF := Kp.mk (HFA.out (plain_hi x h128))
        have d1 : (128 : Int) ≤ (x.toNat : Int) := by omega
        generalize x.toNat = z at *
        go_wp2_with fail
        go_ret
        exact ⟨by rw [HF.out]; rfl, HX.out⟩
      · have d1 : ¬ ((128 : Int) ≤ (x.toNat : Int)) := by omega
        go_upto_region 10 with fail
        go_cut [7] (fun t wx => t = .bool (rngB x) ∧ wx = wr)
        case first =>
          have hp : rngB x = decide ((97 ≤ x.toNat ∧ x.toNat ≤ 122) ∨ (65 ≤ x.toNat ∧ x.toNat ≤ 90) ∨ (48 ≤ x.toNat ∧ x.toNat ≤ 57)) := rfl
          generalize rngB x = PB at *
          generalize x.toNat = z at *
          by_cases a97 : 97 ≤ z
          · have b97 : (97 : Int) ≤ (z : Int) := by omega
            by_cases a122 : z ≤ 122
            · have b122 : (z : Int) ≤ 122 := by omega
              have hp' : PB = true := by
                rw [hp, decide_eq_true (by omega)]
              subst hp'
              clear hp
              go_wp2_with fail
              go_meet
              exact ⟨rfl, rfl⟩
            · have b122 : ¬ ((z : Int) ≤ 122) := by omega
              by_cases a65 : 65 ≤ z
              · have b65 : (65 : Int) ≤ (z : Int) := by omega
                by_cases a90 : z ≤ 90
                · have b90 : (z : Int) ≤ 90 := by omega
                  have hp' : PB = true := by
                    rw [hp, decide_eq_true (by omega)]
                  subst hp'
                  clear hp
                  go_wp2_with fail
                  go_meet
                  exact ⟨rfl, rfl⟩
                · have b90 : ¬ ((z : Int) ≤ 90) := by omega
                  by_cases a48 : 48 ≤ z
                  · have b48 : (48 : Int) ≤ (z : Int) := by omega
                    by_cases a57 : z ≤ 57
                    · have b57 : (z : Int) ≤ 57 := by omega
                      have hp' : PB = true := by
                        rw [hp, decide_eq_true (by omega)]
                      subst hp'
                      clear hp
                      go_wp2_with fail
                      go_meet
                      exact ⟨rfl, rfl⟩
                    · have b57 : ¬ ((z : Int) ≤ 57) := by omega
                      have hp' : PB = false := by
                        rw [hp, decide_eq_false (by omega)]
                      subst hp'
                      clear hp
                      go_wp2_with fail
                      go_meet
                      exact ⟨rfl, rfl⟩
                  · have b48 : ¬ ((48 : Int) ≤ (z : Int)) := by omega
                    have hp' : PB = false := by
                      rw [hp, decide_eq_false (by omega)]
                    subst hp'
                    clear hp
                    go_wp2_with fail
                    go_meet
                    exact ⟨rfl, rfl⟩
              · have b65 : ¬ ((65 : Int) ≤ (z : Int)) := by omega
                by_cases a48 : 48 ≤ z
                · have b48 : (48 : Int) ≤ (z : Int) := by omega
                  by_cases a57 : z ≤ 57
                  · have b57 : (z : Int) ≤ 57 := by omega
                    have hp' : PB = true := by
                      rw [hp, decide_eq_true (by omega)]
                    subst hp'
                    clear hp
                    go_wp2_with fail
                    go_meet
                    exact ⟨rfl, rfl⟩
                  · have b57 : ¬ ((z : Int) ≤ 57) := by omega
                    have hp' : PB = false := by
                      rw [hp, decide_eq_false (by omega)]
                    subst hp'
                    clear hp
                    go_wp2_with fail
                    go_meet
                    exact ⟨rfl, rfl⟩
                · have b48 : ¬ ((48 : Int) ≤ (z : Int)) := by omega
                  have hp' : PB = false := by
                    rw [hp, decide_eq_false (by omega)]
                  subst hp'
                  clear hp
                  go_wp2_with fail
                  go_meet
                  exact ⟨rfl, rfl⟩
          · have b97 : ¬ ((97 : Int) ≤ (z : Int)) := by omega
            by_cases a65 : 65 ≤ z
            · have b65 : (65 : Int) ≤ (z : Int) := by omega
              by_cases a90 : z ≤ 90
              · have b90 : (z : Int) ≤ 90 := by omega
                have hp' : PB = true := by
                  rw [hp, decide_eq_true (by omega)]
                subst hp'
                clear hp
                go_wp2_with fail
                go_meet
                exact ⟨rfl, rfl⟩
              · have b90 : ¬ ((z : Int) ≤ 90) := by omega
                by_cases a48 : 48 ≤ z
                · have b48 : (48 : Int) ≤ (z : Int) := by omega
                  by_cases a57 : z ≤ 57
                  · have b57 : (z : Int) ≤ 57 := by omega
                    have hp' : PB = true := by
                      rw [hp, decide_eq_true (by omega)]
                    subst hp'
                    clear hp
                    go_wp2_with fail
                    go_meet
                    exact ⟨rfl, rfl⟩
                  · have b57 : ¬ ((z : Int) ≤ 57) := by omega
                    have hp' : PB = false := by
                      rw [hp, decide_eq_false (by omega)]
                    subst hp'
                    clear hp
                    go_wp2_with fail
                    go_meet
                    exact ⟨rfl, rfl⟩
                · have b48 : ¬ ((48 : Int) ≤ (z : Int)) := by omega
                  have hp' : PB = false := by
                    rw [hp, decide_eq_false (by omega)]
                  subst hp'
                  clear hp
                  go_wp2_with fail
                  go_meet
                  exact ⟨rfl, rfl⟩
            · have b65 : ¬ ((65 : Int) ≤ (z : Int)) := by omega
              by_cases a48 : 48 ≤ z
              · have b48 : (48 : Int) ≤ (z : Int) := by omega
                by_cases a57 : z ≤ 57
                · have b57 : (z : Int) ≤ 57 := by omega
                  have hp' : PB = true := by
                    rw [hp, decide_eq_true (by omega)]
                  subst hp'
                  clear hp
                  go_wp2_with fail
                  go_meet
                  exact ⟨rfl, rfl⟩
                · have b57 : ¬ ((z : Int) ≤ 57) := by omega
                  have hp' : PB = false := by
                    rw [hp, decide_eq_false (by omega)]
                  subst hp'
                  clear hp
                  go_wp2_with fail
                  go_meet
                  exact ⟨rfl, rfl⟩
              · have b48 : ¬ ((48 : Int) ≤ (z : Int)) := by omega
                have hp' : PB = false := by
                  rw [hp, decide_eq_false (by omega)]
                subst hp'
                clear hp
                go_wp2_with fail
                go_meet
                exact ⟨rfl, rfl⟩
        case rest =>
          obtain ⟨rfl, rfl⟩ := hcut
          have ep : plainB x = (rngB x || sgnB x) := rfl
          have es : sgnB x = (sgns.take 12).any fun y => y == x := rfl
          have EP := Kp.mk (ep.trans (by rw [es]))
          clear ep es
          have hlit := lit_sgns wc
          have hl2 : ∀ k, k < 12 → wc.heap.size < (wc.alloc (.cells #[.int .u8 32, .int .u8 39, .int .u8 40, .int .u8 41, .int .u8 43, .int .u8 44, .int .u8 45, .int .u8 46, .int .u8 47, .int .u8 58, .int .u8 61, .int .u8 63] 5)).heap.size := fun k _ => by simp
          go_wp2_with fail
          go_loopw [7, 9] (fun okv kv w5 => ∃ k : Nat, k ≤ 12 ∧ kv = .int .i64 (k : Int) ∧ okv = .bool (rngB x || (sgns.take k).any fun y => y == x) ∧ w5 = wc.alloc (.cells #[.int .u8 32, .int .u8 39, .int .u8 40, .int .u8 41, .int .u8 43, .int .u8 44, .int .u8 45, .int .u8 46, .int .u8 47, .int .u8 58, .int .u8 61, .int .u8 63] 5)) (fun _ kv _ => 12 - (intOf kv).toNat)
          case atStart => exact ⟨0, Nat.zero_le _, rfl, by simp, rfl⟩
          case round =>
            obtain ⟨k, hk, rfl, rfl, hw5⟩ := hrel
            by_cases hk12 : k < 12
            · have hst := sgn_take x k hk12
              obtain ⟨_, _, eg, hcc⟩ := hlit.s.2.2.2 (by decide)
              cases eg
              have ck := hcc k hk12
              rw [Nat.zero_add, ← hw5] at ck
              have hq := ub_eqb x (gb sgns k)
              have b2 : (k : Int) < 12 := by omega
              clear hcc hlit
              generalize (rngB x) = R0 at *
              generalize ((sgns.take k).any fun y => y == x) = R1 at *
              generalize hT : ((sgns.take (k + 1)).any fun y => y == x) = R2 at *
              generalize (gb sgns k == x) = D at *
              generalize gb sgns k = y at *
              unfold ub at *
              generalize y.toNat = zy at *
              generalize x.toNat = zx at *
              have HST := Kp.mk hst
              have HTT := Kp.mk hT
              have HW5 := Kp.mk hw5
              clear hst hT hw5 c1
              cases hR : (R0 || R1) with
              | true =>
                have HRR := Kp.mk hR
                clear hR
                go_wp2_with fail
                go_roundw
                case rel => exact ⟨k + 1, by omega, by go_num, by rw [HTT.out, HST.out, ← Bool.or_assoc, HRR.out]; rfl, HW5.out⟩
                case measure => simp [intOf]; omega
              | false =>
                have HRR := Kp.mk hR
                clear hR
                cases D with
                | true =>
                  go_wp2_with fail
                  go_roundw
                  case rel => exact ⟨k + 1, by omega, by go_num, by rw [HTT.out, HST.out, ← Bool.or_assoc, HRR.out]; rfl, HW5.out⟩
                  case measure => simp [intOf]; omega
                | false =>
                  go_wp2_with fail
                  go_roundw
                  case rel => exact ⟨k + 1, by omega, by go_num, by rw [HTT.out, HST.out, ← Bool.or_assoc, HRR.out]; rfl, HW5.out⟩
                  case measure => simp [intOf]; omega
            · obtain rfl : k = 12 := by omega
              have hxa : Ext wc wr := by rw [hw5]; exact (by (repeat (first | assumption | exact Ext.refl _ | apply Ext.drew | apply Ext.drewN | apply Ext.alloc | refine Ext.trans ?_ (by assumption))); first | done | fail)
              have HXA := Kp.mk (HX.out.trans hxa)
              clear hxa hlit hw5
              cases hR : (rngB x || (sgns.take 12).any fun y => y == x) with
              | true =>
                have HRR := Kp.mk (EP.out.trans hR)
                clear hR
                go_wp2_with fail
                go_roundw
                case rel => exact ⟨i + 1, by omega, by go_num, (fun j hj => by
                  by_cases he : j = i
                  · subst he
                    rw [HXX.out]
                    exact HRR.out
                  · exact HZ.out j (by omega)), HXA.out⟩
                case measure => simp [intOf]; omega
              | false =>
                have HF := Kp.mk (HFA.out (EP.out.trans hR))
                clear hR
                go_wp2_with fail
                go_ret
                exact ⟨by rw [HF.out]; rfl, HXA.out⟩
    · obtain rfl : i = n := by omega
      have ht := all_true (P := plainB) (l := l) (fun j hj => HZ.out j (by omega))
      have HF := Kp.mk ht
      clear ht
      go_wp2_with fail
      go_ret
      exact ⟨by rw [HF.out]; rfl, HX.out⟩
theorem refPoints {l : List (BitVec 8)} {A : Option Addr} {n c : Nat} {w : World} (h : Bs w A n c l) (hn : n ≤ 1000000) : Calls Tryz.prog 45 #[.int .u8 12, .slice A n c] w fun e w' => e = .returned (.bool (Lib.validD (oct l))) ∧ Ext w w' := by
  have HP := Kp.mk (Points_any h hn)
  clear h
  generalize Lib.validD (oct l) = R at *
  go_enter Tryz.func45, Tryz.ntmps45
  go_wp2_with (first | (go_at_call 58; refine HP.out.mono ?_; rintro e w2 ⟨rfl, rfl⟩) | fail)
  go_ret
  exact ⟨rfl, Ext.refl _⟩
theorem refText_any (m : BitVec 8) (hm : m = 12 ∨ m = 19 ∨ m = 22) {l : List (BitVec 8)} {A : Option Addr} {n c : Nat} {w : World} (h : Bs w A n c l) (hn : n ≤ 1000000) :
    Calls Tryz.prog 45 #[.int .u8 (ub m), .slice A n c] w fun e w' => e = .returned (.bool (textB m l)) ∧ Ext w w' := by
  rcases hm with rfl | rfl | rfl
  · exact refPoints h hn
  · exact refPlain h hn
  · exact refAscii h hn
end Go.Proofs.YthookcnkmlmgcaaGreatDoor
