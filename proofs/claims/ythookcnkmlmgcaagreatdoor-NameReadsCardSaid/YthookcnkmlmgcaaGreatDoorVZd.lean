/-
  prim: isAscii, isPlain, allOf.
-/
import Derived.Test.YthookcnkmlmgcaaGreatDoorVZa
import Derived.Lib.Bytealg
namespace Go.Proofs.YthookcnkmlmgcaaGreatDoor
open Go Go.RowKit
set_option maxRecDepth 4000

/-- a letter, a digit -/
def rngB (x : BitVec 8) : Bool := decide ((97 ≤ x.toNat ∧ x.toNat ≤ 122) ∨ (65 ≤ x.toNat ∧ x.toNat ≤ 90) ∨ (48 ≤ x.toNat ∧ x.toNat ≤ 57))
/-- the signs that a plain text may have -/
def sgns : List (BitVec 8) := [32, 39, 40, 41, 43, 44, 45, 46, 47, 58, 61, 63]
def sgnB (x : BitVec 8) : Bool := sgns.any fun y => y == x
def plainB (x : BitVec 8) : Bool := rngB x || sgnB x
def asciiB (x : BitVec 8) : Bool := decide (x.toNat < 128)
def sgnS : ByteArray := ⟨#[32, 39, 40, 41, 43, 44, 45, 46, 47, 58, 61, 63]⟩
theorem sgn_index (x : BitVec 8) : decide (0 ≤ Lib.indexByte sgnS.data.toList (ub x).toNat.toUInt8) = sgnB x := by
  revert x
  refine all8 ?_
  decide +kernel
theorem IndexByteS_any (x : BitVec 8) (w : World) : Calls Tryz.prog 109 #[.string sgnS, .int .u8 (ub x)] w fun e w' => e = .returned (.int .i64 (Lib.indexByte sgnS.data.toList (ub x).toNat.toUInt8)) ∧ w' = w := by
  have hcall : ∀ w, (callFunc 115 #[.string sgnS, .int .u8 (ub x)]).run Tryz.prog w = .ok (.value (.int .i64 (Lib.indexByte sgnS.data.toList (ub x).toNat.toUInt8))) w := fun w => by
    rw [run_callFunc_extern Tryz.func115 (by kernel_rfl) (by kernel_rfl) (by kernel_rfl) (e := Extern.BytealgIndexByte.indexByte) (by kernel_rfl)]
    rw [Lib.run_indexByteString]
    rfl
  generalize Lib.indexByte sgnS.data.toList (ub x).toNat.toUInt8 = R at *
  generalize sgnS = S at *
  have h2 : ∀ w, Calls Tryz.prog 113 #[.string S, .int .u8 (ub x)] w fun e w' => e = .returned (.int .i64 R) ∧ w' = w := fun w => by
    go_enter Tryz.func113, Tryz.ntmps113
    go_wp2
    go_ret
    exact ⟨rfl, rfl⟩
  have H2 := Kp.mk h2
  clear h2 hcall
  go_enter Tryz.func109, Tryz.ntmps109
  go_wp2_with (first | (go_at_call 113; refine (H2.out _).mono ?_; rintro e w2 ⟨rfl, rfl⟩) | fail)
  go_ret
  exact ⟨rfl, rfl⟩
theorem isAscii_any (x : BitVec 8) (w : World) : Calls Tryz.prog 95 #[.int .u8 (ub x)] w fun e w' => e = .returned (.bool (asciiB x)) ∧ w' = w := by
  have e1 : asciiB x = decide (ub x < 128) := by
    unfold asciiB ub
    rw [Bool.eq_iff_iff]
    simp
    omega
  rw [e1]
  generalize ub x = z
  clear e1
  go_enter Tryz.func95, Tryz.ntmps95
  go_wp2_with fail
  go_ret
  exact ⟨rfl, rfl⟩
set_option maxHeartbeats 2000000 in
theorem isPlain_any (x : BitVec 8) (w : World) : Calls Tryz.prog 94 #[.int .u8 (ub x)] w fun e w' => e = .returned (.bool (plainB x)) ∧ w' = w := by
  have hi := IndexByteS_any x
  have hs := sgn_index x
  have hp : plainB x = (rngB x || sgnB x) := rfl
  unfold rngB at hp
  rw [← hs] at hp
  have hx := x.isLt
  generalize plainB x = PB at *
  generalize Lib.indexByte sgnS.data.toList (ub x).toNat.toUInt8 = R at *
  have hb : sgnS = ⟨#[32, 39, 40, 41, 43, 44, 45, 46, 47, 58, 61, 63]⟩ := rfl
  rw [hb] at hi
  unfold ub at *
  generalize x.toNat = z at *
  have HI := Kp.mk hi
  clear hi hs hb
  by_cases a97 : 97 ≤ z
  · have b97 : (97 : Int) ≤ (z : Int) := by omega
    by_cases a122 : z ≤ 122
    · have b122 : (z : Int) ≤ 122 := by omega
      have hp' : PB = true := by
        rw [hp, decide_eq_true (by omega), Bool.true_or]
      subst hp'
      clear hp hx HI
      go_enter Tryz.func94, Tryz.ntmps94
      go_wp2_with fail
      go_ret
      exact ⟨rfl, rfl⟩
    · have b122 : ¬ ((z : Int) ≤ 122) := by omega
      by_cases a65 : 65 ≤ z
      · have b65 : (65 : Int) ≤ (z : Int) := by omega
        by_cases a90 : z ≤ 90
        · have b90 : (z : Int) ≤ 90 := by omega
          have hp' : PB = true := by
            rw [hp, decide_eq_true (by omega), Bool.true_or]
          subst hp'
          clear hp hx HI
          go_enter Tryz.func94, Tryz.ntmps94
          go_wp2_with fail
          go_ret
          exact ⟨rfl, rfl⟩
        · have b90 : ¬ ((z : Int) ≤ 90) := by omega
          by_cases a48 : 48 ≤ z
          · have b48 : (48 : Int) ≤ (z : Int) := by omega
            by_cases a57 : z ≤ 57
            · have b57 : (z : Int) ≤ 57 := by omega
              have hp' : PB = true := by
                rw [hp, decide_eq_true (by omega), Bool.true_or]
              subst hp'
              clear hp hx HI
              go_enter Tryz.func94, Tryz.ntmps94
              go_wp2_with fail
              go_ret
              exact ⟨rfl, rfl⟩
            · have b57 : ¬ ((z : Int) ≤ 57) := by omega
              have hp' : PB = decide (0 ≤ R) := by
                rw [hp, decide_eq_false (by omega), Bool.false_or]
              subst hp'
              clear hp hx
              go_enter Tryz.func94, Tryz.ntmps94
              go_wp2_with (first | (go_at_call 109; refine (HI.out _).mono ?_; rintro e w2 ⟨rfl, rfl⟩) | fail)
              go_ret
              exact ⟨rfl, rfl⟩
          · have b48 : ¬ ((48 : Int) ≤ (z : Int)) := by omega
            have hp' : PB = decide (0 ≤ R) := by
              rw [hp, decide_eq_false (by omega), Bool.false_or]
            subst hp'
            clear hp hx
            go_enter Tryz.func94, Tryz.ntmps94
            go_wp2_with (first | (go_at_call 109; refine (HI.out _).mono ?_; rintro e w2 ⟨rfl, rfl⟩) | fail)
            go_ret
            exact ⟨rfl, rfl⟩
      · have b65 : ¬ ((65 : Int) ≤ (z : Int)) := by omega
        by_cases a48 : 48 ≤ z
        · have b48 : (48 : Int) ≤ (z : Int) := by omega
          by_cases a57 : z ≤ 57
          · have b57 : (z : Int) ≤ 57 := by omega
            have hp' : PB = true := by
              rw [hp, decide_eq_true (by omega), Bool.true_or]
            subst hp'
            clear hp hx HI
            go_enter Tryz.func94, Tryz.ntmps94
            go_wp2_with fail
            go_ret
            exact ⟨rfl, rfl⟩
          · have b57 : ¬ ((z : Int) ≤ 57) := by omega
            have hp' : PB = decide (0 ≤ R) := by
              rw [hp, decide_eq_false (by omega), Bool.false_or]
            subst hp'
            clear hp hx
            go_enter Tryz.func94, Tryz.ntmps94
            go_wp2_with (first | (go_at_call 109; refine (HI.out _).mono ?_; rintro e w2 ⟨rfl, rfl⟩) | fail)
            go_ret
            exact ⟨rfl, rfl⟩
        · have b48 : ¬ ((48 : Int) ≤ (z : Int)) := by omega
          have hp' : PB = decide (0 ≤ R) := by
            rw [hp, decide_eq_false (by omega), Bool.false_or]
          subst hp'
          clear hp hx
          go_enter Tryz.func94, Tryz.ntmps94
          go_wp2_with (first | (go_at_call 109; refine (HI.out _).mono ?_; rintro e w2 ⟨rfl, rfl⟩) | fail)
          go_ret
          exact ⟨rfl, rfl⟩
  · have b97 : ¬ ((97 : Int) ≤ (z : Int)) := by omega
    by_cases a65 : 65 ≤ z
    · have b65 : (65 : Int) ≤ (z : Int) := by omega
      by_cases a90 : z ≤ 90
      · have b90 : (z : Int) ≤ 90 := by omega
        have hp' : PB = true := by
          rw [hp, decide_eq_true (by omega), Bool.true_or]
        subst hp'
        clear hp hx HI
        go_enter Tryz.func94, Tryz.ntmps94
        go_wp2_with fail
        go_ret
        exact ⟨rfl, rfl⟩
      · have b90 : ¬ ((z : Int) ≤ 90) := by omega
        by_cases a48 : 48 ≤ z
        · have b48 : (48 : Int) ≤ (z : Int) := by omega
          by_cases a57 : z ≤ 57
          · have b57 : (z : Int) ≤ 57 := by omega
            have hp' : PB = true := by
              rw [hp, decide_eq_true (by omega), Bool.true_or]
            subst hp'
            clear hp hx HI
            go_enter Tryz.func94, Tryz.ntmps94
            go_wp2_with fail
            go_ret
            exact ⟨rfl, rfl⟩
          · have b57 : ¬ ((z : Int) ≤ 57) := by omega
            have hp' : PB = decide (0 ≤ R) := by
              rw [hp, decide_eq_false (by omega), Bool.false_or]
            subst hp'
            clear hp hx
            go_enter Tryz.func94, Tryz.ntmps94
            go_wp2_with (first | (go_at_call 109; refine (HI.out _).mono ?_; rintro e w2 ⟨rfl, rfl⟩) | fail)
            go_ret
            exact ⟨rfl, rfl⟩
        · have b48 : ¬ ((48 : Int) ≤ (z : Int)) := by omega
          have hp' : PB = decide (0 ≤ R) := by
            rw [hp, decide_eq_false (by omega), Bool.false_or]
          subst hp'
          clear hp hx
          go_enter Tryz.func94, Tryz.ntmps94
          go_wp2_with (first | (go_at_call 109; refine (HI.out _).mono ?_; rintro e w2 ⟨rfl, rfl⟩) | fail)
          go_ret
          exact ⟨rfl, rfl⟩
    · have b65 : ¬ ((65 : Int) ≤ (z : Int)) := by omega
      by_cases a48 : 48 ≤ z
      · have b48 : (48 : Int) ≤ (z : Int) := by omega
        by_cases a57 : z ≤ 57
        · have b57 : (z : Int) ≤ 57 := by omega
          have hp' : PB = true := by
            rw [hp, decide_eq_true (by omega), Bool.true_or]
          subst hp'
          clear hp hx HI
          go_enter Tryz.func94, Tryz.ntmps94
          go_wp2_with fail
          go_ret
          exact ⟨rfl, rfl⟩
        · have b57 : ¬ ((z : Int) ≤ 57) := by omega
          have hp' : PB = decide (0 ≤ R) := by
            rw [hp, decide_eq_false (by omega), Bool.false_or]
          subst hp'
          clear hp hx
          go_enter Tryz.func94, Tryz.ntmps94
          go_wp2_with (first | (go_at_call 109; refine (HI.out _).mono ?_; rintro e w2 ⟨rfl, rfl⟩) | fail)
          go_ret
          exact ⟨rfl, rfl⟩
      · have b48 : ¬ ((48 : Int) ≤ (z : Int)) := by omega
        have hp' : PB = decide (0 ≤ R) := by
          rw [hp, decide_eq_false (by omega), Bool.false_or]
        subst hp'
        clear hp hx
        go_enter Tryz.func94, Tryz.ntmps94
        go_wp2_with (first | (go_at_call 109; refine (HI.out _).mono ?_; rintro e w2 ⟨rfl, rfl⟩) | fail)
        go_ret
        exact ⟨rfl, rfl⟩
theorem notPlain_any (x : BitVec 8) (B : Nat) (w : World) (hb : w.cell? ⟨B, 0, none⟩ = some (.func (.func 94) #[] #[])) : Calls Tryz.prog 108 #[.int .u8 (ub x), .pointer (some ⟨B, 0, none⟩)] w fun e w' => e = .returned (.bool (!plainB x)) ∧ w' = w := by
  have HI := Kp.mk (isPlain_any x)
  generalize plainB x = PB at *
  generalize ub x = z at *
  go_enter Tryz.func108, Tryz.ntmps108
  go_wp2_with (first | (go_at_call 94; refine (HI.out _).mono ?_; rintro e w2 ⟨rfl, rfl⟩) | fail)
  go_ret
  exact ⟨rfl, rfl⟩
theorem IndexPlain_any {l : List (BitVec 8)} {A : Option Addr} {n c B : Nat} {w : World} (h : Bs w A n c l) (hn : n ≤ 1000000) (hb : w.cell? ⟨B, 0, none⟩ = some (.func (.func 94) #[] #[])) :
    Calls Tryz.prog 112 #[.slice A n c, .func (.func 108) #[] #[.pointer (some ⟨B, 0, none⟩)]] w fun e w' => ∃ z : Int, e = .returned (.int .i64 z) ∧ (decide (0 ≤ z) = !l.all plainB) ∧ w' = w := by
  have HR := Kp.mk h
  have HB := Kp.mk hb
  have hlen := h.len
  clear h hb
  go_enter Tryz.func112, Tryz.ntmps112
  go_wp2_with fail
  go_loopw [8] (fun iv wr => ∃ j : Nat, j ≤ n ∧ iv = .int .i64 (j : Int) ∧ (∀ i, i < j → plainB (gb l i) = true) ∧ wr = w) (fun iv _ => n - (intOf iv).toNat)
  case atStart => exact ⟨0, by omega, rfl, fun i hi => by omega, rfl⟩
  case round =>
    obtain ⟨j, hj, rfl, hz, rfl⟩ := hrel
    have HZ := Kp.mk hz
    clear hz
    by_cases hlt : j < n
    · obtain ⟨g, o, rfl, hc⟩ := HR.out.s.2.2.2 (by omega)
      have c1 := hc j hlt
      have hl := notPlain_any (gb l j) B wr HB.out
      have b1 : (j : Int) < (n : Int) := by omega
      clear hc
      generalize hx : gb l j = x at *
      have HX := Kp.mk hx
      clear hx
      cases hq : plainB x with
      | false =>
        rw [hq] at hl
        have HQ := Kp.mk hq
        have HL := Kp.mk hl
        clear hq hl
        go_wp2_with (first | (go_at_call 108; refine HL.out.mono ?_; rintro e w1 ⟨rfl, rfl⟩) | fail)
        go_ret
        refine ⟨_, rfl, ?_, rfl⟩
        rw [decide_eq_true (by omega)]
        symm
        rw [Bool.not_eq_true', List.all_eq_false]
        refine ⟨gb l j, ?_, by rw [HX.out, HQ.out]; decide⟩
        have hjl : j < l.length := by omega
        have e1 : gb l j = l[j] := by simp [gb, hjl]
        rw [e1]
        exact List.getElem_mem hjl
      | true =>
        rw [hq] at hl
        have HQ := Kp.mk hq
        have HL := Kp.mk hl
        clear hq hl
        go_wp2_with (first | (go_at_call 108; refine HL.out.mono ?_; rintro e w1 ⟨rfl, rfl⟩) | fail)
        go_roundw
        case rel => exact ⟨j + 1, by omega, by go_num, (fun i hi => by
          by_cases he : i = j
          · subst he
            rw [HX.out]
            exact HQ.out
          · exact HZ.out i (by omega)), by first | rfl | trivial⟩
        case measure => simp [intOf]; omega
    · obtain rfl : j = n := by omega
      go_wp2_with fail
      go_ret
      refine ⟨-1, rfl, ?_, rfl⟩
      rw [decide_eq_false (by omega)]
      symm
      rw [Bool.not_eq_false', List.all_eq_true]
      intro x hx
      obtain ⟨i, hi⟩ := List.getElem?_of_mem hx
      have hil := (List.getElem?_eq_some_iff.1 hi).1
      have := HZ.out i (by omega)
      rwa [show gb l i = x by unfold gb; rw [List.getD_eq_getElem?_getD, hi]; rfl] at this
theorem allPlain_any {l : List (BitVec 8)} {A : Option Addr} {n c : Nat} {w : World} (h : Bs w A n c l) (hn : n ≤ 1000000) :
    Calls Tryz.prog 93 #[.slice A n c, .func (.func 94) #[] #[]] w fun e w' => e = .returned (.bool (l.all plainB)) ∧ Ext w w' := by
  have hx : Ext w (w.alloc (.cells #[.func (.func 94) #[] #[]] 80)) := (by (repeat (first | assumption | exact Ext.refl _ | apply Ext.drew | apply Ext.drewN | apply Ext.alloc | refine Ext.trans ?_ (by assumption))); first | done | fail)
  have HI := Kp.mk (IndexPlain_any (B := w.heap.size) (h.ext hx) hn (by simp))
  clear h
  generalize l.all plainB = R at *
  have hC : Calls Tryz.prog 107 #[.slice A n c, .func (.func 108) #[] #[.pointer (some ⟨w.heap.size, 0, none⟩)]] (w.alloc (.cells #[.func (.func 94) #[] #[]] 80)) fun e w' => e = .returned (.bool (!R)) ∧ w' = w.alloc (.cells #[.func (.func 94) #[] #[]] 80) := by
    go_enter Tryz.func107, Tryz.ntmps107
    go_wp2_with (first | (go_at_call 112; refine HI.out.mono ?_; rintro e w1 ⟨z, rfl, hz, rfl⟩) | fail)
    go_ret
    exact ⟨rfl, rfl⟩
  have HC := Kp.mk hC
  have HX := Kp.mk hx
  clear hC hx HI
  go_enter Tryz.func93, Tryz.ntmps93
  go_wp2_with (first | (go_at_call 107; refine HC.out.mono ?_; rintro e w1 ⟨rfl, rfl⟩) | fail)
  go_ret
  exact ⟨by simp, HX.out⟩
theorem notAscii_any (x : BitVec 8) (B : Nat) (w : World) (hb : w.cell? ⟨B, 0, none⟩ = some (.func (.func 95) #[] #[])) : Calls Tryz.prog 108 #[.int .u8 (ub x), .pointer (some ⟨B, 0, none⟩)] w fun e w' => e = .returned (.bool (!asciiB x)) ∧ w' = w := by
  have HI := Kp.mk (isAscii_any x)
  generalize asciiB x = PB at *
  generalize ub x = z at *
  go_enter Tryz.func108, Tryz.ntmps108
  go_wp2_with (first | (go_at_call 95; refine (HI.out _).mono ?_; rintro e w2 ⟨rfl, rfl⟩) | fail)
  go_ret
  exact ⟨rfl, rfl⟩
theorem IndexAscii_any {l : List (BitVec 8)} {A : Option Addr} {n c B : Nat} {w : World} (h : Bs w A n c l) (hn : n ≤ 1000000) (hb : w.cell? ⟨B, 0, none⟩ = some (.func (.func 95) #[] #[])) :
    Calls Tryz.prog 112 #[.slice A n c, .func (.func 108) #[] #[.pointer (some ⟨B, 0, none⟩)]] w fun e w' => ∃ z : Int, e = .returned (.int .i64 z) ∧ (decide (0 ≤ z) = !l.all asciiB) ∧ w' = w := by
  have HR := Kp.mk h
  have HB := Kp.mk hb
  have hlen := h.len
  clear h hb
  go_enter Tryz.func112, Tryz.ntmps112
  go_wp2_with fail
  go_loopw [8] (fun iv wr => ∃ j : Nat, j ≤ n ∧ iv = .int .i64 (j : Int) ∧ (∀ i, i < j → asciiB (gb l i) = true) ∧ wr = w) (fun iv _ => n - (intOf iv).toNat)
  case atStart => exact ⟨0, by omega, rfl, fun i hi => by omega, rfl⟩
  case round =>
    obtain ⟨j, hj, rfl, hz, rfl⟩ := hrel
    have HZ := Kp.mk hz
    clear hz
    by_cases hlt : j < n
    · obtain ⟨g, o, rfl, hc⟩ := HR.out.s.2.2.2 (by omega)
      have c1 := hc j hlt
      have hl := notAscii_any (gb l j) B wr HB.out
      have b1 : (j : Int) < (n : Int) := by omega
      clear hc
      generalize hx : gb l j = x at *
      have HX := Kp.mk hx
      clear hx
      cases hq : asciiB x with
      | false =>
        rw [hq] at hl
        have HQ := Kp.mk hq
        have HL := Kp.mk hl
        clear hq hl
        go_wp2_with (first | (go_at_call 108; refine HL.out.mono ?_; rintro e w1 ⟨rfl, rfl⟩) | fail)
        go_ret
        refine ⟨_, rfl, ?_, rfl⟩
        rw [decide_eq_true (by omega)]
        symm
        rw [Bool.not_eq_true', List.all_eq_false]
        refine ⟨gb l j, ?_, by rw [HX.out, HQ.out]; decide⟩
        have hjl : j < l.length := by omega
        have e1 : gb l j = l[j] := by simp [gb, hjl]
        rw [e1]
        exact List.getElem_mem hjl
      | true =>
        rw [hq] at hl
        have HQ := Kp.mk hq
        have HL := Kp.mk hl
        clear hq hl
        go_wp2_with (first | (go_at_call 108; refine HL.out.mono ?_; rintro e w1 ⟨rfl, rfl⟩) | fail)
        go_roundw
        case rel => exact ⟨j + 1, by omega, by go_num, (fun i hi => by
          by_cases he : i = j
          · subst he
            rw [HX.out]
            exact HQ.out
          · exact HZ.out i (by omega)), by first | rfl | trivial⟩
        case measure => simp [intOf]; omega
    · obtain rfl : j = n := by omega
      go_wp2_with fail
      go_ret
      refine ⟨-1, rfl, ?_, rfl⟩
      rw [decide_eq_false (by omega)]
      symm
      rw [Bool.not_eq_false', List.all_eq_true]
      intro x hx
      obtain ⟨i, hi⟩ := List.getElem?_of_mem hx
      have hil := (List.getElem?_eq_some_iff.1 hi).1
      have := HZ.out i (by omega)
      rwa [show gb l i = x by unfold gb; rw [List.getD_eq_getElem?_getD, hi]; rfl] at this
theorem allAscii_any {l : List (BitVec 8)} {A : Option Addr} {n c : Nat} {w : World} (h : Bs w A n c l) (hn : n ≤ 1000000) :
    Calls Tryz.prog 93 #[.slice A n c, .func (.func 95) #[] #[]] w fun e w' => e = .returned (.bool (l.all asciiB)) ∧ Ext w w' := by
  have hx : Ext w (w.alloc (.cells #[.func (.func 95) #[] #[]] 80)) := (by (repeat (first | assumption | exact Ext.refl _ | apply Ext.drew | apply Ext.drewN | apply Ext.alloc | refine Ext.trans ?_ (by assumption))); first | done | fail)
  have HI := Kp.mk (IndexAscii_any (B := w.heap.size) (h.ext hx) hn (by simp))
  clear h
  generalize l.all asciiB = R at *
  have hC : Calls Tryz.prog 107 #[.slice A n c, .func (.func 108) #[] #[.pointer (some ⟨w.heap.size, 0, none⟩)]] (w.alloc (.cells #[.func (.func 95) #[] #[]] 80)) fun e w' => e = .returned (.bool (!R)) ∧ w' = w.alloc (.cells #[.func (.func 95) #[] #[]] 80) := by
    go_enter Tryz.func107, Tryz.ntmps107
    go_wp2_with (first | (go_at_call 112; refine HI.out.mono ?_; rintro e w1 ⟨z, rfl, hz, rfl⟩) | fail)
    go_ret
    exact ⟨rfl, rfl⟩
  have HC := Kp.mk hC
  have HX := Kp.mk hx
  clear hC hx HI
  go_enter Tryz.func93, Tryz.ntmps93
  go_wp2_with (first | (go_at_call 107; refine HC.out.mono ?_; rintro e w1 ⟨rfl, rfl⟩) | fail)
  go_ret
  exact ⟨by simp, HX.out⟩
end Go.Proofs.YthookcnkmlmgcaaGreatDoor
