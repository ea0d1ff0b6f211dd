/-
  cmp.Compare at uint32, slices.Compare at []uint32, cmp.Or at int.
-/
import Derived.Test.YthookcnkmlmgcaaDoorVIi
import Derived.Test.YthookcnkmlmgcaaDoorM10
namespace Go.Proofs.YthookcnkmlmgcaaDoor
open Go Go.RowKit
set_option maxRecDepth 4000

theorem isNaN_any (z : Int) (w : World) : Calls Tryd.prog 110 #[.int .u32 z] w fun e w' => e = .returned (.bool false) ∧ w' = w := by
  go_enter Tryd.func110, Tryd.ntmps110
  go_wp2_with fail
  go_ret
  exact ⟨by simp, rfl⟩
/-- two numbers -/
def cmp1 (a b : Nat) : Int := if a < b then -1 else if b < a then 1 else 0
theorem cmpCompare_any (a b : Nat) (w : World) : Calls Tryd.prog 101 #[.int .u32 (a : Int), .int .u32 (b : Int)] w fun e w' => e = .returned (.int .i64 (cmp1 a b)) ∧ w' = w := by
  have HN := Kp.mk isNaN_any
  unfold cmp1
  by_cases h1 : a < b
  · rw [if_pos h1]
    have b1 : (a : Int) < (b : Int) := by omega
    go_enter Tryd.func101, Tryd.ntmps101
    go_wp2_with (first | (go_at_call 110; refine (HN.out _ _).mono ?_; rintro e w2 ⟨rfl, hw⟩; obtain rfl : w = w2 := hw.symm) | fail)
    go_ret
    exact ⟨rfl, rfl⟩
  · rw [if_neg h1]
    have b1 : ¬ (a : Int) < (b : Int) := by omega
    by_cases h2 : b < a
    · rw [if_pos h2]
      have b2 : (b : Int) < (a : Int) := by omega
      go_enter Tryd.func101, Tryd.ntmps101
      go_wp2_with (first | (go_at_call 110; refine (HN.out _ _).mono ?_; rintro e w2 ⟨rfl, hw⟩; obtain rfl : w = w2 := hw.symm) | fail)
      go_ret
      exact ⟨rfl, rfl⟩
    · rw [if_neg h2]
      have b2 : ¬ (b : Int) < (a : Int) := by omega
      go_enter Tryd.func101, Tryd.ntmps101
      go_wp2_with (first | (go_at_call 110; refine (HN.out _ _).mono ?_; rintro e w2 ⟨rfl, hw⟩; obtain rfl : w = w2 := hw.symm) | fail)
      go_ret
      exact ⟨rfl, rfl⟩
theorem cmpL_step (l k : List Nat) (j a b : Nat) (ha : l[j]? = some a) (hb : k[j]? = some b) : cmpL (l.drop j) (k.drop j) = if cmp1 a b ≠ 0 then cmp1 a b else cmpL (l.drop (j + 1)) (k.drop (j + 1)) := by
  obtain ⟨h1, e1⟩ := List.getElem?_eq_some_iff.1 ha
  obtain ⟨h2, e2⟩ := List.getElem?_eq_some_iff.1 hb
  rw [List.drop_eq_getElem_cons h1, List.drop_eq_getElem_cons h2, e1, e2]
  show (if a < b then (-1 : Int) else if b < a then 1 else cmpL (l.drop (j + 1)) (k.drop (j + 1))) = _
  unfold cmp1
  by_cases h3 : a < b
  · rw [if_pos h3, if_pos h3, if_pos (by decide)]
  · rw [if_neg h3, if_neg h3]
    by_cases h4 : b < a
    · rw [if_pos h4, if_pos h4, if_pos (by decide)]
    · rw [if_neg h4, if_neg h4, if_neg (by decide)]
set_option maxHeartbeats 4000000 in
theorem slCompare_any {A B : Option Addr} {n c m d : Nat} {l k : List Nat} {w : World} (h : Rd vL w A n c l) (h' : Rd vL w B m d k) (hn : n ≤ 140737488355328) :
    Calls Tryd.prog 86 #[.slice A n c, .slice B m d] w fun e w' => e = .returned (.int .i64 (cmpL l k)) ∧ w' = w := by
  have hl := h.len
  have hk := h'.len
  have H1 := Kp.mk h
  have H2 := Kp.mk h'
  have HL := Kp.mk hl
  have HK := Kp.mk hk
  clear h h' hl hk
  have HC := Kp.mk cmpCompare_any
  go_enter Tryd.func86, Tryd.ntmps86
  go_wp2_with fail
  go_loopw [11] (fun iv wr => ∃ j : Nat, j ≤ n ∧ j ≤ m ∧ iv = .int .i64 (j : Int) ∧ cmpL l k = cmpL (l.drop j) (k.drop j) ∧ wr = w) (fun iv _ => n - (intOf iv).toNat)
  case atStart => exact ⟨0, Nat.zero_le _, Nat.zero_le _, rfl, rfl, rfl⟩
  case round =>
    obtain ⟨j, hj, hjm, rfl, he, rfl⟩ := hrel
    have HE := Kp.mk he
    clear he
    by_cases hlt : j < n
    · have b1 : (j : Int) < (n : Int) := by omega
      by_cases hltm : j < m
      · have b2 : ¬ (m : Int) ≤ (j : Int) := by omega
        have b3 : (j : Int) < (m : Int) := by omega
        obtain ⟨g, o, rfl, hc⟩ := H1.out.at_ (by omega)
        obtain ⟨g', o', rfl, hc'⟩ := H2.out.at_ (by omega)
        obtain ⟨a, ha⟩ : ∃ a, l[j]? = some a := ⟨_, List.getElem?_eq_getElem (by have := HL.out; omega)⟩
        obtain ⟨b, hb⟩ : ∃ b, k[j]? = some b := ⟨_, List.getElem?_eq_getElem (by have := HK.out; omega)⟩
        have c1 := hc j a ha
        have c2 := hc' j b hb
        unfold vL at c1 c2
        have hs := cmpL_step l k j a b ha hb
        rw [← HE.out] at hs
        clear hc hc' ha hb HE
        by_cases hz : cmp1 a b = 0
        · rw [if_neg (by simpa using hz)] at hs
          have HS := Kp.mk hs
          have HC' := HC.out a b
          rw [hz] at HC'
          have HC2 := Kp.mk HC'
          clear hs HC' hz HC
          go_wp2_with (first | (go_at_call 101; refine (HC2.out _).mono ?_; rintro e w2 ⟨rfl, hw⟩; obtain rfl : wr = w2 := hw.symm) | fail)
          go_roundw
          case rel => exact ⟨j + 1, by omega, by omega, by go_num, HS.out, by first | rfl | trivial⟩
          case measure => simp [intOf]; omega
        · rw [if_pos hz] at hs
          have HS := Kp.mk hs
          have e1 : (cmp1 a b == 0) = false := beq_eq_false_iff_ne.2 hz
          have e2 : (cmp1 a b != 0) = true := by rw [bne, e1]; rfl
          have HC2 := Kp.mk (HC.out a b)
          clear hs hz HC
          generalize cmp1 a b = z at *
          go_wp2_with (first | (go_at_call 101; refine (HC2.out _).mono ?_; rintro e w2 ⟨rfl, hw⟩; obtain rfl : wr = w2 := hw.symm) | fail)
          go_ret
          exact ⟨by rw [HS.out]; rfl, rfl⟩
      · obtain rfl : j = m := by omega
        have b2 : (j : Int) ≤ (j : Int) := by omega
        obtain ⟨g, o, rfl, hc⟩ := H1.out.at_ (by omega)
        obtain ⟨a, ha⟩ : ∃ a, l[j]? = some a := ⟨_, List.getElem?_eq_getElem (by have := HL.out; omega)⟩
        have c1 := hc j a ha
        unfold vL at c1
        have HS : Kp (cmpL l k = 1) := ⟨by
          rw [HE.out, List.drop_eq_getElem_cons (l := l) (i := j) (by have := HL.out; omega), List.drop_of_length_le (l := k) (i := j) (by have := HK.out; omega)]
          rfl⟩
        clear hc ha HE
        go_wp2_with fail
        go_ret
        exact ⟨by rw [HS.out]; rfl, rfl⟩
    · obtain rfl : j = n := by omega
      have b1 : ¬ (j : Int) < (j : Int) := by omega
      have hd : l.drop j = [] := List.drop_of_length_le (by have := HL.out; omega)
      rw [hd] at HE
      by_cases hltm : j < m
      · have b2 : (j : Int) < (m : Int) := by omega
        have HS : Kp (cmpL l k = -1) := ⟨by
          rw [HE.out, List.drop_eq_getElem_cons (l := k) (i := j) (by have := HK.out; omega)]
          rfl⟩
        clear HE hd
        go_wp2_with fail
        go_ret
        exact ⟨by rw [HS.out]; rfl, rfl⟩
      · obtain rfl : j = m := by omega
        have HS : Kp (cmpL l k = 0) := ⟨by
          rw [HE.out, List.drop_of_length_le (by have := HK.out; omega)]
          rfl⟩
        clear HE hd
        go_wp2_with fail
        go_ret
        exact ⟨by rw [HS.out]; rfl, rfl⟩
/-- the first that is not 0 -/
def or2 (x y : Int) : Int := if x ≠ 0 then x else y
set_option maxHeartbeats 2000000 in
theorem cmpOr_any (x y : Int) (g : Nat) (w : World) (h0 : w.cell? ⟨g, 0, none⟩ = some (.int .i64 x)) (h1 : w.cell? ⟨g, 1, none⟩ = some (.int .i64 y)) :
    Calls Tryd.prog 85 #[.slice (some ⟨g, 0, none⟩) 2 2] w fun e w' => e = .returned (.int .i64 (or2 x y)) ∧ w' = w := by
  have H0 := Kp.mk h0
  have H1 := Kp.mk h1
  clear h0 h1
  go_enter Tryd.func85, Tryd.ntmps85
  go_wp2_with fail
  go_loopw [8] (fun iv wr => ∃ j : Nat, j ≤ 2 ∧ iv = .int .i64 (j : Int) ∧ (0 < j → x = 0) ∧ (1 < j → y = 0) ∧ wr = w) (fun iv _ => 2 - (intOf iv).toNat)
  case atStart => exact ⟨0, by omega, rfl, (fun h => absurd h (Nat.lt_irrefl 0)), (fun h => absurd h (by omega)), rfl⟩
  case round =>
    obtain ⟨j, hj, rfl, hx, hy, rfl⟩ := hrel
    by_cases h2 : j = 2
    · subst h2
      have HX := Kp.mk (hx (by omega))
      have HY := Kp.mk (hy (by omega))
      clear hx hy
      go_wp2_with fail
      go_ret
      have hv : or2 x y = 0 := by unfold or2; rw [if_neg (by rw [HX.out]; decide), HY.out]
      exact ⟨by rw [hv]; rfl, rfl⟩
    · by_cases h1 : j = 1
      · subst h1
        have HX := Kp.mk (hx (by omega))
        have c1 := H1.out
        clear hx hy h2
        by_cases hz : y = 0
        · subst hz
          go_wp2_with fail
          go_roundw
          case rel => exact ⟨2, by omega, by go_num, fun _ => HX.out, fun _ => by first | rfl | trivial, by first | rfl | trivial⟩
          case measure => simp [intOf]
        · have e1 : (y == 0) = false := beq_eq_false_iff_ne.2 hz
          have e2 : (y != 0) = true := by rw [bne, e1]; rfl
          clear hz
          go_wp2_with fail
          go_ret
          have hv : or2 x y = y := by unfold or2; rw [if_neg (by rw [HX.out]; decide)]
          exact ⟨by rw [hv]; rfl, rfl⟩
      · obtain rfl : j = 0 := by omega
        have c1 := H0.out
        clear hx hy h2 h1
        by_cases hz : x = 0
        · subst hz
          go_wp2_with fail
          go_roundw
          case rel => exact ⟨1, by omega, by go_num, fun _ => by first | rfl | trivial, fun h => absurd h (by omega), by first | rfl | trivial⟩
          case measure => simp [intOf]
        · have e1 : (x == 0) = false := beq_eq_false_iff_ne.2 hz
          have e2 : (x != 0) = true := by rw [bne, e1]; rfl
          have HZ := Kp.mk hz
          clear hz
          go_wp2_with fail
          go_ret
          have hv : or2 x y = x := by unfold or2; rw [if_pos HZ.out]
          exact ⟨by rw [hv]; rfl, rfl⟩
end Go.Proofs.YthookcnkmlmgcaaDoor
