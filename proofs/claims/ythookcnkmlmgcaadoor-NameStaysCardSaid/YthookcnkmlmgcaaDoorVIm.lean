/-
  The laws' light; a name within none, none within a name; the laws' head.
-/
import Derived.Test.YthookcnkmlmgcaaDoorM10
namespace Go.Proofs.YthookcnkmlmgcaaDoor
open Go Go.RowKit
set_option maxRecDepth 4000

/-- a name that is gone through -/
structure LightP (x : List (List Atr)) : Prop where
  hi : x.length ≤ 20
  all : ∀ (i : Nat) (s : List Atr), x[i]? = some s → s.length ≤ 10 ∧ ∀ (j : Nat) (a : Atr), s[j]? = some a → a.tx.length ≤ 200 ∧ a.ty.length ≤ 30
/-- what light tells -/
def LiR (x : List (List Atr)) (w : World) (e : Ending) (w' : World) : Prop := ∃ b : Bool, e = .returned (.bool b) ∧ (b = true → LightP x) ∧ w' = w
set_option maxHeartbeats 4000000 in
theorem light_any {A : Option Addr} {n c : Nat} {x : List (List Atr)} {w : World} (h : Nam w A n c x) :
    Calls Tryd.prog 7 #[.slice A n c] w (LiR x w) := by
  have hl := h.len
  by_cases h20 : 20 < n
  · have b1 : (20 : Int) < (n : Int) := by omega
    go_enter Tryd.func7, Tryd.ntmps7
    go_wp2_with fail
    go_ret
    exact ⟨false, rfl, (fun h => by cases h), rfl⟩
  · have b1 : ¬ (20 : Int) < (n : Int) := by omega
    have H := Kp.mk h
    have HL := Kp.mk hl
    have H20 := Kp.mk h20
    clear h hl h20
    go_enter Tryd.func7, Tryd.ntmps7
    go_wp2_with fail
    go_loopw [3] (fun iv wr => ∃ i : Nat, i ≤ n ∧ iv = .int .i64 (i : Int) ∧ (∀ (k : Nat) (s : List Atr), k < i → x[k]? = some s → s.length ≤ 10 ∧ ∀ (j : Nat) (a : Atr), s[j]? = some a → a.tx.length ≤ 200 ∧ a.ty.length ≤ 30) ∧ wr = w) (fun iv _ => n - (intOf iv).toNat)
    case atStart => exact ⟨0, Nat.zero_le _, rfl, (fun k s hk => absurd hk (Nat.not_lt_zero _)), rfl⟩
    case round =>
      obtain ⟨i, hi, rfl, hok, rfl⟩ := hrel
      have HK := Kp.mk hok
      clear hok
      by_cases hlt : i < n
      · obtain ⟨g, o, B, m, d, s, rfl, hs, c1, hst⟩ := H.out.get i hlt
        have b2 : (i : Int) < (n : Int) := by omega
        have HS := Kp.mk hs
        have HT := Kp.mk hst
        have hm := hst.len
        clear hs hst
        by_cases h10 : 10 < m
        · have b3 : (10 : Int) < (m : Int) := by omega
          clear hm
          go_wp2_with fail
          go_ret
          exact ⟨false, rfl, (fun h => by cases h), rfl⟩
        · have b3 : ¬ (10 : Int) < (m : Int) := by omega
          have HM := Kp.mk hm
          have H10 := Kp.mk h10
          clear hm h10
          go_wp2_with fail
          go_loopw [4] (fun jv ws => ∃ j : Nat, j ≤ m ∧ jv = .int .i64 (j : Int) ∧ (∀ (k : Nat) (a : Atr), k < j → s[k]? = some a → a.tx.length ≤ 200 ∧ a.ty.length ≤ 30) ∧ ws = wr) (fun jv _ => m - (intOf jv).toNat)
          case atStart => exact ⟨0, Nat.zero_le _, rfl, (fun k s hk => absurd hk (Nat.not_lt_zero _)), rfl⟩
          case round =>
            rename_i ws _
            obtain ⟨j, hj, rfl, hok, rfl⟩ := hrel
            have HJ := Kp.mk hok
            clear hok
            by_cases hlt2 : j < m
            · obtain ⟨g', o', T, t, t1, B', m', d', a, rfl, ha, k1, k2, k3, k4, k5, k6⟩ := HT.out.get j hlt2
              have b4 : (j : Int) < (m : Int) := by omega
              have HA := Kp.mk ha
              have l1 := k4.len
              have l2 := k6.len
              clear ha k4 k5 k6
              by_cases h200 : 200 < m'
              · have b5 : (200 : Int) < (m' : Int) := by omega
                clear l1 l2
                go_wp2_with fail
                go_ret
                exact ⟨false, rfl, (fun h => by cases h), rfl⟩
              · have b5 : ¬ (200 : Int) < (m' : Int) := by omega
                by_cases h30 : 30 < t
                · have b6 : (30 : Int) < (t : Int) := by omega
                  clear l1 l2
                  go_wp2_with fail
                  go_ret
                  exact ⟨false, rfl, (fun h => by cases h), rfl⟩
                · have b6 : ¬ (30 : Int) < (t : Int) := by omega
                  have HB : Kp (a.tx.length ≤ 200 ∧ a.ty.length ≤ 30) := ⟨by omega, by omega⟩
                  clear l1 l2 h200 h30
                  go_wp2_with fail
                  go_roundw
                  case rel =>
                    refine ⟨j + 1, by omega, by go_num, fun k b hk hb => ?_, by first | rfl | trivial⟩
                    by_cases e : k = j
                    · subst e
                      rw [HA.out] at hb
                      cases hb
                      exact HB.out
                    · exact HJ.out k b (by omega) hb
                  case measure => simp [intOf]; omega
            · obtain rfl : j = m := by omega
              have b4 : ¬ (j : Int) < (j : Int) := by omega
              go_wp2_with fail
              go_roundw
              case rel =>
                refine ⟨i + 1, by omega, by go_num, fun k b hk hb => ?_, by first | rfl | trivial⟩
                by_cases e : k = i
                · subst e
                  rw [HS.out] at hb
                  cases hb
                  refine ⟨by have := HM.out; have := H10.out; omega, fun q a hq => HJ.out q a ?_ hq⟩
                  have := (List.getElem?_eq_some_iff.1 hq).1
                  have := HM.out
                  omega
                · exact HK.out k b (by omega) hb
              case measure => simp [intOf]; omega
      · obtain rfl : i = n := by omega
        have b2 : ¬ (i : Int) < (i : Int) := by omega
        go_wp2_with fail
        go_ret
        refine ⟨true, rfl, fun _ => ⟨by have := HL.out; have := H20.out; omega, fun k s hk => HK.out k s ?_ hk⟩, rfl⟩
        have := (List.getElem?_eq_some_iff.1 hk).1
        have := HL.out
        omega
theorem szSt : (Tryd.prog.info? 43).map (·.size) = some 1 := by kernel_rfl
theorem EqName_nil (A B : Option Addr) (c d : Nat) (f : Value) (w : World) : Calls Tryd.prog 39 #[.slice A 0 c, .slice B 0 d, f] w fun e w' => e = .returned (.bool true) ∧ w' = w := by
  go_enter Tryd.func39, Tryd.ntmps39
  go_wp2_with fail
  go_loopw [17] (fun iv wr => iv = .int .i64 0 ∧ wr = w) (fun _ _ => 0)
  case atStart => exact ⟨rfl, rfl⟩
  case round =>
    obtain ⟨rfl, rfl⟩ := hrel
    go_wp2_with fail
    go_ret
    exact ⟨rfl, rfl⟩
theorem Alike_nil (A B : Option Addr) (c d : Nat) (w : World) : Calls Tryd.prog 25 #[.slice A 0 c, .slice B 0 d] w fun e w' => e = .returned (.bool true) ∧ w' = w := by
  have HC := Kp.mk (EqName_nil A B c d)
  go_enter Tryd.func25, Tryd.ntmps25
  go_wp2_with (first | (go_at_call 39; refine (HC.out _ _).mono ?_; rintro e w2 ⟨rfl, rfl⟩) | fail)
  go_ret
  exact ⟨rfl, rfl⟩
/-- within none -/
theorem Within_none (A : Option Addr) (n c : Nat) (w : World) : Calls Tryd.prog 14 #[.slice A n c, .slice none 0 0] w fun e w' => e = .returned (.bool true) ∧ w' = w := by
  have hup := fun W => run_upto (P := Tryd.prog) A n c 23 43 Tryd.underlying23 szSt 0 (0 : Int) rfl (Nat.zero_le _) W
  have HC := Kp.mk (Alike_nil A none c 0)
  have b1 : (0 : Int) ≤ (n : Int) := by omega
  go_enter Tryd.func14, Tryd.ntmps14
  go_wp2_with (first | (go_at_call 25; refine (HC.out _).mono ?_; rintro e w2 ⟨rfl, rfl⟩) | fail)
  go_ret
  exact ⟨rfl, rfl⟩
theorem none_Within (A : Option Addr) (c : Nat) (w : World) : Calls Tryd.prog 14 #[.slice none 0 0, .slice A 1 c] w fun e w' => e = .returned (.bool false) ∧ w' = w := by
  go_enter Tryd.func14, Tryd.ntmps14
  go_wp2_with fail
  go_ret
  exact ⟨rfl, rfl⟩
theorem up_plain : plainL [32, 32, 65, 98, 32, 32, 67, 32] = [97, 98, 32, 99] := by decide
set_option maxHeartbeats 4000000 in
theorem up9 (w : World) : Calls Tryd.prog 6 #[] w fun e w' => e = .returned (.bool true) ∧ Ext w w' := by
  have HP := Kp.mk (Plain_any (t := [32, 32, 65, 98, 32, 32, 67, 32]) (w := w.alloc (.cells (bv [32, 32, 65, 98, 32, 32, 67, 32]) 5 (8, 9))) (A := some ⟨w.heap.size, 0, none⟩) (n := 8) (c := 8) (const_bs w _ _ 8 8 (8, 9) rfl rfl (by decide)) (by decide))
  have X0 := Kp.mk ((by (repeat (first | assumption | exact Ext.refl _ | apply Ext.drew | apply Ext.drewN | apply Ext.alloc | refine Ext.trans ?_ (by assumption))); first | done | fail) : Ext w (w.alloc (.cells (bv [32, 32, 65, 98, 32, 32, 67, 32]) 5 (8, 9))))
  rw [up_plain] at HP
  have HW := Kp.mk Within_none
  have HN := Kp.mk none_Within
  have kc := run_const
  go_enter Tryd.func6, Tryd.ntmps6
  go_wp2_with fail
  refine HP.out.mono ?_
  rintro e w1 ⟨A1, c1, rfl, hs1, ho1, x1⟩
  have X1 := Kp.mk (X0.out.trans x1)
  have hs1' : Bs w1 A1 4 c1 [97, 98, 32, 99] := hs1
  have S1 := fun (w' : World) (hx : Ext w1 w') => hs1'.str hx
  rw [show strOf [97, 98, 32, 99] = ⟨#[97, 98, 32, 99]⟩ from rfl] at S1
  clear hs1 hs1' ho1 x1 HP X0
  go_wp2_with fail
  refine (HW.out _ _ _ _).mono ?_
  rintro e w2 ⟨rfl, hw⟩
  subst hw
  go_wp2_with fail
  refine (HN.out _ _ _).mono ?_
  rintro e w3 ⟨rfl, hw⟩
  subst hw
  go_wp2_with fail
  go_ret
  exact ⟨rfl, X1.out.trans (by (repeat (first | assumption | exact Ext.refl _ | apply Ext.drew | apply Ext.drewN | apply Ext.alloc | refine Ext.trans ?_ (by assumption))); first | done | fail)⟩
end Go.Proofs.YthookcnkmlmgcaaDoor
