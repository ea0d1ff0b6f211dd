/-
  The walk of the law TlvDeep.
-/
import Derived.Test.YtadndhenfoppiaaVHy
namespace Go.Proofs.Ytadndhenfoppiaa
open Go Go.RowKit
set_option maxRecDepth 4000

/-- wholes in wholes -/
def nest : Nat → List (BitVec 8)
  | 0 => []
  | k + 1 => elm 48 (nest k)
theorem nest_len : ∀ k, k ≤ 60 → (nest k).length = 2 * k
  | 0, _ => rfl
  | k + 1, h => by
    have h1 := nest_len k (by omega)
    rw [nest, elm_len, h1]
    unfold hdn
    rw [if_pos (by omega)]
    omega
theorem nest_el (k : Nat) (h : k ≤ 60) : El (nest (k + 1)) 48 (nest k) [] := ⟨by decide, by rw [nest_len k h]; omega, by rw [List.append_nil]; rfl⟩
/-- what the writer holds behind i Opens; behind j Closes -/
def osN (i : Nat) : TWs := if i ≤ 24 then .ok [] (List.replicate i (48, [])) else .bad 5
def csN (N j : Nat) : TWs := if N ≤ 24 then .ok (nest j) (List.replicate (N - j) (48, [])) else .bad 5
theorem osN_next (i : Nat) : openS 48 (osN i) = osN (i + 1) := by
  unfold osN
  by_cases h : i ≤ 24
  · rw [if_pos h]
    by_cases h2 : i + 1 ≤ 24
    · rw [if_pos h2, open48 _ _ (by rw [List.length_replicate]; omega)]
      rfl
    · rw [if_neg h2]
      simp only [openS]
      rw [if_pos isW48, if_neg (by rw [List.length_replicate]; omega)]
  · rw [if_neg h, if_neg (by omega)]
    rfl
theorem csN_zero (N : Nat) : osN N = csN N 0 := rfl
theorem csN_next (N j : Nat) (h : j < N) : closeS (csN N j) = csN N (j + 1) := by
  unfold csN
  by_cases h1 : N ≤ 24
  · rw [if_pos h1, if_pos h1]
    rw [show N - j = (N - (j + 1)) + 1 by omega, List.replicate_succ]
    simp only [closeS]
    rw [if_pos (by rw [nest_len j (by omega)]; omega), List.nil_append]
    rfl
  · rw [if_neg h1, if_neg h1]
    rfl
theorem ahead_rep : ∀ k, (ahead (List.replicate k ((48 : BitVec 8), ([] : List (BitVec 8))))).length = k
  | 0 => rfl
  | k + 1 => by rw [List.replicate_succ, ahead, List.length_append, List.length_append, ahead_rep k]; rfl
theorem csN_sz (N j : Nat) (h : j ≤ N) : szW (csN N j) ≤ 10000000000000 := by
  unfold csN
  by_cases h1 : N ≤ 24
  · rw [if_pos h1]
    show (flatT _ _).length ≤ _
    rw [flatT_eq, List.length_append, ahead_rep, nest_len j (by omega)]
    omega
  · rw [if_neg h1]; exact Nat.zero_le _
theorem osN_sz (i : Nat) : szW (osN i) ≤ 10000000000000 := by rw [csN_zero]; exact csN_sz i 0 (Nat.zero_le _)
theorem csN_vw (N j : Nat) : VW (csN N j) := by
  unfold csN
  by_cases h1 : N ≤ 24
  · rw [if_pos h1]
    exact ⟨by rw [List.length_replicate]; omega, fun x hx => by rw [(List.mem_replicate.1 hx).2]; exact isW48⟩
  · rw [if_neg h1]; exact ⟨by decide, by decide⟩
theorem csN_done (N : Nat) (h : N ≤ 24) : doneL (csN N N) = nest N ∧ errV (doneC (csN N N)) = .nilIface := by
  unfold csN
  rw [if_pos h, Nat.sub_self]
  exact ⟨rfl, rfl⟩
theorem csN_deep (N : Nat) (h : 24 < N) : doneL (csN N N) = [] ∧ errV (doneC (csN N N)) = err 5 := by
  unfold csN
  rw [if_neg (by omega)]
  exact ⟨rfl, rfl⟩
theorem rep_last (k : Nat) (x : List (BitVec 8)) : List.replicate (k + 1) x = List.replicate k x ++ [x] := List.replicate_succ'
set_option maxHeartbeats 16000000 in
theorem TlvDeep_not {w : World} (x : Int) (hb : -9223372036854775808 ≤ x ∧ x ≤ 9223372036854775807) (N : Nat) (hk : pk x 30 = (N : Int)) (hl : N ≤ 24) (hN : N < 30) : Calls Try.prog 6 #[.int .i64 x] w fun e w' => e = .returned (.bool true) ∧ Below w.heap.size w w' := by
  have HU := Kp.mk (fun u => up7_any u)
  have PK := Kp.mk (fun u => pick_any x 30 hb.1 hb.2 (by decide) (by decide) u)
  rw [hk] at PK
  have HL := Kp.mk hl
  have HN := Kp.mk hN
  have b3 : decide ((24 : Int) < (N : Int)) = false := decide_eq_false (by omega)
  have b3' : decide (24 < N) = false := decide_eq_false (by omega)
  have HD := Kp.mk (csN_done N hl)
  have HL5 : Kp ((nest N).length ≤ 1000) := ⟨by rw [nest_len N (by omega)]; omega⟩
  clear hb hk hl hN
  go_enter Try.func6, Try.ntmps6
  go_wp2_with fail
  refine (HU.out _).mono ?_
  rintro e w1 ⟨rfl, x1⟩
  go_wp2_with fail
  refine (PK.out _).mono ?_
  rintro e w1' ⟨rfl, rfl⟩
  go_wp2_with fail
  refine (Pw.new _).mono ?_
  rintro e w2 ⟨rfl, p2, x2⟩
  have P2 := Kp.mk p2
  have X1 := Kp.mk x1
  have X2 := Kp.mk (x1.trans x2)
  clear p2 x1 x2
  go_wp2_with fail
  go_loopw [5] (fun iv wr => ∃ i : Nat, 0 ≤ i ∧ i ≤ N ∧ iv = .int .i64 (i : Int) ∧ Pw w1'.heap.size wr w1'.heap.size (osN i) ∧ Ext w wr) (fun i _ => N - (intOf i).toNat)
  case atStart => exact ⟨0, Nat.le_refl _, Nat.zero_le _, rfl, P2.out, X2.out⟩
  case round =>
    obtain ⟨i, hi0, hi, rfl, hp, hx⟩ := hrel
    by_cases hlt : i < N
    · have b1 : (i : Int) < (N : Int) := by omega
      have b2 : IntKind.i64.wrap ((i : Int) + 1) = (i : Int) + 1 := by have := HN.out; rw [IntKind.wrap_i64]; omega
      have HP := Kp.mk hp
      have HX := Kp.mk hx
      clear hp hx
      go_wp2_with fail
      refine (HP.out.open_ 48 (osN_sz i)).mono ?_
      rintro e w3 ⟨rfl, p3, y3⟩
      rw [osN_next] at p3
      have e3 := y3 w HX.out X1.out.size
      clear y3
      go_wp2_with fail
      go_roundw
      case rel => exact ⟨i + 1, by omega, by omega, by go_num, p3, e3⟩
      case measure => simp [intOf]; omega
    · obtain rfl : N = i := by omega
      clear hlt hi hi0
      rw [csN_zero] at hp
      have HP0 := Kp.mk hp
      have HX0 := Kp.mk hx
      clear hp hx
      go_wp2_with fail
      obtain ⟨wo, rfl⟩ : ∃ wo : World, wo = wr := ⟨_, rfl⟩
      go_loopw [6] (fun iv wr => ∃ i : Nat, 0 ≤ i ∧ i ≤ N ∧ iv = .int .i64 (i : Int) ∧ Pw w1'.heap.size wr w1'.heap.size (csN N i) ∧ Ext w wr) (fun i _ => N - (intOf i).toNat)
      case atStart => exact ⟨0, Nat.le_refl _, Nat.zero_le _, rfl, HP0.out, HX0.out⟩
      case round =>
        obtain ⟨i, hi0, hi, rfl, hp, hx⟩ := hrel
        by_cases hlt : i < N
        · have b1 : (i : Int) < (N : Int) := by omega
          have b2 : IntKind.i64.wrap ((i : Int) + 1) = (i : Int) + 1 := by have := HN.out; rw [IntKind.wrap_i64]; omega
          have HP := Kp.mk hp
          have HX := Kp.mk hx
          clear hp hx
          go_wp2_with fail
          refine (HP.out.close (csN_vw N i) (csN_sz N i (by omega))).mono ?_
          rintro e w3 ⟨rfl, p3, y3⟩
          rw [csN_next N i hlt] at p3
          have e3 := y3 w HX.out X1.out.size
          clear y3
          go_wp2_with fail
          go_roundw
          case rel => exact ⟨i + 1, by omega, by omega, by go_num, p3, e3⟩
          case measure => simp [intOf]; omega
        · obtain rfl : N = i := by omega
          clear hlt hi hi0
          have HP1 := Kp.mk hp
          have HX1 := Kp.mk hx
          clear hp hx HP0 HX0
          obtain ⟨wq, rfl⟩ : ∃ wq : World, wq = wr := ⟨_, rfl⟩
          go_wp2_with fail
          refine (HP1.out.bytes (csN_vw N N) (csN_sz N N (Nat.le_refl _))).mono ?_
          rintro e w5 ⟨A5, n5, c5, rfl, ho5, x5⟩
          rw [HD.out.1] at ho5
          rw [HD.out.2]
          have hn5 := ho5.len
          have HO5 := Kp.mk ho5
          have X5 := Kp.mk (HX1.out.trans x5)
          have HN5 : Kp (n5 ≤ 1000) := ⟨by have := HL5.out; omega⟩
          clear ho5 x5 hn5
          go_wp2_with fail
          refine (Pq.new HO5.out.bs (Nat.le_trans HN5.out (by decide))).mono ?_
          rintro e w6 ⟨q, rfl, p6, x6⟩
          have P6 := Kp.mk p6
          have X6 := Kp.mk (X5.out.trans x6)
          have XS := Kp.mk X5.out.size
          clear p6 x6
          go_wp2_with fail
          go_loopw [15] (fun iv wr => ∃ i : Nat, 0 ≤ i ∧ i ≤ N ∧ iv = .int .i64 (i : Int) ∧ Pq w5.heap.size wr q (nest (N - i)) (List.replicate i []) ∧ Ext w wr) (fun i _ => N - (intOf i).toNat)
          case atStart => exact ⟨0, Nat.le_refl _, Nat.zero_le _, rfl, P6.out, X6.out⟩
          case round =>
            obtain ⟨i, hi0, hi, rfl, hp, hx⟩ := hrel
            by_cases hlt : i < N
            · have b1 : (i : Int) < (N : Int) := by omega
              have b2 : IntKind.i64.wrap ((i : Int) + 1) = (i : Int) + 1 := by have := HN.out; rw [IntKind.wrap_i64]; omega
              have HP := Kp.mk hp
              have HX := Kp.mk hx
              clear hp hx
              go_wp2_with fail
              have hr : N - i = (N - (i + 1)) + 1 := by omega
              have HP' := HP.out
              rw [hr] at HP'
              refine (HP'.enter (by rw [nest_len _ (by have := HN.out; omega)]; have := HN.out; omega) isW48 (nest_el _ (by have := HN.out; omega)) (by rw [List.length_replicate]; have := HL.out; omega)).mono ?_
              rintro e w7 ⟨rfl, p7, y7⟩
              rw [← rep_last] at p7
              have e7 := y7 w HX.out XS.out
              clear y7 HP' hr
              go_wp2_with fail
              go_roundw
              case rel => exact ⟨i + 1, by omega, by omega, by go_num, p7, e7⟩
              case measure => simp [intOf]; omega
            · obtain rfl : N = i := by omega
              clear hlt hi hi0
              rw [Nat.sub_self] at hp
              have HP7 := Kp.mk hp
              have HX7 := Kp.mk hx
              clear hp hx
              obtain ⟨wt, rfl⟩ : ∃ wt : World, wt = wr := ⟨_, rfl⟩
              go_wp2_with fail
              go_loopw [17] (fun iv wr => ∃ i : Nat, 0 ≤ i ∧ i ≤ N ∧ iv = .int .i64 (i : Int) ∧ Pq w5.heap.size wr q [] (List.replicate (N - i) []) ∧ Ext w wr) (fun i _ => N - (intOf i).toNat)
              case atStart => exact ⟨0, Nat.le_refl _, Nat.zero_le _, rfl, HP7.out, HX7.out⟩
              case round =>
                obtain ⟨i, hi0, hi, rfl, hp, hx⟩ := hrel
                by_cases hlt : i < N
                · have b1 : (i : Int) < (N : Int) := by omega
                  have b2 : IntKind.i64.wrap ((i : Int) + 1) = (i : Int) + 1 := by have := HN.out; rw [IntKind.wrap_i64]; omega
                  have HP := Kp.mk hp
                  have HX := Kp.mk hx
                  clear hp hx
                  go_wp2_with fail
                  have hr : N - i = (N - (i + 1)) + 1 := by omega
                  have HP' := HP.out
                  rw [hr, rep_last] at HP'
                  refine (HP'.leave (by rw [List.length_replicate]; have := HN.out; omega)).mono ?_
                  rintro e w8 ⟨rfl, p8, y8⟩
                  have e8 := y8 w HX.out XS.out
                  clear y8 HP' hr
                  go_wp2_with fail
                  go_roundw
                  case rel => exact ⟨i + 1, by omega, by omega, by go_num, p8, e8⟩
                  case measure => simp [intOf]; omega
                · obtain rfl : N = i := by omega
                  clear hlt hi hi0
                  rw [Nat.sub_self] at hp
                  have HP8 := Kp.mk hp
                  have HX8 := Kp.mk hx
                  clear hp hx
                  obtain ⟨wu, rfl⟩ : ∃ wu : World, wu = wr := ⟨_, rfl⟩
                  go_wp2_with fail
                  refine (HP8.out.end_).mono ?_
                  rintro e w9 ⟨rfl, rfl⟩
                  go_wp2_with fail
                  go_ret
                  exact ⟨rfl, HX8.out.b⟩
end Go.Proofs.Ytadndhenfoppiaa
