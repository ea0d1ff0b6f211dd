/-
  The walk of the law TlvDeep, where it is too deep.
-/
import Derived.Test.YtadndhenfoppiaaVHz
import Derived.Test.YtadndhenfoppiaaVEn
namespace Go.Proofs.Ytadndhenfoppiaa
open Go Go.RowKit
set_option maxRecDepth 4000

set_option maxHeartbeats 16000000 in
theorem TlvDeep_deep {w : World} (x : Int) (hb : -9223372036854775808 ≤ x ∧ x ≤ 9223372036854775807) (N : Nat) (hk : pk x 30 = (N : Int)) (hl : 24 < N) (hN : N < 30) : Calls Try.prog 6 #[.int .i64 x] w fun e w' => e = .returned (.bool true) ∧ Below w.heap.size w w' := by
  have HU := Kp.mk (fun u => up7_any u)
  have PK := Kp.mk (fun u => pick_any x 30 hb.1 hb.2 (by decide) (by decide) u)
  rw [hk] at PK
  have HL := Kp.mk hl
  have HN := Kp.mk hN
  have b3 : (24 : Int) < (N : Int) := by omega
  have b3' : 24 < N := hl
  have HD := Kp.mk (csN_deep N hl)
  have ee := code_eq 5 5
  have en := code_neq 5 5
  clear hb hk hl hN
  go_enter Try.func6, Try.ntmps6
  go_wp2_with fail
  refine (HU.out _).mono ?_
  rintro e w1 ⟨rfl, x1⟩
  go_wp2_with fail
  refine (PK.out _).mono ?_
  rintro e w1' ⟨rfl, rfl⟩
  go_wp2_with fail
  refine (Pw.new _).mono ?_
  rintro e w2 ⟨rfl, p2, x2⟩
  have P2 := Kp.mk p2
  have X1 := Kp.mk x1
  have X2 := Kp.mk (x1.trans x2)
  clear p2 x1 x2
  go_wp2_with fail
  go_loopw [5] (fun iv wr => ∃ i : Nat, 0 ≤ i ∧ i ≤ N ∧ iv = .int .i64 (i : Int) ∧ Pw w1'.heap.size wr w1'.heap.size (osN i) ∧ Ext w wr) (fun i _ => N - (intOf i).toNat)
  case atStart => exact ⟨0, Nat.le_refl _, Nat.zero_le _, rfl, P2.out, X2.out⟩
  case round =>
    obtain ⟨i, hi0, hi, rfl, hp, hx⟩ := hrel
    by_cases hlt : i < N
    · have b1 : (i : Int) < (N : Int) := by omega
      have b2 : IntKind.i64.wrap ((i : Int) + 1) = (i : Int) + 1 := by have := HN.out; rw [IntKind.wrap_i64]; omega
      have HP := Kp.mk hp
      have HX := Kp.mk hx
      clear hp hx
      go_wp2_with fail
      refine (HP.out.open_ 48 (osN_sz i)).mono ?_
      rintro e w3 ⟨rfl, p3, y3⟩
      rw [osN_next] at p3
      have e3 := y3 w HX.out X1.out.size
      clear y3
      go_wp2_with fail
      go_roundw
      case rel => exact ⟨i + 1, by omega, by omega, by go_num, p3, e3⟩
      case measure => simp [intOf]; omega
    · obtain rfl : N = i := by omega
      clear hlt hi hi0
      rw [csN_zero] at hp
      have HP0 := Kp.mk hp
      have HX0 := Kp.mk hx
      clear hp hx
      go_wp2_with fail
      obtain ⟨wo, rfl⟩ : ∃ wo : World, wo = wr := ⟨_, rfl⟩
      go_loopw [6] (fun iv wr => ∃ i : Nat, 0 ≤ i ∧ i ≤ N ∧ iv = .int .i64 (i : Int) ∧ Pw w1'.heap.size wr w1'.heap.size (csN N i) ∧ Ext w wr) (fun i _ => N - (intOf i).toNat)
      case atStart => exact ⟨0, Nat.le_refl _, Nat.zero_le _, rfl, HP0.out, HX0.out⟩
      case round =>
        obtain ⟨i, hi0, hi, rfl, hp, hx⟩ := hrel
        by_cases hlt : i < N
        · have b1 : (i : Int) < (N : Int) := by omega
          have b2 : IntKind.i64.wrap ((i : Int) + 1) = (i : Int) + 1 := by have := HN.out; rw [IntKind.wrap_i64]; omega
          have HP := Kp.mk hp
          have HX := Kp.mk hx
          clear hp hx
          go_wp2_with fail
          refine (HP.out.close (csN_vw N i) (csN_sz N i (by omega))).mono ?_
          rintro e w3 ⟨rfl, p3, y3⟩
          rw [csN_next N i hlt] at p3
          have e3 := y3 w HX.out X1.out.size
          clear y3
          go_wp2_with fail
          go_roundw
          case rel => exact ⟨i + 1, by omega, by omega, by go_num, p3, e3⟩
          case measure => simp [intOf]; omega
        · obtain rfl : N = i := by omega
          clear hlt hi hi0
          have HP1 := Kp.mk hp
          have HX1 := Kp.mk hx
          clear hp hx HP0 HX0
          obtain ⟨wq, rfl⟩ : ∃ wq : World, wq = wr := ⟨_, rfl⟩
          go_wp2_with fail
          refine (HP1.out.bytes (csN_vw N N) (csN_sz N N (Nat.le_refl _))).mono ?_
          rintro e w5 ⟨A5, n5, c5, rfl, ho5, x5⟩
          rw [HD.out.1] at ho5
          rw [HD.out.2]
          obtain rfl : n5 = 0 := ho5.len.symm
          have X5 := Kp.mk (HX1.out.trans x5)
          clear ho5 x5
          go_wp2_with fail
          refine (refElement_ok 48 (Bs.nil w5) (by decide)).mono ?_
          rintro e w6 ⟨A6, c6, rfl, s6, o6, x6⟩
          have S6 := Kp.mk s6
          have X6 := Kp.mk (X5.out.trans x6)
          clear s6 o6 x6
          go_wp2_with fail
          go_loopw [9, 10] (fun ov iv wr => ∃ i : Nat, 1 ≤ i ∧ i ≤ N ∧ iv = .int .i64 (i : Int) ∧ (∃ A c, ov = .slice A (2 * i) c ∧ Bs wr A (2 * i) c (nest i)) ∧ Ext w wr) (fun _ i _ => N - (intOf i).toNat)
          case atStart => exact ⟨1, Nat.le_refl _, by omega, rfl, ⟨_, _, rfl, S6.out⟩, X6.out⟩
          case round =>
            obtain ⟨i, hi0, hi, rfl, ⟨A, c, rfl, hs⟩, hx⟩ := hrel
            by_cases hlt : i < N
            · have b1 : (i : Int) < (N : Int) := by omega
              have b2 : IntKind.i64.wrap ((i : Int) + 1) = (i : Int) + 1 := by have := HN.out; rw [IntKind.wrap_i64]; omega
              have HS := Kp.mk hs
              have HX := Kp.mk hx
              clear hs hx
              have hz : hdn (2 * i) + 2 * i = 2 * (i + 1) := by have := HN.out; unfold hdn; rw [if_pos (by omega)]; omega
              have C := refElement_ok 48 HS.out (by have := HN.out; omega)
              rw [hz, show elm 48 (nest i) = nest (i + 1) from rfl] at C
              have CC := Kp.mk C
              clear C hz
              go_wp2_with fail
              refine CC.out.mono ?_
              rintro e w7 ⟨A7, c7, rfl, s7, o7, x7⟩
              go_wp2_with fail
              go_roundw
              case rel => exact ⟨i + 1, by omega, by omega, by go_num, ⟨_, _, rfl, s7⟩, HX.out.trans x7⟩
              case measure => simp [intOf]; omega
            · obtain rfl : N = i := by omega
              clear hlt hi hi0
              have HS := Kp.mk hs
              have HX := Kp.mk hx
              clear hs hx S6 X6
              obtain ⟨wv, rfl⟩ : ∃ wv : World, wv = wr := ⟨_, rfl⟩
              go_wp2_with fail
              refine (Pq.new HS.out (by have := HN.out; omega)).mono ?_
              rintro e w8 ⟨q, rfl, p8, x8⟩
              have P8 := Kp.mk p8
              have X8 := Kp.mk (HX.out.trans x8)
              have XS := Kp.mk HX.out.size
              clear p8 x8
              go_wp2_with fail
              go_loopw [12] (fun iv wr => ∃ i : Nat, i ≤ N ∧ iv = .int .i64 (i : Int) ∧ Pq wv.heap.size wr q (nest (N - min i 24)) (List.replicate (min i 24) []) ∧ Ext w wr) (fun i _ => N - (intOf i).toNat)
              case atStart => exact ⟨0, Nat.zero_le _, rfl, P8.out, X8.out⟩
              case round =>
                obtain ⟨i, hi, rfl, hp, hx⟩ := hrel
                by_cases hlt : i < N
                · have b1 : (i : Int) < (N : Int) := by omega
                  have b2 : IntKind.i64.wrap ((i : Int) + 1) = (i : Int) + 1 := by have := HN.out; rw [IntKind.wrap_i64]; omega
                  have HP := Kp.mk hp
                  have HX := Kp.mk hx
                  clear hp hx
                  by_cases hi24 : i < 24
                  · have c1 : (i : Int) < 24 := by omega
                    have c2 : decide ((24 : Int) ≤ (i : Int)) = false := decide_eq_false (by omega)
                    have c3 : decide (24 ≤ i) = false := decide_eq_false (by omega)
                    have HP' := HP.out
                    rw [show min i 24 = i by omega, show N - i = (N - (i + 1)) + 1 by omega] at HP'
                    have HPP := Kp.mk HP'
                    have H2 := Kp.mk hi24
                    clear HP' hi24
                    go_wp2_with fail
                    refine (HPP.out.enter (by rw [nest_len _ (by have := HN.out; omega)]; have := HN.out; omega) isW48 (nest_el _ (by have := HN.out; omega)) (by rw [List.length_replicate]; exact H2.out)).mono ?_
                    rintro e w9 ⟨rfl, p9, y9⟩
                    rw [← rep_last] at p9
                    have e9 := y9 w HX.out XS.out
                    clear y9
                    go_wp2_with fail
                    go_roundw
                    case rel => exact ⟨i + 1, by omega, by go_num, by have := H2.out; rw [show min (i + 1) 24 = i + 1 by omega]; exact p9, e9⟩
                    case measure => simp [intOf]; omega
                  · have c1 : decide ((i : Int) < 24) = false := decide_eq_false (by omega)
                    have c1' : decide (i < 24) = false := decide_eq_false (by omega)
                    have c2 : (24 : Int) ≤ (i : Int) := by omega
                    have c3 : 24 ≤ i := by omega
                    have HP' := HP.out
                    rw [show min i 24 = 24 by omega, show N - 24 = (N - 25) + 1 by omega] at HP'
                    have HPP := Kp.mk HP'
                    have H2 := Kp.mk c3
                    clear HP' hi24 c3
                    go_wp2_with fail
                    refine (HPP.out.deep (by rw [nest_len _ (by have := HN.out; omega)]; have := HN.out; omega) isW48 (nest_el _ (by have := HN.out; omega)) (by rw [List.length_replicate]; exact Nat.le_refl _)).mono ?_
                    rintro e w9 ⟨rfl, p9, y9⟩
                    have e9 := y9 w HX.out XS.out
                    clear y9
                    go_wp2_with fail
                    go_roundw
                    case rel => exact ⟨i + 1, by omega, by go_num, by have := H2.out; rw [show min (i + 1) 24 = 24 by omega, show N - 24 = (N - 25) + 1 by omega]; exact p9, e9⟩
                    case measure => simp [intOf]; omega
                · obtain rfl : N = i := by omega
                  have HX9 := Kp.mk hx
                  clear hlt hi hp hx
                  go_wp2_with fail
                  go_ret
                  exact ⟨rfl, HX9.out.b⟩
theorem TlvDeep_any {w : World} (x : Int) (hb : -9223372036854775808 ≤ x ∧ x ≤ 9223372036854775807) : Calls Try.prog 6 #[.int .i64 x] w fun e w' => e = .returned (.bool true) ∧ Below w.heap.size w w' := by
  obtain ⟨k, hk, hk30⟩ : ∃ k : Nat, pk x 30 = (k : Int) ∧ k < 30 := by
    have h1 : 0 ≤ pk x 30 := Int.emod_nonneg _ (by decide)
    have h2 : pk x 30 < 30 := Int.emod_lt_of_pos _ (by decide)
    exact ⟨(pk x 30).toNat, by omega, by omega⟩
  by_cases hl : k ≤ 24
  · exact TlvDeep_not x hb k hk hl hk30
  · exact TlvDeep_deep x hb k hk (by omega) hk30
end Go.Proofs.Ytadndhenfoppiaa
