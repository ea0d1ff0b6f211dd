/-
  The walk of the reference's Tail.
-/
import Derived.Test.YtkjfhgbpiogigaaDoorWf
import Derived.Test.YtkjfhgbpiogigaaDoorPuree
namespace Go.Proofs.YtkjfhgbpiogigaaDoor
open Go Go.RowKit

theorem own_has {w : World} {base g e n : Nat} {l : List (BitVec 8)} (h : Has w g e (bv l)) (hl : l.length = n) (hb : base ≤ g) (hm : n ≤ maxLen) : w.ownsRow base e 1 (.slice (some ⟨g, 0, none⟩) n n) n (l.map vb) := by
  subst hl
  refine ⟨by simp, .inr ⟨g, l.length, bv l, rfl, hb, h, Nat.le_refl _, hm, by rw [bv_size, Nat.mul_one], ?_⟩⟩
  rw [List.take_of_length_le (by simp [bv])]
  simp [bv]
/-- what the loops of the reference's Tail keep -/
def TI (w : World) (m : Nat) (l : List (BitVec 8)) (v : Value) (wr : World) : Prop := wr.ownsRow w.heap.size 5 1 v m (l.map vb) ∧ Below w.heap.size w wr

set_option maxHeartbeats 2000000 in
theorem refTail_any (n : Nat) (w : World) (hn : n ≤ 281474976710656) :
    Calls Tryd.prog 26 #[.int .i64 (n : Int)] w fun e w' => ∃ v, e = .returned v ∧ w'.ownsRow w.heap.size 5 1 v (tailLen n) ((tailTo n 8).map vb) ∧ Below w.heap.size w w' := by
  have hJ := tailZ_hi n
  go_enter Tryd.func26, Tryd.ntmps26
  go_wp2
  go_loopw [3] (fun v wr => ∃ j : Nat, j ≤ tailZ n ∧ TI w (1 + j) (128 :: zb j) v wr) (fun v _ => 100 - lenOf v)
  case atStart =>
    exact ⟨0, Nat.zero_le _, own_has (Has.new w 5 (bv [128]) _ rfl) rfl (Nat.le_refl _) (by decide), (Below.refl _ _).alloc (Nat.le_refl _) _⟩
  case round =>
    obtain ⟨j, hj, hown, hb⟩ := hrel
    obtain ⟨A, c, rfl, hsl⟩ := Sl.of_own hown
    have hstop := tailZ_stop n j hj
    by_cases hlt : j = tailZ n
    · have h0 : ((n : Int) + (1 + (j : Int)) + 8) % 64 = 0 := by have := hstop.2 hlt; omega
      have hmk := run_mkbytes 8 8 rfl (by decide)
      have HJ := Lib.hid hlt
      clear hstop hlt
      go_wp2
      have hg : Has (wr.alloc (.cells (bv (zb 8)) 5)) wr.heap.size 5 (bv (beTo (8 * n) 0)) := Has.new _ _ _ _ rfl
      have hb2 : Below wr.heap.size wr (wr.alloc (.cells (bv (zb 8)) 5)) := (Below.refl _ _).alloc (Nat.le_refl _) _
      generalize (wr.alloc (.cells (bv (zb 8)) 5)) = w2 at *
      have HO := Lib.hid hown
      have HB := Lib.hid hb
      clear hown hb hsl hmk
      obtain ⟨wo, rfl⟩ : ∃ wo : World, wo = wr := ⟨_, rfl⟩
      go_loopw [5, 6] (fun b i wr => ∃ q : Nat, q ≤ 8 ∧ i = .int .i64 (7 - (q : Int)) ∧ b = .int .i64 ((8 * n / 256 ^ q : Nat) : Int) ∧ Has wr wo.heap.size 5 (bv (beTo (8 * n) q)) ∧ Below wo.heap.size wo wr) (fun _ i _ => (intOf i + 1).toNat)
      case atStart => exact ⟨0, by omega, rfl, by simp, hg, hb2⟩
      case round =>
        clear hg hb2
        obtain ⟨q, hq, rfl, rfl, hg, hb2⟩ := hrel
        have hm8 : 8 * n / 256 ^ q ≤ 8 * n := Nat.div_le_self _ _
        have hnx : 8 * n / 256 ^ (q + 1) = 8 * n / 256 ^ q / 256 := by rw [Nat.pow_succ, Nat.div_div_eq_div_mul]
        by_cases hlq : q < 8
        · have hst := hg.set (7 - q) (.int .u8 (ub (BitVec.ofNat 8 (8 * n / 256 ^ q))))
          rw [bv_set, show (beTo (8 * n) q).set (7 - q) (BitVec.ofNat 8 (8 * n / 256 ^ q)) = beTo (8 * n) (q + 1) from rfl, ub_ofNat] at hst
          have hc := (hg.cell (7 - q)).trans (bv_at _ (7 - q) (by rw [beTo_len]; omega))
          have hf := hg.frozen (7 - q)
          have HST := Lib.hid hst
          have HNX := Lib.hid hnx
          clear hst hnx
          obtain ⟨m, hm⟩ : ∃ m, 8 * n / 256 ^ q = m := ⟨_, rfl⟩
          rw [hm] at hm8 HST HNX ⊢
          clear hm
          go_wp2
          go_roundw
          case rel =>
            refine ⟨q + 1, by omega, ?_, ?_, HST.out, hb2.setCell (Nat.le_refl _) _⟩
            · exact congrArg (Value.int .i64) (by omega)
            · rw [HNX.out]; exact congrArg (Value.int .i64) (by omega)
          case measure => simp [intOf]; omega
        · obtain rfl : q = 8 := by omega
          have hown := own_below HO.out hb2
          have hbw : Below w.heap.size w wr := HB.out.trans (hb2.mono HB.out.size)
          have hl := sl_has hg (beTo_len _ _) (Nat.le_refl 8)
          have HH := Lib.hid hnx
          clear hnx
          go_wp2_with (first | (at_builtin; refine wpList_append_sl rfl _ _ 36 rfl w.heap.size 5 Tryd.underlying36 infoB _ (1 + j) _ rfl hown _ 8 8 (beTo (8 * n) 8) rfl hl (by omega) hbw.size ?_; intro v9 w9 hown9 hg9) | fail)
          have hb9 : Below w.heap.size w w9 := hbw.grown hg9 hbw.size (own_base hown)
          go_ret
          refine ⟨_, rfl, ?_, hb9⟩
          rw [tail_be n 8 (Nat.le_refl _), ← HJ.out, ← tailZ_len, ← HJ.out, List.map_append, show j + 9 = 1 + j + 8 by omega]
          exact hown9
    · have h0 : ¬ ((n : Int) + (1 + (j : Int)) + 8) % 64 = 0 := by intro e; exact hlt (hstop.1 (by omega))
      have HX := Lib.hid hlt
      clear hstop hlt
      go_wp2_with (first | (at_builtin; refine wpList_append_sl rfl _ _ 36 rfl w.heap.size 5 Tryd.underlying36 infoB _ (1 + j) _ rfl (hown.alloc _) _ 1 1 [0] rfl (sl_has (t := 5) (Has.new wr 5 (bv [0]) _ rfl) rfl (Nat.le_refl _)) (by omega) (Nat.le_trans hb.size (by simp)) ?_; intro v8 w8 hown8 hg8) | fail)
      have hb8 : Below w.heap.size w w8 := (hb.alloc hb.size _).grown hg8 (Nat.le_trans hb.size (by simp)) (own_base hown)
      rw [← List.map_append, List.cons_append, zb_snoc] at hown8
      obtain ⟨A8, c8, rfl, _⟩ := Sl.of_own hown8
      go_roundw
      case rel => exact ⟨j + 1, by have := HX.out; omega, hown8, hb8⟩
      case measure => simp [lenOf]; omega
end Go.Proofs.YtkjfhgbpiogigaaDoor
