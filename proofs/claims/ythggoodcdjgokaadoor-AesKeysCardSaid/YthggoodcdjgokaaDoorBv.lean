/-
  The walks of the laws AesSubstitutes, AesKeys.
-/
import Derived.Test.YthggoodcdjgokaaDoorBu
import Derived.Test.YthggoodcdjgokaaDoorEb
namespace Go.Proofs.YthggoodcdjgokaaDoor
open Go Go.RowKit

/-- how many of the first so many bytes have b as their substitute -/
def cnt (b : BitVec 8) : Nat → Nat
  | 0 => 0
  | k + 1 => if gb SB k = b then cnt b k + 1 else cnt b k
theorem cnt_le (b : BitVec 8) (k : Nat) : cnt b k ≤ k := by
  induction k with
  | zero => exact Nat.le_refl _
  | succ k ih => rw [cnt]; split <;> omega
set_option maxRecDepth 100000 in
theorem cnt_one (b : BitVec 8) : cnt b 256 = 1 := all8 (p := fun b => cnt b 256 = 1) (by decide +kernel) b
set_option maxHeartbeats 2000000 in
theorem AesSubstitutes_any (b : BitVec 8) {w : World} (hw : Lay3 w) :
    Calls Tryd.prog 3 #[.int .u8 (ub b)] w fun e w' => e = .returned (.bool true) ∧ Below w.heap.size w w' := by
  go_enter Tryd.func3, Tryd.ntmps3
  go_wp2_with fail
  refine (up3_any _ hw).mono ?_
  rintro e w1 ⟨rfl, hx1⟩
  have hw1 := hw.ext hx1
  have HX1 := Kp.mk hx1
  clear hw hx1
  go_wp2_with fail
  go_loopw [4, 5] (fun nv iv wr => ∃ j : Nat, j ≤ 256 ∧ iv = .int .i64 j ∧ nv = .int .i64 ((cnt b j : Nat) : Int) ∧ w1 = wr) (fun _ i _ => 256 - (intOf i).toNat)
  case atStart => exact ⟨0, by omega, rfl, rfl, rfl⟩
  case round =>
    obtain ⟨j, hj, rfl, rfl, rfl⟩ := hrel
    by_cases hlt : j < 256
    · have b1 : (j : Int) < 256 := by omega
      have hub : ub (BitVec.ofNat 8 j) = (j : Int) := by rw [ub_ofNat]; omega
      have hcall := Substitute_any (BitVec.ofNat 8 j) w1 hw1
      rw [hub, sb_num j hlt] at hcall
      have heq := ub_beq (gb SB j) b
      have hcl := cnt_le b j
      by_cases hc : gb SB j = b
      · have HC : Kp (cnt b (j + 1) = cnt b j + 1) := ⟨by rw [cnt, if_pos hc]⟩
        rw [beq_iff_eq.2 hc] at heq
        clear hc hub
        generalize gb SB j = x at *
        go_wp2_with (first | (go_at_call 10; refine hcall.mono ?_; rintro e w2 ⟨rfl, rfl⟩) | fail)
        go_roundw
        case rel => exact ⟨j + 1, by omega, by go_num, by rw [HC.out]; go_num, trivial⟩
        case measure => simp [intOf]; omega
      · have HC : Kp (cnt b (j + 1) = cnt b j) := ⟨by rw [cnt, if_neg hc]⟩
        rw [beq_eq_false_iff_ne.2 hc] at heq
        clear hc hub
        generalize gb SB j = x at *
        go_wp2_with (first | (go_at_call 10; refine hcall.mono ?_; rintro e w2 ⟨rfl, rfl⟩) | fail)
        go_roundw
        case rel => exact ⟨j + 1, by omega, by go_num, by rw [HC.out], trivial⟩
        case measure => simp [intOf]; omega
    · obtain rfl : j = 256 := by omega
      rw [cnt_one b]
      go_wp2_with (first | (go_at_call 10; refine (Substitute_any b _ hw1).mono ?_; rintro e w2 ⟨rfl, rfl⟩) | (go_at_call 11; refine (refSub_any b _).mono ?_; rintro e w3 ⟨rfl, hx3⟩) | fail)
      go_ret
      refine ⟨?_, ((HX1.out.trans hx3)).b⟩
      rfl

set_option maxHeartbeats 4000000 in
theorem AesKeys_any {k : List (BitVec 8)} {A : Option Addr} {n c : Nat} {w : World} (hk : Bs w A n c k) (hw : Lay3 w) :
    Calls Tryd.prog 4 #[.slice A n c] w fun e w' => e = .returned (.bool true) ∧ Below w.heap.size w w' := by
  go_enter Tryd.func4, Tryd.ntmps4
  go_wp2_with fail
  refine (up3_any _ hw).mono ?_
  rintro e w1 ⟨rfl, hx1⟩
  by_cases hn : n = 16
  · subst hn
    have hk1 := hk.ext hx1
    have hw1 := hw.ext hx1
    go_wp2_with fail
    refine (Keys_any hk1 hw1).mono ?_
    rintro e w2 ⟨A2, c2, rfl, hr2, hx2⟩
    go_wp2_with fail
    refine (Table_any _).mono ?_
    rintro e w3 ⟨A3, c3, rfl, hs3, _, hx3⟩
    go_wp2_with fail
    refine (refKeys_any hs3 (hk1.ext (hx2.trans hx3))).mono ?_
    rintro e w4 ⟨A4, c4, rfl, hr4, hx4⟩
    have hr2' := hr2.ext (hx3.trans hx4)
    have HX := Kp.mk (hx1.trans (hx2.trans (hx3.trans hx4)))
    have hkl := hk.len
    have hge : ∀ {B A c}, Rws w4 B (.slice A 11 c) (kl k 11) → ∃ g, A = some ⟨g, 0, none⟩ ∧ ∀ j, j < 11 → ∃ x, (∀ w', Ext w4 w' → w'.cell? ⟨g, j, none⟩ = some x) ∧ ∀ w', Ext w4 w' → (convert 25 9 x).run Tryd.prog w' = .ok (.string (strOf (ks k j))) w' := fun {B A c} h => by
      obtain ⟨g, cg, _, _, e1, _⟩ := h.get 0 _ (kl_at k 11 0 (by decide))
      obtain rfl : A = some ⟨g, 0, none⟩ := by cases e1; rfl
      refine ⟨g, rfl, fun j hj => ?_⟩
      obtain ⟨g', c', Aw, dw, e2, _, hg2, hcw, how, _⟩ := h.get j _ (kl_at k 11 j hj)
      obtain rfl : g = g' := by cases e2; rfl
      exact ⟨_, fun w' hx' => (hx'.b.cell (p := ⟨g, j, none⟩) hg2).trans hcw, fun w' hx' => how.bs.str hx'⟩
    obtain ⟨ga, rfl, ha⟩ := hge hr2'
    obtain ⟨gb', rfl, hb⟩ := hge hr4
    have HA := Kp.mk ha
    have HB := Kp.mk hb
    clear hr2 hr2' hr4 hge ha hb hk hk1 hw hw1 hs3 hx1 hx2 hx3 hx4 hkl
    go_wp2_with fail
    go_loopw [7] (fun iv wr => ∃ j : Nat, j ≤ 11 ∧ iv = .int .i64 j ∧ Ext w4 wr) (fun i _ => 11 - (intOf i).toNat)
    case atStart => exact ⟨0, by omega, rfl, Ext.refl _⟩
    case round =>
      obtain ⟨j, hj, rfl, hx⟩ := hrel
      by_cases hlt : j < 11
      · have b1 : (j : Int) < 11 := by omega
        obtain ⟨xa, ha1, ha2⟩ := HA.out j hlt
        obtain ⟨xb, hb1, hb2⟩ := HB.out j hlt
        have k1 : ∀ w', Ext wr w' → w'.cell? ⟨ga, j, none⟩ = some xa := fun w' hx' => ha1 _ (hx.trans hx')
        have k2 : ∀ w', Ext wr w' → w'.cell? ⟨gb', j, none⟩ = some xb := fun w' hx' => hb1 _ (hx.trans hx')
        have k3 : ∀ w', Ext wr w' → (convert 25 9 xa).run Tryd.prog w' = .ok (.string (strOf (ks k j))) w' := fun w' hx' => ha2 _ (hx.trans hx')
        have k4 : ∀ w', Ext wr w' → (convert 25 9 xb).run Tryd.prog w' = .ok (.string (strOf (ks k j))) w' := fun w' hx' => hb2 _ (hx.trans hx')
        clear ha1 ha2 hb1 hb2
        have HX2 := Kp.mk hx
        clear hx
        generalize strOf (ks k j) = s at *
        go_wp2_with fail
        go_region_held3 (fun w' => Ext wr w') (exact (by (repeat (first | assumption | exact Ext.refl _ | apply Ext.drew | apply Ext.drewN | apply Ext.alloc | refine Ext.trans ?_ (by assumption))); first | done | fail)) (fail)
        go_wp2_with fail
        go_roundw
        case rel => exact ⟨j + 1, by omega, by go_num, HX2.out.trans (by exact (by (repeat (first | assumption | exact Ext.refl _ | apply Ext.drew | apply Ext.drewN | apply Ext.alloc | refine Ext.trans ?_ (by assumption))); first | done | fail))⟩
        case measure => simp [intOf]; omega
      · obtain rfl : j = 11 := by omega
        go_wp2_with fail
        go_ret
        exact ⟨rfl, (HX.out.trans hx).b⟩
  · have hee := code_eq 1 1
    go_wp2_with fail
    refine (Keys_arg w1 hn).mono ?_
    rintro e w2 ⟨rfl, rfl⟩
    go_wp2
    go_ret
    exact ⟨rfl, hx1.b⟩
end Go.Proofs.YthggoodcdjgokaaDoor
