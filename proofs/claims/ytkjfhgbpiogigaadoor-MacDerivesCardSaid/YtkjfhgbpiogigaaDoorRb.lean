/-
  The walks of the reference's Round and Schedule.
-/
import Derived.Test.YtkjfhgbpiogigaaDoorWb
import Derived.Test.YtkjfhgbpiogigaaDoorRa
import Derived.Test.YtkjfhgbpiogigaaDoorPured
namespace Go.Proofs.YtkjfhgbpiogigaaDoor
open Go Go.RowKit

theorem acc_un (f : Nat → Bool) (y : BitVec 32) (h : acc f 32 = y.toNat) : ((acc f 32 : Nat) : Int) = un y := by rw [h]; rfl
/-- the reference's calls, as the code's own words say them -/
theorem ref_S1 (x : BitVec 32) (w : World) : Calls Tryd.prog 42 #[.int .u32 (un x), .int .i64 6, .int .i64 11, .int .i64 25, .bool false] w fun e w' => e = .returned (.int .u32 (un (S1 x))) ∧ w' = w :=
  (mixed_any x 6 11 25 6 11 25 false w rfl rfl rfl (by decide) (by decide) (by decide)).mono fun _ _ ⟨he, hw⟩ => ⟨by rw [he, acc_un _ (S1 x) (mix_roll x 6 11 25 (by decide) (by decide) (by decide))], hw.symm⟩
theorem ref_S0 (x : BitVec 32) (w : World) : Calls Tryd.prog 42 #[.int .u32 (un x), .int .i64 2, .int .i64 13, .int .i64 22, .bool false] w fun e w' => e = .returned (.int .u32 (un (S0 x))) ∧ w' = w :=
  (mixed_any x 2 13 22 2 13 22 false w rfl rfl rfl (by decide) (by decide) (by decide)).mono fun _ _ ⟨he, hw⟩ => ⟨by rw [he, acc_un _ (S0 x) (mix_roll x 2 13 22 (by decide) (by decide) (by decide))], hw.symm⟩
theorem ref_s0 (x : BitVec 32) (w : World) : Calls Tryd.prog 42 #[.int .u32 (un x), .int .i64 7, .int .i64 18, .int .i64 3, .bool true] w fun e w' => e = .returned (.int .u32 (un (s0 x))) ∧ w' = w :=
  (mixed_any x 7 18 3 7 18 3 true w rfl rfl rfl (by decide) (by decide) (by decide)).mono fun _ _ ⟨he, hw⟩ => ⟨by rw [he, acc_un _ (s0 x) (mix_push x 7 18 3 (by decide) (by decide))], hw.symm⟩
theorem ref_s1 (x : BitVec 32) (w : World) : Calls Tryd.prog 42 #[.int .u32 (un x), .int .i64 17, .int .i64 19, .int .i64 10, .bool true] w fun e w' => e = .returned (.int .u32 (un (s1 x))) ∧ w' = w :=
  (mixed_any x 17 19 10 17 19 10 true w rfl rfl rfl (by decide) (by decide) (by decide)).mono fun _ _ ⟨he, hw⟩ => ⟨by rw [he, acc_un _ (s1 x) (mix_push x 17 19 10 (by decide) (by decide))], hw.symm⟩
theorem ref_ch (x y z : BitVec 32) (w : World) : Calls Tryd.prog 44 #[.int .u32 (un x), .int .u32 (un y), .int .u32 (un z)] w fun e w' => e = .returned (.int .u32 (un (ch x y z))) ∧ w' = w :=
  (choice_any x y z w).mono fun _ _ ⟨he, hw⟩ => ⟨by rw [he, acc_un _ (ch x y z) (ch_acc x y z)], hw.symm⟩
theorem ref_maj (x y z : BitVec 32) (w : World) : Calls Tryd.prog 45 #[.int .u32 (un x), .int .u32 (un y), .int .u32 (un z)] w fun e w' => e = .returned (.int .u32 (un (maj x y z))) ∧ w' = w :=
  (majority_any x y z w).mono fun _ _ ⟨he, hw⟩ => ⟨by rw [he, acc_un _ (maj x y z) (maj_acc x y z)], hw.symm⟩

/-- the reference's order of the sums -/
theorem rT_ref (l : List (BitVec 32)) (n : BitVec 32) : gw l 7 + S1 (gw l 4) + ch (gw l 4) (gw l 5) (gw l 6) + n = rT l n := rfl
theorem rA_ref (l : List (BitVec 32)) (n : BitVec 32) : rT l n + S0 (gw l 0) + maj (gw l 0) (gw l 1) (gw l 2) = rA l n := rfl

set_option maxHeartbeats 1000000 in
theorem refRound_any (l : List (BitVec 32)) (n : BitVec 32) (w : World) (hl : l.length = 8) :
    Calls Tryd.prog 21 #[.agg (wv l), .int .u32 (un n)] w fun e w' => e = .returned (.agg (wv (round l n))) ∧ Below w.heap.size w w' := by
  have H := Lib.hid hl
  clear hl
  go_enter Tryd.func21, Tryd.ntmps21
  go_wp2_with fail
  refine wp_region_still_lit (by kernel_rfl) (by kernel_rfl) ?_
  have hb : Below w.heap.size w (((w.alloc (.cells (wv l) 28)).alloc (.cells (wv (List.replicate 8 0)) 28)).drew) := (((Below.refl _ _).alloc (Nat.le_refl _) _).alloc (by simp) _).drew
  have h1 : Has (((w.alloc (.cells (wv l) 28)).alloc (.cells (wv (List.replicate 8 0)) 28)).drew) w.heap.size 28 (wv l) := ((Has.new _ _ _ _ rfl).alloc _).drew
  have h2 : Has (((w.alloc (.cells (wv l) 28)).alloc (.cells (wv (List.replicate 8 0)) 28)).drew) (w.heap.size + 1) 28 (wv (List.replicate 8 0)) := (Has.new _ _ _ _ (by simp)).drew
  change wpStill _ _ (((w.alloc (.cells (wv l) 28)).alloc (.cells (wv (List.replicate 8 0)) 28)).drew) (fun a' => Exit.then _ _ .normal a' (((w.alloc (.cells (wv l) 28)).alloc (.cells (wv (List.replicate 8 0)) 28)).drew)) _ _
  generalize (((w.alloc (.cells (wv l) 28)).alloc (.cells (wv (List.replicate 8 0)) 28)).drew) = w1 at *
  have c0 := (h1.cell 0).trans (wv_at l 0 (by rw [H.out]; decide))
  have c1 := (h1.cell 1).trans (wv_at l 1 (by rw [H.out]; decide))
  have c2 := (h1.cell 2).trans (wv_at l 2 (by rw [H.out]; decide))
  have c3 := (h1.cell 3).trans (wv_at l 3 (by rw [H.out]; decide))
  have c4 := (h1.cell 4).trans (wv_at l 4 (by rw [H.out]; decide))
  have c5 := (h1.cell 5).trans (wv_at l 5 (by rw [H.out]; decide))
  have c6 := (h1.cell 6).trans (wv_at l 6 (by rw [H.out]; decide))
  have c7 := (h1.cell 7).trans (wv_at l 7 (by rw [H.out]; decide))
  have HB := Lib.hid hb
  have H1 := Lib.hid h1
  have H2 := Lib.hid h2
  clear hb h1 h2
  iterate 4 still_step
  still_call (ref_S1 _ _)
  iterate 7 still_step
  still_call (ref_ch _ _ _ _)
  repeat still_step
  refine wpStill_nil ?_
  rw [rT_ref]
  go_wp2_with fail
  refine wp_region_still_lit (by kernel_rfl) (by kernel_rfl) ?_
  have hb : Below w.heap.size w w1.drew := HB.out.drew
  have h1 : Has w1.drew w.heap.size 28 (wv l) := H1.out
  have h2 : Has w1.drew (w.heap.size + 1) 28 (wv (List.replicate 8 0)) := H2.out
  change wpStill _ _ w1.drew (fun a' => Exit.then _ _ .normal a' w1.drew) _ _
  clear c0 c1 c2 c3 c4 c5 c6 c7 HB H1 H2
  generalize w1.drew = w2 at *
  have c0 := (h1.cell 0).trans (wv_at l 0 (by rw [H.out]; decide))
  have c1 := (h1.cell 1).trans (wv_at l 1 (by rw [H.out]; decide))
  have c2 := (h1.cell 2).trans (wv_at l 2 (by rw [H.out]; decide))
  have c3 := (h1.cell 3).trans (wv_at l 3 (by rw [H.out]; decide))
  have c4 := (h1.cell 4).trans (wv_at l 4 (by rw [H.out]; decide))
  have c5 := (h1.cell 5).trans (wv_at l 5 (by rw [H.out]; decide))
  have c6 := (h1.cell 6).trans (wv_at l 6 (by rw [H.out]; decide))
  have HB := Lib.hid hb
  have H2 := Lib.hid h2
  clear hb h1 h2
  iterate 3 still_step
  still_call (ref_S0 _ _)
  iterate 7 still_step
  still_call (ref_maj _ _ _ _)
  repeat still_step
  refine wpStill_nil ?_
  rw [rA_ref]
  go_wp2_with (refine wpList_store_row rfl 28 _ _ rfl (w.heap.size + 1) (wv (round l n)) rfl rfl 28 _ H2.out (szW8 _ (round_len _ _)) rfl (wv_one _) ?_)
  refine bodyPost_ret (v := .agg (wv (round l n))) ?_ rfl ⟨rfl, ?_⟩
  · exact results_cell_row rfl _ _ (w.heap.size + 1) 28 _ (0, 0) _ rfl (H2.out.row _) Tryd.underlying28 rfl (szW8 _ (round_len _ _))
  · exact below_row HB.out (by omega) _

/-- a word of the schedule, as it grows byte by byte -/
def SJ (l : List (BitVec 8)) (w : World) (k j : Nat) (wr : World) : Prop :=
  Has wr w.heap.size 22 (bv l) ∧ Has wr (w.heap.size + 1) 25 (wv (List.replicate 64 0)) ∧ Has wr (w.heap.size + 2) 25 (wv ((sched l k).set k (part l k j))) ∧ Below w.heap.size w wr
theorem SJ.start {l : List (BitVec 8)} {w wr : World} {k : Nat} (h : SI l w k wr) : SJ l w k 0 wr :=
  ⟨h.1, h.2.1, by rw [set_same _ _ _ (by rw [sched_zero l k k (Nat.le_refl _)]; rfl)]; exact h.2.2.1, h.2.2.2⟩
theorem SJ.stop {l : List (BitVec 8)} {w wr : World} {k : Nat} (h : SJ l w k 4 wr) (hk : k < 16) : SI l w (k + 1) wr :=
  ⟨h.1, h.2.1, by have := h.2.2.1; rw [part_word, ← nextW_lo l (sched l k) k hk] at this; exact this, h.2.2.2⟩
theorem SJ.keep {l : List (BitVec 8)} {w wr w1 : World} {k j : Nat} (h : SJ l w k j wr) (hb : Below wr.heap.size wr w1) : SJ l w k j w1 :=
  ⟨h.1.below hb h.1.lt, h.2.1.below hb h.2.1.lt, h.2.2.1.below hb h.2.2.1.lt, h.2.2.2.trans (hb.mono h.2.2.2.size)⟩
theorem SJ.step {l : List (BitVec 8)} {w wr : World} {k j : Nat} (h : SJ l w k j wr) : SJ l w k (j + 1) (wr.setCell ⟨w.heap.size + 2, k, none⟩ (.int .u32 (un (part l k j <<< 8 + e8 (gb l (4 * k + j)))))) :=
  ⟨h.1.far (by simp) _, h.2.1.far (by simp) _, by have := h.2.2.1.set k (.int .u32 (un (part l k j <<< 8 + e8 (gb l (4 * k + j))))); rw [wv_set, List.set_set] at this; exact this, h.2.2.2.setCell (by simp) _⟩

set_option maxHeartbeats 2000000 in
theorem refSchedule_any (l : List (BitVec 8)) (w : World) (hl : l.length = 64) :
    Calls Tryd.prog 19 #[.agg (bv l)] w fun e w' => e = .returned (.agg (wv (sched l 64))) ∧ Below w.heap.size w w' := by
  have H := Lib.hid hl
  clear hl
  go_enter Tryd.func19, Tryd.ntmps19
  go_wp2
  go_loopw [4] (fun i wr => ∃ k : Nat, k ≤ 64 ∧ i = .int .i64 k ∧ SI l w k wr) (fun i _ => 64 - (intOf i).toNat)
  case atStart =>
    exact ⟨0, by omega, rfl, (((Has.new _ _ _ _ rfl).alloc _).alloc _), ((Has.new _ _ _ _ (by simp)).alloc _), Has.new _ _ _ _ (by simp), (((Below.refl _ _).alloc (Nat.le_refl _) _).alloc (by simp) _).alloc (by simp; omega) _⟩
  case round =>
    obtain ⟨k, hk, rfl, hs⟩ := hrel
    by_cases hlt : k < 64
    · by_cases h16 : k < 16
      · go_wp2
        rw [show decide ((k : Int) < 64) = true from decide_eq_true (by omega), show decide ((k : Int) < 16) = true from decide_eq_true (by omega)]
        obtain ⟨wo, rfl⟩ : ∃ wo : World, wo = wr := ⟨_, rfl⟩
        go_loopw [5] (fun i wr => ∃ j : Nat, j ≤ 4 ∧ i = .int .i64 j ∧ SJ l w k j wr) (fun i _ => 4 - (intOf i).toNat)
        case atStart => exact ⟨0, by omega, rfl, SJ.start hs⟩
        case round =>
          clear hs
          obtain ⟨j, hj, rfl, hs⟩ := hrel
          by_cases hlj : j < 4
          · go_wp2
            refine wp_region_still_tail 14 (by kernel_rfl) (by kernel_rfl) ?_
            simp only [List.take_succ_cons, List.take_zero, List.drop_succ_cons, List.drop_zero]
            have hs2 : SJ l w k j wr.drew := SJ.keep hs (Below.refl _ _).drew
            change wpStill _ _ wr.drew (fun a' => wpList _ _ _ _ a' wr.drew) _ _
            clear hs
            generalize wr.drew = wz at *
            have hc := (hs2.2.2.1.cell k).trans (wv_at _ k (by rw [List.length_set, sched_len]; exact hlt))
            rw [set_gw _ _ _ (by rw [sched_len]; exact hlt)] at hc
            have hf := hs2.2.2.1.frozen k
            have hbl := (hs2.1.cell (4 * k + j)).trans (bv_at l (4 * k + j) (by rw [H.out]; omega))
            have hmul : IntKind.i64.wrap (4 * (k : Int)) = 4 * (k : Int) := IntWalk.i64_in _ (by omega)
            have hsum : IntKind.i64.wrap (4 * (k : Int) + (j : Int)) = 4 * (k : Int) + (j : Int) := IntWalk.i64_in _ (by omega)
            have b0 : 0 ≤ 4 * (k : Int) + (j : Int) := by omega
            have b1 : 4 * (k : Int) + (j : Int) < 64 := by omega
            have b2 : (4 * (k : Int) + (j : Int)).toNat = 4 * k + j := by omega
            have bk : (k : Int) < 64 := by omega
            have h8 : IntKind.u32.wrap (un (part l k j) * 256) = un (part l k j <<< 8) := by rw [IntKind.wrap_u32, un_shl8]
            repeat still_step
            refine wpStill_nil ?_
            clear b2 h8 hmul hsum
            go_wp2
            go_roundw
            case rel => exact ⟨j + 1, by omega, by go_num, SJ.step hs2⟩
            case measure => simp [intOf]; omega
          · obtain rfl : j = 4 := by omega
            have hs4 := SJ.stop hs h16
            clear hs
            go_wp2
            go_roundw
            case rel => exact ⟨k + 1, by omega, by go_num, hs4⟩
            case measure => simp [intOf]; omega
      · go_wp2
        refine wp_region_still_tail 23 (by kernel_rfl) (by kernel_rfl) ?_
        simp only [List.take_succ_cons, List.take_zero, List.drop_succ_cons, List.drop_zero]
        have hs2 : SI l w k wr.drew := SI.keep hs (Below.refl _ _).drew
        change wpStill _ _ wr.drew (fun a' => wpList _ _ _ _ a' wr.drew) _ _
        clear hs
        generalize wr.drew = wz at *
        have r2 := hs2.cell (k - 2) (by omega)
        have r7 := hs2.cell (k - 7) (by omega)
        have r15 := hs2.cell (k - 15) (by omega)
        have r16 := hs2.cell (k - 16) (by omega)
        have hc := hs2.cell k hlt
        have hf := hs2.free k
        have w16 : IntKind.i64.wrap ((k : Int) - 16) = ((k - 16 : Nat) : Int) := by rw [IntWalk.i64_in _ (by omega)]; omega
        have w15 : IntKind.i64.wrap ((k : Int) - 15) = ((k - 15 : Nat) : Int) := by rw [IntWalk.i64_in _ (by omega)]; omega
        have w7 : IntKind.i64.wrap ((k : Int) - 7) = ((k - 7 : Nat) : Int) := by rw [IntWalk.i64_in _ (by omega)]; omega
        have w2 : IntKind.i64.wrap ((k : Int) - 2) = ((k - 2 : Nat) : Int) := by rw [IntWalk.i64_in _ (by omega)]; omega
        have b16 : ((k - 16 : Nat) : Int) < 64 := by omega
        have b15 : ((k - 15 : Nat) : Int) < 64 := by omega
        have b7 : ((k - 7 : Nat) : Int) < 64 := by omega
        have b2 : ((k - 2 : Nat) : Int) < 64 := by omega
        have bk : (k : Int) < 64 := by omega
        iterate 9 still_step
        still_call (ref_s0 _ _)
        iterate 10 still_step
        still_call (ref_s1 _ _)
        repeat still_step
        refine wpStill_nil ?_
        clear w16 w15 w7 w2 b16 b15 b7 b2
        go_wp2
        go_roundw
        case rel =>
          refine ⟨k + 1, by omega, by go_num, ?_⟩
          have hs3 := hs2.step
          rw [nextW_hi _ _ _ (by omega)] at hs3
          exact hs3
        case measure => simp [intOf]; omega
    · obtain rfl : k = 64 := by omega
      go_wp2_with (first | (refine wpList_load_row rfl 25 _ rfl (w.heap.size + 2) rfl 25 (wv (sched l 64)) (0, 0) _ hs.2.2.1 Tryd.underlying25 rfl (szW64 _ (sched_len _ _)) ?_) | (refine wpList_store_row rfl 25 _ _ rfl (w.heap.size + 1) (wv (sched l 64)) rfl rfl 25 _ hs.2.1 (szW64 _ (sched_len _ _)) (by rw [wv_size, wv_size, sched_len]; rfl) (wv_one _) ?_) | fail)
      refine bodyPost_ret (v := .agg (wv (sched l 64))) ?_ rfl ⟨rfl, ?_⟩
      · exact results_cell_row rfl _ _ (w.heap.size + 1) 25 _ (0, 0) _ rfl (hs.2.1.row _) Tryd.underlying25 rfl (szW64 _ (sched_len _ _))
      · exact below_row hs.2.2.2 (by omega) _
end Go.Proofs.YtkjfhgbpiogigaaDoor
