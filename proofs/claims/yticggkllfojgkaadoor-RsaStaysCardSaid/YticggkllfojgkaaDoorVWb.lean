/-
  The walk of sha.Schedule.
-/
import Derived.Test.YticggkllfojgkaaDoorVWa
import Derived.Deep.LoopGhost
import Derived.StillTailTactics
import Derived.IntWalk
namespace Go.Proofs.YticggkllfojgkaaDoor
open Go Go.RowKit
set_option maxRecDepth 4000

/-- what the loops of Schedule keep: the block, the result's cell, the words so far -/
def SI (l : List (BitVec 8)) (w : World) (k : Nat) (wr : World) : Prop :=
  Has wr w.heap.size 123 (bv l) ∧ Has wr (w.heap.size + 1) 135 (wv (List.replicate 64 0)) ∧ Has wr (w.heap.size + 2) 135 (wv (sched l k)) ∧ Below w.heap.size w wr

theorem SI.keep {l : List (BitVec 8)} {w wr w1 : World} {k : Nat} (h : SI l w k wr) (hb : Below wr.heap.size wr w1) : SI l w k w1 :=
  ⟨h.1.below hb h.1.lt, h.2.1.below hb h.2.1.lt, h.2.2.1.below hb h.2.2.1.lt, h.2.2.2.trans (hb.mono h.2.2.2.size)⟩
theorem SI.step {l : List (BitVec 8)} {w wr : World} {k : Nat} (h : SI l w k wr) : SI l w (k + 1) (wr.setCell ⟨w.heap.size + 2, k, none⟩ (.int .u32 (un (nextW l (sched l k) k)))) :=
  ⟨h.1.far (by simp) _, h.2.1.far (by simp) _, by have := h.2.2.1.set k (.int .u32 (un (nextW l (sched l k) k))); rw [wv_set] at this; exact this, h.2.2.2.setCell (by simp) _⟩
theorem SI.cell {l : List (BitVec 8)} {w wr : World} {k : Nat} (h : SI l w k wr) (j : Nat) (hj : j < 64) : wr.cell? ⟨w.heap.size + 2, j, none⟩ = some (.int .u32 (un (gw (sched l k) j))) :=
  (h.2.2.1.cell j).trans (wv_at _ j (by rw [sched_len]; exact hj))
theorem SI.free {l : List (BitVec 8)} {w wr : World} {k : Nat} (h : SI l w k wr) (j : Nat) : wr.frozen? ⟨w.heap.size + 2, j, none⟩ = false := h.2.2.1.frozen j
theorem nextW_lo (l : List (BitVec 8)) (s : List (BitVec 32)) (k : Nat) (h : k < 16) : nextW l s k = word l (4 * k) := if_pos h
theorem nextW_hi (l : List (BitVec 8)) (s : List (BitVec 32)) (k : Nat) (h : 16 ≤ k) : nextW l s k = gw s (k - 16) + s0 (gw s (k - 15)) + gw s (k - 7) + s1 (gw s (k - 2)) := if_neg (by omega)

set_option maxHeartbeats 400000 in
theorem schedule_any (l : List (BitVec 8)) (w : World) (hl : l.length = 64) :
    Calls Tryd.prog 109 #[.agg (bv l)] w fun e w' => e = .returned (.agg (wv (sched l 64))) ∧ Below w.heap.size w w' := by
  have H := Lib.hid hl
  clear hl
  go_enter Tryd.func109, Tryd.ntmps109
  go_wp2
  go_loopw [10] (fun i wr => ∃ k : Nat, k ≤ 16 ∧ i = .int .i64 k ∧ SI l w k wr) (fun i _ => 16 - (intOf i).toNat)
  case atStart =>
    exact ⟨0, by omega, rfl, (((Has.new _ _ _ _ rfl).alloc _).alloc _), ((Has.new _ _ _ _ (by simp)).alloc _), Has.new _ _ _ _ (by simp), (((Below.refl _ _).alloc (Nat.le_refl _) _).alloc (by simp) _).alloc (by simp; omega) _⟩
  case round =>
    obtain ⟨k, hk, rfl, hs⟩ := hrel
    by_cases hlt : k < 16
    · go_wp2_with (first | (refine wpList_load_row rfl 123 _ rfl w.heap.size rfl 123 (bv l) (0, 0) _ hs.1 Tryd.underlying123 rfl (szB64 l H.out) ?_) | (go_at_call 114; refine (word_any l (4 * k) _ _ H.out (by omega) (by omega)).mono ?_; rintro e w1 ⟨rfl, hb1⟩; have hs1 := hs.keep hb1; have hc1 := hs1.cell k (by omega); have hf1 := hs1.free k))
      go_roundw
      case rel =>
        refine ⟨k + 1, by omega, by go_num, ?_⟩
        have hs2 := hs1.step
        rw [nextW_lo _ _ _ hlt] at hs2
        exact hs2
      case measure => simp [intOf]; omega
    · obtain rfl : k = 16 := by omega
      rw [show ((16 : Nat) : Int) = (16 : Int) from rfl]
      go_wp2
      go_loopw [5] (fun i wr => ∃ k : Nat, 16 ≤ k ∧ k ≤ 64 ∧ i = .int .i64 k ∧ SI l w k wr) (fun i _ => 64 - (intOf i).toNat)
      case atStart => exact ⟨16, by omega, by omega, rfl, hs⟩
      case round =>
        clear hs
        obtain ⟨k, hk, hk2, rfl, hs⟩ := hrel
        by_cases hlt : k < 64
        · have r2 := hs.cell (k - 2) (by omega)
          have r7 := hs.cell (k - 7) (by omega)
          have r15 := hs.cell (k - 15) (by omega)
          have r16 := hs.cell (k - 16) (by omega)
          have hc := hs.cell k hlt
          have hf := hs.free k
          go_wp2
          go_quiet (fail)
          go_wp2_with (go_at_call 115; refine (rolled_any _ _ _ (by omega) (by omega)).mono ?_; rintro e w' ⟨rfl, rfl⟩)
          have hs1 := hs.keep (below_drewN (Below.refl _ _) nq)
          generalize wr.drewN nq = wq at *
          clear hs r2 r7 r15 r16 hc hf
          have r7 := hs1.cell (k - 7) (by omega)
          have r16 := hs1.cell (k - 16) (by omega)
          have hc := hs1.cell k hlt
          have hf := hs1.free k
          refine wp_region_still_tail 15 (by kernel_rfl) (by kernel_rfl) ?_
          simp only [List.take_succ_cons, List.take_zero, List.drop_succ_cons, List.drop_zero]
          have hs2 : SI l w k wq.drew := hs1.keep (Below.refl _ _).drew
          change wpStill _ _ wq.drew (fun a' => wpList _ _ _ _ a' wq.drew) _ _
          generalize wq.drew = wz at *
          clear hs1 r7 r16 hc hf
          have r7 := hs2.cell (k - 7) (by omega)
          have r16 := hs2.cell (k - 16) (by omega)
          have hc := hs2.cell k hlt
          have hf := hs2.free k
          have w16 : IntKind.i64.wrap ((k : Int) - 16) = ((k - 16 : Nat) : Int) := by rw [IntWalk.i64_in _ (by omega)]; omega
          have w7 : IntKind.i64.wrap ((k : Int) - 7) = ((k - 7 : Nat) : Int) := by rw [IntWalk.i64_in _ (by omega)]; omega
          have b16 : ((k - 16 : Nat) : Int) < 64 := by omega
          have b7 : ((k - 7 : Nat) : Int) < 64 := by omega
          have bk : (k : Int) < 64 := by omega
          repeat still_step
          refine wpStill_nil ?_
          go_wp2
          go_roundw
          case rel =>
            refine ⟨k + 1, by omega, by omega, by go_num, ?_⟩
            have hs3 := hs2.step
            rw [nextW_hi _ _ _ hk] at hs3
            exact hs3
          case measure => simp [intOf]; omega
        · obtain rfl : k = 64 := by omega
          go_wp2_with (first | (refine wpList_load_row rfl 135 _ rfl (w.heap.size + 2) rfl 135 (wv (sched l 64)) (0, 0) _ hs.2.2.1 Tryd.underlying135 rfl (szW64 _ (sched_len _ _)) ?_) | (refine wpList_store_row rfl 135 _ _ rfl (w.heap.size + 1) (wv (sched l 64)) rfl rfl 135 _ hs.2.1 (szW64 _ (sched_len _ _)) (by rw [wv_size, wv_size, sched_len]; rfl) (wv_one _) ?_) | fail)
          refine bodyPost_ret (v := .agg (wv (sched l 64))) ?_ rfl ⟨rfl, ?_⟩
          · exact results_cell_row rfl _ _ (w.heap.size + 1) 135 _ (0, 0) _ rfl (hs.2.1.row _) Tryd.underlying135 rfl (szW64 _ (sched_len _ _))
          · exact below_row hs.2.2.2 (by omega) _
end Go.Proofs.YticggkllfojgkaaDoor
