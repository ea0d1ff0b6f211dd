/-
  The walk of sha.Press.
-/
import Derived.Test.YtclcmklohhkfoaaDoorWb
namespace Go.Proofs.YtclcmklohhkfoaaDoor
open Go Go.RowKit

/-- the two tables lie as the text lays them -/
def Laid (w : World) : Prop := (∀ j, j < 64 → w.cell? ⟨0, j, none⟩ = some (.int .u32 (un (gw KK j)))) ∧ (∀ j, j < 8 → w.cell? ⟨1, j, none⟩ = some (.int .u32 (un (gw HH j))))
theorem Laid.lt0 {w : World} (h : Laid w) : 0 < w.heap.size := block_lt_of_cell (h.1 0 (by decide))
theorem Laid.lt1 {w : World} (h : Laid w) : 1 < w.heap.size := block_lt_of_cell (h.2 0 (by decide))
theorem Laid.below {w w' : World} {B : Nat} (h : Laid w) (hb : Below B w w') (hB : w.heap.size ≤ B) : Laid w' :=
  ⟨fun j hj => (hb.cell (p := ⟨0, j, none⟩) (by have := h.lt0; exact Nat.lt_of_lt_of_le this hB)).trans (h.1 j hj),
   fun j hj => (hb.cell (p := ⟨1, j, none⟩) (by have := h.lt1; exact Nat.lt_of_lt_of_le this hB)).trans (h.2 j hj)⟩
theorem idx64 (s : List (BitVec 32)) (hs : s.length = 64) (k : Nat) (hk : k < 64) (w : World) :
    (Instr.index 25 (.agg (wv s)) (.int .i64 (k : Int))).run Tryd.prog w = .ok (.int .u32 (un (gw s k))) w :=
  run_index_arr w 25 24 64 _ k _ Tryd.underlying25 (by kernel_rfl) (by kernel_rfl) hk (wv_at s k (by omega))

/-- what the loops of Press keep -/
def PI (l : List (BitVec 32)) (w : World) (p : List (BitVec 32)) (wr : World) : Prop :=
  Has wr w.heap.size 28 (wv l) ∧ Has wr (w.heap.size + 2) 28 (wv (List.replicate 8 0)) ∧ Has wr (w.heap.size + 3) 28 (wv p) ∧ Below w.heap.size w wr
theorem PI.keep {l : List (BitVec 32)} {w wr w1 : World} {p : List (BitVec 32)} (h : PI l w p wr) (hb : Below wr.heap.size wr w1) : PI l w p w1 :=
  ⟨h.1.below hb h.1.lt, h.2.1.below hb h.2.1.lt, h.2.2.1.below hb h.2.2.1.lt, h.2.2.2.trans (hb.mono h.2.2.2.size)⟩
theorem PI.row {l : List (BitVec 32)} {w wr : World} {p : List (BitVec 32)} (h : PI l w p wr) (q : List (BitVec 32)) : PI l w q (wr.setRow (w.heap.size + 3) (wv q)) :=
  ⟨h.1.rowfar (by omega) _, h.2.1.rowfar (by omega) _, h.2.2.1.row _, below_row h.2.2.2 (by omega) _⟩
theorem PI.set {l : List (BitVec 32)} {w wr : World} {p : List (BitVec 32)} (h : PI l w p wr) (k : Nat) (x : BitVec 32) : PI l w (p.set k x) (wr.setCell ⟨w.heap.size + 3, k, none⟩ (.int .u32 (un x))) :=
  ⟨h.1.far (by simp) _, h.2.1.far (by simp) _, by have := h.2.2.1.set k (.int .u32 (un x)); rw [wv_set] at this; exact this, h.2.2.2.setCell (by simp) _⟩

abbrev zero8 : Array Value := #[.int .u32 0, .int .u32 0, .int .u32 0, .int .u32 0, .int .u32 0, .int .u32 0, .int .u32 0, .int .u32 0]
theorem zero8_eq : wv (List.replicate 8 0) = zero8 := rfl
theorem PI.start (l : List (BitVec 32)) (b : List (BitVec 8)) (w : World) :
    PI l w l (((((w.alloc (.cells (wv l) 28)).alloc (.cells (bv b) 22)).alloc (.cells zero8 28)).alloc (.cells zero8 28)).setRow (w.heap.size + 3) (wv l)) := by
  rw [← zero8_eq]
  refine ⟨?_, ?_, ?_, ?_⟩
  · exact ((((Has.new _ _ _ _ rfl).alloc _).alloc _).alloc _).rowfar (by omega) _
  · exact ((Has.new _ _ _ _ (by simp)).alloc _).rowfar (by omega) _
  · exact Has.row (Has.new _ _ _ _ (by simp)) _
  · exact below_row (((((Below.refl _ _).alloc (Nat.le_refl _) _).alloc (by simp) _).alloc (by simp; omega) _).alloc (by simp; omega) _) (by omega) _

set_option maxHeartbeats 2000000 in
theorem press_any (l : List (BitVec 32)) (b : List (BitVec 8)) (w : World) (hl : l.length = 8) (hb : b.length = 64) (hw : Laid w) :
    Calls Tryd.prog 16 #[.agg (wv l), .agg (bv b)] w fun e w' => e = .returned (.agg (wv (press KK b l))) ∧ Below w.heap.size w w' := by
  have H := Lib.hid hl
  have HB := Lib.hid hb
  have HW := Lib.hid hw
  clear hl hb hw
  rw [press_def]
  go_enter Tryd.func16, Tryd.ntmps16
  go_wp2_with (first | (refine wpList_load_row rfl 28 _ rfl w.heap.size rfl 28 (wv l) (0, 0) _ (((Has.new _ _ _ _ rfl).alloc _).alloc _) Tryd.underlying28 rfl (szW8 _ H.out) ?_) | (refine wpList_store_row rfl 28 _ _ rfl (w.heap.size + 3) (wv l) rfl rfl 28 (wv (List.replicate 8 0)) (Has.new _ _ _ _ (by simp)) (szW8 _ H.out) (by rw [wv_size, wv_size, H.out]; rfl) (wv_one _) ?_) | (refine wpList_load_row rfl 22 _ rfl (w.heap.size + 1) rfl 22 (bv b) (0, 0) _ (Has.rowfar (((Has.new _ _ _ _ (by simp)).alloc _).alloc _) (by omega) _) Tryd.underlying22 rfl (szB64 _ HB.out) ?_) | (go_at_call 12; refine (schedule_any b _ HB.out).mono ?_; rintro e w1 ⟨rfl, hb1⟩) | fail)
  go_loopw [12] (fun i wr => ∃ k : Nat, k ≤ 64 ∧ i = .int .i64 k ∧ PI l w (pr KK b l k) wr) (fun i _ => 64 - (intOf i).toNat)
  case atStart =>
    exact ⟨0, by omega, rfl, (PI.start l b w).keep hb1⟩
  case round =>
    clear hb1
    obtain ⟨k, hk, rfl, hs⟩ := hrel
    by_cases hlt : k < 64
    · have hidx := idx64 (sched b 64) (sched_len _ _) k hlt
      have hk0 := (HW.out.below hs.2.2.2 (Nat.le_refl _)).1 k hlt
      go_wp2
      refine wp_region_still_tail 6 (by kernel_rfl) (by kernel_rfl) ?_
      simp only [List.take_succ_cons, List.take_zero, List.drop_succ_cons, List.drop_zero]
      have hs2 : PI l w (pr KK b l k) wr.drew := hs.keep (Below.refl _ _).drew
      change wpStill _ _ wr.drew (fun a' => wpList _ _ _ _ a' wr.drew) _ _
      generalize wr.drew = wz at *
      clear hs hk0
      have hk0 := (HW.out.below hs2.2.2.2 (Nat.le_refl _)).1 k hlt
      have hload := run_load_arr (P := Tryd.prog) wz 28 24 8 (w.heap.size + 3) (wv (pr KK b l k)) Tryd.underlying28 (szW8 _ (pr_len _ _ _ H.out _)) (fun j v hv => (hs2.2.2.1.cell j).trans hv)
      have bk : (k : Int) < 64 := by omega
      refine wpStill_load_row rfl 28 _ rfl ⟨w.heap.size + 3, 0, none⟩ rfl _ hload ?_
      clear hload
      repeat still_step
      refine wpStill_nil ?_
      go_wp2_with (first | (go_at_call 14; refine (round_any (pr KK b l k) _ _ (pr_len _ _ _ H.out _)).mono ?_; rintro e w1 ⟨rfl, hb1⟩) | (refine wpList_store_row rfl 28 _ _ rfl (w.heap.size + 3) _ rfl rfl 28 _ (hs2.keep hb1).2.2.1 (szW8 _ rfl) (by rw [wv_size, wv_size, pr_len _ _ _ H.out]; rfl) (wv_one _) ?_) | fail)
      go_roundw
      case rel => exact ⟨k + 1, by omega, by go_num, (hs2.keep hb1).row _⟩
      case measure => simp [intOf]; omega
    · obtain rfl : k = 64 := by omega
      rw [show ((64 : Nat) : Int) = (64 : Int) from rfl]
      go_wp2
      go_loopw [24] (fun i wr => ∃ k : Nat, k ≤ 8 ∧ i = .int .i64 k ∧ PI l w (addL (pr KK b l 64) l k) wr) (fun i _ => 8 - (intOf i).toNat)
      case atStart => exact ⟨0, by omega, rfl, hs⟩
      case round =>
        clear hs
        obtain ⟨k, hk, rfl, hs⟩ := hrel
        have hlen := addL_len (pr KK b l 64) l (pr_len _ _ _ H.out _) k
        have HL := Lib.hid hlen
        clear hlen
        by_cases hlt : k < 8
        · go_wp2
          refine wp_region_still_tail 8 (by kernel_rfl) (by kernel_rfl) ?_
          simp only [List.take_succ_cons, List.take_zero, List.drop_succ_cons, List.drop_zero]
          have hs2 : PI l w (addL (pr KK b l 64) l k) wr.drew := hs.keep (Below.refl _ _).drew
          change wpStill _ _ wr.drew (fun a' => wpList _ _ _ _ a' wr.drew) _ _
          generalize wr.drew = wz at *
          clear hs
          have c1 := (hs2.2.2.1.cell k).trans (wv_at _ k (by rw [HL.out]; exact hlt))
          have c2 := (hs2.1.cell k).trans (wv_at _ k (by rw [H.out]; exact hlt))
          have f1 := hs2.2.2.1.frozen k
          have bk : (k : Int) < 8 := by omega
          repeat still_step
          refine wpStill_nil ?_
          go_wp2
          go_roundw
          case rel => exact ⟨k + 1, by omega, by go_num, hs2.set k _⟩
          case measure => simp [intOf]; omega
        · obtain rfl : k = 8 := by omega
          go_wp2_with (first | (refine wpList_load_row rfl 28 _ rfl (w.heap.size + 3) rfl 28 _ (0, 0) _ hs.2.2.1 Tryd.underlying28 rfl (szW8 _ HL.out) ?_) | (refine wpList_store_row rfl 28 _ _ rfl (w.heap.size + 2) _ rfl rfl 28 _ hs.2.1 (szW8 _ HL.out) (by rw [wv_size, wv_size, HL.out]; rfl) (wv_one _) ?_) | fail)
          refine bodyPost_ret (v := .agg (wv (addL (pr KK b l 64) l 8))) ?_ rfl ⟨rfl, ?_⟩
          · exact results_cell_row rfl _ _ (w.heap.size + 2) 28 _ (0, 0) _ rfl (hs.2.1.row _) Tryd.underlying28 rfl (szW8 _ HL.out)
          · exact below_row hs.2.2.2 (by omega) _
end Go.Proofs.YtclcmklohhkfoaaDoor
