/-
  The walks of the small functions of package sha.
  The walk of sha.Schedule.
  The walk of sha.Press.
  The walks of sha.tail and sha.Tail.
-/
import Derived.Test.YticggkllfojgkaaGreatDoorProg
import Derived.Test.YticggkllfojgkaaGreatDoorM0
import Derived.WalkKit
import Derived.WalkSpells
import Derived.WalkLawsBesides
import Derived.Lib.Hide
import Derived.Deep.QuietTactic
import Derived.BigQuiet
import Derived.Deep.LoopGhost
import Derived.StillTailTactics
import Derived.IntWalk
namespace Go.Proofs.YticggkllfojgkaaGreatDoor
open Go Go.RowKit
set_option maxRecDepth 4000

theorem sizeB64 : (Tryz.prog.info? 88).map (·.size) = some 64 := by kernel_rfl
theorem sizeW64 : (Tryz.prog.info? 109).map (·.size) = some 64 := by kernel_rfl
theorem sizeW8 : (Tryz.prog.info? 63).map (·.size) = some 8 := by kernel_rfl
theorem szB64 (l : List (BitVec 8)) (h : l.length = 64) : (Tryz.prog.info? 88).map (·.size) = some (bv l).size := by rw [bv_size, h]; exact sizeB64
theorem szW64 (l : List (BitVec 32)) (h : l.length = 64) : (Tryz.prog.info? 109).map (·.size) = some (wv l).size := by rw [wv_size, h]; exact sizeW64
theorem szW8 (l : List (BitVec 32)) (h : l.length = 8) : (Tryz.prog.info? 63).map (·.size) = some (wv l).size := by rw [wv_size, h]; exact sizeW8
theorem wraps_u64 (n : Int) (h0 : 0 ≤ n) (h1 : n < 2 ^ 64) : IntKind.u64.wrap n = n := by rw [IntKind.wrap_u64]; omega
theorem and31 (k : Int) (h1 : 0 < k) (h2 : k < 32) : bits .and .u64 (IntKind.u64.wrap (-k)) 31 = 32 - k := by
  have h := bits_mask .u64 64 (by decide) wraps_u64 5 (by decide) (IntKind.u64.wrap (-k)) (by rw [IntKind.wrap_u64]; omega) (by rw [IntKind.wrap_u64]; omega)
  rw [show (2 : Int) ^ 5 - 1 = 31 by decide] at h
  rw [h, IntKind.wrap_u64]; omega
set_option maxHeartbeats 400000 in
theorem rot_any (x : BitVec 32) (k : Int) (w : World) (h1 : 0 < k) (h2 : k < 32) :
    Calls Tryz.prog 132 #[.int .u32 (un x), .int .i64 (-k)] w fun e w' => e = .returned (.int .u32 (un (rr x k.toNat))) ∧ w = w' := by
  have ha := and31 k h1 h2
  have hk : (32 : Int) - (32 - k) = k := by omega
  go_enter Tryz.func132, Tryz.ntmps132
  go_wp2
  go_ret
  refine ⟨?_, rfl⟩
  rw [b_shl', b_shr, b_or, show (32 - k).toNat = 32 - k.toNat by omega]; rfl

set_option maxHeartbeats 400000 in
theorem rolled_any (x : BitVec 32) (k : Int) (w : World) (h1 : 0 < k) (h2 : k < 32) :
    Calls Tryz.prog 131 #[.int .u32 (un x), .int .i64 k] w fun e w' => e = .returned (.int .u32 (un (rr x k.toNat))) ∧ w = w' := by
  go_enter Tryz.func131, Tryz.ntmps131
  go_wp2_with (go_at_call 132; refine (rot_any _ _ _ h1 h2).mono ?_; rintro e w' ⟨rfl, rfl⟩)
  go_ret
  exact ⟨rfl, rfl⟩
set_option maxHeartbeats 400000 in
theorem word_any (l : List (BitVec 8)) (n : Nat) (m : Int) (w : World) (hl : l.length = 64) (h : n + 3 < 64) (hm : m = (n : Int)) :
    Calls Tryz.prog 130 #[.agg (bv l), .int .i64 m] w fun e w' => e = .returned (.int .u32 (un (word l n))) ∧ Below w.heap.size w w' := by
  have c0 := bv_at l n (by omega)
  have c1 := bv_at l (n + 1) (by omega)
  have c2 := bv_at l (n + 2) (by omega)
  have c3 := bv_at l (n + 3) (by omega)
  have H := Lib.hid hl
  clear hl
  subst hm
  go_enter Tryz.func130, Tryz.ntmps130
  go_wp2
  go_quiet (fail)
  go_wp2
  go_ret
  refine ⟨?_, ?_⟩
  · exact congrArg (fun z => Ending.returned (.int .u32 z)) (by rw [un_shl24, un_shl16, un_shl8, b_or, b_or, b_or]; rfl)
  · exact below_drewN ((Below.refl _ _).alloc (Nat.le_refl _) _) _
set_option maxHeartbeats 400000 in
theorem turn_any (a b c e f g h : BitVec 32) (w : World) :
    Calls Tryz.prog 123 #[.int .u32 (un a), .int .u32 (un b), .int .u32 (un c), .int .u32 (un e), .int .u32 (un f), .int .u32 (un g), .int .u32 (un h)] w fun r w' => r = .returned (.tuple #[.int .u32 (un (tA a b c e f g h)), .int .u32 (un (tT e f g h))]) ∧ w = w' := by
  go_enter Tryz.func123, Tryz.ntmps123
  go_wp2_with (go_at_call 131; refine (rolled_any _ _ _ (by omega) (by omega)).mono ?_; rintro e w' ⟨rfl, rfl⟩)
  go_ret2
  exact ⟨rfl, rfl⟩
end Go.Proofs.YticggkllfojgkaaGreatDoor
namespace Go.Proofs.YticggkllfojgkaaGreatDoor
open Go Go.RowKit
set_option maxRecDepth 4000

/-- what the loops of Schedule keep: the block, the result's cell, the words so far -/
def SI (l : List (BitVec 8)) (w : World) (k : Nat) (wr : World) : Prop :=
  Has wr w.heap.size 88 (bv l) ∧ Has wr (w.heap.size + 1) 109 (wv (List.replicate 64 0)) ∧ Has wr (w.heap.size + 2) 109 (wv (sched l k)) ∧ Below w.heap.size w wr

theorem SI.keep {l : List (BitVec 8)} {w wr w1 : World} {k : Nat} (h : SI l w k wr) (hb : Below wr.heap.size wr w1) : SI l w k w1 :=
  ⟨h.1.below hb h.1.lt, h.2.1.below hb h.2.1.lt, h.2.2.1.below hb h.2.2.1.lt, h.2.2.2.trans (hb.mono h.2.2.2.size)⟩
theorem SI.step {l : List (BitVec 8)} {w wr : World} {k : Nat} (h : SI l w k wr) : SI l w (k + 1) (wr.setCell ⟨w.heap.size + 2, k, none⟩ (.int .u32 (un (nextW l (sched l k) k)))) :=
  ⟨h.1.far (by simp) _, h.2.1.far (by simp) _, by have := h.2.2.1.set k (.int .u32 (un (nextW l (sched l k) k))); rw [wv_set] at this; exact this, h.2.2.2.setCell (by simp) _⟩
theorem SI.cell {l : List (BitVec 8)} {w wr : World} {k : Nat} (h : SI l w k wr) (j : Nat) (hj : j < 64) : wr.cell? ⟨w.heap.size + 2, j, none⟩ = some (.int .u32 (un (gw (sched l k) j))) :=
  (h.2.2.1.cell j).trans (wv_at _ j (by rw [sched_len]; exact hj))
theorem SI.free {l : List (BitVec 8)} {w wr : World} {k : Nat} (h : SI l w k wr) (j : Nat) : wr.frozen? ⟨w.heap.size + 2, j, none⟩ = false := h.2.2.1.frozen j
theorem nextW_lo (l : List (BitVec 8)) (s : List (BitVec 32)) (k : Nat) (h : k < 16) : nextW l s k = word l (4 * k) := if_pos h
theorem nextW_hi (l : List (BitVec 8)) (s : List (BitVec 32)) (k : Nat) (h : 16 ≤ k) : nextW l s k = gw s (k - 16) + s0 (gw s (k - 15)) + gw s (k - 7) + s1 (gw s (k - 2)) := if_neg (by omega)

set_option maxHeartbeats 400000 in
theorem schedule_any (l : List (BitVec 8)) (w : World) (hl : l.length = 64) :
    Calls Tryz.prog 122 #[.agg (bv l)] w fun e w' => e = .returned (.agg (wv (sched l 64))) ∧ Below w.heap.size w w' := by
  have H := Lib.hid hl
  clear hl
  go_enter Tryz.func122, Tryz.ntmps122
  go_wp2
  go_loopw [10] (fun i wr => ∃ k : Nat, k ≤ 16 ∧ i = .int .i64 k ∧ SI l w k wr) (fun i _ => 16 - (intOf i).toNat)
  case atStart =>
    exact ⟨0, by omega, rfl, (((Has.new _ _ _ _ rfl).alloc _).alloc _), ((Has.new _ _ _ _ (by simp)).alloc _), Has.new _ _ _ _ (by simp), (((Below.refl _ _).alloc (Nat.le_refl _) _).alloc (by simp) _).alloc (by simp; omega) _⟩
  case round =>
    obtain ⟨k, hk, rfl, hs⟩ := hrel
    by_cases hlt : k < 16
    · go_wp2_with (first | (refine wpList_load_row rfl 88 _ rfl w.heap.size rfl 88 (bv l) (0, 0) _ hs.1 Tryz.underlying88 rfl (szB64 l H.out) ?_) | (go_at_call 130; refine (word_any l (4 * k) _ _ H.out (by omega) (by omega)).mono ?_; rintro e w1 ⟨rfl, hb1⟩; have hs1 := hs.keep hb1; have hc1 := hs1.cell k (by omega); have hf1 := hs1.free k))
      go_roundw
      case rel =>
        refine ⟨k + 1, by omega, by go_num, ?_⟩
        have hs2 := hs1.step
        rw [nextW_lo _ _ _ hlt] at hs2
        exact hs2
      case measure => simp [intOf]; omega
    · obtain rfl : k = 16 := by omega
      rw [show ((16 : Nat) : Int) = (16 : Int) from rfl]
      go_wp2
      go_loopw [5] (fun i wr => ∃ k : Nat, 16 ≤ k ∧ k ≤ 64 ∧ i = .int .i64 k ∧ SI l w k wr) (fun i _ => 64 - (intOf i).toNat)
      case atStart => exact ⟨16, by omega, by omega, rfl, hs⟩
      case round =>
        clear hs
        obtain ⟨k, hk, hk2, rfl, hs⟩ := hrel
        by_cases hlt : k < 64
        · have r2 := hs.cell (k - 2) (by omega)
          have r7 := hs.cell (k - 7) (by omega)
          have r15 := hs.cell (k - 15) (by omega)
          have r16 := hs.cell (k - 16) (by omega)
          have hc := hs.cell k hlt
          have hf := hs.free k
          go_wp2
          go_quiet (fail)
          go_wp2_with (go_at_call 131; refine (rolled_any _ _ _ (by omega) (by omega)).mono ?_; rintro e w' ⟨rfl, rfl⟩)
          have hs1 := hs.keep (below_drewN (Below.refl _ _) nq)
          generalize wr.drewN nq = wq at *
          clear hs r2 r7 r15 r16 hc hf
          have r7 := hs1.cell (k - 7) (by omega)
          have r16 := hs1.cell (k - 16) (by omega)
          have hc := hs1.cell k hlt
          have hf := hs1.free k
          refine wp_region_still_tail 15 (by kernel_rfl) (by kernel_rfl) ?_
          simp only [List.take_succ_cons, List.take_zero, List.drop_succ_cons, List.drop_zero]
          have hs2 : SI l w k wq.drew := hs1.keep (Below.refl _ _).drew
          change wpStill _ _ wq.drew (fun a' => wpList _ _ _ _ a' wq.drew) _ _
          generalize wq.drew = wz at *
          clear hs1 r7 r16 hc hf
          have r7 := hs2.cell (k - 7) (by omega)
          have r16 := hs2.cell (k - 16) (by omega)
          have hc := hs2.cell k hlt
          have hf := hs2.free k
          have w16 : IntKind.i64.wrap ((k : Int) - 16) = ((k - 16 : Nat) : Int) := by rw [IntWalk.i64_in _ (by omega)]; omega
          have w7 : IntKind.i64.wrap ((k : Int) - 7) = ((k - 7 : Nat) : Int) := by rw [IntWalk.i64_in _ (by omega)]; omega
          have b16 : ((k - 16 : Nat) : Int) < 64 := by omega
          have b7 : ((k - 7 : Nat) : Int) < 64 := by omega
          have bk : (k : Int) < 64 := by omega
          repeat still_step
          refine wpStill_nil ?_
          go_wp2
          go_roundw
          case rel =>
            refine ⟨k + 1, by omega, by omega, by go_num, ?_⟩
            have hs3 := hs2.step
            rw [nextW_hi _ _ _ hk] at hs3
            exact hs3
          case measure => simp [intOf]; omega
        · obtain rfl : k = 64 := by omega
          go_wp2_with (first | (refine wpList_load_row rfl 109 _ rfl (w.heap.size + 2) rfl 109 (wv (sched l 64)) (0, 0) _ hs.2.2.1 Tryz.underlying109 rfl (szW64 _ (sched_len _ _)) ?_) | (refine wpList_store_row rfl 109 _ _ rfl (w.heap.size + 1) (wv (sched l 64)) rfl rfl 109 _ hs.2.1 (szW64 _ (sched_len _ _)) (by rw [wv_size, wv_size, sched_len]; rfl) (wv_one _) ?_) | fail)
          refine bodyPost_ret (v := .agg (wv (sched l 64))) ?_ rfl ⟨rfl, ?_⟩
          · exact results_cell_row rfl _ _ (w.heap.size + 1) 109 _ (0, 0) _ rfl (hs.2.1.row _) Tryz.underlying109 rfl (szW64 _ (sched_len _ _))
          · exact below_row hs.2.2.2 (by omega) _
end Go.Proofs.YticggkllfojgkaaGreatDoor
namespace Go.Proofs.YticggkllfojgkaaGreatDoor
open Go Go.RowKit
set_option maxRecDepth 4000

/-- the two tables lie as the text lays them -/
def Laid (w : World) : Prop := (∀ j, j < 64 → w.cell? ⟨2, j, none⟩ = some (.int .u32 (un (gw KK j)))) ∧ (∀ j, j < 8 → w.cell? ⟨0, j, none⟩ = some (.int .u32 (un (gw HH j))))
theorem Laid.lt0 {w : World} (h : Laid w) : 2 < w.heap.size := block_lt_of_cell (h.1 0 (by decide))
theorem Laid.lt1 {w : World} (h : Laid w) : 0 < w.heap.size := block_lt_of_cell (h.2 0 (by decide))
theorem Laid.below {w w' : World} {B : Nat} (h : Laid w) (hb : Below B w w') (hB : w.heap.size ≤ B) : Laid w' :=
  ⟨fun j hj => (hb.cell (p := ⟨2, j, none⟩) (by have := h.lt0; exact Nat.lt_of_lt_of_le this hB)).trans (h.1 j hj),
   fun j hj => (hb.cell (p := ⟨0, j, none⟩) (by have := h.lt1; exact Nat.lt_of_lt_of_le this hB)).trans (h.2 j hj)⟩
theorem idx64 (s : List (BitVec 32)) (hs : s.length = 64) (k : Nat) (hk : k < 64) (w : World) :
    (Instr.index 109 (.agg (wv s)) (.int .i64 (k : Int))).run Tryz.prog w = .ok (.int .u32 (un (gw s k))) w :=
  run_index_arr w 109 50 64 _ k _ Tryz.underlying109 (by kernel_rfl) (by kernel_rfl) hk (wv_at s k (by omega))

abbrev zero8 : Array Value := #[.int .u32 0, .int .u32 0, .int .u32 0, .int .u32 0, .int .u32 0, .int .u32 0, .int .u32 0, .int .u32 0]
theorem zero8_eq : wv (List.replicate 8 0) = zero8 := rfl
/-- the eight words of a round's beginning, and of the next one's -/
theorem pr_next (K : List (BitVec 32)) (b : List (BitVec 8)) (v : List (BitVec 32)) (k : Nat) :
    pr K b v (k + 1) = [tA (gw (pr K b v k) 0) (gw (pr K b v k) 1) (gw (pr K b v k) 2) (gw (pr K b v k) 4) (gw (pr K b v k) 5) (gw (pr K b v k) 6) (gw (pr K b v k) 7 + gw (sched b 64) k + gw K k), gw (pr K b v k) 0, gw (pr K b v k) 1, gw (pr K b v k) 2,
      gw (pr K b v k) 3 + tT (gw (pr K b v k) 4) (gw (pr K b v k) 5) (gw (pr K b v k) 6) (gw (pr K b v k) 7 + gw (sched b 64) k + gw K k), gw (pr K b v k) 4, gw (pr K b v k) 5, gw (pr K b v k) 6] := by
  rw [pr, round_tA, BitVec.add_assoc]
/-- eight words in eight slots -/
def Eight (q : List (BitVec 32)) (a b c d e f g h : Value) : Prop :=
  a = vu (gw q 0) ∧ b = vu (gw q 1) ∧ c = vu (gw q 2) ∧ d = vu (gw q 3) ∧ e = vu (gw q 4) ∧ f = vu (gw q 5) ∧ g = vu (gw q 6) ∧ h = vu (gw q 7)

set_option maxHeartbeats 2000000 in
theorem press_any (l : List (BitVec 32)) (b : List (BitVec 8)) (w : World) (hl : l.length = 8) (hb : b.length = 64) (hw : Laid w) :
    Calls Tryz.prog 102 #[.agg (wv l), .agg (bv b)] w fun e w' => e = .returned (.agg (wv (press KK b l))) ∧ Below w.heap.size w w' := by
  have c0 := wv_at l 0 (by omega)
  have c1 := wv_at l 1 (by omega)
  have c2 := wv_at l 2 (by omega)
  have c3 := wv_at l 3 (by omega)
  have c4 := wv_at l 4 (by omega)
  have c5 := wv_at l 5 (by omega)
  have c6 := wv_at l 6 (by omega)
  have c7 := wv_at l 7 (by omega)
  have HPR := Lib.hid (addL_eight (pr KK b l 64) l (pr_len KK b l hl 64))
  have H := Lib.hid hl
  have HB := Lib.hid hb
  have HW := Lib.hid hw
  clear hl hb hw
  rw [press_def]
  go_enter Tryz.func102, Tryz.ntmps102
  go_wp2
  go_quiet (fail)
  have hbA : Below w.heap.size w ((((w.alloc (.cells (wv l) 63)).alloc (.cells (bv b) 88)).alloc (.cells zero8 63)).drewN nq) := below_drewN ((((Below.refl _ _).alloc (Nat.le_refl _) _).alloc (by simp) _).alloc (by simp; omega) _) _
  have h1 : Has ((((w.alloc (.cells (wv l) 63)).alloc (.cells (bv b) 88)).alloc (.cells zero8 63)).drewN nq) w.heap.size 63 (wv l) := (((Has.new _ _ _ _ rfl).alloc _).alloc _).drewN _
  have h2 : Has ((((w.alloc (.cells (wv l) 63)).alloc (.cells (bv b) 88)).alloc (.cells zero8 63)).drewN nq) (w.heap.size + 1) 88 (bv b) := ((Has.new _ _ _ _ (by simp)).alloc _).drewN _
  have h3 : Has ((((w.alloc (.cells (wv l) 63)).alloc (.cells (bv b) 88)).alloc (.cells zero8 63)).drewN nq) (w.heap.size + 2) 63 zero8 := (Has.new _ _ _ _ (by simp)).drewN _
  generalize ((((w.alloc (.cells (wv l) 63)).alloc (.cells (bv b) 88)).alloc (.cells zero8 63)).drewN nq) = w0 at *
  clear c0 c1 c2 c3 c4 c5 c6 c7
  go_wp2_with (first | (refine wpList_load_row rfl 88 _ rfl (w.heap.size + 1) rfl 88 (bv b) (0, 0) _ h2 Tryz.underlying88 rfl (szB64 _ HB.out) ?_) | fail)
  refine (schedule_any b _ HB.out).mono ?_
  rintro e w1 ⟨rfl, hb1⟩
  have g1 := h1.below hb1 h1.lt
  have g3 := h3.below hb1 h3.lt
  have hbB := hbA.trans (hb1.mono hbA.size)
  clear h1 h2 h3 hbA hb1
  have hW1 := HW.out.below hbB (Nat.le_refl _)
  have HW1 := Lib.hid hW1
  have G1 := Lib.hid g1
  have G3 := Lib.hid g3
  have HBB := Lib.hid hbB
  clear hW1 g1 g3 hbB HW
  go_wp2
  go_loop [5, 6, 7, 8, 9, 10, 11, 12, 35] (fun a b' c d e f g h i => ∃ k : Nat, k ≤ 64 ∧ i = .int .i64 k ∧ Eight (pr KK b l k) a b' c d e f g h) (fun _ _ _ _ _ _ _ _ i => 64 - (intOf i).toNat)
  case atStart => exact ⟨0, by omega, rfl, rfl, rfl, rfl, rfl, rfl, rfl, rfl, rfl⟩
  case round =>
    obtain ⟨k, hk, rfl, rfl, rfl, rfl, rfl, rfl, rfl, rfl, rfl⟩ := hrel
    by_cases hlt : k < 64
    · have hidx := idx64 (sched b 64) (sched_len _ _) k hlt
      have hk0 := HW1.out.1 k hlt
      have hn := pr_next KK b l k
      have HN := Lib.hid hn
      clear hn
      generalize pr KK b l k = q at *
      go_wp2_with (go_at_call 123; refine (turn_any _ _ _ _ _ _ _ _).mono ?_; rintro e w' ⟨rfl, rfl⟩)
      go_round
      case rel => exact ⟨k + 1, by omega, by go_num, by rw [HN.out]; exact ⟨rfl, rfl, rfl, rfl, rfl, rfl, rfl, rfl⟩⟩
      case measure => simp [intOf]; omega
    · obtain rfl : k = 64 := by omega
      obtain ⟨q, hq⟩ : ∃ q, pr KK b l 64 = q := ⟨_, rfl⟩
      rw [hq]
      have hp := HPR.out
      rw [hq] at hp
      have HP := Lib.hid ((congrArg (fun z => addL z l 8) hq).trans hp)
      clear hp HPR hq
      have c0 := (G1.out.cell 0).trans (wv_at l 0 (by rw [H.out]; decide))
      have c1 := (G1.out.cell 1).trans (wv_at l 1 (by rw [H.out]; decide))
      have c2 := (G1.out.cell 2).trans (wv_at l 2 (by rw [H.out]; decide))
      have c3 := (G1.out.cell 3).trans (wv_at l 3 (by rw [H.out]; decide))
      have c4 := (G1.out.cell 4).trans (wv_at l 4 (by rw [H.out]; decide))
      have c5 := (G1.out.cell 5).trans (wv_at l 5 (by rw [H.out]; decide))
      have c6 := (G1.out.cell 6).trans (wv_at l 6 (by rw [H.out]; decide))
      have c7 := (G1.out.cell 7).trans (wv_at l 7 (by rw [H.out]; decide))
      go_wp2_with (first | (refine wpList_store_row rfl 63 _ _ rfl (w.heap.size + 2) (wv [gw l 0 + gw q 0, gw l 1 + gw q 1, gw l 2 + gw q 2, gw l 3 + gw q 3, gw l 4 + gw q 4, gw l 5 + gw q 5, gw l 6 + gw q 6, gw l 7 + gw q 7]) rfl rfl 63 _ G3.out (by kernel_rfl) rfl (wv_one _) ?_) | fail)
      refine bodyPost_ret (v := .agg (wv [gw l 0 + gw q 0, gw l 1 + gw q 1, gw l 2 + gw q 2, gw l 3 + gw q 3, gw l 4 + gw q 4, gw l 5 + gw q 5, gw l 6 + gw q 6, gw l 7 + gw q 7])) ?_ rfl ⟨congrArg (fun z => Ending.returned (.agg (wv z))) HP.out.symm, ?_⟩
      · exact results_cell_row rfl _ _ (w.heap.size + 2) 63 _ (0, 0) _ rfl (G3.out.row _) Tryz.underlying63 rfl (by kernel_rfl)
      · exact below_row HBB.out (by omega) _
end Go.Proofs.YticggkllfojgkaaGreatDoor
namespace Go.Proofs.YticggkllfojgkaaGreatDoor
open Go Go.RowKit
set_option maxRecDepth 4000

theorem infoB : (Tryz.prog.info? 5).map (fun i => (i.zero, i.size, i.bytes)) = some (some (.int .u8 0), 1, 1) := by kernel_rfl
theorem madeB (n : Nat) : madeCells #[Value.int .u8 0] n = bv (zb n) := by
  apply Array.ext_getElem?
  intro i
  by_cases h : i < n
  · simp [madeCells, bv, zb, h, Nat.mod_one]; rfl
  · simp [madeCells, bv, zb, h]
theorem run_mkbytes (n : Nat) (S : Int) (hS : S = (n : Int)) (hn : n ≤ 140737488355328) (w : World) :
    (Instr.makeSlice 26 (.int .i64 S) (.int .i64 S)).run Tryz.prog w = .ok (.slice (some ⟨w.heap.size, 0, none⟩) n n) (w.alloc (.cells (bv (zb n)) 5)) := by
  subst hS
  obtain ⟨i, hi, hz, hs, hb⟩ := info_parts infoB
  have hr := run_make (P := Tryz.prog) w 26 5 i (.int .u8 0) Tryz.underlying26 hi hz .i64 .i64 (n : Int) (n : Int) (by omega) (Int.le_refl _) (by rw [hb]; omega) (by omega)
  rw [hr, hs]
  simp only [Int.toNat_natCast, Nat.mul_one]
  rw [show (Value.int .u8 0).cells = #[Value.int .u8 0] from rfl, madeB]

set_option maxHeartbeats 1000000 in
theorem tail_any (n : Nat) (w : World) (hn : n ≤ 281474976710656) :
    Calls Tryz.prog 73 #[.int .i64 (n : Int)] w fun e w' => e = .returned (.slice (some ⟨w.heap.size, 0, none⟩) (tailLen n) (tailLen n)) ∧ Has w' w.heap.size 5 (bv (tailTo n 8)) ∧ Below w.heap.size w w' := by
  have hT1 := tailLen_lo n
  have hT2 := tailLen_hi n
  have hmk := run_mkbytes (tailLen n) (1 + (63 - ((n : Int) + 8) % 64) + 8) (by unfold tailLen; omega) (by omega)
  have hc := bv_at (zb (tailLen n)) 0 (by rw [zb_len]; omega)
  go_enter Tryz.func73, Tryz.ntmps73
  go_wp2
  clear hc hmk
  go_loopw [21] (fun i wr => ∃ k : Nat, k ≤ 8 ∧ i = .int .i64 k ∧ Has wr w.heap.size 5 (bv (tailTo n k)) ∧ Below w.heap.size w wr) (fun i _ => 8 - (intOf i).toNat)
  case atStart =>
    refine ⟨0, by omega, rfl, ?_, (Below.refl _ _).alloc (Nat.le_refl _) _⟩
    rw [tail_head]
    exact Has.new _ _ _ _ rfl
  case round =>
    obtain ⟨k, hk, rfl, hs, hb⟩ := hrel
    by_cases hlt : k < 8
    · have hc := (hs.cell (tailLen n - 1 - k)).trans (bv_at _ _ (by rw [tailTo_len]; omega))
      have hf := hs.frozen (tailLen n - 1 - k)
      go_wp2
      go_roundw
      case rel =>
        refine ⟨k + 1, by omega, by go_num, ?_, hb.setCell (Nat.le_refl _) _⟩
        rw [← tail_next]
        exact hs.set _ _
      case measure => simp [intOf]; omega
    · obtain rfl : k = 8 := by omega
      go_wp2
      go_ret
      exact ⟨rfl, hs, hb⟩

end Go.Proofs.YticggkllfojgkaaGreatDoor
