/-
  The walk of sha.Press.
-/
import Derived.Test.YticggkllfojgkaaDoorVWb
namespace Go.Proofs.YticggkllfojgkaaDoor
open Go Go.RowKit
set_option maxRecDepth 4000

/-- the two tables lie as the text lays them -/
def Laid (w : World) : Prop := (∀ j, j < 64 → w.cell? ⟨2, j, none⟩ = some (.int .u32 (un (gw KK j)))) ∧ (∀ j, j < 8 → w.cell? ⟨1, j, none⟩ = some (.int .u32 (un (gw HH j))))
theorem Laid.lt0 {w : World} (h : Laid w) : 2 < w.heap.size := block_lt_of_cell (h.1 0 (by decide))
theorem Laid.lt1 {w : World} (h : Laid w) : 1 < w.heap.size := block_lt_of_cell (h.2 0 (by decide))
theorem Laid.below {w w' : World} {B : Nat} (h : Laid w) (hb : Below B w w') (hB : w.heap.size ≤ B) : Laid w' :=
  ⟨fun j hj => (hb.cell (p := ⟨2, j, none⟩) (by have := h.lt0; exact Nat.lt_of_lt_of_le this hB)).trans (h.1 j hj),
   fun j hj => (hb.cell (p := ⟨1, j, none⟩) (by have := h.lt1; exact Nat.lt_of_lt_of_le this hB)).trans (h.2 j hj)⟩
theorem idx64 (s : List (BitVec 32)) (hs : s.length = 64) (k : Nat) (hk : k < 64) (w : World) :
    (Instr.index 135 (.agg (wv s)) (.int .i64 (k : Int))).run Tryd.prog w = .ok (.int .u32 (un (gw s k))) w :=
  run_index_arr w 135 56 64 _ k _ Tryd.underlying135 (by kernel_rfl) (by kernel_rfl) hk (wv_at s k (by omega))

abbrev zero8 : Array Value := #[.int .u32 0, .int .u32 0, .int .u32 0, .int .u32 0, .int .u32 0, .int .u32 0, .int .u32 0, .int .u32 0]
theorem zero8_eq : wv (List.replicate 8 0) = zero8 := rfl
/-- the eight words of a round's beginning, and of the next one's -/
theorem pr_next (K : List (BitVec 32)) (b : List (BitVec 8)) (v : List (BitVec 32)) (k : Nat) :
    pr K b v (k + 1) = [tA (gw (pr K b v k) 0) (gw (pr K b v k) 1) (gw (pr K b v k) 2) (gw (pr K b v k) 4) (gw (pr K b v k) 5) (gw (pr K b v k) 6) (gw (pr K b v k) 7 + gw (sched b 64) k + gw K k), gw (pr K b v k) 0, gw (pr K b v k) 1, gw (pr K b v k) 2,
      gw (pr K b v k) 3 + tT (gw (pr K b v k) 4) (gw (pr K b v k) 5) (gw (pr K b v k) 6) (gw (pr K b v k) 7 + gw (sched b 64) k + gw K k), gw (pr K b v k) 4, gw (pr K b v k) 5, gw (pr K b v k) 6] := by
  rw [pr, round_tA, BitVec.add_assoc]
/-- eight words in eight slots -/
def Eight (q : List (BitVec 32)) (a b c d e f g h : Value) : Prop :=
  a = vu (gw q 0) ∧ b = vu (gw q 1) ∧ c = vu (gw q 2) ∧ d = vu (gw q 3) ∧ e = vu (gw q 4) ∧ f = vu (gw q 5) ∧ g = vu (gw q 6) ∧ h = vu (gw q 7)

set_option maxHeartbeats 2000000 in
theorem press_any (l : List (BitVec 32)) (b : List (BitVec 8)) (w : World) (hl : l.length = 8) (hb : b.length = 64) (hw : Laid w) :
    Calls Tryd.prog 95 #[.agg (wv l), .agg (bv b)] w fun e w' => e = .returned (.agg (wv (press KK b l))) ∧ Below w.heap.size w w' := by
  have c0 := wv_at l 0 (by omega)
  have c1 := wv_at l 1 (by omega)
  have c2 := wv_at l 2 (by omega)
  have c3 := wv_at l 3 (by omega)
  have c4 := wv_at l 4 (by omega)
  have c5 := wv_at l 5 (by omega)
  have c6 := wv_at l 6 (by omega)
  have c7 := wv_at l 7 (by omega)
  have HPR := Lib.hid (addL_eight (pr KK b l 64) l (pr_len KK b l hl 64))
  have H := Lib.hid hl
  have HB := Lib.hid hb
  have HW := Lib.hid hw
  clear hl hb hw
  rw [press_def]
  go_enter Tryd.func95, Tryd.ntmps95
  go_wp2
  go_quiet (fail)
  have hbA : Below w.heap.size w ((((w.alloc (.cells (wv l) 96)).alloc (.cells (bv b) 123)).alloc (.cells zero8 96)).drewN nq) := below_drewN ((((Below.refl _ _).alloc (Nat.le_refl _) _).alloc (by simp) _).alloc (by simp; omega) _) _
  have h1 : Has ((((w.alloc (.cells (wv l) 96)).alloc (.cells (bv b) 123)).alloc (.cells zero8 96)).drewN nq) w.heap.size 96 (wv l) := (((Has.new _ _ _ _ rfl).alloc _).alloc _).drewN _
  have h2 : Has ((((w.alloc (.cells (wv l) 96)).alloc (.cells (bv b) 123)).alloc (.cells zero8 96)).drewN nq) (w.heap.size + 1) 123 (bv b) := ((Has.new _ _ _ _ (by simp)).alloc _).drewN _
  have h3 : Has ((((w.alloc (.cells (wv l) 96)).alloc (.cells (bv b) 123)).alloc (.cells zero8 96)).drewN nq) (w.heap.size + 2) 96 zero8 := (Has.new _ _ _ _ (by simp)).drewN _
  generalize ((((w.alloc (.cells (wv l) 96)).alloc (.cells (bv b) 123)).alloc (.cells zero8 96)).drewN nq) = w0 at *
  clear c0 c1 c2 c3 c4 c5 c6 c7
  go_wp2_with (first | (refine wpList_load_row rfl 123 _ rfl (w.heap.size + 1) rfl 123 (bv b) (0, 0) _ h2 Tryd.underlying123 rfl (szB64 _ HB.out) ?_) | fail)
  refine (schedule_any b _ HB.out).mono ?_
  rintro e w1 ⟨rfl, hb1⟩
  have g1 := h1.below hb1 h1.lt
  have g3 := h3.below hb1 h3.lt
  have hbB := hbA.trans (hb1.mono hbA.size)
  clear h1 h2 h3 hbA hb1
  have hW1 := HW.out.below hbB (Nat.le_refl _)
  have HW1 := Lib.hid hW1
  have G1 := Lib.hid g1
  have G3 := Lib.hid g3
  have HBB := Lib.hid hbB
  clear hW1 g1 g3 hbB HW
  go_wp2
  go_loop [5, 6, 7, 8, 9, 10, 11, 12, 35] (fun a b' c d e f g h i => ∃ k : Nat, k ≤ 64 ∧ i = .int .i64 k ∧ Eight (pr KK b l k) a b' c d e f g h) (fun _ _ _ _ _ _ _ _ i => 64 - (intOf i).toNat)
  case atStart => exact ⟨0, by omega, rfl, rfl, rfl, rfl, rfl, rfl, rfl, rfl, rfl⟩
  case round =>
    obtain ⟨k, hk, rfl, rfl, rfl, rfl, rfl, rfl, rfl, rfl, rfl⟩ := hrel
    by_cases hlt : k < 64
    · have hidx := idx64 (sched b 64) (sched_len _ _) k hlt
      have hk0 := HW1.out.1 k hlt
      have hn := pr_next KK b l k
      have HN := Lib.hid hn
      clear hn
      generalize pr KK b l k = q at *
      go_wp2_with (go_at_call 110; refine (turn_any _ _ _ _ _ _ _ _).mono ?_; rintro e w' ⟨rfl, rfl⟩)
      go_round
      case rel => exact ⟨k + 1, by omega, by go_num, by rw [HN.out]; exact ⟨rfl, rfl, rfl, rfl, rfl, rfl, rfl, rfl⟩⟩
      case measure => simp [intOf]; omega
    · obtain rfl : k = 64 := by omega
      obtain ⟨q, hq⟩ : ∃ q, pr KK b l 64 = q := ⟨_, rfl⟩
      rw [hq]
      have hp := HPR.out
      rw [hq] at hp
      have HP := Lib.hid ((congrArg (fun z => addL z l 8) hq).trans hp)
      clear hp HPR hq
      have c0 := (G1.out.cell 0).trans (wv_at l 0 (by rw [H.out]; decide))
      have c1 := (G1.out.cell 1).trans (wv_at l 1 (by rw [H.out]; decide))
      have c2 := (G1.out.cell 2).trans (wv_at l 2 (by rw [H.out]; decide))
      have c3 := (G1.out.cell 3).trans (wv_at l 3 (by rw [H.out]; decide))
      have c4 := (G1.out.cell 4).trans (wv_at l 4 (by rw [H.out]; decide))
      have c5 := (G1.out.cell 5).trans (wv_at l 5 (by rw [H.out]; decide))
      have c6 := (G1.out.cell 6).trans (wv_at l 6 (by rw [H.out]; decide))
      have c7 := (G1.out.cell 7).trans (wv_at l 7 (by rw [H.out]; decide))
      go_wp2_with (first | (refine wpList_store_row rfl 96 _ _ rfl (w.heap.size + 2) (wv [gw l 0 + gw q 0, gw l 1 + gw q 1, gw l 2 + gw q 2, gw l 3 + gw q 3, gw l 4 + gw q 4, gw l 5 + gw q 5, gw l 6 + gw q 6, gw l 7 + gw q 7]) rfl rfl 96 _ G3.out (by kernel_rfl) rfl (wv_one _) ?_) | fail)
      refine bodyPost_ret (v := .agg (wv [gw l 0 + gw q 0, gw l 1 + gw q 1, gw l 2 + gw q 2, gw l 3 + gw q 3, gw l 4 + gw q 4, gw l 5 + gw q 5, gw l 6 + gw q 6, gw l 7 + gw q 7])) ?_ rfl ⟨congrArg (fun z => Ending.returned (.agg (wv z))) HP.out.symm, ?_⟩
      · exact results_cell_row rfl _ _ (w.heap.size + 2) 96 _ (0, 0) _ rfl (G3.out.row _) Tryd.underlying96 rfl (by kernel_rfl)
      · exact below_row HBB.out (by omega) _
end Go.Proofs.YticggkllfojgkaaDoor
