/-
  The walks of sha.tail and sha.Tail.
-/
import Derived.Test.YticggkllfojgkaaDoorVWc
namespace Go.Proofs.YticggkllfojgkaaDoor
open Go Go.RowKit
set_option maxRecDepth 4000

theorem infoB : (Tryd.prog.info? 5).map (fun i => (i.zero, i.size, i.bytes)) = some (some (.int .u8 0), 1, 1) := by kernel_rfl
theorem madeB (n : Nat) : madeCells #[Value.int .u8 0] n = bv (zb n) := by
  apply Array.ext_getElem?
  intro i
  by_cases h : i < n
  · simp [madeCells, bv, zb, h, Nat.mod_one]; rfl
  · simp [madeCells, bv, zb, h]
theorem run_mkbytes (n : Nat) (S : Int) (hS : S = (n : Int)) (hn : n ≤ 140737488355328) (w : World) :
    (Instr.makeSlice 26 (.int .i64 S) (.int .i64 S)).run Tryd.prog w = .ok (.slice (some ⟨w.heap.size, 0, none⟩) n n) (w.alloc (.cells (bv (zb n)) 5)) := by
  subst hS
  obtain ⟨i, hi, hz, hs, hb⟩ := info_parts infoB
  have hr := run_make (P := Tryd.prog) w 26 5 i (.int .u8 0) Tryd.underlying26 hi hz .i64 .i64 (n : Int) (n : Int) (by omega) (Int.le_refl _) (by rw [hb]; omega) (by omega)
  rw [hr, hs]
  simp only [Int.toNat_natCast, Nat.mul_one]
  rw [show (Value.int .u8 0).cells = #[Value.int .u8 0] from rfl, madeB]

set_option maxHeartbeats 1000000 in
theorem tail_any (n : Nat) (w : World) (hn : n ≤ 281474976710656) :
    Calls Tryd.prog 70 #[.int .i64 (n : Int)] w fun e w' => e = .returned (.slice (some ⟨w.heap.size, 0, none⟩) (tailLen n) (tailLen n)) ∧ Has w' w.heap.size 5 (bv (tailTo n 8)) ∧ Below w.heap.size w w' := by
  have hT1 := tailLen_lo n
  have hT2 := tailLen_hi n
  have hmk := run_mkbytes (tailLen n) (1 + (63 - ((n : Int) + 8) % 64) + 8) (by unfold tailLen; omega) (by omega)
  have hc := bv_at (zb (tailLen n)) 0 (by rw [zb_len]; omega)
  go_enter Tryd.func70, Tryd.ntmps70
  go_wp2
  clear hc hmk
  go_loopw [21] (fun i wr => ∃ k : Nat, k ≤ 8 ∧ i = .int .i64 k ∧ Has wr w.heap.size 5 (bv (tailTo n k)) ∧ Below w.heap.size w wr) (fun i _ => 8 - (intOf i).toNat)
  case atStart =>
    refine ⟨0, by omega, rfl, ?_, (Below.refl _ _).alloc (Nat.le_refl _) _⟩
    rw [tail_head]
    exact Has.new _ _ _ _ rfl
  case round =>
    obtain ⟨k, hk, rfl, hs, hb⟩ := hrel
    by_cases hlt : k < 8
    · have hc := (hs.cell (tailLen n - 1 - k)).trans (bv_at _ _ (by rw [tailTo_len]; omega))
      have hf := hs.frozen (tailLen n - 1 - k)
      go_wp2
      go_roundw
      case rel =>
        refine ⟨k + 1, by omega, by go_num, ?_, hb.setCell (Nat.le_refl _) _⟩
        rw [← tail_next]
        exact hs.set _ _
      case measure => simp [intOf]; omega
    · obtain rfl : k = 8 := by omega
      go_wp2
      go_ret
      exact ⟨rfl, hs, hb⟩

end Go.Proofs.YticggkllfojgkaaDoor
