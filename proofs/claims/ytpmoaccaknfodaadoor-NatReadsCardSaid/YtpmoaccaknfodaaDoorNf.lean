/-
  The reference's Mul.
-/
import Derived.Test.YtpmoaccaknfodaaDoorNb
import Derived.Laws.MakeOwn
namespace Go.Proofs.YtpmoaccaknfodaaDoor
open Go Go.RowKit

def zI (n : Nat) : Array Value := ((List.replicate n 0).map vI).toArray
/-- make(Num, n) -/
theorem run_makeI (n : Nat) (S : Int) (hS : S = (n : Int)) (hn : n ≤ 10000000000000) (w : World) :
    (Instr.makeSlice nm (.int .i64 S) (.int .i64 S)).run Tryd.prog w = .ok (.slice (some ⟨w.heap.size, 0, none⟩) n n) (w.alloc (.cells (zI n) it)) := by
  subst hS
  obtain ⟨i, hi, hz, hs, hb⟩ := info_parts inI
  have hr := run_make (P := Tryd.prog) w nm it i (.int .i64 0) Tryd.underlying31 hi hz .i64 .i64 (n : Int) (n : Int) (by omega) (by omega) (by rw [hb]; omega) (by omega)
  rw [hr, hs]
  simp only [Int.toNat_natCast, Nat.mul_one]
  rw [show (Value.int .i64 0).cells = #[Value.int .i64 0] from rfl]
  have e : madeCells #[Value.int .i64 0] n = zI n := by
    apply Array.ext_getElem?
    intro i
    by_cases h : i < n
    · simp [madeCells, zI, vI, h, Nat.mod_one]
    · simp [madeCells, zI, h]
  rw [e]
theorem makeI_own (w : World) (n : Nat) (hn : n ≤ 10000000000000) : Rn (w.alloc (.cells (zI n) it)) w.heap.size (.slice (some ⟨w.heap.size, 0, none⟩) n n) n (List.replicate n 0) :=
  Rw.has (Has.new w it _ _ rfl) (by simp) (Nat.le_refl _) (by unfold maxLen; omega)
end Go.Proofs.YtpmoaccaknfodaaDoor
