/-
  The walk of the laws' head: the document's examples hold.
-/
import Derived.Test.YtkjfhgbpiogigaaDoorWf
import Derived.Test.YtkjfhgbpiogigaaDoorStr
import Derived.Lib.SlBytesConst
namespace Go.Proofs.YtkjfhgbpiogigaaDoor
open Go Go.RowKit

theorem str_up : strOf (dig KK HH [97, 98, 99]) = { data := #[186, 120, 22, 191, 143, 1, 207, 234, 65, 65, 64, 222, 93, 174, 34, 35, 176, 3, 97, 163, 150, 23, 122, 156, 180, 16, 255, 97, 242, 0, 21, 173] } := by
  decide +kernel
theorem tail64_0 : gb (tailTo 64 8) 0 = 128 := by decide +kernel
theorem tail64_62 : gb (tailTo 64 8) 62 = 2 := by decide +kernel
theorem tailLen64 : tailLen 64 = 64 := rfl

theorem sl_abc (w : World) : Sl (w.alloc (.cells #[.int .u8 97, .int .u8 98, .int .u8 99] 5 (3, 4))) (some ⟨w.heap.size, 0, none⟩) 3 3 [97, 98, 99] := by
  refine ⟨rfl, Nat.le_refl _, (fun e => by cases e), fun _ => ⟨_, 0, rfl, fun j hj => ?_⟩⟩
  rw [cell_of_row _ w.heap.size (0 + j) _ 5 (3, 4) (heap_alloc_new w _)]
  match j, hj with
  | 0, _ => rfl
  | 1, _ => rfl
  | 2, _ => rfl
theorem to_str {w : World} {A : Option Addr} {n c : Nat} {l : List (BitVec 8)} (h : Sl w A n c l) : (convert 36 9 (.slice A n c)).run Tryd.prog w = .ok (.string (strOf l)) w :=
  run_str h 36 9 5 Tryd.underlying36 Tryd.underlying5 Tryd.underlying9

set_option maxHeartbeats 1000000 in
theorem up_any (w : World) (hw : Laid w) : Calls Tryd.prog 17 #[] w fun e w' => e = .returned (.bool true) ∧ Below w.heap.size w w' := by
  have HW := Lib.hid hw
  clear hw
  have kc := fun (w : World) (C : Array Value) (n c : Nat) => Lib.run_convert_bytes_const (P := Tryd.prog) w 36 5 C n c Tryd.underlying36 Tryd.underlying5
  go_enter Tryd.func17, Tryd.ntmps17
  go_wp2_with fail
  refine (Tail_ok 64 _ (by decide)).mono ?_
  rintro e w1 ⟨rfl, hT, hb1⟩
  rw [tailLen64]
  go_wp2_with fail
  have hb2 : Below w1.heap.size w1 (w1.alloc (.cells #[.int .u8 97, .int .u8 98, .int .u8 99] 5 (3, 4))) := (Below.refl _ _).alloc (Nat.le_refl _) _
  refine (Sum_any [97, 98, 99] _ 3 3 _ (sl_abc w1) ((HW.out.below hb1 (Nat.le_refl _)).below hb2 (Nat.le_refl _)) (by decide)).mono ?_
  rintro e w2 ⟨v, rfl, hown, hb3⟩
  have hb23 := hb2.trans (hb3.mono hb2.size)
  have hT2 := hT.below hb23 hT.lt
  have hb123 := hb1.trans (hb23.mono hb1.size)
  obtain ⟨A, c, rfl, hsl⟩ := Sl.of_own hown
  have hstr := to_str hsl
  rw [str_up] at hstr
  have c0 : w2.cell? ⟨w.heap.size, 0, none⟩ = some (.int .u8 128) := (hT2.cell 0).trans ((bv_at _ _ (by rw [tailTo_len]; decide)).trans (by rw [tail64_0]; rfl))
  have c62 : w2.cell? ⟨w.heap.size, 62, none⟩ = some (.int .u8 2) := (hT2.cell 62).trans ((bv_at _ _ (by rw [tailTo_len]; decide)).trans (by rw [tail64_62]; rfl))
  have HB := Lib.hid hb123
  clear hb123 hT hb1 hT2 hown hb3 hb23 hsl hb2 kc
  go_wp2
  go_ret
  exact ⟨rfl, HB.out⟩
end Go.Proofs.YtkjfhgbpiogigaaDoor
