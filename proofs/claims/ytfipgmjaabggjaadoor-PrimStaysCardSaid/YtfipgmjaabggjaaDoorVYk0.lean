/-
  slices.SortFunc's family at no slice.
-/
import Derived.Test.YtfipgmjaabggjaaDoorVYj
namespace Go.Proofs.YtfipgmjaabggjaaDoor
open Go Go.RowKit
set_option maxRecDepth 4000

theorem insertion_nil (w : World) (f : Value) : Calls Tryd.prog 94 #[.slice none 0 0, .int .i64 0, .int .i64 0, f] w fun e w' => e = .returned (.tuple #[]) ∧ w' = w := by
  go_enter Tryd.func94, Tryd.ntmps94
  go_wp2_with fail
  go_loopw [8] (fun v wr => v = .int .i64 1 ∧ wr = w) (fun _ _ => 0)
  case atStart => exact ⟨rfl, rfl⟩
  case round =>
    obtain ⟨rfl, rfl⟩ := hrel
    go_wp2_with fail
    go_end0
    exact ⟨rfl, rfl⟩
theorem pdq_nil (w : World) (f : Value) : Calls Tryd.prog 89 #[.slice none 0 0, .int .i64 0, .int .i64 0, .int .i64 0, f] w fun e w' => e = .returned (.tuple #[]) ∧ w' = w := by
  have hi := insertion_nil
  have HI := Kp.mk hi
  clear hi
  go_enter Tryd.func89, Tryd.ntmps89
  go_wp2_with fail
  go_loopw [1, 2, 3] (fun a b c wr => a = .int .i64 0 ∧ b = .int .i64 0 ∧ c = .int .i64 0 ∧ wr = w) (fun _ _ _ _ => 0)
  case atStart => exact ⟨rfl, rfl, rfl, rfl⟩
  case round =>
    obtain ⟨rfl, rfl, rfl, rfl⟩ := hrel
    go_wp2_with (first | (go_at_call 94; refine (HI.out _ f).mono ?_; rintro e w2 ⟨rfl, rfl⟩) | fail)
    trace_state
    refine bodyPost_ret (results_none rfl _ _ _) rfl ?_
    exact ⟨rfl, rfl⟩
end Go.Proofs.YtfipgmjaabggjaaDoor
