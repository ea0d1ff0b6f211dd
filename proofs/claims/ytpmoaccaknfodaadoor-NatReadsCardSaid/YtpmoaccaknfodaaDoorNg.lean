/-
  The reference's Size, Bytes.
-/
import Derived.Test.YtpmoaccaknfodaaDoorNb
import Derived.Test.YtpmoaccaknfodaaDoorBy
namespace Go.Proofs.YtpmoaccaknfodaaDoor
open Go Go.RowKit

/-- how many bytes a number has -/
def sz (l : List Nat) : Nat := if 0 < l.length ∧ dg l (l.length - 1) < 256 then 2 * l.length - 1 else 2 * l.length
set_option maxHeartbeats 1000000 in
theorem Size_any {l : List Nat} {A : Option Addr} {n c : Nat} {w : World} (h : Rd vI w A n c l) (hn : n ≤ 1000000000000) :
    Calls Tryd.prog 7 #[.slice A n c] w fun e w' => e = .returned (.int .i64 (sz l : Int)) ∧ w' = w := by
  have hl := h.len
  by_cases h0 : n = 0
  · subst h0
    have e : sz l = 0 := by rw [sz, hl]; simp
    rw [e]
    clear h
    go_enter Tryd.func7, Tryd.ntmps7
    go_wp2_with fail
    go_ret
    exact ⟨rfl, rfl⟩
  · obtain ⟨g, o, rfl⟩ := h.some_ (by omega)
    obtain ⟨k, hk⟩ : ∃ k, n = k + 1 := ⟨n - 1, by omega⟩
    have k1 := h.dig k (by omega)
    unfold vI at k1
    obtain ⟨N, hN⟩ : ∃ N, N = 2 * n := ⟨_, rfl⟩
    have e1 : (n : Int) - 1 = (k : Int) := by omega
    have e2 : IntKind.i64.wrap (2 * (n : Int)) = (N : Int) := by rw [IntKind.wrap_i64]; omega
    have e3 : 2 * (n : Int) = (N : Int) := by omega
    have b0 : (k : Int) < (n : Int) := by omega
    have b1 : decide ((0 : Int) < (N : Int)) = true := decide_eq_true (by omega)
    have b2 : 0 < N := by omega
    have b3 : (N : Int) < 4611686018427387904 := by omega
    have hk1 : n - 1 = k := by omega
    by_cases hq : dg l k < 256
    · have e : (sz l : Int) = (N : Int) - 1 := by rw [sz, hl, hk1, if_pos ⟨by omega, hq⟩]; omega
      rw [e]
      have q1 : ((dg l k : Nat) : Int) < 256 := by omega
      clear h e hq h0 hk hk1 hl hN hn
      generalize dg l k = x at *
      go_enter Tryd.func7, Tryd.ntmps7
      go_wp2_with fail
      go_ret
      exact ⟨rfl, rfl⟩
    · have e : (sz l : Int) = (N : Int) := by rw [sz, hl, hk1, if_neg (fun h => hq h.2)]; omega
      rw [e]
      have q1 : decide (((dg l k : Nat) : Int) < 256) = false := decide_eq_false (by omega)
      clear h e hq h0 hk hk1 hl hN hn
      generalize dg l k = x at *
      go_enter Tryd.func7, Tryd.ntmps7
      go_wp2_with fail
      go_ret
      exact ⟨rfl, rfl⟩
end Go.Proofs.YtpmoaccaknfodaaDoor
