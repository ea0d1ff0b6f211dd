/-
  nat: anyLong, by slices.ContainsFunc over a list of numbers; Cmp.
-/
import Derived.Test.YtpmoaccaknfodaaDoorNi
namespace Go.Proofs.YtpmoaccaknfodaaDoor
open Go Go.RowKit

/-- a slice of limbs, as it is handed on -/
structure Sli where
  A : Option Addr
  n : Nat
  c : Nat
  l : List Nat
def eS (s : Sli) : Value := .slice s.A s.n s.c
/-- it reads as limbs -/
structure SliOk (w : World) (s : Sli) : Prop where
  r : Rd vL w s.A s.n s.c s.l
  d : Dg BB s.l
  n : s.n ≤ 1000000000000
theorem SliOk.ext {w w' : World} {s : Sli} (h : SliOk w s) (hx : Ext w w') : SliOk w' s := ⟨h.r.ext hx, h.d, h.n⟩
def lng (v : Nat) : Prop := 64 < nl v
theorem long1_any {s : Sli} {w : World} (h : SliOk w s) :
    Calls Tryd.prog 31 #[.slice s.A s.n s.c] w fun e w' => e = .returned (.bool (decide (64 < nl (vl BB s.l)))) ∧ w' = w := by
  have hc := counted_rd h.r h.d (by have := h.n; omega)
  generalize nl (vl BB s.l) = N at *
  go_enter Tryd.func31, Tryd.ntmps31
  go_wp2_with (go_at_call 19; refine hc.mono ?_; rintro e w1 ⟨rfl, _, _, rfl⟩)
  go_ret
  exact ⟨by first | rfl | (congr 2; simp; omega), rfl⟩
theorem IndexFunc_any {xs : List Sli} {A : Option Addr} {n c : Nat} {w : World} (h : Rd eS w A n c xs) (hn : n ≤ 1000) (hx : ∀ s ∈ xs, SliOk w s) :
    Calls Tryd.prog 49 #[.slice A n c, .func (.func 31) #[] #[]] w fun e w' => ∃ z : Int, e = .returned (.int .i64 z) ∧ (0 ≤ z ↔ ∃ s ∈ xs, lng (vl BB s.l)) ∧ w' = w := by
  have HR := Kp.mk h
  have HX := Kp.mk hx
  have hlen := h.len
  clear h hx
  go_enter Tryd.func49, Tryd.ntmps49
  go_wp2_with fail
  go_loopw [8] (fun iv wr => ∃ j : Nat, j ≤ n ∧ iv = .int .i64 (j : Int) ∧ (∀ i s, i < j → xs[i]? = some s → ¬ lng (vl BB s.l)) ∧ wr = w) (fun iv _ => n - (intOf iv).toNat)
  case atStart => exact ⟨0, by omega, rfl, fun i s hi => by omega, rfl⟩
  case round =>
    obtain ⟨j, hj, rfl, hz, rfl⟩ := hrel
    have HZ := Kp.mk hz
    clear hz
    by_cases hlt : j < n
    · obtain ⟨g, o, rfl⟩ := HR.out.some_ (by omega)
      obtain ⟨s, hs⟩ : ∃ s, xs[j]? = some s := ⟨xs[j], by simp⟩
      obtain ⟨g', o', ea, hc⟩ := HR.out.at_ (by omega)
      cases ea
      have c1 := hc j s hs
      unfold eS at c1
      have hl := long1_any (HX.out s (List.mem_of_getElem? hs))
      have HS := Kp.mk hs
      have b1 : (j : Int) < (n : Int) := by omega
      clear hc hs
      by_cases hq : 64 < nl (vl BB s.l)
      · rw [decide_eq_true hq] at hl
        have HQ := Kp.mk hq
        clear hq
        go_wp2_with (go_at_call 31; refine hl.mono ?_; rintro e w1 ⟨rfl, rfl⟩)
        go_ret
        exact ⟨_, rfl, ⟨fun _ => ⟨s, List.mem_of_getElem? HS.out, HQ.out⟩, fun _ => by omega⟩, rfl⟩
      · rw [decide_eq_false hq] at hl
        have HQ := Kp.mk hq
        clear hq
        go_wp2_with (go_at_call 31; refine hl.mono ?_; rintro e w1 ⟨rfl, rfl⟩)
        go_roundw
        case rel => exact ⟨j + 1, by omega, by go_num, (fun i t hi ht => by
          by_cases he : i = j
          · subst he
            have := HS.out
            rw [this] at ht
            cases ht
            exact HQ.out
          · exact HZ.out i t (by omega) ht), by trivial⟩
        case measure => simp [intOf]; omega
    · obtain rfl : j = n := by omega
      go_wp2_with fail
      go_ret
      refine ⟨-1, rfl, ⟨fun h => by omega, fun ⟨s, hs, hl⟩ => ?_⟩, rfl⟩
      obtain ⟨i, hi⟩ := List.getElem?_of_mem hs
      exact absurd hl (HZ.out i s (by have := (List.getElem?_eq_some_iff.1 hi).1; omega) hi)
theorem anyLong_any {xs : List Sli} {A : Option Addr} {n c : Nat} {w : World} (h : Rd eS w A n c xs) (hn : n ≤ 1000) (hx : ∀ s ∈ xs, SliOk w s) :
    Calls Tryd.prog 18 #[.slice A n c] w fun e w' => ∃ b : Bool, e = .returned (.bool b) ∧ (b = true ↔ ∃ s ∈ xs, lng (vl BB s.l)) ∧ w' = w := by
  have hI := IndexFunc_any h hn hx
  clear hx h
  have hC : Calls Tryd.prog 30 #[.slice A n c, .func (.func 31) #[] #[]] w fun e w' => ∃ b : Bool, e = .returned (.bool b) ∧ (b = true ↔ ∃ s ∈ xs, lng (vl BB s.l)) ∧ w' = w := by
    go_enter Tryd.func30, Tryd.ntmps30
    go_wp2_with (go_at_call 49; refine hI.mono ?_; rintro e w1 ⟨z, rfl, hz, rfl⟩)
    go_ret
    exact ⟨_, rfl, by rw [← hz]; simp, rfl⟩
  go_enter Tryd.func18, Tryd.ntmps18
  go_wp2_with (go_at_call 30; refine hC.mono ?_; rintro e w1 ⟨b, rfl, hb, rfl⟩)
  go_ret
  exact ⟨b, rfl, hb, rfl⟩
end Go.Proofs.YtpmoaccaknfodaaDoor
