/-
  The walks of wholeBlocks, Empty.
-/
import Derived.Test.YtjjoghdlbnlicaaDoorCb
import Derived.Test.YtjjoghdlbnlicaaDoorEr
namespace Go.Proofs.YtjjoghdlbnlicaaDoor
open Go Go.RowKit

set_option maxHeartbeats 1000000 in
theorem whole_any (A : Option Addr) (n c : Nat) (w : World) : Calls Tryd.prog 24 #[.slice A n c] w fun e w' => e = .returned (.bool (decide (0 < n ∧ n % 16 = 0))) ∧ w = w' := by
  by_cases h0 : 0 < n
  · have b0 : (0 : Int) < n := by omega
    by_cases h1 : n % 16 = 0
    · have b1 : (n : Int) % 16 = 0 := by omega
      go_enter Tryd.func24, Tryd.ntmps24
      go_wp2
      go_ret
      simp [h0, h1]
    · have b1 : (n : Int) % 16 ≠ 0 := by omega
      go_enter Tryd.func24, Tryd.ntmps24
      go_wp2
      go_ret
      simp [h0, h1, b1]
  · obtain rfl : n = 0 := by omega
    go_enter Tryd.func24, Tryd.ntmps24
    go_wp2
    go_ret
    exact ⟨rfl, rfl⟩
/-- what Empty leaves -/
def EmptyE (w : World) (b : List (BitVec 8)) (e : Ending) (w' : World) : Prop :=
  (∃ t, emptyL b = some t ∧ FreshE w t.length t e w') ∨ (emptyL b = none ∧ e = .returned (.tuple #[.slice none 0 0, err 7]) ∧ Ext w w')
theorem ub_lb (b : List (BitVec 8)) : ub (gb b (b.length - 1)) = ((lb b : Nat) : Int) := rfl
set_option maxHeartbeats 2000000 in
theorem Empty_any {b : List (BitVec 8)} {A : Option Addr} {n c : Nat} {w : World} (h : Bs w A n c b) (hn : n ≤ 140737488350000) :
    Calls Tryd.prog 17 #[.slice A n c] w (EmptyE w b) := by
  have hl := h.len
  by_cases hw : 0 < n ∧ n % 16 = 0
  · have hd : decide (0 < n ∧ n % 16 = 0) = true := decide_eq_true hw
    obtain ⟨h0, h1⟩ := hw
    obtain ⟨g, o, rfl, hc⟩ := h.s.2.2.2 h0
    have hcap := h.cap
    have hlast := hc (n - 1) (by omega)
    have hub : ub (gb b (n - 1)) = ((lb b : Nat) : Int) := by unfold lb; rw [hl]; rfl
    rw [hub] at hlast
    have hlb : lb b < 256 := (gb b (b.length - 1)).isLt
    have hi : (n : Int) - 1 = ((n - 1 : Nat) : Int) := by omega
    have c1 : n - 1 < n := by omega
    by_cases hb : 1 ≤ lb b ∧ lb b ≤ 16
    · obtain ⟨hb1, hb2⟩ := hb
      have e1 : (1 : Int) ≤ ((lb b : Nat) : Int) := by omega
      have e2 : ((lb b : Nat) : Int) ≤ 16 := by omega
      obtain ⟨E, hE⟩ : ∃ E, E = n - lb b := ⟨_, rfl⟩
      have e3 : (n : Int) - ((lb b : Nat) : Int) = (E : Int) := by omega
      have hfrom := fun W => run_from (P := Tryd.prog) (some ⟨g, o, none⟩) n c 22 5 Tryd.underlying22 szB E (E : Int) rfl (by omega) W
      have hadd : (⟨g, o, none⟩ : Addr).add E = ⟨g, o + E, none⟩ := by unfold Addr.add; split <;> simp_all
      simp only [if_neg (show ¬ c = E by omega), Option.map_some, hadd, show n - E = lb b by omega] at hfrom
      have hupto := fun W => run_upto (P := Tryd.prog) (some ⟨g, o, none⟩) n c 22 5 Tryd.underlying22 szB E (E : Int) rfl (by omega) W
      have hs := h.take E (by omega)
      have hcell : ∀ j, j < lb b → w.cell? ⟨g, o + E + j, none⟩ = some (.int .u8 (ub (gb b (E + j)))) := fun j hj => by rw [Nat.add_assoc]; exact hc (E + j) (by omega)
      have HC := Kp.mk hcell
      have HS := Kp.mk hs
      have HE := Kp.mk hE
      clear h hc hcell hs hE
      go_enter Tryd.func17, Tryd.ntmps17
      go_wp2_with (first | (go_at_call 24; refine (whole_any _ n c w).mono ?_; rintro e w2 ⟨rfl, rfl⟩; rw [hd]) | fail)
      clear hlast hfrom hadd
      go_loopw [34] (fun iv wr => ∃ j : Nat, j ≤ lb b ∧ iv = .int .i64 j ∧ (∀ i, i < j → gb b (E + i) = BitVec.ofNat 8 (lb b)) ∧ wr = w) (fun i _ => lb b - (intOf i).toNat)
      case atStart => exact ⟨0, Nat.zero_le _, rfl, (fun i hi => absurd hi (Nat.not_lt_zero _)), rfl⟩
      case round =>
        obtain ⟨j, hj, rfl, hall, rfl⟩ := hrel
        by_cases hlt : j < lb b
        · have c2 := HC.out j hlt
          have b2 : (j : Int) < ((lb b : Nat) : Int) := by omega
          by_cases heq : gb b (E + j) = BitVec.ofNat 8 (lb b)
          · have hu : ub (gb b (E + j)) = ((lb b : Nat) : Int) := by rw [heq, ub_ofNat]; omega
            have HA := Kp.mk hall
            have HQ := Kp.mk heq
            clear hall heq
            rw [hu] at c2
            go_wp2_with fail
            go_roundw
            case rel => exact ⟨j + 1, by omega, by go_num, (fun i hi => by rcases Nat.lt_succ_iff_lt_or_eq.1 hi with h | rfl; exact HA.out i h; exact HQ.out), trivial⟩
            case measure => simp [intOf]; omega
          · have hu : ¬ ub (gb b (E + j)) = ((lb b : Nat) : Int) := fun e => heq (by
              apply BitVec.eq_of_toNat_eq
              rw [BitVec.toNat_ofNat]
              unfold ub at e
              omega)
            have z1 := ub_lo (gb b (E + j))
            have z2 := ub_hi (gb b (E + j))
            clear hall
            have HQ := Kp.mk heq
            clear heq
            generalize ub (gb b (E + j)) = z at c2 hu z1 z2
            go_wp2_with fail
            go_ret2
            exact .inr ⟨empty_byte b (E + j) (by have := HE.out; omega) (by have := HE.out; omega) HQ.out, rfl, Ext.refl _⟩
        · obtain rfl : j = lb b := by omega
          have hy : emptyL b = some (b.take E) := by
            have hE := HE.out
            have := empty_yes b (by omega) (by omega) hb1 hb2 (fun j h3 h4 => by
              have h5 := hall (j - E) (by omega)
              rwa [show E + (j - E) = j by omega] at h5)
            rwa [show b.length - lb b = E by omega] at this
          have HY := Kp.mk hy
          have HL : (b.take E).length = E := HS.out.len
          clear hall hy
          go_wp2_with (first | (go_at_call 30; refine (Clone_any HS.out (by have := HE.out; omega)).mono ?_; rintro e w3 ⟨A3, c3, rfl, hs3, ho3, hx3⟩) | fail)
          go_ret2
          exact .inl ⟨_, HY.out, by rw [HL]; exact ⟨A3, c3, rfl, hs3, ho3, hx3⟩⟩
    · have hb' : (((lb b : Nat) : Int) < 1 ∨ 16 < ((lb b : Nat) : Int)) := by omega
      go_enter Tryd.func17, Tryd.ntmps17
      rcases hb' with hb' | hb'
      all_goals
        go_wp2_with (first | (go_at_call 24; refine (whole_any _ n c w).mono ?_; rintro e w2 ⟨rfl, rfl⟩; rw [hd]) | fail)
        go_ret2
        exact .inr ⟨empty_last b (by omega), rfl, Ext.refl _⟩
  · have hd : decide (0 < n ∧ n % 16 = 0) = false := decide_eq_false hw
    go_enter Tryd.func17, Tryd.ntmps17
    go_wp2_with (first | (go_at_call 24; refine (whole_any _ n c w).mono ?_; rintro e w2 ⟨rfl, rfl⟩; rw [hd]) | fail)
    go_ret2
    exact .inr ⟨empty_whole b (by omega), rfl, Ext.refl _⟩
end Go.Proofs.YtjjoghdlbnlicaaDoor
