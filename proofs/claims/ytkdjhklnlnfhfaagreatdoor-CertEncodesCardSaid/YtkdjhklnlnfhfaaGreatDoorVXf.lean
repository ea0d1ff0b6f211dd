/-
  The reference's Body, Parts.
-/
import Derived.Test.YtkdjhklnlnfhfaaGreatDoorVXe
namespace Go.Proofs.YtkdjhklnlnfhfaaGreatDoor
open Go Go.RowKit
set_option maxRecDepth 4000

/-- bytes that lie within others, whatever the world -/
def Sub (A : Option Addr) (n c : Nat) (b : List (BitVec 8)) (A' : Option Addr) (n' c' : Nat) (x : List (BitVec 8)) : Prop := ∀ W : World, Bs W A n c b → Bs W A' n' c' x
/-- what Body tells -/
def BdR (w : World) (A : Option Addr) (n c : Nat) (b : List (BitVec 8)) (m : BitVec 8) (e : Ending) (w' : World) : Prop :=
  Ext w w' ∧ ((bodL b m = none ∧ e = .returned (.tuple #[.slice none 0 0, .bool false])) ∨ (∃ x A' c', bodL b m = some x ∧ e = .returned (.tuple #[.slice A' x.length c', .bool true]) ∧ Sub A n c b A' x.length c' x))
theorem ub_neE' {m k : BitVec 8} (h : m ≠ k) : (ub m != ub k) = true := by rw [bne, ub_neE h rfl]; rfl
theorem ub_eqE (m : BitVec 8) : (ub m != ub m) = false := by rw [bne, beq_self_eq_true]; rfl
set_option maxHeartbeats 8000000 in
theorem Body_any {b : List (BitVec 8)} {A : Option Addr} {n c : Nat} {w : World} (h : Bs w A n c b) (hn : n ≤ 1000000000) (m : BitVec 8) :
    Calls Tryz.prog 62 #[.slice A n c, .int .u8 (ub m)] w (BdR w A n c b m) := by
  have hl := h.len
  have hcap := h.s.2.1
  have HC := Kp.mk (First_any h hn)
  have HB := Kp.mk h
  cases hf : fstL b with
  | none =>
    have HF : Kp (bodL b m = none) := ⟨by unfold bodL; rw [hf]⟩
    rw [hf] at HC
    have e1 : fsV none = .tuple #[.int .i64 0, .int .i64 0, .bool false] := rfl
    rw [e1] at HC
    clear e1 hf h
    go_enter Tryz.func62, Tryz.ntmps62
    go_wp2_with fail
    refine HC.out.mono ?_
    rintro e w1 ⟨rfl, x1⟩
    have X1 := Kp.mk x1
    clear x1
    go_wp2_with fail
    go_ret2
    exact ⟨X1.out, .inl ⟨HF.out, rfl⟩⟩
  | some p =>
    obtain ⟨s, t⟩ := p
    obtain ⟨hs2, hst⟩ := fst_lo hf
    have HF : Kp (bodL b m = if gb b 0 = m ∧ s + t = b.length then some (b.drop s) else none) := ⟨by unfold bodL; rw [hf]⟩
    rw [hf] at HC
    have e1 : fsV (some (s, t)) = .tuple #[.int .i64 (s : Int), .int .i64 (t : Int), .bool true] := rfl
    rw [e1] at HC
    obtain ⟨g, o, rfl, hc⟩ := h.s.2.2.2 (by omega)
    have k0 : ∀ W, Ext w W → W.cell? ⟨g, o, none⟩ = some (.int .u8 (ub (gb b 0))) := fun W hW => by have := hc 0 (by omega); exact cell_lat (by simpa using this) hW
    have r3 : IntKind.i64.wrap ((s : Int) + (t : Int)) = ((s + t : Nat) : Int) := by rw [IntKind.wrap_i64]; omega
    have a0 : (0 : Int) < (n : Int) := by omega
    obtain ⟨A', hA', _⟩ := h.cut s (by omega)
    have hD : Sub (some ⟨g, o, none⟩) n c b A' (n - s) (c - s) (b.drop s) := fun W hW => by
      obtain ⟨A2, hA2, h2⟩ := hW.cut s (by omega)
      rw [hA'] at hA2
      rw [hA2]
      exact h2
    clear e1 hf h hc
    by_cases hm : gb b 0 = m
    · rw [hm] at k0
      have b1 := ub_eqE m
      by_cases hq : s + t = n
      · have HF2 : Kp (bodL b m = some (b.drop s)) := ⟨by rw [HF.out, if_pos ⟨hm, by omega⟩]⟩
        have hxl : (b.drop s).length = n - s := by rw [List.length_drop, hl]
        have HD := Kp.mk hD
        have q1 : ((((s + t : Nat) : Int)) != (n : Int)) = false := by rw [hq, bne, beq_self_eq_true]; rfl
        have a1 : ¬ ((n : Int) < (s : Int)) := by omega
        have a2 : (s : Int) ≤ (n : Int) := by omega
        have a3 : ¬ ((s : Int) < 0) := by omega
        clear hD hm HF
        go_enter Tryz.func62, Tryz.ntmps62
        go_wp2_with fail
        refine HC.out.mono ?_
        rintro e w1 ⟨rfl, x1⟩
        have k1 := k0 _ x1
        have X1 := Kp.mk x1
        clear x1 k0
        go_wp2_with fail
        case inr =>
          go_ret2
          have hA2 : A' = some ⟨g, o + s, none⟩ := by rw [← hA', if_neg h]; simp [Addr.add]; omega
          rw [hA2] at HD
          exact ⟨X1.out, .inr ⟨b.drop s, _, _, HF2.out, by rw [hxl]; rfl, by rw [hxl]; exact HD.out⟩⟩
        case inl =>
          go_ret2
          have hA2 : A' = some ⟨g, o, none⟩ := by rw [← hA', if_pos h]
          rw [hA2, h] at HD
          exact ⟨X1.out, .inr ⟨b.drop s, _, _, HF2.out, by rw [hxl]; rfl, by rw [hxl]; simpa using HD.out⟩⟩
      · have HF2 : Kp (bodL b m = none) := ⟨by rw [HF.out, if_neg fun e => hq (by omega)]⟩
        have q1 : ((((s + t : Nat) : Int)) != (n : Int)) = true := by
          have : ((((s + t : Nat) : Int)) == (n : Int)) = false := beq_eq_false_iff_ne.2 (by omega)
          rw [bne, this]; rfl
        clear hD hm HF hA'
        go_enter Tryz.func62, Tryz.ntmps62
        go_wp2_with fail
        refine HC.out.mono ?_
        rintro e w1 ⟨rfl, x1⟩
        have k1 := k0 _ x1
        have X1 := Kp.mk x1
        clear x1 k0
        go_wp2_with fail
        go_ret2
        exact ⟨X1.out, .inl ⟨HF2.out, rfl⟩⟩
    · have HF2 : Kp (bodL b m = none) := ⟨by rw [HF.out, if_neg fun e => hm e.1]⟩
      have b1 := ub_neE' hm
      clear hD hm HF hA'
      go_enter Tryz.func62, Tryz.ntmps62
      go_wp2_with fail
      refine HC.out.mono ?_
      rintro e w1 ⟨rfl, x1⟩
      have k1 := k0 _ x1
      have X1 := Kp.mk x1
      clear x1 k0
      go_wp2_with fail
      go_ret2
      exact ⟨X1.out, .inl ⟨HF2.out, rfl⟩⟩
end Go.Proofs.YtkdjhklnlnfhfaaGreatDoor
