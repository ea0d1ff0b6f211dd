/-
  Rows of ints and of limbs that read as digits; the reference's digit, trim, Cmp.
-/
import Derived.Test.YtpmoaccaknfodaaDoorGo
import Derived.Test.YtpmoaccaknfodaaDoorNq
namespace Go.Proofs.YtpmoaccaknfodaaDoor
open Go Go.RowKit

/-- a digit as an int; a limb -/
def vI (d : Nat) : Value := .int .i64 (d : Int)
def vL (d : Nat) : Value := .int .u32 (d : Int)
theorem Rd.dig {e : Nat → Value} {w : World} {g o n c : Nat} {l : List Nat} (h : Rd e w (some ⟨g, o, none⟩) n c l) (j : Nat) (hj : j < n) : w.cell? ⟨g, o + j, none⟩ = some (e (dg l j)) := by
  obtain ⟨g', o', ea, hc⟩ := h.at_ (by omega)
  cases ea
  exact hc j _ (dg_in l j (by rw [h.len]; exact hj))
theorem Rd.some_ {α : Type} {e : α → Value} {w : World} {A : Option Addr} {n c : Nat} {l : List α} (h : Rd e w A n c l) (hn : 0 < n) : ∃ g o, A = some ⟨g, o, none⟩ := by
  obtain ⟨g, o, e1, _⟩ := h.at_ hn
  exact ⟨g, o, e1⟩
abbrev nm : TypeId := 31
abbrev nt : TypeId := 25

/-- how many digits count -/
def tl (l : List Nat) : Nat := (dgs 65536 (vl 65536 l)).length
theorem trim_any {l : List Nat} {A : Option Addr} {n c : Nat} {w : World} (h : Rd vI w A n c l) (hd : Dg 65536 l) (hn : n ≤ 4611686018427387904) :
    Calls Tryd.prog 16 #[.slice A n c] w fun e w' => ∃ m, m ≤ n ∧ e = .returned (.slice A m c) ∧ l.take m = dgs 65536 (vl 65536 l) ∧ w' = w := by
  have HR := Kp.mk h
  have hlen := h.len
  have hcap := h.cap
  clear h
  go_enter Tryd.func16, Tryd.ntmps16
  go_wp2_with fail
  go_loopw [3] (fun iv wr => ∃ j : Nat, j ≤ n ∧ iv = .int .i64 (j : Int) ∧ (∀ i, j ≤ i → dg l i = 0) ∧ wr = w) (fun i _ => (intOf i).toNat)
  case atStart => exact ⟨n, by omega, rfl, fun i hi => dg_out l i (by omega), rfl⟩
  case round =>
    obtain ⟨j, hj, rfl, hz, rfl⟩ := hrel
    have hfin : ∀ m, m = j → (j = 0 ∨ dg l (j - 1) ≠ 0) → l.take m = dgs 65536 (vl 65536 l) := fun m hm ht => by
      subst hm
      exact cut_cn (by decide) hd m (by omega) hz ht
    have HF := Kp.mk hfin
    have HZ := Kp.mk hz
    clear hfin hz
    by_cases h0 : j = 0
    · subst h0
      have hs := fun W => run_upto (P := Tryd.prog) A n c nm 3 Tryd.underlying31 (by kernel_rfl) 0 0 rfl (by omega) W
      go_wp2_with fail
      go_ret
      exact ⟨0, by omega, rfl, HF.out 0 rfl (by simp), rfl⟩
    · obtain ⟨g, o, rfl⟩ := HR.out.some_ (by omega)
      obtain ⟨k, rfl⟩ : ∃ k, j = k + 1 := ⟨j - 1, by omega⟩
      have c1 := HR.out.dig k (by omega)
      unfold vI at c1
      have e1 : ((k + 1 : Nat) : Int) - 1 = (k : Int) := by omega
      have b0 : (0 : Int) < ((k + 1 : Nat) : Int) := by omega
      have b1 : (k : Int) < (n : Int) := by omega
      have e2 : IntKind.i64.wrap (k : Int) = (k : Int) := by rw [IntKind.wrap_i64]; omega
      by_cases hq : dg l k = 0
      · rw [hq] at c1
        have HQ := Kp.mk hq
        clear hq
        go_wp2_with fail
        go_roundw
        case rel => exact ⟨k, by omega, by go_num, (fun i hi => by
          by_cases he : i = k
          · rw [he]; exact HQ.out
          · exact HZ.out i (by omega)), by trivial⟩
        case measure => first | (simp [intOf]; done) | (simp [intOf]; omega)
      · have hs := fun W => run_upto (P := Tryd.prog) (some ⟨g, o, none⟩) n c nm 3 Tryd.underlying31 (by kernel_rfl) (k + 1) ((k + 1 : Nat) : Int) rfl (by omega) W
        have hq2 : ¬ (dg l k : Int) = 0 := by omega
        have HQ := Kp.mk hq
        clear hq
        go_wp2_with fail
        go_ret
        exact ⟨k + 1, by omega, rfl, HF.out (k + 1) rfl (.inr HQ.out), rfl⟩
/-- what Cmp says -/
def cmpI (a b : Nat) : Int := if a < b then -1 else if b < a then 1 else 0
theorem cmpI_lt {a b : Nat} (h : a < b) : cmpI a b = -1 := if_pos h
theorem cmpI_gt {a b : Nat} (h : b < a) : cmpI a b = 1 := by rw [cmpI, if_neg (by omega), if_pos h]
theorem cmpI_eq (a : Nat) : cmpI a a = 0 := by rw [cmpI, if_neg (by omega), if_neg (by omega)]
theorem drop_dg (a b : List Nat) (j : Nat) (hl : a.length = b.length) (hj : j < a.length) (h : a.drop (j + 1) = b.drop (j + 1)) (e : dg a j = dg b j) : a.drop j = b.drop j := by
  have hjb : j < b.length := by omega
  rw [List.drop_eq_getElem_cons hj, List.drop_eq_getElem_cons hjb, h]
  have h1 : dg a j = a[j] := by simp [dg, hj]
  have h2 : dg b j = b[j] := by simp [dg, hjb]
  rw [← h1, ← h2, e]
end Go.Proofs.YtpmoaccaknfodaaDoor
