/-
  Rows of ints and of limbs that read as digits; the reference's digit, trim, Cmp.
-/
import Derived.Test.YtfipgmjaabggjaaDoorVGo
import Derived.Test.YtfipgmjaabggjaaDoorVNq
namespace Go.Proofs.YtfipgmjaabggjaaDoor
open Go Go.RowKit
set_option maxRecDepth 4000

/-- a digit as an int; a limb -/
def vI (d : Nat) : Value := .int .i64 (d : Int)
def vL (d : Nat) : Value := .int .u32 (d : Int)
theorem Rd.dig {e : Nat → Value} {w : World} {g o n c : Nat} {l : List Nat} (h : Rd e w (some ⟨g, o, none⟩) n c l) (j : Nat) (hj : j < n) : w.cell? ⟨g, o + j, none⟩ = some (e (dg l j)) := by
  obtain ⟨g', o', ea, hc⟩ := h.at_ (by omega)
  cases ea
  exact hc j _ (dg_in l j (by rw [h.len]; exact hj))
theorem Rd.some_ {α : Type} {e : α → Value} {w : World} {A : Option Addr} {n c : Nat} {l : List α} (h : Rd e w A n c l) (hn : 0 < n) : ∃ g o, A = some ⟨g, o, none⟩ := by
  obtain ⟨g, o, e1, _⟩ := h.at_ hn
  exact ⟨g, o, e1⟩
abbrev nm : TypeId := 37
abbrev nt : TypeId := 23

/-- how many digits count -/
def tl (l : List Nat) : Nat := (dgs 65536 (vl 65536 l)).length
theorem trim_any {l : List Nat} {A : Option Addr} {n c : Nat} {w : World} (h : Rd vI w A n c l) (hd : Dg 65536 l) (hn : n ≤ 4611686018427387904) :
    Calls Tryd.prog 39 #[.slice A n c] w fun e w' => ∃ m, m ≤ n ∧ e = .returned (.slice A m c) ∧ l.take m = dgs 65536 (vl 65536 l) ∧ w' = w := by
  have HR := Kp.mk h
  have hlen := h.len
  have hcap := h.cap
  clear h
  go_enter Tryd.func39, Tryd.ntmps39
  go_wp2_with fail
  go_loopw [3] (fun iv wr => ∃ j : Nat, j ≤ n ∧ iv = .int .i64 (j : Int) ∧ (∀ i, j ≤ i → dg l i = 0) ∧ wr = w) (fun i _ => (intOf i).toNat)
  case atStart => exact ⟨n, by omega, rfl, fun i hi => dg_out l i (by omega), rfl⟩
  case round =>
    obtain ⟨j, hj, rfl, hz, rfl⟩ := hrel
    have hfin : ∀ m, m = j → (j = 0 ∨ dg l (j - 1) ≠ 0) → l.take m = dgs 65536 (vl 65536 l) := fun m hm ht => by
      subst hm
      exact cut_cn (by decide) hd m (by omega) hz ht
    have HF := Kp.mk hfin
    have HZ := Kp.mk hz
    clear hfin hz
    by_cases h0 : j = 0
    · subst h0
      have hs := fun W => run_upto (P := Tryd.prog) A n c nm 3 Tryd.underlying37 (by kernel_rfl) 0 0 rfl (by omega) W
      go_wp2_with fail
      go_ret
      exact ⟨0, by omega, rfl, HF.out 0 rfl (by simp), rfl⟩
    · obtain ⟨g, o, rfl⟩ := HR.out.some_ (by omega)
      obtain ⟨k, rfl⟩ : ∃ k, j = k + 1 := ⟨j - 1, by omega⟩
      have c1 := HR.out.dig k (by omega)
      unfold vI at c1
      have e1 : ((k + 1 : Nat) : Int) - 1 = (k : Int) := by omega
      have b0 : (0 : Int) < ((k + 1 : Nat) : Int) := by omega
      have b1 : (k : Int) < (n : Int) := by omega
      have e2 : IntKind.i64.wrap (k : Int) = (k : Int) := by rw [IntKind.wrap_i64]; omega
      by_cases hq : dg l k = 0
      · rw [hq] at c1
        have HQ := Kp.mk hq
        clear hq
        go_wp2_with fail
        go_roundw
        case rel => exact ⟨k, by omega, by go_num, (fun i hi => by
          by_cases he : i = k
          · rw [he]; exact HQ.out
          · exact HZ.out i (by omega)), by trivial⟩
        case measure => first | (simp [intOf]; done) | (simp [intOf]; omega)
      · have hs := fun W => run_upto (P := Tryd.prog) (some ⟨g, o, none⟩) n c nm 3 Tryd.underlying37 (by kernel_rfl) (k + 1) ((k + 1 : Nat) : Int) rfl (by omega) W
        have hq2 : ¬ (dg l k : Int) = 0 := by omega
        have HQ := Kp.mk hq
        clear hq
        go_wp2_with fail
        go_ret
        exact ⟨k + 1, by omega, rfl, HF.out (k + 1) rfl (.inr HQ.out), rfl⟩
/-- what Cmp says -/
def cmpI (a b : Nat) : Int := if a < b then -1 else if b < a then 1 else 0
theorem cmpI_lt {a b : Nat} (h : a < b) : cmpI a b = -1 := if_pos h
theorem cmpI_gt {a b : Nat} (h : b < a) : cmpI a b = 1 := by rw [cmpI, if_neg (by omega), if_pos h]
theorem cmpI_eq (a : Nat) : cmpI a a = 0 := by rw [cmpI, if_neg (by omega), if_neg (by omega)]
theorem drop_dg (a b : List Nat) (j : Nat) (hl : a.length = b.length) (hj : j < a.length) (h : a.drop (j + 1) = b.drop (j + 1)) (e : dg a j = dg b j) : a.drop j = b.drop j := by
  have hjb : j < b.length := by omega
  rw [List.drop_eq_getElem_cons hj, List.drop_eq_getElem_cons hjb, h]
  have h1 : dg a j = a[j] := by simp [dg, hj]
  have h2 : dg b j = b[j] := by simp [dg, hjb]
  rw [← h1, ← h2, e]
set_option maxHeartbeats 1000000 in
theorem cmp_any {a b : List Nat} {A B : Option Addr} {n c m d : Nat} {w : World} (ha : Rd vI w A n c a) (hb : Rd vI w B m d b) (ca : Cn 65536 a) (cb : Cn 65536 b) (hn : n ≤ 4611686018427387904) (hm : m ≤ 4611686018427387904) :
    Calls Tryd.prog 20 #[.slice A n c, .slice B m d] w fun e w' => e = .returned (.int .i64 (cmpI (vl 65536 a) (vl 65536 b))) ∧ Ext w w' := by
  have hla := ha.len
  have hlb := hb.len
  by_cases hnm : n = m
  · subst hnm
    have HA := Kp.mk ha
    have HB := Kp.mk hb
    have CA := Kp.mk ca
    have CB := Kp.mk cb
    clear ha hb ca cb
    go_enter Tryd.func20, Tryd.ntmps20
    have z0 : IntKind.i64.wrap ((n : Int) - 1) = (n : Int) - 1 := by rw [IntKind.wrap_i64]; omega
    go_wp2_with fail
    go_loopw [5] (fun iv wr => ∃ j : Nat, j ≤ n ∧ iv = .int .i64 ((j : Int) - 1) ∧ a.drop j = b.drop j ∧ Ext w wr) (fun i _ => (intOf i + 1).toNat)
    case atStart => exact ⟨n, by omega, by first | rfl | go_num, by rw [List.drop_eq_nil_of_le (by omega), List.drop_eq_nil_of_le (by omega)], Ext.refl _⟩
    case round =>
      obtain ⟨j, hj, rfl, hdr, hx⟩ := hrel
      have HD := Kp.mk hdr
      clear hdr
      by_cases h0 : j = 0
      · subst h0
        go_wp2_with fail
        go_ret
        have h1 := HD.out
        rw [List.drop_zero, List.drop_zero] at h1
        exact ⟨by rw [h1, cmpI_eq]; rfl, hx⟩
      · obtain ⟨k, rfl⟩ : ∃ k, j = k + 1 := ⟨j - 1, by omega⟩
        obtain ⟨g, o, rfl⟩ := HA.out.some_ (by omega)
        obtain ⟨g2, o2, rfl⟩ := HB.out.some_ (by omega)
        have c1 := (HA.out.ext hx).dig k (by omega)
        have c2 := (HB.out.ext hx).dig k (by omega)
        unfold vI at c1 c2
        have e1 : ((k + 1 : Nat) : Int) - 1 = (k : Int) := by omega
        rw [e1]
        have b1 : (k : Int) < (n : Int) := by omega
        rcases Nat.lt_trichotomy (dg a k) (dg b k) with hq | hq | hq
        · have hlt := vl_lt_at (by decide) CA.out.d k (by omega) (by omega) HD.out hq
          have q1 : (dg a k : Int) < (dg b k : Int) := by omega
          have q2 : ¬ (dg a k : Int) = (dg b k : Int) := by omega
          have HL := Kp.mk hlt
          clear hlt hq
          go_wp2_with fail
          go_region
          go_wp2_with fail
          go_region
          go_wp2_with fail
          go_ret
          exact ⟨by rw [cmpI_lt HL.out]; rfl, hx.drew.drew⟩
        · have hdr := drop_dg a b k (by omega) (by omega) HD.out hq
          have HE := Kp.mk hdr
          rw [← hq] at c2
          clear hdr hq
          have e2 : IntKind.i64.wrap ((k : Int) - 1) = (k : Int) - 1 := by rw [IntKind.wrap_i64]; omega
          go_wp2_with fail
          go_region
          go_wp2_with fail
          go_roundw
          case rel => exact ⟨k, by omega, by first | rfl | go_num, HE.out, hx.drew⟩
          case measure => first | (simp [intOf]; done) | (simp [intOf]; omega)
        · have hlt := vl_lt_at (by decide) CB.out.d k (by omega) (by omega) HD.out.symm hq
          have q1 : (dg b k : Int) < (dg a k : Int) := by omega
          have q2 : ¬ (dg a k : Int) = (dg b k : Int) := by omega
          have HL := Kp.mk hlt
          clear hlt hq
          go_wp2_with fail
          go_region
          go_wp2_with fail
          go_region
          go_wp2_with fail
          go_ret
          exact ⟨by rw [cmpI_gt HL.out]; rfl, hx.drew.drew⟩
  · have q2 : ¬ (n : Int) = (m : Int) := by omega
    rcases Nat.lt_or_gt_of_ne hnm with hq | hq
    · have hlt := cn_len_lt (by decide) ca cb (by omega)
      rw [cmpI_lt hlt]
      have q1 : (n : Int) < (m : Int) := by omega
      clear hlt hq hnm ha hb ca cb
      go_enter Tryd.func20, Tryd.ntmps20
      go_wp2_with fail
      go_ret
      exact ⟨rfl, Ext.refl _⟩
    · have hlt := cn_len_lt (by decide) cb ca (by omega)
      rw [cmpI_gt hlt]
      have q1 : (m : Int) < (n : Int) := by omega
      clear hlt hq hnm ha hb ca cb
      go_enter Tryd.func20, Tryd.ntmps20
      go_wp2_with fail
      go_ret
      exact ⟨rfl, Ext.refl _⟩
end Go.Proofs.YtfipgmjaabggjaaDoor
