/-
  nat: product, shiftUp.
-/
import Derived.Test.YtpmoaccaknfodaaDoorNu
import Derived.Test.YtpmoaccaknfodaaDoorNt
namespace Go.Proofs.YtpmoaccaknfodaaDoor
open Go Go.RowKit

set_option maxHeartbeats 1000000 in
theorem product_any {a b : List Nat} {A B : Option Addr} {n c m d : Nat} {w : World} (ha : Rd vL w A n c a) (hb : Rd vL w B m d b) (da : Dg BB a) (db : Dg BB b) (hn : n ≤ 1000000000) (hm : m ≤ 1000000000) :
    Calls Tryd.prog 43 #[.slice A n c, .slice B m d] w (FreshL w (vl BB a * vl BB b)) := by
  have hla := ha.len
  have hlb := hb.len
  obtain ⟨N, hN⟩ : ∃ N, N = n + m := ⟨_, rfl⟩
  have hNb : N ≤ 1000000000000 := by omega
  have hmk := run_makeL N ((n : Int) + (m : Int)) (by omega) (by omega)
  have hM := Lb.new w (zl N)
  have hXM : Ext w (w.alloc (.cells (lv (zl N)) ut)) := (by (repeat (first | assumption | exact Ext.refl _ | apply Ext.drew | apply Ext.drewN | apply Ext.alloc | refine Ext.trans ?_ (by assumption))); first | done | fail)
  have HT := Kp.mk (multiply_any (cN := N) hM (zl_len N) hN (Nat.le_refl _) (ha.ext hXM) (hb.ext hXM) (ha.outs (by simp)) (hb.outs (by simp)) da db hNb)
  have HXM := Kp.mk hXM
  have HN := Kp.mk hN
  clear ha hb da db hM hXM hN
  generalize zl N = Z at *
  go_enter Tryd.func43, Tryd.ntmps43
  go_wp2_with (first | (go_at_call 53; refine HT.out.mono ?_; rintro e w3 ⟨out, rfl, hol, hod, hv, hL3, hm3⟩) | fail)
  have hx3 : Ext w w3 := hm3.ext HXM.out (by simp)
  have hown : Rw ut vL w3 w.heap.size (.slice (some ⟨w.heap.size, 0, none⟩) N N) N out := Lb.own hL3 (Nat.le_refl _) (by have := HN.out; omega) (by unfold maxLen; omega)
  have HC := Kp.mk (FreshL.of_counted hown hod (by omega) hv hx3)
  clear HT hv hL3 hm3 hod hown hol
  go_wp2_with (first | (go_at_call 19; refine HC.out.mono ?_; rintro e w4 ⟨A4, n4, c4, rfl, ho4, hx4⟩) | fail)
  go_ret
  exact ⟨A4, n4, c4, rfl, ho4, hx4⟩
theorem or64 (x y : Nat) (hx : x < 18446744073709551616) (hy : y < 18446744073709551616) : bits .or .u64 (x : Int) (y : Int) = ((x ||| y : Nat) : Int) := by
  show IntKind.u64.wrap ((BitVec.ofInt 64 (x : Int) ||| BitVec.ofInt 64 (y : Int)).toNat : Int) = _
  rw [BitVec.ofInt_natCast, BitVec.ofInt_natCast, BitVec.toNat_or, BitVec.toNat_ofNat, BitVec.toNat_ofNat, Nat.mod_eq_of_lt hx, Nat.mod_eq_of_lt hy, IntKind.wrap_u64]
  have : x ||| y < 2 ^ 64 := Nat.or_lt_two_pow hx hy
  omega
/-- two numbers of which one ends where the other one begins -/
theorem or_add (y x c : Nat) (hc : c < 2 ^ x) : y * 2 ^ x ||| c = y * 2 ^ x + c := by
  rw [Nat.mul_comm, Nat.two_pow_add_eq_or_of_lt hc]
theorem or_up (y x c : Nat) (hy : y < 4294967296) (hx : x ≤ 32) (hc : c < 2 ^ x) : bits .or .u64 (IntKind.u64.wrap ((y : Int) * 2 ^ x)) (c : Int) = ((y * 2 ^ x + c : Nat) : Int) ∧ y * 2 ^ x + c < 18446744073709551616 := by
  have h1 : (2 : Nat) ^ x ≤ 4294967296 := Nat.pow_le_pow_right (n := 2) (by decide) hx
  have h2 : (y + 1) * 2 ^ x ≤ 4294967296 * 4294967296 := Nat.mul_le_mul hy h1
  rw [Nat.add_mul, Nat.one_mul] at h2
  have e : ((y : Int) * 2 ^ x) = ((y * 2 ^ x : Nat) : Int) := by simp
  have h3 : y * 2 ^ x + c < 18446744073709551616 := by omega
  refine ⟨?_, h3⟩
  rw [e, IntKind.wrap_u64, show ((y * 2 ^ x : Nat) : Int) % 18446744073709551616 = ((y * 2 ^ x : Nat) : Int) by omega, or64 _ _ (by omega) (by omega), or_add y x c hc]
/-- what a number shifted up leaves: a block of its own, whole -/
def Upped (w : World) (N v : Nat) (e : Ending) (w' : World) : Prop :=
  ∃ out, e = .returned (.slice (some ⟨w.heap.size, 0, none⟩) N N) ∧ out.length = N ∧ Dg BB out ∧ vl BB out = v ∧ Lb w' w.heap.size out ∧ Ext w w'
set_option maxHeartbeats 2000000 in
theorem shiftUp_any {a : List Nat} {A : Option Addr} {n c k s x : Nat} {w : World} (ha : Rd vL w A n c a) (da : Dg BB a) (hs : s = 32 * k + x) (hx : x < 32) (hn : n ≤ 1000000000) (hk : k ≤ 1) :
    Calls Tryd.prog 33 #[.slice A n c, .int .i64 (s : Int)] w (Upped w (n + k + 1) (vl BB a * 2 ^ s)) := by
  have hla := ha.len
  obtain ⟨N, hN⟩ : ∃ N, N = n + k + 1 := ⟨_, rfl⟩
  have hmk := run_makeL N ((n : Int) + (k : Int) + 1) (by omega) (by omega)
  have HM := Kp.mk (Lb.new w (zl N))
  have HXM := Kp.mk (show Ext w (w.alloc (.cells (lv (zl N)) ut)) from (by (repeat (first | assumption | exact Ext.refl _ | apply Ext.drew | apply Ext.drewN | apply Ext.alloc | refine Ext.trans ?_ (by assumption))); first | done | fail))
  have hst := ShU.start a k x
  rw [hla, ← hN, show List.replicate N 0 = zl N from rfl] at hst
  have HST := Kp.mk hst
  have HA := Kp.mk ha
  have DA := Kp.mk da
  have q1 : (s : Int) / 32 = (k : Int) := by omega
  have q2 : (s : Int) % 32 = (x : Int) := by omega
  have hsb : (s : Int) < 100 := by omega
  rw [← hN]
  have HN := Kp.mk hN
  have HS := Kp.mk hs
  have hNb : N ≤ 1000000010 := by omega
  clear ha da hst hN hs
  generalize zl N = Z at *
  go_enter Tryd.func33, Tryd.ntmps33
  go_wp2_with fail
  go_loopw [8, 23] (fun cv iv wr => ∃ i : Nat, ∃ cr : Nat, ∃ out : List Nat, i ≤ n ∧ iv = .int .i64 (i : Int) ∧ cv = .int .u64 (cr : Int) ∧ ShU a k x i out cr ∧ Lb wr w.heap.size out ∧ Ext w wr) (fun _ i _ => n - (intOf i).toNat)
  case atStart => exact ⟨0, 0, Z, by omega, rfl, rfl, HST.out, HM.out, HXM.out⟩
  case round =>
    obtain ⟨i, cr, out, hi, rfl, rfl, hs, hL, hxx⟩ := hrel
    have hol := hs.len
    by_cases hlt : i < n
    · have b0 : (i : Int) < (n : Int) := by omega
      obtain ⟨g2, o2, rfl⟩ := HA.out.some_ (by omega)
      have k2 := (HA.out.ext hxx).dig i hlt
      unfold vL at k2
      have hNN := HN.out
      have k4 := Lb.free hL (k + i)
      have k3 := Lb.cell hL (k + i) (by omega)
      have h1 := DA.out.at32 i
      have h3 := hs.cr
      have HNX := Kp.mk (hs.next DA.out (by omega))
      have HL := Kp.mk (fun y => Lb.set hL (k + i) y)
      have HX := Kp.mk hxx
      obtain ⟨e1, e2⟩ := or_up (dg a i) x cr h1 (by omega) h3
      have HP := Kp.mk (And.intro e2 (show cr < 4294967296 from Nat.lt_of_lt_of_le h3 (Nat.pow_le_pow_right (n := 2) (by decide) (show x ≤ 32 by omega))))
      generalize dg a i = y at *
      generalize y * 2 ^ x + cr = T at *
      have d2 : (k : Int) + (i : Int) < (N : Int) := by omega
      have d3 : (k : Int) + (i : Int) < 9223372036854775807 := by omega
      clear hs hL hxx hNN h3
      go_wp2_with fail
      go_roundw
      case rel =>
        rw [show ((T : Int) % 4294967296) = ((T % 4294967296 : Nat) : Int) by omega]
        exact ⟨i + 1, T / 4294967296, _, by omega, by go_num, by go_num, HNX.out, HL.out _, HX.out.setCell (p := ⟨w.heap.size, k + i, none⟩) (Nat.le_refl _) _⟩
      case measure => simp [intOf]; omega
    · obtain rfl : i = n := by omega
      have hd : vl BB (out.set (k + i) cr) = vl BB a * 2 ^ (32 * k + x) ∧ Dg BB (out.set (k + i) cr) := by
        have h := hs
        rw [← hla] at h
        have h2 := h.done hx
        rwa [hla] at h2
      have hNN := HN.out
      have k4 := Lb.free hL (k + i)
      have k3 := Lb.cell hL (k + i) (by omega)
      have h4 : cr < 4294967296 := Nat.lt_of_lt_of_le hs.cr (Nat.pow_le_pow_right (n := 2) (by decide) (show x ≤ 32 by omega))
      have e4 : IntKind.u32.wrap (cr : Int) = (cr : Int) := by rw [IntKind.wrap_u32]; omega
      have d2 : (k : Int) + (i : Int) < (N : Int) := by omega
      have d3 : (k : Int) + (i : Int) < 9223372036854775807 := by omega
      have HF := Kp.mk (show Upped w N (vl BB a * 2 ^ s) (.returned (.slice (some ⟨w.heap.size, 0, none⟩) N N)) (wr.setCell ⟨w.heap.size, k + i, none⟩ (.int .u32 (cr : Int))) from
        ⟨_, rfl, by rw [List.length_set]; omega, hd.2, by rw [hd.1, HS.out], Lb.set hL (k + i) cr, hxx.setCell (p := ⟨w.heap.size, k + i, none⟩) (Nat.le_refl _) _⟩)
      clear hs hL hxx hNN hd
      go_wp2_with fail
      go_ret
      exact HF.out
end Go.Proofs.YtpmoaccaknfodaaDoor
