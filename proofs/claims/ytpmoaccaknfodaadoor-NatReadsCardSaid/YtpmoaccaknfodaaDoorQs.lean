/-
  bytes.TrimLeft of noughts; nat: Read.
-/
import Derived.Test.YtpmoaccaknfodaaDoorQr
import Derived.Test.YtpmoaccaknfodaaDoorOk
namespace Go.Proofs.YtpmoaccaknfodaaDoor
open Go Go.RowKit

theorem szB8 : (Tryd.prog.info? 5).map (·.size) = some 1 := by kernel_rfl
theorem trimByte_any {l : List Nat} {A : Option Addr} {n c : Nat} {w : World} (h : Rd vB w A n c l) (hn : n ≤ 9223372036854775807) :
    Calls Tryd.prog 26 #[.slice A n c, .int .u8 0] w fun e w' => ∃ A' n' c', e = .returned (.slice A' n' c') ∧ Rd vB w A' n' c' (l.dropWhile (· == 0)) ∧ w' = w := by
  have HR := Kp.mk h
  clear h
  go_enter Tryd.func26, Tryd.ntmps26
  go_wp2_with fail
  go_loopw [0] (fun iv wr => ∃ A' n' c' l', n' ≤ n ∧ iv = .slice A' n' c' ∧ Rd vB w A' n' c' l' ∧ l'.dropWhile (· == 0) = l.dropWhile (· == 0) ∧ wr = w) (fun iv _ => lenOf iv)
  case atStart => exact ⟨A, n, c, l, Nat.le_refl _, rfl, HR.out, rfl, rfl⟩
  case round =>
    obtain ⟨A', n', c', l', hle, rfl, hr, hd, rfl⟩ := hrel
    have hlen := hr.len
    cases l' with
    | nil =>
      obtain rfl : n' = 0 := hlen.symm
      have HF := Kp.mk (show Rd vB wr none 0 0 (l.dropWhile (· == 0)) by rw [← hd]; exact Rd.nil wr)
      clear hr hd hlen
      go_wp2_with fail
      go_ret
      exact ⟨none, 0, 0, rfl, HF.out, rfl⟩
    | cons x l' =>
      obtain ⟨g, o, rfl⟩ := hr.some_ (by simp at hlen; omega)
      have hn0 : 0 < n' := by simp at hlen; omega
      have k1 := hr.dig 0 hn0
      unfold vB at k1
      rw [show dg (x :: l') 0 = x from rfl, Nat.add_zero] at k1
      have b0 : (0 : Int) < (n' : Int) := by omega
      have b1 : (n' : Int) ≤ 9223372036854775807 := by omega
      have b2 : ((n' : Int) == 0) = false := beq_eq_false_iff_ne.2 (by omega)
      by_cases hx : x = 0
      · subst hx
        have hs := fun W => run_from (P := Tryd.prog) (some ⟨g, o, none⟩) n' c' 22 5 Tryd.underlying22 szB8 1 1 rfl (by omega) W
        have HF := Kp.mk (And.intro (hr.drop 1 (by omega)) (show l'.dropWhile (· == 0) = l.dropWhile (· == 0) by rw [← hd, List.dropWhile_cons]; simp))
        rw [show (0 :: l').drop 1 = l' from rfl] at HF
        rw [show ((0 : Nat) : Int) = 0 from rfl] at k1
        generalize (if c' = 1 then some (⟨g, o, none⟩ : Addr) else (some (⟨g, o, none⟩ : Addr)).map (·.add 1)) = A2 at *
        clear hr hd hlen
        go_wp2_with fail
        go_roundw
        case rel => exact ⟨_, _, _, _, by omega, rfl, HF.out.1, HF.out.2, by trivial⟩
        case measure => simp [lenOf]; omega
      · have hx2 : ((x : Int) == 0) = false := beq_eq_false_iff_ne.2 (by omega)
        have HF := Kp.mk (show Rd vB wr (some ⟨g, o, none⟩) n' c' (l.dropWhile (· == 0)) by rw [← hd, List.dropWhile_cons]; simp [hx]; exact hr)
        clear hr hd hlen
        go_wp2_with fail
        go_ret
        exact ⟨_, _, _, rfl, HF.out, rfl⟩
set_option maxHeartbeats 4000000 in
set_option maxRecDepth 1000000 in
theorem trim_left0 {l : List Nat} {A : Option Addr} {n c : Nat} {w : World} (cc : UInt8) (hcc : cc.toNat = 0) (h : Rd vB w A n c l) (hn : n ≤ 9223372036854775807) :
    Calls Tryd.prog 15 #[.slice A n c, .string ⟨#[cc]⟩] w fun e w' => ∃ A' n' c', e = .returned (.slice A' n' c') ∧ Rd vB w A' n' c' (l.dropWhile (· == 0)) ∧ w' = w := by
  by_cases h0 : n = 0
  · subst h0
    have e : l = [] := List.eq_nil_of_length_eq_zero h.len
    subst e
    clear h
    go_enter Tryd.func15, Tryd.ntmps15
    go_wp2_with fail
    go_ret
    exact ⟨none, 0, 0, rfl, Rd.nil _, rfl⟩
  · have b0 : ¬ (n : Int) = 0 := by omega
    have hn0 : ((n : Int) == 0) = false := beq_eq_false_iff_ne.2 b0
    have hc' : ¬ (128 : Int) ≤ (cc.toNat : Int) := by omega
    have hg0 : ((⟨#[cc]⟩ : ByteArray)[0]'Nat.zero_lt_one) = cc := rfl
    have C := Kp.mk (trimByte_any h hn)
    clear h
    go_enter Tryd.func15, Tryd.ntmps15
    go_wp2_with (go_at_call 26; refine C.out.mono ?_; rintro e w1 ⟨A1, n1, c1, rfl, h1, rfl⟩)
    all_goals first | (go_ret; exact ⟨_, _, _, rfl, h1, rfl⟩) | (exfalso; simp_all; done) | (exfalso; omega)
theorem trim_left {l : List Nat} {A : Option Addr} {n c : Nat} {w : World} (h : Rd vB w A n c l) (hn : n ≤ 9223372036854775807) :
    Calls Tryd.prog 15 #[.slice A n c, .string ⟨#[0]⟩] w fun e w' => ∃ A' n' c', e = .returned (.slice A' n' c') ∧ Rd vB w A' n' c' (l.dropWhile (· == 0)) ∧ w' = w := trim_left0 0 rfl h hn
/-- what Read tells -/
def ReadR (w : World) (l : List Nat) (e : Ending) (w' : World) : Prop :=
  (256 ^ 256 ≤ vl 256 l.reverse ∧ Bad1 w 4 e w') ∨ (vl 256 l.reverse < 256 ^ 256 ∧ Ok1 w (vl 256 l.reverse) e w')
theorem drop_top (l : List Nat) : (l.dropWhile (· == 0)).reverse.length = 0 ∨ dg (l.dropWhile (· == 0)).reverse ((l.dropWhile (· == 0)).reverse.length - 1) ≠ 0 := by
  cases h : l.dropWhile (· == 0) with
  | nil => exact .inl rfl
  | cons x t =>
    refine .inr ?_
    have hx : (x == 0) = false := by
      have h1 := List.head?_dropWhile_not (· == 0) l
      rw [h] at h1
      simpa using h1
    rw [dg_rev _ _ (by simp), List.length_reverse]
    have e : (x :: t).length - 1 - ((x :: t).length - 1) = 0 := by omega
    rw [e]
    show x ≠ 0
    exact fun e => by simp [e] at hx
theorem or32 (x y : Nat) (hx : x < 4294967296) (hy : y < 4294967296) : bits .or .u32 (x : Int) (y : Int) = ((x ||| y : Nat) : Int) := by
  show IntKind.u32.wrap ((BitVec.ofInt 32 (x : Int) ||| BitVec.ofInt 32 (y : Int)).toNat : Int) = _
  have h := Nat.or_lt_two_pow (x := x) (y := y) (n := 32) (by omega) (by omega)
  rw [BitVec.ofInt_natCast, BitVec.ofInt_natCast, BitVec.toNat_or, BitVec.toNat_ofNat, BitVec.toNat_ofNat, Nat.mod_eq_of_lt (by omega), Nat.mod_eq_of_lt (by omega), IntKind.wrap_u32]
  omega
theorem or_low (x y E : Nat) (hx : x < 2 ^ E) : x ||| y * 2 ^ E = y * 2 ^ E + x := by
  rw [Nat.or_comm]
  exact or_add y E x hx
end Go.Proofs.YtpmoaccaknfodaaDoor
