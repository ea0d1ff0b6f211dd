/-
  The walk of the law NatInvs.
  rsa: factorMay, roundOf, paired.
  The reference's Write.
  bytes.TrimLeft of noughts; nat: Read.
-/
import Derived.Test.YtkdjhklnlnfhfaaGreatDoorM25
import Derived.Laws.ResultCell
import Derived.Test.YtkdjhklnlnfhfaaGreatDoorM23
import Derived.Test.YtkdjhklnlnfhfaaGreatDoorM22
import Derived.Test.YtkdjhklnlnfhfaaGreatDoorM21
namespace Go.Proofs.YtkdjhklnlnfhfaaGreatDoor
open Go Go.RowKit
set_option maxRecDepth 4000

theorem gcd_mod (m a : Nat) : Nat.gcd m (a % m) = Nat.gcd m a := by rw [Nat.gcd_comm, ← Nat.gcd_rec]
theorem one_dg {v : Nat} (h : (dgs 65536 v).length = 1) : dg (dgs 65536 v) 0 = v := by
  have h1 := vl_take_all 65536 (dgs 65536 v) 1 (by omega)
  rw [show (1 : Nat) = 0 + 1 from rfl, vl_take_succ, vl_dgs (by decide)] at h1
  simpa [vl] using h1
/-- Euclid's way ends -/
theorem Eu.ends {a m : Nat} (hm : 2 ≤ m) (hg : Nat.gcd m a = 1) : ∀ (y x p q : Nat) (s : Bool), Eu a m x y p q s → ∃ v, v < m ∧ v * a % m = 1 := by
  intro y
  induction y using Nat.strongRecOn with
  | _ y ih =>
    intro x p q s h
    rcases Nat.eq_zero_or_pos y with hy | hy
    · subst hy
      have h1 := h.last
      rw [hg] at h1
      subst h1
      exact ⟨_, h.one hm⟩
    · exact ih (x % y) (Nat.mod_lt x hy) y q _ _ (h.next hy)
theorem invN_spec {a m : Nat} (hm : 2 ≤ m) (hg : Nat.gcd m a = 1) : invN a m < m ∧ invN a m * a % m = 1 := by
  obtain ⟨v, h1, h2⟩ := Eu.ends hm hg a m 0 1 true (Eu.start hm)
  have e := invN_eq h1 h2
  rw [← e]
  exact ⟨h1, h2⟩
end Go.Proofs.YtkdjhklnlnfhfaaGreatDoor
namespace Go.Proofs.YtkdjhklnlnfhfaaGreatDoor
open Go Go.RowKit
set_option maxRecDepth 4000

theorem nb_16 {v : Nat} (h : nb v ≤ 64) : v < BB ^ 16 := by
  have h1 := (nb_iff v 64).1 h
  rwa [show (256 : Nat) ^ 64 = BB ^ 16 by rw [show (64 : Nat) = 4 * 16 by rfl, Nat.pow_mul]] at h1
theorem nb_lng (v : Nat) : 256 < nb v ↔ lng v := by
  have h := nb_iff v 256
  rw [show (256 : Nat) ^ 256 = 65536 ^ 128 by rw [show (65536 : Nat) = 256 ^ 2 by rfl, ← Nat.pow_mul]] at h
  have h2 := len_iff (B := 65536) (by decide) v 128
  have h3 := may_iff v
  constructor
  · intro h4 
    exact Decidable.byContradiction fun h5 => by have := h.2 (h2.1 (h3.2 h5)); omega
  · intro h4
    rcases Nat.lt_or_ge 256 (nb v) with h5 | h5
    · exact h5
    · exact absurd h4 (h3.1 (h2.2 (h.1 h5)))
theorem bool_no {b : Bool} {p : Prop} (hb : b = true ↔ p) (h : ¬ p) : b = false := by
  cases b
  · rfl
  · exact absurd (hb.1 rfl) h
section
variable {A B D : Option Addr} {n c m d k f vp vq ve : Nat} {w : World}
/-- a factor that may be -/
structure Fac (v : Nat) : Prop where
  lo : 3 ≤ v
  hi : nb v ≤ 64
theorem Fac.lt {v : Nat} (h : Fac v) : v < BB ^ 16 := nb_16 h.hi
theorem Fac.pred {v : Nat} (h : Fac v) : v - 1 < BB ^ 16 := Nat.lt_of_le_of_lt (Nat.sub_le _ _) h.lt
theorem Fac.mul {v u : Nat} (h : Fac v) (g : Fac u) : v * u < BB ^ 32 := lt_mul h.lt g.lt (by decide)
theorem Fac.round {v u : Nat} (h : Fac v) (g : Fac u) : (v - 1) * (u - 1) < BB ^ 32 := lt_mul h.pred g.pred (by decide)
theorem Fac.round2 {v u : Nat} (h : Fac v) (g : Fac u) : 2 ≤ (v - 1) * (u - 1) := by
  have h1 := h.lo
  have h2 := g.lo
  have : 2 * 2 ≤ (v - 1) * (u - 1) := Nat.mul_le_mul (by omega) (by omega)
  omega
theorem szS : (Tryz.prog.info? 58).map (·.size) = some 3 := by kernel_rfl
theorem szP2 : (Tryz.prog.info? 29).map (·.size) = some 2 := by kernel_rfl
theorem one_two (A B : Option Addr) (n c m d : Nat) : (#[Value.slice A n c, Value.slice B m d]).all (·.oneCell') = true := by simp [Value.oneCell']
theorem Rw.rowfar {α : Type} {T : TypeId} {e : α → Value} {w : World} {B n g : Nat} {v : Value} {l : List α} (h : Rw T e w B v n l) (hg : g < B) (cs : Array Value) : Rw T e (w.setRow g cs) B v n l := by
  refine ⟨h.o.1, ?_⟩
  rcases h.o.2 with h2 | ⟨g', cap, cur, h1, h3, h4, h5⟩
  · exact .inl h2
  · exact .inr ⟨g', cap, cur, h1, h3, (setRow_other w g g' cs (by omega)).trans h4, h5⟩
/-- a key, and that there is none -/
def KeyR (w : World) (vn ve vd : Nat) (e : Ending) (w' : World) : Prop :=
  ∃ A n c B m d D k f, e = .returned (.tuple #[.agg #[.slice A n c, .slice B m d, .slice D k f], .nilIface]) ∧ Rw ut vL w' w.heap.size (.slice A n c) n (dgs BB vn) ∧ Rw ut vL w' w.heap.size (.slice B m d) m (dgs BB ve) ∧ Rw ut vL w' w.heap.size (.slice D k f) k (dgs BB vd) ∧ Ext w w'
def NoKey (w : World) (k : Int) (e : Ending) (w' : World) : Prop := e = .returned (.tuple #[.agg #[.slice none 0 0, .slice none 0 0, .slice none 0 0], err k]) ∧ Ext w w'
end
end Go.Proofs.YtkdjhklnlnfhfaaGreatDoor
namespace Go.Proofs.YtkdjhklnlnfhfaaGreatDoor
open Go Go.RowKit
set_option maxRecDepth 4000

theorem digit_byte {v q s : Nat} (hs : s < 2) : dg (dgs 65536 v) q / 256 ^ s % 256 = v / 256 ^ (2 * q + s) % 256 := by
  obtain ⟨z, hz⟩ := div_dg (B := 65536) (by decide) (cn_dgs (by decide) v).d q
  rw [vl_dgs (by decide)] at hz
  have e1 : v / 256 ^ (2 * q + s) = v / 65536 ^ q / 256 ^ s := by
    rw [Nat.pow_add, Nat.pow_mul, show (256 : Nat) ^ 2 = 65536 from rfl, Nat.div_div_eq_div_mul]
  rw [e1, hz]
  generalize dg (dgs 65536 v) q = x
  generalize dg (dgs 65536 v) (q + 1) + 65536 * z = y
  rcases (show s = 0 ∨ s = 1 by omega) with rfl | rfl
  · simp only [Nat.pow_zero, Nat.div_one]; omega
  · simp only [Nat.pow_one]; omega
/-- what the reference's Write tells -/
def WriteB (w : World) (v k : Nat) (e : Ending) (w' : World) : Prop :=
  ∃ A c, e = .returned (.tuple #[.slice A k c, .bool true]) ∧ Own w' w.heap.size (.slice A k c) k (toB v k) ∧ Ext w w'
set_option maxHeartbeats 2000000 in
theorem refWrite_any {A : Option Addr} {n c v k : Nat} {w : World} (h : Rd vI w A n c (dgs 65536 v)) (hk : nb v ≤ k) (hk2 : k ≤ 256) : Calls Tryz.prog 92 #[.slice A n c, .int .i64 (k : Int)] w (WriteB w v k) := by
  have hlen := h.len
  have hv := (nb_iff v k).1 hk
  have hv2 : v < 256 ^ (2 * n) := by
    have h1 := (len_iff (B := 65536) (by decide) v n).1 (by omega)
    rwa [Nat.pow_mul]
  have hn : n ≤ 128 := by
    have h1 := (len_iff (B := 65536) (by decide) v 128).2 (by
      rw [show (65536 : Nat) = 256 ^ 2 by rfl, ← Nat.pow_mul]
      exact Nat.lt_of_lt_of_le hv (Nat.pow_le_pow_right (by decide) hk2))
    omega
  have HC := Kp.mk (Size_any h (by omega))
  rw [sz_nb] at HC
  have HR := Kp.mk h
  obtain ⟨N, hN⟩ : ∃ N, nb v = N := ⟨_, rfl⟩
  rw [hN] at HC hk
  have b1 : decide ((k : Int) < (N : Int)) = false := decide_eq_false (by omega)
  have b2 : decide ((k : Int) < 0) = false := decide_eq_false (by omega)
  have b3 : decide (k < N) = false := decide_eq_false (by omega)
  obtain ⟨M, hM⟩ : ∃ M, min k (2 * n) = M := ⟨_, rfl⟩
  have hM1 : M ≤ k := by omega
  have hM2 : M ≤ 2 * n := by omega
  have hM3 : M = k ∨ M = 2 * n := by omega
  have HV := Kp.mk (show v < 256 ^ M by rcases hM3 with e | e <;> rw [e] <;> assumption)
  have hmk := run_makeN k (k : Int) rfl (by omega)
  rw [← wrS_zero v k] at hmk
  clear h hv hv2 hN hlen hM hk
  go_enter Tryz.func92, Tryz.ntmps92
  go_wp2_with fail
  refine HC.out.mono ?_
  rintro e w1 ⟨rfl, rfl⟩
  have HB0 := Kp.mk (Blk.new w1 5 (bv (wrS v k 0)))
  go_wp2_with fail
  go_loopw [7] (fun iv wr => ∃ i : Nat, i ≤ M ∧ iv = .int .i64 (i : Int) ∧ Blk wr w1.heap.size 5 (bv (wrS v k i)) ∧ Ext w1 wr) (fun iv _ => M - (intOf iv).toNat)
  case atStart => exact ⟨0, by omega, rfl, HB0.out, (by (repeat (first | assumption | exact Ext.refl _ | apply Ext.drew | apply Ext.drewN | apply Ext.alloc | refine Ext.trans ?_ (by assumption))); first | done | fail)⟩
  case round =>
    obtain ⟨i, hi, rfl, hb, hx⟩ := hrel
    obtain ⟨q, hq⟩ : ∃ q, i / 2 = q := ⟨_, rfl⟩
    obtain ⟨s, hs⟩ : ∃ s, i % 2 = s := ⟨_, rfl⟩
    have hiq : i = 2 * q + s := by omega
    have d1 : (i : Int) / 2 = (q : Int) := by omega
    have d2 : (i : Int) % 2 = (s : Int) := by omega
    have d3 : (i : Int).tdiv 2 = (q : Int) := by rw [Int.tdiv_eq_ediv_of_nonneg (by omega)]; exact d1
    have d4 : (i : Int).tmod 2 = (s : Int) := by rw [Int.tmod_eq_emod_of_nonneg (by omega)]; exact d2
    have d5 : (i : Int) < 1000 := by omega
    by_cases hlt : i < M
    · obtain ⟨g, o, rfl⟩ := HR.out.some_ (by omega)
      have k1 := (HR.out.ext hx).dig q (by omega)
      unfold vI at k1
      have hy := (cn_dgs (B := 65536) (by decide) v).d.at (by decide) q
      have hlb := digit_byte (v := v) (q := q) (s := s) (by omega)
      rw [← hiq] at hlb
      obtain ⟨P, hP⟩ : ∃ P, k - 1 - i = P := ⟨_, rfl⟩
      have k4 := hb.h.frozen P
      have k3 := (hb.h.cell P).trans (bv_at _ P (by simp [wrS]; omega))
      have hset := hb.setB P (BitVec.ofNat 8 (v / 256 ^ i))
      rw [← hP, wrS_set v k i (by omega), hP, ub_ofNat] at hset
      generalize dg (dgs 65536 v) q = y at *
      have c0 : (i : Int) < (k : Int) := by omega
      have c1 : (q : Int) < (n : Int) := by omega
      have c2 : (k : Int) - 1 - (i : Int) = (P : Int) := by omega
      have c3 : (P : Int) < (k : Int) := by omega
      have c4 : (y : Int) < 65536 := by omega
      rcases (show s = 0 ∨ s = 1 by omega) with rfl | rfl
      · rw [Nat.pow_zero, Nat.div_one] at hlb
        have e1 : ((v / 256 ^ i : Nat) : Int) % 256 = (y : Int) % 256 := by omega
        rw [e1] at hset
        have e2 : IntKind.u8.wrap ((y : Int) % 256) = (y : Int) % 256 := by rw [IntKind.wrap_u8]; omega
        have e3 : (y : Int).tmod 256 = (y : Int) % 256 := by rw [Int.tmod_eq_emod_of_nonneg (by omega)]
        have HS := Kp.mk hset
        have HX2 := Kp.mk (hx.setCell (p := ⟨w1.heap.size, P, none⟩) (Nat.le_refl _) (.int .u8 ((y : Int) % 256)))
        clear hb hx hq hs hiq hP hlb hset e1 hM1 hM2 hM3
        go_wp2_with fail
        go_roundw
        case rel => exact ⟨i + 1, by omega, by go_num, HS.out, HX2.out⟩
        case measure => simp [intOf]; omega
      · rw [Nat.pow_one] at hlb
        obtain ⟨z, hz⟩ : ∃ z, y / 256 = z := ⟨_, rfl⟩
        rw [hz] at hlb
        have e1 : ((v / 256 ^ i : Nat) : Int) % 256 = (z : Int) % 256 := by omega
        rw [e1] at hset
        have e2 : IntKind.u8.wrap ((z : Int) % 256) = (z : Int) % 256 := by rw [IntKind.wrap_u8]; omega
        have e3 : (z : Int).tmod 256 = (z : Int) % 256 := by rw [Int.tmod_eq_emod_of_nonneg (by omega)]
        have e4 : (y : Int) / 256 = (z : Int) := by omega
        have e5 : (y : Int).tdiv 256 = (z : Int) := by rw [Int.tdiv_eq_ediv_of_nonneg (by omega)]; exact e4
        have e6 : (z : Int) < 256 := by omega
        have HS := Kp.mk hset
        have HX2 := Kp.mk (hx.setCell (p := ⟨w1.heap.size, P, none⟩) (Nat.le_refl _) (.int .u8 ((z : Int) % 256)))
        clear hb hx hq hs hiq hP hlb hset e1 hM1 hM2 hM3 hz
        go_wp2_with fail
        go_roundw
        case rel => exact ⟨i + 1, by omega, by go_num, HS.out, HX2.out⟩
        case measure => simp [intOf]; omega
    · obtain rfl : i = M := by omega
      have hall := wrS_all v k i HV.out hM1
      rw [hall] at hb
      have HF := Kp.mk (show WriteB w1 v k (.returned (.tuple #[.slice (some ⟨w1.heap.size, 0, none⟩) k k, .bool true])) wr from
        ⟨_, _, rfl, Own.has hb.h (toB_len _ _) (Nat.le_refl _) (by unfold maxLen; omega), hx⟩)
      by_cases hik : i = k
      · have c0 : decide ((i : Int) < (k : Int)) = false := decide_eq_false (by omega)
        have c0' : decide (i < k) = false := decide_eq_false (by omega)
        clear hb hx hall hq hs hiq hM3 hM1 hM2
        go_wp2_with fail
        go_ret2
        exact HF.out
      · have c0 : (i : Int) < (k : Int) := by omega
        have c1 : decide ((q : Int) < (n : Int)) = false := decide_eq_false (by omega)
        have c1' : decide (q < n) = false := decide_eq_false (by omega)
        have c0' : i < k := by omega
        clear hb hx hall hq hs hiq hM3 hM1 hM2
        go_wp2_with fail
        go_ret2
        exact HF.out
end Go.Proofs.YtkdjhklnlnfhfaaGreatDoor
namespace Go.Proofs.YtkdjhklnlnfhfaaGreatDoor
open Go Go.RowKit
set_option maxRecDepth 4000

theorem szB8 : (Tryz.prog.info? 5).map (·.size) = some 1 := by kernel_rfl
theorem trimByte_any {l : List Nat} {A : Option Addr} {n c : Nat} {w : World} (h : Rd vB w A n c l) (hn : n ≤ 9223372036854775807) :
    Calls Tryz.prog 206 #[.slice A n c, .int .u8 0] w fun e w' => ∃ A' n' c', e = .returned (.slice A' n' c') ∧ Rd vB w A' n' c' (l.dropWhile (· == 0)) ∧ w' = w := by
  have HR := Kp.mk h
  clear h
  go_enter Tryz.func206, Tryz.ntmps206
  go_wp2_with fail
  go_loopw [0] (fun iv wr => ∃ A' n' c' l', n' ≤ n ∧ iv = .slice A' n' c' ∧ Rd vB w A' n' c' l' ∧ l'.dropWhile (· == 0) = l.dropWhile (· == 0) ∧ wr = w) (fun iv _ => lenOf iv)
  case atStart => exact ⟨A, n, c, l, Nat.le_refl _, rfl, HR.out, rfl, rfl⟩
  case round =>
    obtain ⟨A', n', c', l', hle, rfl, hr, hd, rfl⟩ := hrel
    have hlen := hr.len
    cases l' with
    | nil =>
      obtain rfl : n' = 0 := hlen.symm
      have HF := Kp.mk (show Rd vB wr none 0 0 (l.dropWhile (· == 0)) by rw [← hd]; exact Rd.nil wr)
      clear hr hd hlen
      go_wp2_with fail
      go_ret
      exact ⟨none, 0, 0, rfl, HF.out, rfl⟩
    | cons x l' =>
      obtain ⟨g, o, rfl⟩ := hr.some_ (by simp at hlen; omega)
      have hn0 : 0 < n' := by simp at hlen; omega
      have k1 := hr.dig 0 hn0
      unfold vB at k1
      rw [show dg (x :: l') 0 = x from rfl, Nat.add_zero] at k1
      have b0 : (0 : Int) < (n' : Int) := by omega
      have b1 : (n' : Int) ≤ 9223372036854775807 := by omega
      have b2 : ((n' : Int) == 0) = false := beq_eq_false_iff_ne.2 (by omega)
      by_cases hx : x = 0
      · subst hx
        have hs := fun W => run_from (P := Tryz.prog) (some ⟨g, o, none⟩) n' c' 39 5 Tryz.underlying39 szB8 1 1 rfl (by omega) W
        have HF := Kp.mk (And.intro (hr.drop 1 (by omega)) (show l'.dropWhile (· == 0) = l.dropWhile (· == 0) by rw [← hd, List.dropWhile_cons]; simp))
        rw [show (0 :: l').drop 1 = l' from rfl] at HF
        rw [show ((0 : Nat) : Int) = 0 from rfl] at k1
        generalize (if c' = 1 then some (⟨g, o, none⟩ : Addr) else (some (⟨g, o, none⟩ : Addr)).map (·.add 1)) = A2 at *
        clear hr hd hlen
        go_wp2_with fail
        go_roundw
        case rel => exact ⟨_, _, _, _, by omega, rfl, HF.out.1, HF.out.2, by trivial⟩
        case measure => simp [lenOf]; omega
      · have hx2 : ((x : Int) == 0) = false := beq_eq_false_iff_ne.2 (by omega)
        have HF := Kp.mk (show Rd vB wr (some ⟨g, o, none⟩) n' c' (l.dropWhile (· == 0)) by rw [← hd, List.dropWhile_cons]; simp [hx]; exact hr)
        clear hr hd hlen
        go_wp2_with fail
        go_ret
        exact ⟨_, _, _, rfl, HF.out, rfl⟩
set_option maxHeartbeats 4000000 in
set_option maxRecDepth 1000000 in
theorem trim_left0 {l : List Nat} {A : Option Addr} {n c : Nat} {w : World} (cc : UInt8) (hcc : cc.toNat = 0) (h : Rd vB w A n c l) (hn : n ≤ 9223372036854775807) :
    Calls Tryz.prog 168 #[.slice A n c, .string ⟨#[cc]⟩] w fun e w' => ∃ A' n' c', e = .returned (.slice A' n' c') ∧ Rd vB w A' n' c' (l.dropWhile (· == 0)) ∧ w' = w := by
  by_cases h0 : n = 0
  · subst h0
    have e : l = [] := List.eq_nil_of_length_eq_zero h.len
    subst e
    clear h
    go_enter Tryz.func168, Tryz.ntmps168
    go_wp2_with fail
    go_ret
    exact ⟨none, 0, 0, rfl, Rd.nil _, rfl⟩
  · have b0 : ¬ (n : Int) = 0 := by omega
    have hn0 : ((n : Int) == 0) = false := beq_eq_false_iff_ne.2 b0
    have hc' : ¬ (128 : Int) ≤ (cc.toNat : Int) := by omega
    have hg0 : ((⟨#[cc]⟩ : ByteArray)[0]'Nat.zero_lt_one) = cc := rfl
    have C := Kp.mk (trimByte_any h hn)
    clear h
    go_enter Tryz.func168, Tryz.ntmps168
    go_wp2_with (go_at_call 206; refine C.out.mono ?_; rintro e w1 ⟨A1, n1, c1, rfl, h1, rfl⟩)
    all_goals first | (go_ret; exact ⟨_, _, _, rfl, h1, rfl⟩) | (exfalso; simp_all; done) | (exfalso; omega)
theorem trim_left {l : List Nat} {A : Option Addr} {n c : Nat} {w : World} (h : Rd vB w A n c l) (hn : n ≤ 9223372036854775807) :
    Calls Tryz.prog 168 #[.slice A n c, .string ⟨#[0]⟩] w fun e w' => ∃ A' n' c', e = .returned (.slice A' n' c') ∧ Rd vB w A' n' c' (l.dropWhile (· == 0)) ∧ w' = w := trim_left0 0 rfl h hn
/-- what Read tells -/
def ReadR (w : World) (l : List Nat) (e : Ending) (w' : World) : Prop :=
  (256 ^ 256 ≤ vl 256 l.reverse ∧ Bad1 w 4 e w') ∨ (vl 256 l.reverse < 256 ^ 256 ∧ Ok1 w (vl 256 l.reverse) e w')
theorem drop_top (l : List Nat) : (l.dropWhile (· == 0)).reverse.length = 0 ∨ dg (l.dropWhile (· == 0)).reverse ((l.dropWhile (· == 0)).reverse.length - 1) ≠ 0 := by
  cases h : l.dropWhile (· == 0) with
  | nil => exact .inl rfl
  | cons x t =>
    refine .inr ?_
    have hx : (x == 0) = false := by
      have h1 := List.head?_dropWhile_not (· == 0) l
      rw [h] at h1
      simpa using h1
    rw [dg_rev _ _ (by simp), List.length_reverse]
    have e : (x :: t).length - 1 - ((x :: t).length - 1) = 0 := by omega
    rw [e]
    show x ≠ 0
    exact fun e => by simp [e] at hx
theorem or32 (x y : Nat) (hx : x < 4294967296) (hy : y < 4294967296) : bits .or .u32 (x : Int) (y : Int) = ((x ||| y : Nat) : Int) := by
  show IntKind.u32.wrap ((BitVec.ofInt 32 (x : Int) ||| BitVec.ofInt 32 (y : Int)).toNat : Int) = _
  have h := Nat.or_lt_two_pow (x := x) (y := y) (n := 32) (by omega) (by omega)
  rw [BitVec.ofInt_natCast, BitVec.ofInt_natCast, BitVec.toNat_or, BitVec.toNat_ofNat, BitVec.toNat_ofNat, Nat.mod_eq_of_lt (by omega), Nat.mod_eq_of_lt (by omega), IntKind.wrap_u32]
  omega
theorem or_low (x y E : Nat) (hx : x < 2 ^ E) : x ||| y * 2 ^ E = y * 2 ^ E + x := by
  rw [Nat.or_comm]
  exact or_add y E x hx
end Go.Proofs.YtkdjhklnlnfhfaaGreatDoor
