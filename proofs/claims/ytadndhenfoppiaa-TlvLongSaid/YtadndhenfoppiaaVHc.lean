/-
  tlv: is a byte a mark; Head. The reference's Mark, IsWhole, Head, Element. Codes of errors.
-/
import Derived.Test.YtadndhenfoppiaaVHp
import Derived.Test.YtadndhenfoppiaaVHa
namespace Go.Proofs.Ytadndhenfoppiaa
open Go Go.RowKit
set_option maxRecDepth 4000

theorem and31b (x : BitVec 8) : bits .and .u8 (ub x) 31 = ((x.toNat % 32 : Nat) : Int) := by
  revert x
  refine all8 ?_
  decide +kernel
theorem and32b (x : BitVec 8) : bits .and .u8 (ub x) 32 = ((32 * (x.toNat / 32 % 2) : Nat) : Int) := by
  revert x
  refine all8 ?_
  decide +kernel
set_option maxHeartbeats 1000000 in
theorem isMark_any (m : BitVec 8) (b : Bool) (hb : mkB m = b) (w : World) : Calls Try.prog 31 #[.int .u8 (ub m)] w fun e w' => e = .returned (.bool b) ∧ w' = w := by
  have h1 := and31b m
  subst hb
  unfold mkB
  obtain ⟨n, hn⟩ : ∃ n, m.toNat % 32 = n := ⟨_, rfl⟩
  rw [hn] at h1 ⊢
  have h2 : (n != 31) = !((n : Int) == 31) := by
    rw [Bool.eq_iff_iff]; simp; omega
  rw [h2]
  clear h2 hn
  go_enter Try.func31, Try.ntmps31
  go_wp2
  go_ret
  exact ⟨rfl, rfl⟩
set_option maxHeartbeats 1000000 in
theorem refMark_any (m : BitVec 8) (b : Bool) (hb : mkB m = b) (w : World) : Calls Try.prog 10 #[.int .u8 (ub m)] w fun e w' => e = .returned (.bool b) ∧ w' = w := by
  have h1 : (ub m).tmod 32 = ((m.toNat % 32 : Nat) : Int) := by unfold ub; rw [Int.tmod_eq_emod_of_nonneg (by omega)]; omega
  have h0 : IntKind.u8.wrap ((m.toNat % 32 : Nat) : Int) = ((m.toNat % 32 : Nat) : Int) := by rw [IntKind.wrap_u8]; omega
  subst hb
  unfold mkB
  obtain ⟨n, hn⟩ : ∃ n, m.toNat % 32 = n := ⟨_, rfl⟩
  rw [hn] at h1 h0 ⊢
  have h2 : (n != 31) = !((n : Int) == 31) := by
    rw [Bool.eq_iff_iff]; simp; omega
  rw [h2]
  clear h2 hn
  go_enter Try.func10, Try.ntmps10
  go_wp2
  go_ret
  exact ⟨rfl, rfl⟩
set_option maxHeartbeats 1000000 in
theorem refIsWhole_any (m : BitVec 8) (b : Bool) (hb : whB m = b) (w : World) : Calls Try.prog 34 #[.int .u8 (ub m)] w fun e w' => e = .returned (.bool b) ∧ w' = w := by
  have hlt := m.isLt
  have h1 : (ub m).tdiv 32 = ((m.toNat / 32 : Nat) : Int) := by unfold ub; rw [Int.tdiv_eq_ediv_of_nonneg (by omega)]; omega
  have h0 : IntKind.u8.wrap ((m.toNat / 32 : Nat) : Int) = ((m.toNat / 32 : Nat) : Int) := by rw [IntKind.wrap_u8]; omega
  have h3 : ((m.toNat / 32 : Nat) : Int).tmod 2 = ((m.toNat / 32 % 2 : Nat) : Int) := by rw [Int.tmod_eq_emod_of_nonneg (by omega)]; omega
  have h4 : IntKind.u8.wrap ((m.toNat / 32 % 2 : Nat) : Int) = ((m.toNat / 32 % 2 : Nat) : Int) := by rw [IntKind.wrap_u8]; omega
  subst hb
  unfold whB
  obtain ⟨k, hk⟩ : ∃ k, m.toNat / 32 = k := ⟨_, rfl⟩
  rw [hk] at h1 h0 h3 h4 ⊢
  obtain ⟨n, hn⟩ : ∃ n, k % 2 = n := ⟨_, rfl⟩
  rw [hn] at h3 h4 ⊢
  have h2 : (n == 1) = ((n : Int) == 1) := by
    rw [Bool.eq_iff_iff]; simp; omega
  rw [h2]
  clear h2 hn hk hlt
  go_enter Try.func34, Try.ntmps34
  go_wp2
  go_ret
  exact ⟨rfl, rfl⟩
theorem wh_cases (m : BitVec 8) : (whB m = true ∧ ((32 * (m.toNat / 32 % 2) : Nat) : Int) = 32) ∨ (whB m = false ∧ ((32 * (m.toNat / 32 % 2) : Nat) : Int) = 0) := by
  unfold whB
  rcases (by omega : m.toNat / 32 % 2 = 1 ∨ m.toNat / 32 % 2 = 0) with h | h
  · left; rw [h]; exact ⟨rfl, rfl⟩
  · right; rw [h]; exact ⟨rfl, rfl⟩
set_option maxHeartbeats 1000000 in
theorem isPart_any (m : BitVec 8) (b : Bool) (hb : isP m = b) (w : World) : Calls Try.prog 32 #[.int .u8 (ub m)] w fun e w' => e = .returned (.bool b) ∧ w' = w := by
  have h1 := and32b m
  unfold isP at hb
  cases hk : mkB m with
  | false =>
    rw [hk] at hb
    obtain rfl : false = b := hb
    go_enter Try.func32, Try.ntmps32
    go_wp2_with (go_at_call 31; refine (isMark_any m false hk _).mono ?_; rintro e w1 ⟨rfl, rfl⟩)
    go_ret
    exact ⟨rfl, rfl⟩
  | true =>
    rw [hk, Bool.true_and] at hb
    rcases wh_cases m with ⟨h2, h3⟩ | ⟨h2, h3⟩
    · rw [h2] at hb
      obtain rfl : false = b := hb
      rw [h3] at h1
      clear h2 h3
      go_enter Try.func32, Try.ntmps32
      go_wp2_with (go_at_call 31; refine (isMark_any m true hk _).mono ?_; rintro e w1 ⟨rfl, rfl⟩)
      go_ret
      exact ⟨rfl, rfl⟩
    · rw [h2] at hb
      obtain rfl : true = b := hb
      rw [h3] at h1
      clear h2 h3
      go_enter Try.func32, Try.ntmps32
      go_wp2_with (go_at_call 31; refine (isMark_any m true hk _).mono ?_; rintro e w1 ⟨rfl, rfl⟩)
      go_ret
      exact ⟨rfl, rfl⟩
set_option maxHeartbeats 1000000 in
theorem isWhole_any (m : BitVec 8) (b : Bool) (hb : isW m = b) (w : World) : Calls Try.prog 36 #[.int .u8 (ub m)] w fun e w' => e = .returned (.bool b) ∧ w' = w := by
  have h1 := and32b m
  unfold isW at hb
  cases hk : mkB m with
  | false =>
    rw [hk] at hb
    obtain rfl : false = b := hb
    go_enter Try.func36, Try.ntmps36
    go_wp2_with (go_at_call 31; refine (isMark_any m false hk _).mono ?_; rintro e w1 ⟨rfl, rfl⟩)
    go_ret
    exact ⟨rfl, rfl⟩
  | true =>
    rw [hk, Bool.true_and] at hb
    rcases wh_cases m with ⟨h2, h3⟩ | ⟨h2, h3⟩
    · rw [h2] at hb
      obtain rfl : true = b := hb
      rw [h3] at h1
      clear h2 h3
      go_enter Try.func36, Try.ntmps36
      go_wp2_with (go_at_call 31; refine (isMark_any m true hk _).mono ?_; rintro e w1 ⟨rfl, rfl⟩)
      go_ret
      exact ⟨rfl, rfl⟩
    · rw [h2] at hb
      obtain rfl : false = b := hb
      rw [h3] at h1
      clear h2 h3
      go_enter Try.func36, Try.ntmps36
      go_wp2_with (go_at_call 31; refine (isMark_any m true hk _).mono ?_; rintro e w1 ⟨rfl, rfl⟩)
      go_ret
      exact ⟨rfl, rfl⟩
/-- the new row of a literal -/
theorem lit_fresh (w : World) (l : List (BitVec 8)) (n : Nat) (hn : l.length = n) (hm : n ≤ 140737488355328) (cs : Array Value) (hcs : cs = bv l) : ∃ A c, (Value.slice (some ⟨w.heap.size, 0, none⟩) n n = .slice A n c) ∧ Bs (w.alloc (.cells cs 5)) A n c l ∧ Own (w.alloc (.cells cs 5)) w.heap.size (.slice A n c) n l ∧ Ext w (w.alloc (.cells cs 5)) := by
  subst hcs
  have ho := Own.new w w.heap.size n l hn (Nat.le_refl _) (by unfold maxLen; omega)
  exact ⟨_, _, rfl, ho.bs, ho, (by (repeat (first | assumption | exact Ext.refl _ | apply Ext.drew | apply Ext.drewN | apply Ext.alloc | refine Ext.trans ?_ (by assumption))); first | done | fail)⟩
theorem byte_id (n : Nat) (h : n < 256) : ub (BitVec.ofNat 8 n) = (n : Int) := by unfold ub; rw [BitVec.toNat_ofNat]; omega
theorem byte_lo (n : Nat) : (n : Int) % 256 = ub (BitVec.ofNat 8 (n % 256)) := by unfold ub; rw [BitVec.toNat_ofNat]; omega
/-- an error and no bytes -/
def ErrB (w : World) (c : Int) (e : Ending) (w' : World) : Prop := e = .returned (.tuple #[.slice none 0 0, err c]) ∧ Ext w w'
set_option maxHeartbeats 1000000 in
theorem Head_arg (m : BitVec 8) (n : Int) (h : mkB m = false ∨ n < 0) (w : World) : Calls Try.prog 9 #[.int .u8 (ub m), .int .i64 n] w (ErrB w 1) := by
  cases hk : mkB m with
  | false =>
    clear h
    go_enter Try.func9, Try.ntmps9
    go_wp2_with (go_at_call 31; refine (isMark_any m false hk _).mono ?_; rintro e w1 ⟨rfl, rfl⟩)
    go_ret2
    exact ⟨rfl, (by (repeat (first | assumption | exact Ext.refl _ | apply Ext.drew | apply Ext.drewN | apply Ext.alloc | refine Ext.trans ?_ (by assumption))); first | done | fail)⟩
  | true =>
    rw [hk] at h
    have h1 : n < 0 := h.resolve_left (by decide)
    clear h
    go_enter Try.func9, Try.ntmps9
    go_wp2_with (go_at_call 31; refine (isMark_any m true hk _).mono ?_; rintro e w1 ⟨rfl, rfl⟩)
    go_ret2
    exact ⟨rfl, (by (repeat (first | assumption | exact Ext.refl _ | apply Ext.drew | apply Ext.drewN | apply Ext.alloc | refine Ext.trans ?_ (by assumption))); first | done | fail)⟩
set_option maxHeartbeats 1000000 in
theorem Head_long (m : BitVec 8) (n : Int) (h : (65535 : Int) < n) (hk : mkB m = true) (w : World) : Calls Try.prog 9 #[.int .u8 (ub m), .int .i64 n] w (ErrB w 4) := by
  have h2 : decide (n < 0) = false := decide_eq_false (by omega)
  have h3 : (65535 : Int) < n := h
  clear h
  go_enter Try.func9, Try.ntmps9
  go_wp2_with (go_at_call 31; refine (isMark_any m true hk _).mono ?_; rintro e w1 ⟨rfl, rfl⟩)
  go_ret2
  exact ⟨rfl, (by (repeat (first | assumption | exact Ext.refl _ | apply Ext.drew | apply Ext.drewN | apply Ext.alloc | refine Ext.trans ?_ (by assumption))); first | done | fail)⟩
set_option maxHeartbeats 2000000 in
theorem Head_ok (m : BitVec 8) (n : Nat) (h : n ≤ 65535) (hk : mkB m = true) (w : World) : Calls Try.prog 9 #[.int .u8 (ub m), .int .i64 (n : Int)] w (FreshE w (hdn n) (hdr m n)) := by
  have h1 : decide ((n : Int) < 0) = false := decide_eq_false (by omega)
  have h2 : decide ((65535 : Int) < (n : Int)) = false := decide_eq_false (by omega)
  have h2' : ¬ (65535 : Int) < (n : Int) := by omega
  unfold hdr hdn
  by_cases h3 : n < 128
  · rw [if_pos h3, if_pos h3]
    have h4 : (n : Int) < 128 := by omega
    have L := Kp.mk (lit_fresh w [m, BitVec.ofNat 8 n] 2 rfl (by decide) #[.int .u8 (ub m), .int .u8 (n : Int)] (by rw [← byte_id n (by omega)]; rfl))
    clear h3 h
    go_enter Try.func9, Try.ntmps9
    go_wp2_with (go_at_call 31; refine (isMark_any m true hk _).mono ?_; rintro e w1 ⟨rfl, rfl⟩)
    go_ret2
    obtain ⟨A, c, e1, e2, e3, e4⟩ := L.out
    cases e1
    exact ⟨_, _, rfl, e2, e3, e4⟩
  · rw [if_neg h3, if_neg h3]
    have h4 : decide ((n : Int) < 128) = false := decide_eq_false (by omega)
    by_cases h6 : n < 256
    · rw [if_pos h6, if_pos h6]
      have h7 : (n : Int) < 256 := by omega
      have L := Kp.mk (lit_fresh w [m, 129, BitVec.ofNat 8 n] 3 rfl (by decide) #[.int .u8 (ub m), .int .u8 129, .int .u8 (n : Int)] (by rw [← byte_id n h6]; rfl))
      clear h3 h h6
      go_enter Try.func9, Try.ntmps9
      go_wp2_with (go_at_call 31; refine (isMark_any m true hk _).mono ?_; rintro e w1 ⟨rfl, rfl⟩)
      go_ret2
      obtain ⟨A, c, e1, e2, e3, e4⟩ := L.out
      cases e1
      exact ⟨_, _, rfl, e2, e3, e4⟩
    · rw [if_neg h6, if_neg h6]
      have h7 : decide ((n : Int) < 256) = false := decide_eq_false (by omega)
      have h5 := byte_lo n
      have L := Kp.mk (lit_fresh w [m, 130, BitVec.ofNat 8 (n / 256), BitVec.ofNat 8 (n % 256)] 4 rfl (by decide) #[.int .u8 (ub m), .int .u8 130, .int .u8 ((n : Int) / 256), .int .u8 (ub (BitVec.ofNat 8 (n % 256)))] (by rw [show (n : Int) / 256 = ub (BitVec.ofNat 8 (n / 256)) by rw [byte_id (n / 256) (by omega)]; omega]; rfl))
      clear h3 h h6
      go_enter Try.func9, Try.ntmps9
      go_wp2_with (go_at_call 31; refine (isMark_any m true hk _).mono ?_; rintro e w1 ⟨rfl, rfl⟩)
      go_ret2
      obtain ⟨A, c, e1, e2, e3, e4⟩ := L.out
      cases e1
      exact ⟨_, _, rfl, e2, e3, e4⟩
set_option maxHeartbeats 2000000 in
theorem refHead_ok (m : BitVec 8) (n : Nat) (h : n ≤ 65535) (w : World) : Calls Try.prog 11 #[.int .u8 (ub m), .int .i64 (n : Int)] w (Fresh w (hdn n) (hdr m n)) := by
  unfold hdr hdn
  by_cases h3 : n < 128
  · rw [if_pos h3, if_pos h3]
    have h4 : (n : Int) < 128 := by omega
    have L := Kp.mk (lit_fresh w [m, BitVec.ofNat 8 n] 2 rfl (by decide) #[.int .u8 (ub m), .int .u8 (n : Int)] (by rw [← byte_id n (by omega)]; rfl))
    clear h3 h
    go_enter Try.func11, Try.ntmps11
    go_wp2_with fail
    go_ret
    obtain ⟨A, c, e1, e2, e3, e4⟩ := L.out
    cases e1
    exact ⟨_, _, rfl, e2, e3, e4⟩
  · rw [if_neg h3, if_neg h3]
    have h4 : decide ((n : Int) < 128) = false := decide_eq_false (by omega)
    by_cases h6 : n < 256
    · rw [if_pos h6, if_pos h6]
      have h7 : (n : Int) < 256 := by omega
      have L := Kp.mk (lit_fresh w [m, 129, BitVec.ofNat 8 n] 3 rfl (by decide) #[.int .u8 (ub m), .int .u8 129, .int .u8 (n : Int)] (by rw [← byte_id n h6]; rfl))
      clear h3 h h6
      go_enter Try.func11, Try.ntmps11
      go_wp2_with fail
      go_ret
      obtain ⟨A, c, e1, e2, e3, e4⟩ := L.out
      cases e1
      exact ⟨_, _, rfl, e2, e3, e4⟩
    · rw [if_neg h6, if_neg h6]
      have h7 : decide ((n : Int) < 256) = false := decide_eq_false (by omega)
      have d1 : (n : Int).tdiv 256 = ((n / 256 : Nat) : Int) := by rw [Int.tdiv_eq_ediv_of_nonneg (by omega)]; omega
      have d2 : (n : Int).tmod 256 = ((n % 256 : Nat) : Int) := by rw [Int.tmod_eq_emod_of_nonneg (by omega)]; omega
      have d3 : IntKind.i64.wrap ((n / 256 : Nat) : Int) = ((n / 256 : Nat) : Int) := by rw [IntKind.wrap_i64]; omega
      have d4 : IntKind.i64.wrap ((n % 256 : Nat) : Int) = ((n % 256 : Nat) : Int) := by rw [IntKind.wrap_i64]; omega
      have hp : n / 256 < 256 := by omega
      have hq : n % 256 < 256 := by omega
      generalize n / 256 = p at *
      generalize n % 256 = q at *
      have L := Kp.mk (lit_fresh w [m, 130, BitVec.ofNat 8 p, BitVec.ofNat 8 q] 4 rfl (by decide) #[.int .u8 (ub m), .int .u8 130, .int .u8 (p : Int), .int .u8 (q : Int)] (by rw [← byte_id p hp, ← byte_id q hq]; rfl))
      clear h3 h h6
      go_enter Try.func11, Try.ntmps11
      go_wp2_with fail
      go_ret
      obtain ⟨A, c, e1, e2, e3, e4⟩ := L.out
      cases e1
      exact ⟨_, _, rfl, e2, e3, e4⟩
set_option maxHeartbeats 2000000 in
theorem refElement_ok (m : BitVec 8) {b : List (BitVec 8)} {A : Option Addr} {n c : Nat} {w : World} (hb : Bs w A n c b) (h : n ≤ 65535) : Calls Try.prog 27 #[.int .u8 (ub m), .slice A n c] w (Fresh w (hdn n + n) (elm m b)) := by
  have hhi := hdn_hi n
  have he : elm m b = hdr m n ++ b := by unfold elm; rw [hb.len]
  rw [he]
  have HB := Kp.mk hb
  have H := Kp.mk h
  obtain ⟨L, hL⟩ : ∃ L, hdr m n = L := ⟨_, rfl⟩
  obtain ⟨N, hN⟩ : ∃ N, hdn n = N := ⟨_, rfl⟩
  have C := Kp.mk (refHead_ok m n h w)
  rw [hL, hN] at C
  rw [hN] at hhi
  rw [hL, hN]
  have hx : N + n ≤ 140737488355328 := by omega
  clear he hb h hL hN hhi
  go_enter Try.func27, Try.ntmps27
  go_wp2_with (first | (go_at_call 11; refine C.out.mono ?_; rintro e w1 ⟨A1, c1, rfl, hs1, ho1, hx1⟩; have HO := Kp.mk ho1; have HX := Kp.mk hx1; clear hs1 ho1 hx1) | (at_builtin; refine wpList_append_bs rfl (.tmp 8) (.tmp 9) rfl w.heap.size _ N L rfl HO.out A n c b rfl (HB.out.ext HX.out) hx (N + n) rfl (L ++ b) rfl w HX.out (Nat.le_refl _) HX.out.size ?_; intro A5 c5 w5 ho5 hx5 _) | fail)
  go_ret
  exact ⟨_, _, rfl, ho5.bs, ho5, hx5⟩
/-- which of k things a number speaks of -/
def pk (x : Int) (k : Int) : Int := (if x < 0 then -(x + 1) else x) % k
set_option maxHeartbeats 1000000 in
theorem pick_any (x : Int) (k : Int) (h1 : -9223372036854775808 ≤ x) (h2 : x ≤ 9223372036854775807) (hk : 0 < k) (hk2 : k ≤ 1000) (w : World) :
    Calls Try.prog 14 #[.int .i64 x, .int .i64 k] w fun e w' => e = .returned (.int .i64 (pk x k)) ∧ w' = w := by
  unfold pk
  have hk0 : k ≠ 0 := by omega
  by_cases h : x < 0
  · rw [if_pos h]
    have e1 : IntKind.i64.wrap (x + 1) = x + 1 := by rw [IntKind.wrap_i64]; omega
    have e2 : IntKind.i64.wrap (-(x + 1)) = -(x + 1) := by rw [IntKind.wrap_i64]; omega
    obtain ⟨y, hy⟩ : ∃ y, -(x + 1) = y := ⟨_, rfl⟩
    rw [hy] at e2 ⊢
    have hy0 : 0 ≤ y := by omega
    have e3 : y.tmod k = y % k := Int.tmod_eq_emod_of_nonneg hy0
    have b1 := Int.emod_nonneg y hk0
    have b2 := Int.emod_lt_of_pos y hk
    have e4 : IntKind.i64.wrap (y % k) = y % k := by rw [IntKind.wrap_i64]; omega
    generalize y % k = z at *
    clear b1 b2 h1 h2 hk hk2
    go_enter Try.func14, Try.ntmps14
    go_wp2_with fail
    go_ret
    exact ⟨rfl, rfl⟩
  · rw [if_neg h]
    have hy0 : 0 ≤ x := by omega
    have e3 : x.tmod k = x % k := Int.tmod_eq_emod_of_nonneg hy0
    have b1 := Int.emod_nonneg x hk0
    have b2 := Int.emod_lt_of_pos x hk
    have e4 : IntKind.i64.wrap (x % k) = x % k := by rw [IntKind.wrap_i64]; omega
    have h5 : decide (x < 0) = false := decide_eq_false h
    generalize x % k = z at *
    clear b1 b2 h1 h2 hk hk2 h hy0
    go_enter Try.func14, Try.ntmps14
    go_wp2_with fail
    go_ret
    exact ⟨rfl, rfl⟩
end Go.Proofs.Ytadndhenfoppiaa
