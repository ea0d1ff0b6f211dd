/-
  tlv: is a byte a mark; Head. The reference's Mark, IsWhole, Head, Element. Codes of errors.
  A region that draws its order and writes in place at its end: what reads is taken first, as long as none of the last stores has come up.
  AES in plain: bytes as polynomials, blocks, keys of rounds; decrypting is the way back. No condition.
-/
import Derived.Test.YthookcnkmlmgcaaDoorM1
import Derived.Test.YthookcnkmlmgcaaDoorM5
import Derived.OrdersHeld
import Derived.Test.YthookcnkmlmgcaaDoorM0
namespace Go.Proofs.YthookcnkmlmgcaaDoor
open Go Go.RowKit
set_option maxRecDepth 4000

theorem and31b (x : BitVec 8) : bits .and .u8 (ub x) 31 = ((x.toNat % 32 : Nat) : Int) := by
  revert x
  refine all8 ?_
  decide +kernel
theorem and32b (x : BitVec 8) : bits .and .u8 (ub x) 32 = ((32 * (x.toNat / 32 % 2) : Nat) : Int) := by
  revert x
  refine all8 ?_
  decide +kernel
set_option maxHeartbeats 1000000 in
theorem isMark_any (m : BitVec 8) (b : Bool) (hb : mkB m = b) (w : World) : Calls Tryd.prog 49 #[.int .u8 (ub m)] w fun e w' => e = .returned (.bool b) ∧ w' = w := by
  have h1 := and31b m
  subst hb
  unfold mkB
  obtain ⟨n, hn⟩ : ∃ n, m.toNat % 32 = n := ⟨_, rfl⟩
  rw [hn] at h1 ⊢
  have h2 : (n != 31) = !((n : Int) == 31) := by
    rw [Bool.eq_iff_iff]; simp; omega
  rw [h2]
  clear h2 hn
  go_enter Tryd.func49, Tryd.ntmps49
  go_wp2
  go_ret
  exact ⟨rfl, rfl⟩
theorem wh_cases (m : BitVec 8) : (whB m = true ∧ ((32 * (m.toNat / 32 % 2) : Nat) : Int) = 32) ∨ (whB m = false ∧ ((32 * (m.toNat / 32 % 2) : Nat) : Int) = 0) := by
  unfold whB
  rcases (by omega : m.toNat / 32 % 2 = 1 ∨ m.toNat / 32 % 2 = 0) with h | h
  · left; rw [h]; exact ⟨rfl, rfl⟩
  · right; rw [h]; exact ⟨rfl, rfl⟩
set_option maxHeartbeats 1000000 in
theorem isPart_any (m : BitVec 8) (b : Bool) (hb : isP m = b) (w : World) : Calls Tryd.prog 63 #[.int .u8 (ub m)] w fun e w' => e = .returned (.bool b) ∧ w' = w := by
  have h1 := and32b m
  unfold isP at hb
  cases hk : mkB m with
  | false =>
    rw [hk] at hb
    obtain rfl : false = b := hb
    go_enter Tryd.func63, Tryd.ntmps63
    go_wp2_with (go_at_call 49; refine (isMark_any m false hk _).mono ?_; rintro e w1 ⟨rfl, rfl⟩)
    go_ret
    exact ⟨rfl, rfl⟩
  | true =>
    rw [hk, Bool.true_and] at hb
    rcases wh_cases m with ⟨h2, h3⟩ | ⟨h2, h3⟩
    · rw [h2] at hb
      obtain rfl : false = b := hb
      rw [h3] at h1
      clear h2 h3
      go_enter Tryd.func63, Tryd.ntmps63
      go_wp2_with (go_at_call 49; refine (isMark_any m true hk _).mono ?_; rintro e w1 ⟨rfl, rfl⟩)
      go_ret
      exact ⟨rfl, rfl⟩
    · rw [h2] at hb
      obtain rfl : true = b := hb
      rw [h3] at h1
      clear h2 h3
      go_enter Tryd.func63, Tryd.ntmps63
      go_wp2_with (go_at_call 49; refine (isMark_any m true hk _).mono ?_; rintro e w1 ⟨rfl, rfl⟩)
      go_ret
      exact ⟨rfl, rfl⟩
set_option maxHeartbeats 1000000 in
theorem isWhole_any (m : BitVec 8) (b : Bool) (hb : isW m = b) (w : World) : Calls Tryd.prog 53 #[.int .u8 (ub m)] w fun e w' => e = .returned (.bool b) ∧ w' = w := by
  have h1 := and32b m
  unfold isW at hb
  cases hk : mkB m with
  | false =>
    rw [hk] at hb
    obtain rfl : false = b := hb
    go_enter Tryd.func53, Tryd.ntmps53
    go_wp2_with (go_at_call 49; refine (isMark_any m false hk _).mono ?_; rintro e w1 ⟨rfl, rfl⟩)
    go_ret
    exact ⟨rfl, rfl⟩
  | true =>
    rw [hk, Bool.true_and] at hb
    rcases wh_cases m with ⟨h2, h3⟩ | ⟨h2, h3⟩
    · rw [h2] at hb
      obtain rfl : true = b := hb
      rw [h3] at h1
      clear h2 h3
      go_enter Tryd.func53, Tryd.ntmps53
      go_wp2_with (go_at_call 49; refine (isMark_any m true hk _).mono ?_; rintro e w1 ⟨rfl, rfl⟩)
      go_ret
      exact ⟨rfl, rfl⟩
    · rw [h2] at hb
      obtain rfl : false = b := hb
      rw [h3] at h1
      clear h2 h3
      go_enter Tryd.func53, Tryd.ntmps53
      go_wp2_with (go_at_call 49; refine (isMark_any m true hk _).mono ?_; rintro e w1 ⟨rfl, rfl⟩)
      go_ret
      exact ⟨rfl, rfl⟩
/-- the new row of a literal -/
theorem lit_fresh (w : World) (l : List (BitVec 8)) (n : Nat) (hn : l.length = n) (hm : n ≤ 140737488355328) (cs : Array Value) (hcs : cs = bv l) : ∃ A c, (Value.slice (some ⟨w.heap.size, 0, none⟩) n n = .slice A n c) ∧ Bs (w.alloc (.cells cs 5)) A n c l ∧ Own (w.alloc (.cells cs 5)) w.heap.size (.slice A n c) n l ∧ Ext w (w.alloc (.cells cs 5)) := by
  subst hcs
  have ho := Own.new w w.heap.size n l hn (Nat.le_refl _) (by unfold maxLen; omega)
  exact ⟨_, _, rfl, ho.bs, ho, (by (repeat (first | assumption | exact Ext.refl _ | apply Ext.drew | apply Ext.drewN | apply Ext.alloc | refine Ext.trans ?_ (by assumption))); first | done | fail)⟩
theorem byte_id (n : Nat) (h : n < 256) : ub (BitVec.ofNat 8 n) = (n : Int) := by unfold ub; rw [BitVec.toNat_ofNat]; omega
theorem byte_lo (n : Nat) : (n : Int) % 256 = ub (BitVec.ofNat 8 (n % 256)) := by unfold ub; rw [BitVec.toNat_ofNat]; omega
/-- an error and no bytes -/
def ErrB (w : World) (c : Int) (e : Ending) (w' : World) : Prop := e = .returned (.tuple #[.slice none 0 0, err c]) ∧ Ext w w'
set_option maxHeartbeats 1000000 in
theorem Head_arg (m : BitVec 8) (n : Int) (h : mkB m = false ∨ n < 0) (w : World) : Calls Tryd.prog 28 #[.int .u8 (ub m), .int .i64 n] w (ErrB w 1) := by
  cases hk : mkB m with
  | false =>
    clear h
    go_enter Tryd.func28, Tryd.ntmps28
    go_wp2_with (go_at_call 49; refine (isMark_any m false hk _).mono ?_; rintro e w1 ⟨rfl, rfl⟩)
    go_ret2
    exact ⟨rfl, (by (repeat (first | assumption | exact Ext.refl _ | apply Ext.drew | apply Ext.drewN | apply Ext.alloc | refine Ext.trans ?_ (by assumption))); first | done | fail)⟩
  | true =>
    rw [hk] at h
    have h1 : n < 0 := h.resolve_left (by decide)
    clear h
    go_enter Tryd.func28, Tryd.ntmps28
    go_wp2_with (go_at_call 49; refine (isMark_any m true hk _).mono ?_; rintro e w1 ⟨rfl, rfl⟩)
    go_ret2
    exact ⟨rfl, (by (repeat (first | assumption | exact Ext.refl _ | apply Ext.drew | apply Ext.drewN | apply Ext.alloc | refine Ext.trans ?_ (by assumption))); first | done | fail)⟩
set_option maxHeartbeats 1000000 in
theorem Head_long (m : BitVec 8) (n : Int) (h : (65535 : Int) < n) (hk : mkB m = true) (w : World) : Calls Tryd.prog 28 #[.int .u8 (ub m), .int .i64 n] w (ErrB w 4) := by
  have h2 : decide (n < 0) = false := decide_eq_false (by omega)
  have h3 : (65535 : Int) < n := h
  clear h
  go_enter Tryd.func28, Tryd.ntmps28
  go_wp2_with (go_at_call 49; refine (isMark_any m true hk _).mono ?_; rintro e w1 ⟨rfl, rfl⟩)
  go_ret2
  exact ⟨rfl, (by (repeat (first | assumption | exact Ext.refl _ | apply Ext.drew | apply Ext.drewN | apply Ext.alloc | refine Ext.trans ?_ (by assumption))); first | done | fail)⟩
set_option maxHeartbeats 2000000 in
theorem Head_ok (m : BitVec 8) (n : Nat) (h : n ≤ 65535) (hk : mkB m = true) (w : World) : Calls Tryd.prog 28 #[.int .u8 (ub m), .int .i64 (n : Int)] w (FreshE w (hdn n) (hdr m n)) := by
  have h1 : decide ((n : Int) < 0) = false := decide_eq_false (by omega)
  have h2 : decide ((65535 : Int) < (n : Int)) = false := decide_eq_false (by omega)
  have h2' : ¬ (65535 : Int) < (n : Int) := by omega
  unfold hdr hdn
  by_cases h3 : n < 128
  · rw [if_pos h3, if_pos h3]
    have h4 : (n : Int) < 128 := by omega
    have L := Kp.mk (lit_fresh w [m, BitVec.ofNat 8 n] 2 rfl (by decide) #[.int .u8 (ub m), .int .u8 (n : Int)] (by rw [← byte_id n (by omega)]; rfl))
    clear h3 h
    go_enter Tryd.func28, Tryd.ntmps28
    go_wp2_with (go_at_call 49; refine (isMark_any m true hk _).mono ?_; rintro e w1 ⟨rfl, rfl⟩)
    go_ret2
    obtain ⟨A, c, e1, e2, e3, e4⟩ := L.out
    cases e1
    exact ⟨_, _, rfl, e2, e3, e4⟩
  · rw [if_neg h3, if_neg h3]
    have h4 : decide ((n : Int) < 128) = false := decide_eq_false (by omega)
    by_cases h6 : n < 256
    · rw [if_pos h6, if_pos h6]
      have h7 : (n : Int) < 256 := by omega
      have L := Kp.mk (lit_fresh w [m, 129, BitVec.ofNat 8 n] 3 rfl (by decide) #[.int .u8 (ub m), .int .u8 129, .int .u8 (n : Int)] (by rw [← byte_id n h6]; rfl))
      clear h3 h h6
      go_enter Tryd.func28, Tryd.ntmps28
      go_wp2_with (go_at_call 49; refine (isMark_any m true hk _).mono ?_; rintro e w1 ⟨rfl, rfl⟩)
      go_ret2
      obtain ⟨A, c, e1, e2, e3, e4⟩ := L.out
      cases e1
      exact ⟨_, _, rfl, e2, e3, e4⟩
    · rw [if_neg h6, if_neg h6]
      have h7 : decide ((n : Int) < 256) = false := decide_eq_false (by omega)
      have h5 := byte_lo n
      have L := Kp.mk (lit_fresh w [m, 130, BitVec.ofNat 8 (n / 256), BitVec.ofNat 8 (n % 256)] 4 rfl (by decide) #[.int .u8 (ub m), .int .u8 130, .int .u8 ((n : Int) / 256), .int .u8 (ub (BitVec.ofNat 8 (n % 256)))] (by rw [show (n : Int) / 256 = ub (BitVec.ofNat 8 (n / 256)) by rw [byte_id (n / 256) (by omega)]; omega]; rfl))
      clear h3 h h6
      go_enter Tryd.func28, Tryd.ntmps28
      go_wp2_with (go_at_call 49; refine (isMark_any m true hk _).mono ?_; rintro e w1 ⟨rfl, rfl⟩)
      go_ret2
      obtain ⟨A, c, e1, e2, e3, e4⟩ := L.out
      cases e1
      exact ⟨_, _, rfl, e2, e3, e4⟩
set_option maxHeartbeats 2000000 in
theorem refHead_ok (m : BitVec 8) (n : Nat) (h : n ≤ 65535) (w : World) : Calls Tryd.prog 32 #[.int .u8 (ub m), .int .i64 (n : Int)] w (Fresh w (hdn n) (hdr m n)) := by
  unfold hdr hdn
  by_cases h3 : n < 128
  · rw [if_pos h3, if_pos h3]
    have h4 : (n : Int) < 128 := by omega
    have L := Kp.mk (lit_fresh w [m, BitVec.ofNat 8 n] 2 rfl (by decide) #[.int .u8 (ub m), .int .u8 (n : Int)] (by rw [← byte_id n (by omega)]; rfl))
    clear h3 h
    go_enter Tryd.func32, Tryd.ntmps32
    go_wp2_with fail
    go_ret
    obtain ⟨A, c, e1, e2, e3, e4⟩ := L.out
    cases e1
    exact ⟨_, _, rfl, e2, e3, e4⟩
  · rw [if_neg h3, if_neg h3]
    have h4 : decide ((n : Int) < 128) = false := decide_eq_false (by omega)
    by_cases h6 : n < 256
    · rw [if_pos h6, if_pos h6]
      have h7 : (n : Int) < 256 := by omega
      have L := Kp.mk (lit_fresh w [m, 129, BitVec.ofNat 8 n] 3 rfl (by decide) #[.int .u8 (ub m), .int .u8 129, .int .u8 (n : Int)] (by rw [← byte_id n h6]; rfl))
      clear h3 h h6
      go_enter Tryd.func32, Tryd.ntmps32
      go_wp2_with fail
      go_ret
      obtain ⟨A, c, e1, e2, e3, e4⟩ := L.out
      cases e1
      exact ⟨_, _, rfl, e2, e3, e4⟩
    · rw [if_neg h6, if_neg h6]
      have h7 : decide ((n : Int) < 256) = false := decide_eq_false (by omega)
      have d1 : (n : Int).tdiv 256 = ((n / 256 : Nat) : Int) := by rw [Int.tdiv_eq_ediv_of_nonneg (by omega)]; omega
      have d2 : (n : Int).tmod 256 = ((n % 256 : Nat) : Int) := by rw [Int.tmod_eq_emod_of_nonneg (by omega)]; omega
      have d3 : IntKind.i64.wrap ((n / 256 : Nat) : Int) = ((n / 256 : Nat) : Int) := by rw [IntKind.wrap_i64]; omega
      have d4 : IntKind.i64.wrap ((n % 256 : Nat) : Int) = ((n % 256 : Nat) : Int) := by rw [IntKind.wrap_i64]; omega
      have hp : n / 256 < 256 := by omega
      have hq : n % 256 < 256 := by omega
      generalize n / 256 = p at *
      generalize n % 256 = q at *
      have L := Kp.mk (lit_fresh w [m, 130, BitVec.ofNat 8 p, BitVec.ofNat 8 q] 4 rfl (by decide) #[.int .u8 (ub m), .int .u8 130, .int .u8 (p : Int), .int .u8 (q : Int)] (by rw [← byte_id p hp, ← byte_id q hq]; rfl))
      clear h3 h h6
      go_enter Tryd.func32, Tryd.ntmps32
      go_wp2_with fail
      go_ret
      obtain ⟨A, c, e1, e2, e3, e4⟩ := L.out
      cases e1
      exact ⟨_, _, rfl, e2, e3, e4⟩
set_option maxHeartbeats 2000000 in
theorem refElement_ok (m : BitVec 8) {b : List (BitVec 8)} {A : Option Addr} {n c : Nat} {w : World} (hb : Bs w A n c b) (h : n ≤ 65535) : Calls Tryd.prog 18 #[.int .u8 (ub m), .slice A n c] w (Fresh w (hdn n + n) (elm m b)) := by
  have hhi := hdn_hi n
  have he : elm m b = hdr m n ++ b := by unfold elm; rw [hb.len]
  rw [he]
  have HB := Kp.mk hb
  have H := Kp.mk h
  obtain ⟨L, hL⟩ : ∃ L, hdr m n = L := ⟨_, rfl⟩
  obtain ⟨N, hN⟩ : ∃ N, hdn n = N := ⟨_, rfl⟩
  have C := Kp.mk (refHead_ok m n h w)
  rw [hL, hN] at C
  rw [hN] at hhi
  rw [hL, hN]
  have hx : N + n ≤ 140737488355328 := by omega
  clear he hb h hL hN hhi
  go_enter Tryd.func18, Tryd.ntmps18
  go_wp2_with (first | (go_at_call 32; refine C.out.mono ?_; rintro e w1 ⟨A1, c1, rfl, hs1, ho1, hx1⟩; have HO := Kp.mk ho1; have HX := Kp.mk hx1; clear hs1 ho1 hx1) | (at_builtin; refine wpList_append_bs rfl (.tmp 8) (.tmp 9) rfl w.heap.size _ N L rfl HO.out A n c b rfl (HB.out.ext HX.out) hx (N + n) rfl (L ++ b) rfl w HX.out (Nat.le_refl _) HX.out.size ?_; intro A5 c5 w5 ho5 hx5 _) | fail)
  go_ret
  exact ⟨_, _, rfl, ho5.bs, ho5, hx5⟩
/-- which of k things a number speaks of -/
def pk (x : Int) (k : Int) : Int := (if x < 0 then -(x + 1) else x) % k
end Go.Proofs.YthookcnkmlmgcaaDoor
namespace Go.Proofs.YthookcnkmlmgcaaDoor
open Go Go.RowKit
set_option maxRecDepth 4000

/-- one of the stores has come up -/
def stlB (st : Nat → Bool) (listed : Array Bool) : Bool := (List.range listed.size).any fun s => st s && listed.getD s false
theorem stlB_set {st : Nat → Bool} {listed : Array Bool} {i : Nat} (hi : st i = false) : stlB st (listed.setIfInBounds i true) = stlB st listed := by
  unfold stlB
  rw [Array.size_setIfInBounds, Bool.eq_iff_iff, List.any_eq_true, List.any_eq_true]
  constructor
  · rintro ⟨s, h1, h2⟩
    refine ⟨s, h1, ?_⟩
    rw [Bool.and_eq_true] at h2 ⊢
    have hne : i ≠ s := fun e => by rw [e, h2.1] at hi; cases hi
    rw [getD_set_ne false hne] at h2
    exact h2
  · rintro ⟨s, h1, h2⟩
    refine ⟨s, h1, ?_⟩
    rw [Bool.and_eq_true] at h2 ⊢
    have hne : i ≠ s := fun e => by rw [e, h2.1] at hi; cases hi
    rw [getD_set_ne false hne]
    exact h2
section
variable (P : Program) (md : Region.Mode) (ops : Array Oper) (Q : Exit → Act → World → Prop) (st : Nat → Bool) (R : World → Prop)
/-- whatever order is picked; R holds till a store has come up -/
def wpAnyR : Nat → Array Bool → Act → World → Prop
  | 0, listed, a, w => Region.ready md ops listed = [] ∧ Q .normal a w
  | fuel + 1, listed, a, w =>
    (Region.ready md ops listed = [] → Q .normal a w) ∧
    ∀ i ∈ Region.ready md ops listed, wpOp P ops Q i (fun a' w' => (stlB st (listed.setIfInBounds i true) = true ∨ R w') ∧ wpAnyR fuel (listed.setIfInBounds i true) a' w') a w
end
section
variable {P : Program} {md : Region.Mode} {ops : Array Oper} {Q : Exit → Act → World → Prop} {st : Nat → Bool} {R : World → Prop}
theorem wpAny_of_R : ∀ (fuel : Nat) (listed : Array Bool) (a : Act) (w : World), wpAnyR P md ops Q st R fuel listed a w → wpAny P md ops Q fuel listed a w
  | 0, _, _, _, h => h
  | fuel + 1, _, _, _, h => ⟨h.1, fun i hi => wpOp_mono (fun a' w' h' => wpAny_of_R fuel _ a' w' h'.2) (h.2 i hi)⟩
theorem wpAnyR_first {i : Nat} {oi : Oper} {v : Value} (hi : ops[i]? = some oi) (hsel : ∀ (j : Nat) (o : Oper) cs b, ops[j]? = some o → o.op ≠ .select cs b)
    (hQ : ∀ c a w, Q (.panic c) (a.put oi.dst v) w → Q (.panic c) a w) (hst : st i = false)
    (hdep : ∀ (s : Nat) (os : Oper), st s = true → ops[s]? = some os → ∃ e ∈ os.after, Region.binds md e = true ∧ e.on = i) :
    ∀ (fuel : Nat) (listed : Array Bool) (a : Act) (w : World),
      (∀ j oj, ops[j]? = some oj → j ≠ i → listed.getD j true = false → (∀ e ∈ oj.after, Region.binds md e = true → e.on ≠ i) → oi.apart ops oj = true) →
      i ∈ Region.ready md ops listed → YieldsIf P ops R oi v a → R w → stlB st listed = false →
      wpAnyR P md ops Q st R fuel (listed.setIfInBounds i true) (a.put oi.dst v) w → wpAnyR P md ops Q st R (fuel + 1) listed a w := by
  intro fuel
  induction fuel with
  | zero =>
    intro listed a w _ hr hy hS _ H
    refine ⟨fun h => (by rw [h] at hr; cases hr), fun j hj => ?_⟩
    by_cases hji : j = i
    · subst hji; exact hy.wpOp hi hS ⟨.inr hS, H⟩
    · have := ready_mono hj hji
      rw [H.1] at this
      cases this
  | succ fuel ih =>
    intro listed a w hfree hr hy hS hl H
    refine ⟨fun h => (by rw [h] at hr; cases hr), fun j hj => ?_⟩
    by_cases hji : j = i
    · subst hji; exact hy.wpOp hi hS ⟨.inr hS, H⟩
    · have h1 := H.2 j (ready_mono hj hji)
      obtain ⟨hjun, oj, hoj, hall⟩ := mem_ready.1 hj
      have hnot : ∀ e ∈ oj.after, Region.binds md e = true → e.on ≠ i := fun e he hb heq => by
        have h1 := hall e he hb
        have h0 := (mem_ready.1 hr).1
        rw [heq] at h1
        rcases Nat.lt_or_ge i listed.size with h' | h'
        · simp [h'] at h0 h1; rw [h0] at h1; cases h1
        · simp [Array.getElem?_eq_none h'] at h1
      have hsj : st j = false := by
        cases hq : st j with
        | false => rfl
        | true =>
          obtain ⟨e, he, hb, heq⟩ := hdep j oj hq hoj
          exact absurd heq (hnot e he hb)
      have h2 := wpOp_putIf hoj (hfree j oj hoj hji hjun hnot) (fun cs b => hsel i oi cs b hi) (fun cs b => hsel j oj cs b hoj) hQ hy h1
      have hfree' : ∀ k ok, ops[k]? = some ok → k ≠ i → (listed.setIfInBounds j true).getD k true = false →
          (∀ e ∈ ok.after, Region.binds md e = true → e.on ≠ i) → oi.apart ops ok = true := fun k ok hk hki hun hno => by
        refine hfree k ok hk hki ?_ hno
        by_cases hjk : j = k
        · subst hjk; exact hjun
        · rw [getD_set_ne true hjk] at hun; exact hun
      refine wpOp_mono (fun a' w' h3 => ?_) h2
      obtain ⟨h4, h5, h6⟩ := h3
      rw [stlB_set hsj, stlB_set hst, hl] at h5
      have hR : R w' := h5.resolve_left (by simp)
      refine ⟨.inr hR, ih (listed.setIfInBounds j true) a' w' hfree' (ready_mono hr (Ne.symm hji)) h4 hR (by rw [stlB_set hsj]; exact hl) ?_⟩
      rw [Array.setIfInBounds_comm _ _ hji]
      exact h6
theorem wpAnyR_first0 {i : Nat} {oi : Oper} {v : Value} (hi : ops[i]? = some oi) (hsel : ∀ (j : Nat) (o : Oper) cs b, ops[j]? = some o → o.op ≠ .select cs b)
    (hQ : ∀ c a w, Q (.panic c) (a.put oi.dst v) w → Q (.panic c) a w) (hst : st i = false) :
    ∀ (fuel : Nat) (listed : Array Bool) (a : Act) (w : World),
      (∀ j oj, ops[j]? = some oj → j ≠ i → listed.getD j true = false → (∀ e ∈ oj.after, Region.binds md e = true → e.on ≠ i) → oi.apart ops oj = true) →
      i ∈ Region.ready md ops listed → YieldsIf P ops (fun _ => True) oi v a → (stlB st listed = true ∨ R w) →
      wpAnyR P md ops Q st R fuel (listed.setIfInBounds i true) (a.put oi.dst v) w → wpAnyR P md ops Q st R (fuel + 1) listed a w := by
  intro fuel
  induction fuel with
  | zero =>
    intro listed a w _ hr hy hS H
    refine ⟨fun h => (by rw [h] at hr; cases hr), fun j hj => ?_⟩
    by_cases hji : j = i
    · subst hji; exact hy.wpOp hi trivial ⟨by rw [stlB_set hst]; exact hS, H⟩
    · have := ready_mono hj hji
      rw [H.1] at this
      cases this
  | succ fuel ih =>
    intro listed a w hfree hr hy hS H
    refine ⟨fun h => (by rw [h] at hr; cases hr), fun j hj => ?_⟩
    by_cases hji : j = i
    · subst hji; exact hy.wpOp hi trivial ⟨by rw [stlB_set hst]; exact hS, H⟩
    · have h1 := H.2 j (ready_mono hj hji)
      obtain ⟨hjun, oj, hoj, hall⟩ := mem_ready.1 hj
      have hnot : ∀ e ∈ oj.after, Region.binds md e = true → e.on ≠ i := fun e he hb heq => by
        have h1 := hall e he hb
        have h0 := (mem_ready.1 hr).1
        rw [heq] at h1
        rcases Nat.lt_or_ge i listed.size with h' | h'
        · simp [h'] at h0 h1; rw [h0] at h1; cases h1
        · simp [Array.getElem?_eq_none h'] at h1
      have h2 := wpOp_putIf hoj (hfree j oj hoj hji hjun hnot) (fun cs b => hsel i oi cs b hi) (fun cs b => hsel j oj cs b hoj) hQ hy h1
      have hfree' : ∀ k ok, ops[k]? = some ok → k ≠ i → (listed.setIfInBounds j true).getD k true = false →
          (∀ e ∈ ok.after, Region.binds md e = true → e.on ≠ i) → oi.apart ops ok = true := fun k ok hk hki hun hno => by
        refine hfree k ok hk hki ?_ hno
        by_cases hjk : j = k
        · subst hjk; exact hjun
        · rw [getD_set_ne true hjk] at hun; exact hun
      refine wpOp_mono (fun a' w' h3 => ?_) h2
      obtain ⟨h4, h5, h6⟩ := h3
      rw [Array.setIfInBounds_comm _ _ (fun e => hji e.symm), stlB_set hst] at h5
      refine ⟨h5, ih (listed.setIfInBounds j true) a' w' hfree' (ready_mono hr (Ne.symm hji)) h4 h5 ?_⟩
      rw [Array.setIfInBounds_comm _ _ hji]
      exact h6
/-- each store waits for this operation -/
def depB (md : Region.Mode) (ops : Array Oper) (st : Nat → Bool) (i : Nat) : Bool :=
  (List.range ops.size).all fun s => !st s || (match ops[s]? with | some os => os.after.toList.any fun e => Region.binds md e && e.on == i | none => true)
theorem depB_spec {i : Nat} (h : depB md ops st i = true) : ∀ (s : Nat) (os : Oper), st s = true → ops[s]? = some os → ∃ e ∈ os.after, Region.binds md e = true ∧ e.on = i := fun s os hs ho => by
  unfold depB at h
  rw [List.all_eq_true] at h
  have h1 := h s (by simp; exact (Array.getElem?_eq_some_iff.1 ho).1)
  rw [hs, ho] at h1
  simp only [Bool.not_true, Bool.false_or, List.any_eq_true, Bool.and_eq_true, beq_iff_eq] at h1
  obtain ⟨e, he, h2, h3⟩ := h1
  exact ⟨e, by simpa using he, h2, h3⟩
theorem wpAnyR_take {i : Nat} {oi : Oper} {v : Value} {fuel : Nat} {listed : Array Bool} {a : Act} {w : World} (hi : ops[i]? = some oi)
    (hs : Region.noSelect ops = true) (hf : Region.free md ops listed i = true) (hr : (Region.ready md ops listed).contains i = true) (hst : st i = false) (hd : depB md ops st i = true) (hl : stlB st listed = false)
    (hQ : ∀ c a w, Q (.panic c) (a.put oi.dst v) w → Q (.panic c) a w) (hy : YieldsIf P ops R oi v a) (hR : R w)
    (h : wpAnyR P md ops Q st R fuel (listed.setIfInBounds i true) (a.put oi.dst v) w) : wpAnyR P md ops Q st R (fuel + 1) listed a w :=
  wpAnyR_first hi (Region.noSelect_spec hs) hQ hst (depB_spec hd) fuel listed a w (Region.free_spec hi hf) (by simpa using hr) hy hR hl h
/-- .. an operation that tells the same in whatever world -/
theorem wpAnyR_take0 {i : Nat} {oi : Oper} {v : Value} {fuel : Nat} {listed : Array Bool} {a : Act} {w : World} (hi : ops[i]? = some oi)
    (hs : Region.noSelect ops = true) (hf : Region.free md ops listed i = true) (hr : (Region.ready md ops listed).contains i = true) (hst : st i = false)
    (hQ : ∀ c a w, Q (.panic c) (a.put oi.dst v) w → Q (.panic c) a w) (hy : YieldsIf P ops (fun _ => True) oi v a) (hR : stlB st listed = true ∨ R w)
    (h : wpAnyR P md ops Q st R fuel (listed.setIfInBounds i true) (a.put oi.dst v) w) : wpAnyR P md ops Q st R (fuel + 1) listed a w :=
  wpAnyR_first0 hi (Region.noSelect_spec hs) hQ hst fuel listed a w (Region.free_spec hi hf) (by simpa using hr) hy hR h
theorem wpAnyR_done {listed : Array Bool} {a : Act} {w : World} (hr : Region.ready md ops listed = []) (h : Q .normal a w) : ∀ fuel, wpAnyR P md ops Q st R fuel listed a w
  | 0 => ⟨hr, h⟩
  | _ + 1 => ⟨fun _ => h, by rw [hr]; simp⟩
theorem wp_region_R {id : Nat} {a : Act} {w : World} (hm : P.follows .mixedOrders = true) (hR : R w.drew)
    (h : R w.drew → wpAnyR P .any ops Q st R ops.size (Array.replicate ops.size false) a w.drew) : (Code.region id ops true).wp P Q a w :=
  wp_region_any hm (wpAny_of_R _ _ _ _ (h hR))
theorem nextR {fuel : Nat} {listed : Array Bool} {a : Act} {w : World} (i : Nat) {o : Oper} (hr : Region.ready md ops listed = [i]) (hi : ops[i]? = some o) (hw : Region.wanted o (yielded ops a.tmps) = true)
    (h : ∀ K' : Act → World → Prop, Hid (∀ a w, (stlB st (listed.setIfInBounds i true) = true ∨ R w) → wpAnyR P md ops Q st R fuel (listed.setIfInBounds i true) a w → K' a w) → o.wp P a w K' Q) : wpAnyR P md ops Q st R (fuel + 1) listed a w := by
  refine ⟨fun h0 => (by rw [hr] at h0; cases h0), fun j hj => ?_⟩
  rw [hr] at hj
  obtain rfl := List.mem_singleton.1 hj
  unfold wpOp
  simp only [hi, hw, if_true]
  exact .inl (h _ fun a w hs hk => ⟨hs, hk⟩)
theorem nextR2 {fuel : Nat} {listed : Array Bool} {a : Act} {w : World} (i k : Nat) {oi ok : Oper} (hr : Region.ready md ops listed = [i, k]) (hi : ops[i]? = some oi) (hk : ops[k]? = some ok) (hwi : Region.wanted oi (yielded ops a.tmps) = true) (hwk : Region.wanted ok (yielded ops a.tmps) = true)
    (h1 : ∀ K' : Act → World → Prop, Hid (∀ a w, (stlB st (listed.setIfInBounds i true) = true ∨ R w) → wpAnyR P md ops Q st R fuel (listed.setIfInBounds i true) a w → K' a w) → oi.wp P a w K' Q)
    (h2 : ∀ K' : Act → World → Prop, Hid (∀ a w, (stlB st (listed.setIfInBounds k true) = true ∨ R w) → wpAnyR P md ops Q st R fuel (listed.setIfInBounds k true) a w → K' a w) → ok.wp P a w K' Q) : wpAnyR P md ops Q st R (fuel + 1) listed a w := by
  refine ⟨fun h0 => (by rw [hr] at h0; cases h0), fun j hj => ?_⟩
  rw [hr] at hj
  simp only [List.mem_cons, List.not_mem_nil, or_false] at hj
  rcases hj with rfl | rfl
  · unfold wpOp
    simp only [hi, hwi, if_true]
    exact .inl (h1 _ fun a w hs hk => ⟨hs, hk⟩)
  · unfold wpOp
    simp only [hk, hwk, if_true]
    exact .inl (h2 _ fun a w hs hk => ⟨hs, hk⟩)
end
end Go.Proofs.YthookcnkmlmgcaaDoor
namespace Go.Proofs.YthookcnkmlmgcaaDoor
open Go
set_option maxRecDepth 4000

/-- the substitutes, as package aes lays them; whose substitute a byte is -/
def SB : List (BitVec 8) := [
  0x63, 0x7c, 0x77, 0x7b, 0xf2, 0x6b, 0x6f, 0xc5, 0x30, 0x01, 0x67, 0x2b, 0xfe, 0xd7, 0xab, 0x76,
  0xca, 0x82, 0xc9, 0x7d, 0xfa, 0x59, 0x47, 0xf0, 0xad, 0xd4, 0xa2, 0xaf, 0x9c, 0xa4, 0x72, 0xc0,
  0xb7, 0xfd, 0x93, 0x26, 0x36, 0x3f, 0xf7, 0xcc, 0x34, 0xa5, 0xe5, 0xf1, 0x71, 0xd8, 0x31, 0x15,
  0x04, 0xc7, 0x23, 0xc3, 0x18, 0x96, 0x05, 0x9a, 0x07, 0x12, 0x80, 0xe2, 0xeb, 0x27, 0xb2, 0x75,
  0x09, 0x83, 0x2c, 0x1a, 0x1b, 0x6e, 0x5a, 0xa0, 0x52, 0x3b, 0xd6, 0xb3, 0x29, 0xe3, 0x2f, 0x84,
  0x53, 0xd1, 0x00, 0xed, 0x20, 0xfc, 0xb1, 0x5b, 0x6a, 0xcb, 0xbe, 0x39, 0x4a, 0x4c, 0x58, 0xcf,
  0xd0, 0xef, 0xaa, 0xfb, 0x43, 0x4d, 0x33, 0x85, 0x45, 0xf9, 0x02, 0x7f, 0x50, 0x3c, 0x9f, 0xa8,
  0x51, 0xa3, 0x40, 0x8f, 0x92, 0x9d, 0x38, 0xf5, 0xbc, 0xb6, 0xda, 0x21, 0x10, 0xff, 0xf3, 0xd2,
  0xcd, 0x0c, 0x13, 0xec, 0x5f, 0x97, 0x44, 0x17, 0xc4, 0xa7, 0x7e, 0x3d, 0x64, 0x5d, 0x19, 0x73,
  0x60, 0x81, 0x4f, 0xdc, 0x22, 0x2a, 0x90, 0x88, 0x46, 0xee, 0xb8, 0x14, 0xde, 0x5e, 0x0b, 0xdb,
  0xe0, 0x32, 0x3a, 0x0a, 0x49, 0x06, 0x24, 0x5c, 0xc2, 0xd3, 0xac, 0x62, 0x91, 0x95, 0xe4, 0x79,
  0xe7, 0xc8, 0x37, 0x6d, 0x8d, 0xd5, 0x4e, 0xa9, 0x6c, 0x56, 0xf4, 0xea, 0x65, 0x7a, 0xae, 0x08,
  0xba, 0x78, 0x25, 0x2e, 0x1c, 0xa6, 0xb4, 0xc6, 0xe8, 0xdd, 0x74, 0x1f, 0x4b, 0xbd, 0x8b, 0x8a,
  0x70, 0x3e, 0xb5, 0x66, 0x48, 0x03, 0xf6, 0x0e, 0x61, 0x35, 0x57, 0xb9, 0x86, 0xc1, 0x1d, 0x9e,
  0xe1, 0xf8, 0x98, 0x11, 0x69, 0xd9, 0x8e, 0x94, 0x9b, 0x1e, 0x87, 0xe9, 0xce, 0x55, 0x28, 0xdf,
  0x8c, 0xa1, 0x89, 0x0d, 0xbf, 0xe6, 0x42, 0x68, 0x41, 0x99, 0x2d, 0x0f, 0xb0, 0x54, 0xbb, 0x16]
def IB : List (BitVec 8) := [
  0x52, 0x09, 0x6a, 0xd5, 0x30, 0x36, 0xa5, 0x38, 0xbf, 0x40, 0xa3, 0x9e, 0x81, 0xf3, 0xd7, 0xfb,
  0x7c, 0xe3, 0x39, 0x82, 0x9b, 0x2f, 0xff, 0x87, 0x34, 0x8e, 0x43, 0x44, 0xc4, 0xde, 0xe9, 0xcb,
  0x54, 0x7b, 0x94, 0x32, 0xa6, 0xc2, 0x23, 0x3d, 0xee, 0x4c, 0x95, 0x0b, 0x42, 0xfa, 0xc3, 0x4e,
  0x08, 0x2e, 0xa1, 0x66, 0x28, 0xd9, 0x24, 0xb2, 0x76, 0x5b, 0xa2, 0x49, 0x6d, 0x8b, 0xd1, 0x25,
  0x72, 0xf8, 0xf6, 0x64, 0x86, 0x68, 0x98, 0x16, 0xd4, 0xa4, 0x5c, 0xcc, 0x5d, 0x65, 0xb6, 0x92,
  0x6c, 0x70, 0x48, 0x50, 0xfd, 0xed, 0xb9, 0xda, 0x5e, 0x15, 0x46, 0x57, 0xa7, 0x8d, 0x9d, 0x84,
  0x90, 0xd8, 0xab, 0x00, 0x8c, 0xbc, 0xd3, 0x0a, 0xf7, 0xe4, 0x58, 0x05, 0xb8, 0xb3, 0x45, 0x06,
  0xd0, 0x2c, 0x1e, 0x8f, 0xca, 0x3f, 0x0f, 0x02, 0xc1, 0xaf, 0xbd, 0x03, 0x01, 0x13, 0x8a, 0x6b,
  0x3a, 0x91, 0x11, 0x41, 0x4f, 0x67, 0xdc, 0xea, 0x97, 0xf2, 0xcf, 0xce, 0xf0, 0xb4, 0xe6, 0x73,
  0x96, 0xac, 0x74, 0x22, 0xe7, 0xad, 0x35, 0x85, 0xe2, 0xf9, 0x37, 0xe8, 0x1c, 0x75, 0xdf, 0x6e,
  0x47, 0xf1, 0x1a, 0x71, 0x1d, 0x29, 0xc5, 0x89, 0x6f, 0xb7, 0x62, 0x0e, 0xaa, 0x18, 0xbe, 0x1b,
  0xfc, 0x56, 0x3e, 0x4b, 0xc6, 0xd2, 0x79, 0x20, 0x9a, 0xdb, 0xc0, 0xfe, 0x78, 0xcd, 0x5a, 0xf4,
  0x1f, 0xdd, 0xa8, 0x33, 0x88, 0x07, 0xc7, 0x31, 0xb1, 0x12, 0x10, 0x59, 0x27, 0x80, 0xec, 0x5f,
  0x60, 0x51, 0x7f, 0xa9, 0x19, 0xb5, 0x4a, 0x0d, 0x2d, 0xe5, 0x7a, 0x9f, 0x93, 0xc9, 0x9c, 0xef,
  0xa0, 0xe0, 0x3b, 0x4d, 0xae, 0x2a, 0xf5, 0xb0, 0xc8, 0xeb, 0xbb, 0x3c, 0x83, 0x53, 0x99, 0x61,
  0x17, 0x2b, 0x04, 0x7e, 0xba, 0x77, 0xd6, 0x26, 0xe1, 0x69, 0x14, 0x63, 0x55, 0x21, 0x0c, 0x7d]
set_option maxRecDepth 100000 in
theorem SB_len : SB.length = 256 := rfl
set_option maxRecDepth 100000 in
theorem IB_len : IB.length = 256 := rfl
def sb (x : BitVec 8) : BitVec 8 := gb SB x.toNat
def ib (x : BitVec 8) : BitVec 8 := gb IB x.toNat
set_option maxRecDepth 100000 in
theorem ib_sb (x : BitVec 8) : ib (sb x) = x := all8 (p := fun x => ib (sb x) = x) (by decide +kernel) x
set_option maxRecDepth 100000 in
theorem sb_ib (x : BitVec 8) : sb (ib x) = x := all8 (p := fun x => sb (ib x) = x) (by decide +kernel) x
theorem sb_inj {x y : BitVec 8} (h : sb x = sb y) : x = y := by rw [← ib_sb x, h, ib_sb]
/-- whose substitute each byte is, as it is reckoned -/
def orig : Nat → List (BitVec 8)
  | 0 => zb 256
  | k + 1 => (orig k).set (gb SB k).toNat (BitVec.ofNat 8 k)
theorem orig_len (k : Nat) : (orig k).length = 256 := by
  induction k with
  | zero => exact zb_len 256
  | succ k ih => simp [orig, ih]
set_option maxRecDepth 100000 in
theorem orig_end : orig 256 = IB := by decide +kernel

/-- a byte, as a polynomial, times x -/
def tw (x : BitVec 8) : BitVec 8 := x <<< 1 ^^^ (if x.getLsbD 7 then 0x1b else 0)
theorem tw_xor (x y : BitVec 8) : tw (x ^^^ y) = tw x ^^^ tw y := by
  have e : ∀ a b c d : BitVec 8, (a ^^^ b) ^^^ (c ^^^ d) = (a ^^^ c) ^^^ (b ^^^ d) := fun a b c d => by ac_rfl
  unfold tw
  rw [BitVec.shiftLeft_xor_distrib, BitVec.getLsbD_xor, e]
  congr 1
  cases x.getLsbD 7 <;> cases y.getLsbD 7 <;> rfl

/-- blocks -/
def xorL (a b : List (BitVec 8)) : List (BitVec 8) := li 16 fun i => gb a i ^^^ gb b i
def subL (b : List (BitVec 8)) : List (BitVec 8) := li 16 fun i => sb (gb b i)
def ibL (b : List (BitVec 8)) : List (BitVec 8) := li 16 fun i => ib (gb b i)
def shL (t : Nat) (b : List (BitVec 8)) : List (BitVec 8) := li 16 fun i => gb b ((i + 4 * (t * (i % 4))) % 16)
def mc (a b c d : BitVec 8) : BitVec 8 := tw (a ^^^ b) ^^^ b ^^^ c ^^^ d
def mulF (b : List (BitVec 8)) (i : Nat) : BitVec 8 := mc (gb b i) (gb b (i / 4 * 4 + (i + 1) % 4)) (gb b (i / 4 * 4 + (i + 2) % 4)) (gb b (i / 4 * 4 + (i + 3) % 4))
def mulL (b : List (BitVec 8)) : List (BitVec 8) := li 16 (mulF b)
theorem xorL_len (a b : List (BitVec 8)) : (xorL a b).length = 16 := li_len _ _
theorem subL_len (b : List (BitVec 8)) : (subL b).length = 16 := li_len _ _
theorem ibL_len (b : List (BitVec 8)) : (ibL b).length = 16 := li_len _ _
theorem shL_len (t : Nat) (b : List (BitVec 8)) : (shL t b).length = 16 := li_len _ _
theorem mulL_len (b : List (BitVec 8)) : (mulL b).length = 16 := li_len _ _
theorem xor_back (b k : List (BitVec 8)) (h : b.length = 16) : xorL (xorL b k) k = b := by
  refine Eq.trans (li_congr fun j hj => ?_) (li_self b 16 h)
  unfold xorL
  rw [li_gb _ _ _ hj, BitVec.xor_assoc, BitVec.xor_self, BitVec.xor_zero]
theorem ib_sub (b : List (BitVec 8)) (h : b.length = 16) : ibL (subL b) = b := by
  refine Eq.trans (li_congr fun j hj => ?_) (li_self b 16 h)
  unfold subL
  rw [li_gb _ _ _ hj, ib_sb]
theorem sub_ib (b : List (BitVec 8)) (h : b.length = 16) : subL (ibL b) = b := by
  refine Eq.trans (li_congr fun j hj => ?_) (li_self b 16 h)
  unfold ibL
  rw [li_gb _ _ _ hj, sb_ib]
theorem sh_sh (s t : Nat) (b : List (BitVec 8)) (h : b.length = 16) (hst : s + t = 4) : shL s (shL t b) = b := by
  refine Eq.trans (li_congr fun j hj => ?_) (li_self b 16 h)
  unfold shL
  rw [li_gb _ _ _ (Nat.mod_lt _ (by decide))]
  congr 1
  obtain rfl : t = 4 - s := by omega
  have hs : s ≤ 4 := by omega
  have : ∀ s : Nat, s < 5 → ∀ j : Nat, j < 16 → ((j + 4 * (s * (j % 4))) % 16 + 4 * ((4 - s) * ((j + 4 * (s * (j % 4))) % 16 % 4))) % 16 = j := by decide
  exact this s (by omega) j hj
theorem xor_lc (x y z : BitVec 8) : x ^^^ (y ^^^ z) = y ^^^ (x ^^^ z) := by ac_rfl
theorem xor_cancel (x y : BitVec 8) : x ^^^ (x ^^^ y) = y := by rw [← BitVec.xor_assoc, BitVec.xor_self, BitVec.zero_xor]
def m2 (a c : BitVec 8) : BitVec 8 := tw (tw a) ^^^ (tw (tw c) ^^^ a)
theorem mc2 (a b c d : BitVec 8) : mc (mc a b c d) (mc b c d a) (mc c d a b) (mc d a b c) = m2 a c := by
  simp only [mc, m2, tw_xor]
  simp only [BitVec.xor_assoc, BitVec.xor_comm, xor_lc, xor_cancel]
theorem m2_m2 (a c : BitVec 8) : m2 (m2 a c) (m2 c a) = a := by
  simp only [m2, tw_xor]
  simp only [BitVec.xor_assoc, BitVec.xor_comm, xor_lc, BitVec.xor_self, BitVec.xor_zero, BitVec.zero_xor, xor_cancel]
theorem mul_gb (b : List (BitVec 8)) (i : Nat) (h : i < 16) : gb (mulL b) i = mulF b i := li_gb _ _ _ h
theorem mul2 (b : List (BitVec 8)) : mulL (mulL b) = li 16 fun i => m2 (gb b i) (gb b (i / 4 * 4 + (i + 2) % 4)) := by
  refine li_congr fun i hi => ?_
  unfold mulF
  rw [mul_gb b i hi, mul_gb b _ (by omega), mul_gb b _ (by omega), mul_gb b _ (by omega)]
  unfold mulF
  rw [show (i / 4 * 4 + (i + 1) % 4) / 4 * 4 = i / 4 * 4 by omega, show (i / 4 * 4 + (i + 2) % 4) / 4 * 4 = i / 4 * 4 by omega, show (i / 4 * 4 + (i + 3) % 4) / 4 * 4 = i / 4 * 4 by omega,
    show (i / 4 * 4 + (i + 1) % 4 + 1) % 4 = (i + 2) % 4 by omega, show (i / 4 * 4 + (i + 1) % 4 + 2) % 4 = (i + 3) % 4 by omega, show i / 4 * 4 + (i / 4 * 4 + (i + 1) % 4 + 3) % 4 = i by omega,
    show (i / 4 * 4 + (i + 2) % 4 + 1) % 4 = (i + 3) % 4 by omega, show i / 4 * 4 + (i / 4 * 4 + (i + 2) % 4 + 2) % 4 = i by omega, show (i / 4 * 4 + (i + 2) % 4 + 3) % 4 = (i + 1) % 4 by omega,
    show i / 4 * 4 + (i / 4 * 4 + (i + 3) % 4 + 1) % 4 = i by omega, show (i / 4 * 4 + (i + 3) % 4 + 2) % 4 = (i + 1) % 4 by omega, show (i / 4 * 4 + (i + 3) % 4 + 3) % 4 = (i + 2) % 4 by omega]
  exact mc2 _ _ _ _
theorem mul4 (b : List (BitVec 8)) (h : b.length = 16) : mulL (mulL (mulL (mulL b))) = b := by
  rw [mul2 (mulL (mulL b)), mul2 b]
  refine Eq.trans (li_congr fun i hi => ?_) (li_self b 16 h)
  rw [li_gb _ _ _ hi, li_gb _ _ _ (by omega), show (i / 4 * 4 + (i + 2) % 4) / 4 * 4 = i / 4 * 4 by omega, show i / 4 * 4 + (i / 4 * 4 + (i + 2) % 4 + 2) % 4 = i by omega]
  exact m2_m2 _ _

/-- a step of encrypting, and back; k: the round's key, m: whether it multiplies -/
def mf (m : Bool) (b : List (BitVec 8)) : List (BitVec 8) := if m then mulL b else b
def step (k : List (BitVec 8)) (m : Bool) (b : List (BitVec 8)) : List (BitVec 8) := xorL (mf m (shL 1 (subL b))) k
def unmf (m : Bool) (b : List (BitVec 8)) : List (BitVec 8) := if m then mulL (mulL (mulL b)) else b
def unstep (k : List (BitVec 8)) (m : Bool) (b : List (BitVec 8)) : List (BitVec 8) := ibL (shL 3 (unmf m (xorL b k)))
theorem mf_len (m : Bool) (b : List (BitVec 8)) (h : b.length = 16) : (mf m b).length = 16 := by
  cases m
  · exact h
  · exact mulL_len b
theorem unmf_len (m : Bool) (b : List (BitVec 8)) (h : b.length = 16) : (unmf m b).length = 16 := by
  cases m
  · exact h
  · exact mulL_len _
theorem unmf_mf (m : Bool) (b : List (BitVec 8)) (h : b.length = 16) : unmf m (mf m b) = b := by
  cases m
  · rfl
  · exact mul4 b h
theorem mf_unmf (m : Bool) (b : List (BitVec 8)) (h : b.length = 16) : mf m (unmf m b) = b := by
  cases m
  · rfl
  · exact mul4 b h
theorem step_len (k : List (BitVec 8)) (m : Bool) (b : List (BitVec 8)) : (step k m b).length = 16 := xorL_len _ _
theorem unstep_len (k : List (BitVec 8)) (m : Bool) (b : List (BitVec 8)) : (unstep k m b).length = 16 := ibL_len _
theorem unstep_step (k : List (BitVec 8)) (m : Bool) (b : List (BitVec 8)) (h : b.length = 16) : unstep k m (step k m b) = b := by
  unfold unstep step
  rw [xor_back _ _ (mf_len _ _ (shL_len _ _)), unmf_mf _ _ (shL_len _ _), sh_sh 3 1 _ (subL_len _) rfl, ib_sub _ h]
theorem step_unstep (k : List (BitVec 8)) (m : Bool) (b : List (BitVec 8)) (h : b.length = 16) : step k m (unstep k m b) = b := by
  unfold unstep step
  rw [sub_ib _ (shL_len _ _), sh_sh 1 3 _ (unmf_len _ _ (xorL_len _ _)) rfl, mf_unmf _ _ (xorL_len _ _), xor_back _ _ h]
/-- encrypting by the rounds' keys, so many steps; and back -/
def enc (K : Nat → List (BitVec 8)) (b : List (BitVec 8)) : Nat → List (BitVec 8)
  | 0 => xorL b (K 0)
  | i + 1 => step (K (i + 1)) (decide (i + 1 < 10)) (enc K b i)
def dec (K : Nat → List (BitVec 8)) (b : List (BitVec 8)) : Nat → List (BitVec 8)
  | 0 => b
  | t + 1 => unstep (K (10 - t)) (decide (10 - t < 10)) (dec K b t)
def encL (K : Nat → List (BitVec 8)) (b : List (BitVec 8)) : List (BitVec 8) := enc K b 10
def decL (K : Nat → List (BitVec 8)) (b : List (BitVec 8)) : List (BitVec 8) := xorL (dec K b 10) (K 0)
theorem enc_len (K : Nat → List (BitVec 8)) (b : List (BitVec 8)) (i : Nat) : (enc K b i).length = 16 := by
  cases i with
  | zero => exact xorL_len _ _
  | succ i => exact step_len _ _ _
theorem dec_len (K : Nat → List (BitVec 8)) (b : List (BitVec 8)) (h : b.length = 16) (i : Nat) : (dec K b i).length = 16 := by
  cases i with
  | zero => exact h
  | succ i => exact unstep_len _ _ _
theorem encL_len (K : Nat → List (BitVec 8)) (b : List (BitVec 8)) : (encL K b).length = 16 := enc_len K b 10
theorem decL_len (K : Nat → List (BitVec 8)) (b : List (BitVec 8)) : (decL K b).length = 16 := xorL_len _ _
theorem dec_enc (K : Nat → List (BitVec 8)) (b : List (BitVec 8)) (h : b.length = 16) : decL K (encL K b) = b := by
  have e : ∀ t, t ≤ 10 → dec K (encL K b) t = enc K b (10 - t) := by
    intro t
    induction t with
    | zero => intro _; rfl
    | succ t ih =>
      intro ht
      obtain ⟨i, hi⟩ : ∃ i, 10 - t = i + 1 := ⟨9 - t, by omega⟩
      rw [dec, ih (by omega), hi, enc, unstep_step _ _ _ (enc_len _ _ _), show 10 - (t + 1) = i by omega]
  unfold decL
  rw [e 10 (by omega)]
  exact xor_back _ _ h
theorem enc_dec (K : Nat → List (BitVec 8)) (b : List (BitVec 8)) (h : b.length = 16) : encL K (decL K b) = b := by
  have e : ∀ i, i ≤ 10 → enc K (decL K b) i = dec K b (10 - i) := by
    intro i
    induction i with
    | zero => intro _; exact xor_back _ _ (dec_len _ _ h _)
    | succ i ih =>
      intro hi
      obtain ⟨t, ht⟩ : ∃ t, 10 - i = t + 1 := ⟨9 - i, by omega⟩
      rw [enc, ih (by omega), ht, dec, show 10 - t = i + 1 by omega, step_unstep _ _ _ (dec_len _ _ h _), show 10 - (i + 1) = t by omega]
  exact e 10 (by omega)
theorem encL_inj (K : Nat → List (BitVec 8)) {a b : List (BitVec 8)} (ha : a.length = 16) (hb : b.length = 16) (h : encL K a = encL K b) : a = b := by
  rw [← dec_enc K a ha, h, dec_enc K b hb]

/-- the keys of rounds -/
def nkF (l : List (BitVec 8)) (r : BitVec 8) : Nat → BitVec 8
  | 0 => gb l 0 ^^^ (sb (gb l 13) ^^^ r)
  | 1 => gb l 1 ^^^ sb (gb l 14)
  | 2 => gb l 2 ^^^ sb (gb l 15)
  | 3 => gb l 3 ^^^ sb (gb l 12)
  | j + 4 => gb l (j + 4) ^^^ nkF l r j
theorem nkF_step (l : List (BitVec 8)) (r : BitVec 8) (i : Nat) (h : 4 ≤ i) : nkF l r i = gb l i ^^^ nkF l r (i - 4) := by
  obtain ⟨j, rfl⟩ : ∃ j, i = j + 4 := ⟨i - 4, by omega⟩
  rw [Nat.add_sub_cancel]
  rfl
def nk (l : List (BitVec 8)) (r : BitVec 8) : List (BitVec 8) := li 16 (nkF l r)
def num : Nat → BitVec 8
  | 0 => 1
  | i + 1 => tw (num i)
def ks (key : List (BitVec 8)) : Nat → List (BitVec 8)
  | 0 => key
  | i + 1 => nk (ks key i) (num i)
theorem nk_len (l : List (BitVec 8)) (r : BitVec 8) : (nk l r).length = 16 := li_len _ _
theorem ks_len (key : List (BitVec 8)) (h : key.length = 16) (i : Nat) : (ks key i).length = 16 := by
  cases i with
  | zero => exact h
  | succ i => exact nk_len _ _
end Go.Proofs.YthookcnkmlmgcaaDoor
