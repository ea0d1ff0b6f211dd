/-
  What the law PrimBack leans on: a long number's bytes read as that number; moments compared.
  prim: areBits, Bits; the reference's Bits.
  prim: Bits, ReadBits; the reference's Bits.
  The reference's ReadOid; the laws' sameArcs.
-/
import Derived.Test.YtfipgmjaabggjaaDoorM19
import Derived.Test.YtfipgmjaabggjaaDoorM24
import Derived.Test.YtfipgmjaabggjaaDoorM20
import Derived.Test.YtfipgmjaabggjaaDoorM17
import Derived.Test.YtfipgmjaabggjaaDoorM23
import Derived.Test.YtfipgmjaabggjaaDoorM4
namespace Go.Proofs.YtfipgmjaabggjaaDoor
open Go Go.RowKit
set_option maxRecDepth 4000

theorem toB_succ8 (v k : Nat) : toB v (k + 1) = toB (v / 256) k ++ [BitVec.ofNat 8 v] := by
  unfold toB
  rw [List.range_succ, List.map_append]
  congr 1
  · refine List.map_congr_left fun j hj => ?_
    have hj' : j < k := by simpa using hj
    rw [show k + 1 - 1 - j = (k - 1 - j) + 1 by omega, Nat.pow_succ, Nat.mul_comm, Nat.div_div_eq_div_mul]
  · simp
theorem bnum_toB8 : ∀ (k v : Nat), v < 256 ^ k → bnum (toB v k) = v
  | 0, v, h => by
    have h2 : v = 0 := by simpa using h
    subst h2
    rfl
  | k + 1, v, h => by
    have h2 : v / 256 < 256 ^ k := by
      rw [Nat.pow_succ] at h
      omega
    have h3 : bnum [BitVec.ofNat 8 v] = v % 256 := by
      simp [bnum, vl]
    rw [toB_succ8, bnum_append, bnum_toB8 k _ h2, h3]
    simp only [List.length_singleton, Nat.pow_one]
    omega
theorem bnum_sml (v : Nat) : bnum (sml v) = v := bnum_toB8 _ _ ((nb_iff v _).1 (Nat.le_refl _))
theorem bnum_big (v : Nat) : bnum (bigL v) = v := by
  unfold bigL
  split
  · have e : bnum ((0 : BitVec 8) :: sml v) = bnum ([0] ++ sml v) := rfl
    rw [e, bnum_append, bnum_sml]
    have h0 : bnum [(0 : BitVec 8)] = 0 := by decide
    rw [h0]
    omega
  · exact bnum_sml v
theorem sml_head {v : Nat} (h : nb v ≠ 0) : gb (sml v) 0 ≠ 0 := by
  obtain ⟨k, hk⟩ : ∃ k, nb v = k + 1 := ⟨nb v - 1, by omega⟩
  have h1 := (nb_iff v (k + 1)).1 (by omega)
  have h2 : 256 ^ k ≤ v := Nat.le_of_not_lt fun h => by have := (nb_iff v k).2 h; omega
  have h3 : v / 256 ^ k < 256 := by rw [Nat.div_lt_iff_lt_mul (Nat.pow_pos (by decide)), Nat.mul_comm, ← Nat.pow_succ]; exact h1
  have h4 : 0 < v / 256 ^ k := Nat.div_pos h2 (Nat.pow_pos (by decide))
  unfold sml
  rw [hk, toB_cons]
  intro e
  have e2 : BitVec.ofNat 8 (v / 256 ^ k) = 0 := e
  have e3 := congrArg BitVec.toNat e2
  rw [BitVec.toNat_ofNat, Nat.mod_eq_of_lt (by omega)] at e3
  simp at e3
  omega
theorem big_ok (v : Nat) : bigB (bigL v) = true := by
  have hl := sml_len v
  unfold bigL
  split
  · rename_i h
    unfold bigZ at h
    rw [Bool.or_eq_true, decide_eq_true_eq, decide_eq_true_eq] at h
    unfold bigB
    cases hs : sml v with
    | nil => decide
    | cons x r =>
      have hx : 128 ≤ x.toNat := by
        rcases h with h | h
        · rw [hs] at hl; simp at hl; omega
        · rwa [hs] at h
      have e0 : gb ((0 : BitVec 8) :: x :: r) 0 = 0 := rfl
      rw [e0]
      have h1 : tcB ((0 : BitVec 8) :: x :: r) = true := by
        unfold tcB
        simp
        omega
      rw [h1]
      decide
  · rename_i h
    unfold bigZ at h
    rw [Bool.not_eq_true, Bool.or_eq_false_iff, decide_eq_false_iff_not, decide_eq_false_iff_not] at h
    have h0 := sml_head h.1
    have h2 := h.2
    unfold bigB
    rw [decide_eq_false h2]
    cases hs : sml v with
    | nil => rw [hs] at hl; simp at hl; omega
    | cons x r =>
      rw [hs] at h0 h2
      have e0 : gb (x :: r) 0 = x := rfl
      rw [e0] at h0 h2
      cases r with
      | nil => rfl
      | cons y r =>
        unfold tcB
        have a1 : (x == 0) = false := beq_eq_false_iff_ne.2 h0
        have a2 : (x == 255) = false := beq_eq_false_iff_ne.2 fun e => h2 (by rw [e]; decide)
        simp only [a1, a2, Bool.false_and, Bool.not_false, Bool.and_true]
theorem neq_time (a b c d e f : Int) (w : World) : (binOp .neq tmt (.agg (tci a b c d e f)) (.agg (tci a b c d e f))).run Tryd.prog w = .ok (.bool false) w := by
  have hall : ((Tryd.prog.fieldsOf tmt).toList.all fun f => f.type == 3 && decide (f.offset < 6)) = true := by kernel_rfl
  rw [run_neq_struct, run_equalIn_agg w 9999 tmt _ _ (by kernel_rfl) (by kernel_rfl), eqFields_same w 9999 _ _ fun g hg => ?_]
  · rfl
  · have := List.all_eq_true.1 hall g hg
    simp only [Bool.and_eq_true, beq_iff_eq, decide_eq_true_eq] at this
    obtain ⟨z, hz⟩ := part6 a b c d e f w g.offset this.2
    refine ⟨_, this.1 ▸ hz, ?_⟩
    rw [this.1, run_equalIn_int w 9998 3 .i64 .i64 z z Tryd.underlying3]
    simp
end Go.Proofs.YtfipgmjaabggjaaDoor
namespace Go.Proofs.YtfipgmjaabggjaaDoor
open Go Go.RowKit
set_option maxRecDepth 4000

abbrev bit : TypeId := 62
/-- may bits be? -/
def bitsB (l : List (BitVec 8)) (u : Int) : Bool := if l = [] then decide (u = 0) else decide (0 ≤ u) && (decide (u ≤ 7) && decide ((gb l (l.length - 1)).toNat % 2 ^ u.toNat = 0))
theorem and_low (x : BitVec 8) : bits .and .u8 (ub x) 0 = ((x.toNat % 1 : Nat) : Int) ∧ bits .and .u8 (ub x) 1 = ((x.toNat % 2 : Nat) : Int) ∧ bits .and .u8 (ub x) 3 = ((x.toNat % 4 : Nat) : Int) ∧ bits .and .u8 (ub x) 7 = ((x.toNat % 8 : Nat) : Int) ∧
    bits .and .u8 (ub x) 15 = ((x.toNat % 16 : Nat) : Int) ∧ bits .and .u8 (ub x) 31 = ((x.toNat % 32 : Nat) : Int) ∧ bits .and .u8 (ub x) 63 = ((x.toNat % 64 : Nat) : Int) ∧ bits .and .u8 (ub x) 127 = ((x.toNat % 128 : Nat) : Int) := by
  revert x
  refine all8 ?_
  decide +kernel
theorem eq0_dec (q : Nat) : ((q : Int) == 0) = decide (q = 0) := by rw [Bool.eq_iff_iff]; simp
set_option maxHeartbeats 4000000 in
theorem areBits_any {l : List (BitVec 8)} {A : Option Addr} {n c : Nat} {w : World} (h : Bs w A n c l) (hnm : n ≤ 140737488355328) (u : Int) : Calls Tryd.prog 59 #[.agg #[.slice A n c, .int .i64 u]] w fun e w' => e = .returned (.bool (bitsB l u)) ∧ Ext w w' := by
  have hl := h.len
  by_cases h0 : u < 0
  · have e : bitsB l u = false := by
      unfold bitsB
      rw [decide_eq_false (p := u = 0) (by omega), decide_eq_false (p := 0 ≤ u) (by omega)]
      split <;> rfl
    rw [e]
    have b1 : decide (u < 0) = true := decide_eq_true h0
    clear h hl e h0
    go_enter Tryd.func59, Tryd.ntmps59
    go_wp2_with fail
    go_ret
    exact ⟨rfl, (by (repeat (first | assumption | exact Ext.refl _ | apply Ext.drew | apply Ext.drewN | apply Ext.alloc | refine Ext.trans ?_ (by assumption))); first | done | fail)⟩
  by_cases h7 : 7 < u
  · have e : bitsB l u = false := by
      unfold bitsB
      rw [decide_eq_false (p := u = 0) (by omega), decide_eq_false (p := u ≤ 7) (by omega), Bool.false_and, Bool.and_false]
      split <;> rfl
    rw [e]
    have b1 : decide (u < 0) = false := decide_eq_false h0
    have b2 : decide (7 < u) = true := decide_eq_true h7
    clear h hl e h0 h7
    go_enter Tryd.func59, Tryd.ntmps59
    go_wp2_with fail
    go_ret
    exact ⟨rfl, (by (repeat (first | assumption | exact Ext.refl _ | apply Ext.drew | apply Ext.drewN | apply Ext.alloc | refine Ext.trans ?_ (by assumption))); first | done | fail)⟩
  have b1 : decide (u < 0) = false := decide_eq_false h0
  have b2 : decide (7 < u) = false := decide_eq_false h7
  by_cases hn : n = 0
  · subst hn
    have e : bitsB l u = (u == 0) := by
      unfold bitsB
      rw [if_pos (List.eq_nil_of_length_eq_zero hl), Bool.eq_iff_iff]
      simp
    rw [e]
    clear h hl e h0 h7
    go_enter Tryd.func59, Tryd.ntmps59
    go_wp2_with fail
    go_ret
    exact ⟨rfl, (by (repeat (first | assumption | exact Ext.refl _ | apply Ext.drew | apply Ext.drewN | apply Ext.alloc | refine Ext.trans ?_ (by assumption))); first | done | fail)⟩
  obtain ⟨g, o, rfl, hc⟩ := h.s.2.2.2 (by omega)
  obtain ⟨k, hk⟩ : ∃ k, k = n - 1 := ⟨_, rfl⟩
  have c1 : ∀ w', Ext w w' → w'.cell? ⟨g, o + k, none⟩ = some (.int .u8 (ub (gb l k))) := fun w' hx => by
    obtain ⟨g', o', e, hc'⟩ := (h.ext hx).s.2.2.2 (by omega)
    cases e
    exact hc' k (by omega)
  have hne : l ≠ [] := fun e => by rw [e] at hl; exact hn hl.symm
  have e : bitsB l u = decide ((gb l k).toNat % 2 ^ u.toNat = 0) := by
    unfold bitsB
    rw [if_neg hne, decide_eq_true (p := 0 ≤ u) (by omega), decide_eq_true (p := u ≤ 7) (by omega), hl, ← hk, Bool.true_and, Bool.true_and]
  rw [e]
  have z1 : ((n : Int) == 0) = false := beq_eq_false_iff_ne.2 (by omega)
  have z2 : ¬ n = 0 := hn
  have s1 : IntKind.i64.wrap ((n : Int) - 1) = (k : Int) := by rw [IntKind.wrap_i64]; omega
  have d1 : (k : Int) < (n : Int) := by omega
  have d2 : k < n := by omega
  obtain ⟨a0, a1, a2, a3, a4, a5, a6, a7⟩ := and_low (gb l k)
  clear h hl e hc hne hk hn
  generalize gb l k = x at *
  rcases (by omega : u = 0 ∨ u = 1 ∨ u = 2 ∨ u = 3 ∨ u = 4 ∨ u = 5 ∨ u = 6 ∨ u = 7) with rfl | rfl | rfl | rfl | rfl | rfl | rfl | rfl
  all_goals
    first
      | rw [show x.toNat % 2 ^ (0 : Int).toNat = x.toNat % 1 from rfl, ← eq0_dec, ← a0]
      | rw [show x.toNat % 2 ^ (1 : Int).toNat = x.toNat % 2 from rfl, ← eq0_dec, ← a1]
      | rw [show x.toNat % 2 ^ (2 : Int).toNat = x.toNat % 4 from rfl, ← eq0_dec, ← a2]
      | rw [show x.toNat % 2 ^ (3 : Int).toNat = x.toNat % 8 from rfl, ← eq0_dec, ← a3]
      | rw [show x.toNat % 2 ^ (4 : Int).toNat = x.toNat % 16 from rfl, ← eq0_dec, ← a4]
      | rw [show x.toNat % 2 ^ (5 : Int).toNat = x.toNat % 32 from rfl, ← eq0_dec, ← a5]
      | rw [show x.toNat % 2 ^ (6 : Int).toNat = x.toNat % 64 from rfl, ← eq0_dec, ← a6]
      | rw [show x.toNat % 2 ^ (7 : Int).toNat = x.toNat % 128 from rfl, ← eq0_dec, ← a7]
    clear a0 a1 a2 a3 a4 a5 a6 a7 h0 h7
    go_enter Tryd.func59, Tryd.ntmps59
    go_wp2_with fail
    go_quiet (fail)
    go_wp2_with fail
    go_ret
    exact ⟨rfl, (by (repeat (first | assumption | exact Ext.refl _ | apply Ext.drew | apply Ext.drewN | apply Ext.alloc | refine Ext.trans ?_ (by assumption))); first | done | fail)⟩
end Go.Proofs.YtfipgmjaabggjaaDoor
namespace Go.Proofs.YtfipgmjaabggjaaDoor
open Go Go.RowKit
set_option maxRecDepth 4000

theorem box2b {w w' : World} {g t : Nat} {u v : Value} (h : Blk w g t #[u, v]) (hx : Ext w w') : w'.cell? ⟨g, 0, none⟩ = some u ∧ w'.cell? ⟨g, 1, none⟩ = some v := ⟨(h.ext hx).h.cell 0, (h.ext hx).h.cell 1⟩
theorem bitsB_u {l : List (BitVec 8)} {u : Int} (h : bitsB l u = true) : 0 ≤ u ∧ u ≤ 7 := by
  unfold bitsB at h
  split at h
  · rw [decide_eq_true_eq] at h; omega
  · simp only [Bool.and_eq_true, decide_eq_true_eq] at h; exact ⟨h.1, h.2.1⟩
theorem byt_u {u : Int} (h : 0 ≤ u ∧ u ≤ 7) : IntKind.u8.wrap u = ub (BitVec.ofNat 8 u.toNat) := by
  unfold ub
  rw [BitVec.toNat_ofNat, IntKind.wrap_u8]
  omega
set_option maxHeartbeats 4000000 in
theorem Bits_any {l : List (BitVec 8)} {A : Option Addr} {n c : Nat} {w : World} (h : Bs w A n c l) (hn : n ≤ 140737488355000) (u : Int) : Calls Tryd.prog 30 #[.agg #[.slice A n c, .int .i64 u]] w fun e w' =>
    (bitsB l u = false ∧ e = .returned (.tuple #[.slice none 0 0, err 1]) ∧ Ext w w') ∨ (bitsB l u = true ∧ FreshE w (n + 1) (BitVec.ofNat 8 u.toNat :: l) e w') := by
  have hC := fun W (hx : Ext w W) => areBits_any (h.ext hx) (by omega) u
  have HH := Kp.mk h
  have HC := Kp.mk hC
  have HB := Kp.mk (Blk.new w bit #[.slice A n c, .int .i64 u])
  clear h hC
  cases hb : bitsB l u with
  | false =>
    rw [hb] at HC
    refine Calls.mono (R := fun e w' => e = .returned (.tuple #[.slice none 0 0, err 1]) ∧ Ext w w') ?_ fun _ _ h => .inl ⟨rfl, h⟩
    clear hb
    go_enter Tryd.func30, Tryd.ntmps30
    go_wp2_with fail
    refine (HC.out _ (by (repeat (first | assumption | exact Ext.refl _ | apply Ext.drew | apply Ext.drewN | apply Ext.alloc | refine Ext.trans ?_ (by assumption))); first | done | fail)).mono ?_
    rintro e w1 ⟨rfl, x1⟩
    have HX := Kp.mk (show Ext w w1 from Ext.trans (by (repeat (first | assumption | exact Ext.refl _ | apply Ext.drew | apply Ext.drewN | apply Ext.alloc | refine Ext.trans ?_ (by assumption))); first | done | fail) x1)
    clear x1
    go_wp2_with fail
    go_ret2
    exact ⟨rfl, HX.out⟩
  | true =>
    rw [hb] at HC
    refine Calls.mono (R := fun e w' => FreshE w (n + 1) (BitVec.ofNat 8 u.toNat :: l) e w') ?_ fun _ _ h => .inr ⟨rfl, h⟩
    have hu := byt_u (bitsB_u hb)
    generalize BitVec.ofNat 8 u.toNat = x at *
    clear hb
    go_enter Tryd.func30, Tryd.ntmps30
    go_wp2_with fail
    refine (HC.out _ (by (repeat (first | assumption | exact Ext.refl _ | apply Ext.drew | apply Ext.drewN | apply Ext.alloc | refine Ext.trans ?_ (by assumption))); first | done | fail)).mono ?_
    rintro e w1 ⟨rfl, x1⟩
    have c0 := fun (W : World) (hx : Ext w1 W) => (box2b HB.out (x1.trans hx)).1
    have c1 := fun (W : World) (hx : Ext w1 W) => (box2b HB.out (x1.trans hx)).2
    have HX := Kp.mk (show Ext w w1 from Ext.trans (by (repeat (first | assumption | exact Ext.refl _ | apply Ext.drew | apply Ext.drewN | apply Ext.alloc | refine Ext.trans ?_ (by assumption))); first | done | fail) x1)
    have HW := Kp.mk HX.out.size
    clear x1
    go_wp2_with (first | (at_builtin; refine wpList_append_bs rfl (.tmp 11) (.tmp 13) rfl w.heap.size _ 1 [x] rfl (Own.new w1 w.heap.size 1 [x] rfl HW.out (by decide)) A n c l rfl ((HH.out.ext HX.out).ext (by (repeat (first | assumption | exact Ext.refl _ | apply Ext.drew | apply Ext.drewN | apply Ext.alloc | refine Ext.trans ?_ (by assumption))); first | done | fail)) (by omega) (n + 1) (by omega) (x :: l) rfl w (HX.out.trans (by (repeat (first | assumption | exact Ext.refl _ | apply Ext.drew | apply Ext.drewN | apply Ext.alloc | refine Ext.trans ?_ (by assumption))); first | done | fail)) (Nat.le_refl _) (Nat.le_trans HW.out (by simp)) ?_; intro A5 c5 w5 ho5 hx5 hap5) | fail)
    go_ret2
    exact ⟨A5, c5, rfl, ho5.bs, ho5, hx5⟩
theorem bits_cons {b : List (BitVec 8)} (h : b ≠ []) : b = gb b 0 :: b.drop 1 := by
  match b, h with
  | x :: r, _ => rfl
theorem szBt : (Tryd.prog.info? bit).map (·.size) = some 2 := by kernel_rfl
theorem one_two8 (A : Option Addr) (n c : Nat) (u : Int) : (#[Value.slice A n c, Value.int .i64 u]).all (·.oneCell') = true := by simp [Value.oneCell']
/-- what ReadBits answers -/
def RBits (w : World) (b : List (BitVec 8)) (n : Nat) (e : Ending) (w' : World) : Prop :=
  (¬ (0 < n ∧ bitsB (b.drop 1) (ub (gb b 0)) = true) ∧ e = .returned (.tuple #[.agg #[.slice none 0 0, .int .i64 0], err 2]) ∧ Ext w w') ∨
  ((0 < n ∧ bitsB (b.drop 1) (ub (gb b 0)) = true) ∧ ∃ A c, e = .returned (.tuple #[.agg #[.slice A (n - 1) c, .int .i64 (ub (gb b 0))], .nilIface]) ∧ Own w' w.heap.size (.slice A (n - 1) c) (n - 1) (b.drop 1) ∧ Ext w w')
set_option maxHeartbeats 8000000 in
theorem ReadBits_any {b : List (BitVec 8)} {A : Option Addr} {n c : Nat} {w : World} (h : Bs w A n c b) (hn : n ≤ 140737488351232) : Calls Tryd.prog 29 #[.slice A n c] w fun e w' => RBits w b n e w' := by
  have hl := h.len
  have HR := Kp.mk (Blk.new w bit #[.slice none 0 0, .int .i64 0])
  by_cases h0 : n = 0
  · subst h0
    refine Calls.mono (R := fun e w' => e = .returned (.tuple #[.agg #[.slice none 0 0, .int .i64 0], err 2]) ∧ Ext w w') ?_ fun _ _ h => .inl ⟨fun h => absurd h.1 (Nat.lt_irrefl 0), h⟩
    clear h hl
    go_enter Tryd.func29, Tryd.ntmps29
    go_wp2_with fail
    refine bodyPost_ret (v := .tuple #[.agg #[.slice none 0 0, .int .i64 0], err 2]) ?_ rfl ⟨rfl, (by (repeat (first | assumption | exact Ext.refl _ | apply Ext.drew | apply Ext.drewN | apply Ext.alloc | refine Ext.trans ?_ (by assumption))); first | done | fail)⟩
    exact results_cell_row2 rfl _ _ w.heap.size bit _ _ _ rfl rfl HR.out Tryd.underlying62 rfl szBt
  · obtain ⟨A', hA', hD⟩ := h.cut 1 (by omega)
    have hcut := run_from (P := Tryd.prog) A n c 24 5 Tryd.underlying24 szB 1 1 rfl (by omega)
    rw [hA'] at hcut
    have HH := Kp.mk h
    have HD := Kp.mk hD
    obtain ⟨g, o, rfl, _⟩ := h.s.2.2.2 (by omega)
    have c0 : ∀ w', Ext w w' → w'.cell? ⟨g, o, none⟩ = some (.int .u8 (ub (gb b 0))) := fun w' hx => by
      obtain ⟨g', o', e, hc'⟩ := (HH.out.ext hx).s.2.2.2 (by omega)
      cases e
      have := hc' 0 (by omega)
      rwa [Nat.add_zero] at this
    have z1 : ((n : Int) == 0) = false := beq_eq_false_iff_ne.2 (by omega)
    have z2 : ¬ n = 0 := h0
    have d1 : (0 : Int) < (n : Int) := by omega
    have d2 : 0 < n := by omega
    have w8 : IntKind.i64.wrap (ub (gb b 0)) = ub (gb b 0) := by have := (gb b 0).isLt; unfold ub; rw [IntKind.wrap_i64]; omega
    obtain ⟨z, hz⟩ : ∃ z, z = ub (gb b 0) := ⟨_, rfl⟩
    rw [← hz] at w8
    rw [← hz] at c0
    have HZ := Kp.mk hz
    clear h hD hA' hl h0 hz
    go_enter Tryd.func29, Tryd.ntmps29
    go_wp2_with fail
    obtain ⟨W0, hW0⟩ : ∃ W0, W0 = w.alloc (.cells #[.slice none 0 0, .int .i64 0] bit) := ⟨_, rfl⟩
    have hx0 : Ext w W0 := by rw [hW0]; exact (by (repeat (first | assumption | exact Ext.refl _ | apply Ext.drew | apply Ext.drewN | apply Ext.alloc | refine Ext.trans ?_ (by assumption))); first | done | fail)
    rw [← hW0] at HR ⊢
    clear hW0
    have c1 : ∀ w', Ext W0 w' → w'.cell? ⟨g, o, none⟩ = some (.int .u8 z) := fun w' hx => c0 w' (hx0.trans hx)
    have X0 := Kp.mk hx0
    clear c0 hx0
    refine wp_region_held_drew (S := fun w' => Ext W0 w') (by kernel_rfl) (Ext.refl W0).drew (fun hHeld => ?_)
    refine wpAnyH_take (i := 0) (oi := ⟨some 10, _, _, _, _, _⟩) (v := ?_) rfl (by kernel_rfl) (by kernel_rfl) (by kernel_rfl) (fun _ _ _ h => h) (Or.inl ⟨by rfl, ?_⟩) (by assumption) ?_
    rotate_left
    · (intro w hSw; (try dsimp only at hSw); go_simp; try with_reducible rfl)
    try simp only [Act.put, List.setIfInBounds_toArray, List.set_cons_zero, List.set_cons_succ]
    refine wpAnyH_take (i := 1) (oi := ⟨some 11, _, _, _, _, _⟩) (v := ?_) rfl (by kernel_rfl) (by kernel_rfl) (by kernel_rfl) (fun _ _ _ h => h) (Or.inl ⟨by rfl, ?_⟩) (by assumption) ?_
    rotate_left
    · (intro w hSw; (try dsimp only at hSw); go_simp; try with_reducible rfl)
    try simp only [Act.put, List.setIfInBounds_toArray, List.set_cons_zero, List.set_cons_succ]
    refine wpAnyH_take (i := 2) (oi := ⟨some 12, _, _, _, _, _⟩) (v := ?_) rfl (by kernel_rfl) (by kernel_rfl) (by kernel_rfl) (fun _ _ _ h => h) (Or.inl ⟨by rfl, ?_⟩) (by assumption) ?_
    rotate_left
    · (intro w hSw; (try dsimp only at hSw); go_simp; try with_reducible rfl)
    try simp only [Act.put, List.setIfInBounds_toArray, List.set_cons_zero, List.set_cons_succ]
    refine wpAnyH_take (i := 3) (oi := ⟨some 13, _, _, _, _, _⟩) (v := ?_) rfl (by kernel_rfl) (by kernel_rfl) (by kernel_rfl) (fun _ _ _ h => h) (Or.inl ⟨by rfl, ?_⟩) (by assumption) ?_
    rotate_left
    · (intro w hSw; (try dsimp only at hSw); go_simp; try with_reducible rfl)
    try simp only [Act.put, List.setIfInBounds_toArray, List.set_cons_zero, List.set_cons_succ]
    refine wpAnyH_take (i := 4) (oi := ⟨some 14, _, _, _, _, _⟩) (v := ?_) rfl (by kernel_rfl) (by kernel_rfl) (by kernel_rfl) (fun _ _ _ h => h) (Or.inl ⟨by rfl, ?_⟩) (by assumption) ?_
    rotate_left
    · (intro w hSw; (try dsimp only at hSw); go_simp; try with_reducible rfl)
    try simp only [Act.put, List.setIfInBounds_toArray, List.set_cons_zero, List.set_cons_succ]
    refine wpAnyH_take (i := 5) (oi := ⟨some 15, _, _, _, _, _⟩) (v := ?_) rfl (by kernel_rfl) (by kernel_rfl) (by kernel_rfl) (fun _ _ _ h => h) (Or.inl ⟨by rfl, ?_⟩) (by assumption) ?_
    rotate_left
    · (intro w hSw; (try dsimp only at hSw); go_simp; try with_reducible rfl)
    try simp only [Act.put, List.setIfInBounds_toArray, List.set_cons_zero, List.set_cons_succ]
    refine wpAnyH_take (i := 6) (oi := ⟨some 16, _, _, _, _, _⟩) (v := ?_) rfl (by kernel_rfl) (by kernel_rfl) (by kernel_rfl) (fun _ _ _ h => h) (Or.inl ⟨by rfl, ?_⟩) (by assumption) ?_
    rotate_left
    · (intro w hSw; (try dsimp only at hSw); go_simp; try with_reducible rfl)
    try simp only [Act.put, List.setIfInBounds_toArray, List.set_cons_zero, List.set_cons_succ]
    refine next_one 7 (by kernel_rfl) rfl (by rfl) fun K' HK' => ?_
    go_simp
    refine held_go HK' (by (repeat (first | assumption | exact Ext.refl _ | apply Ext.drew | apply Ext.drewN | apply Ext.alloc | refine Ext.trans ?_ (by assumption))); first | done | fail) (fun hHeld => ?_)
    clear HK'
    try simp only [Act.put, List.setIfInBounds_toArray, List.set_cons_zero, List.set_cons_succ]
    refine next_one 8 (by kernel_rfl) rfl (by rfl) fun K' HK' => ?_
    go_simp
    have hb1 : Blk (W0.alloc (.cells #[.slice A' (n - 1) (c - 1), .int .i64 z] bit)).drew W0.heap.size bit #[.slice A' (n - 1) (c - 1), .int .i64 z] := (Blk.new W0 bit _).ext (by (repeat (first | assumption | exact Ext.refl _ | apply Ext.drew | apply Ext.drewN | apply Ext.alloc | refine Ext.trans ?_ (by assumption))); first | done | fail)
    have hx1 : Ext W0 (W0.alloc (.cells #[.slice A' (n - 1) (c - 1), .int .i64 z] bit)).drew := (by (repeat (first | assumption | exact Ext.refl _ | apply Ext.drew | apply Ext.drewN | apply Ext.alloc | refine Ext.trans ?_ (by assumption))); first | done | fail)
    obtain ⟨q, hq⟩ : ∃ q, q = W0.heap.size := ⟨_, rfl⟩
    generalize hW1 : (W0.alloc (.cells #[.slice A' (n - 1) (c - 1), .int .i64 z] bit)).drew = W1 at *
    refine held_go HK' hx1 (fun hHeld => ?_)
    clear HK'
    try simp only [Act.put, List.setIfInBounds_toArray, List.set_cons_zero, List.set_cons_succ]
    refine wpAnyH_done (by kernel_rfl) ?_ _
    rw [← hq] at hb1 ⊢
    have hwq : w.heap.size < q := by rw [hq]; exact HR.out.lt
    have HB1 := Kp.mk hb1
    have X1 := Kp.mk (X0.out.trans hx1)
    have HR1 := Kp.mk (HR.out.ext hx1)
    have HQ := Kp.mk (show W0.heap.size ≤ q from by rw [hq]; exact Nat.le_refl _)
    have X01 := Kp.mk hx1
    clear hcut c1 hx1 hW1 hq
    obtain ⟨m0, m1⟩ := box2b HB1.out (Ext.refl _)
    go_wp2_with fail
    refine (areBits_any (HD.out.ext X1.out) (by omega) z).mono ?_
    rintro e W2 ⟨rfl, x2⟩
    have X2 := Kp.mk (X1.out.trans x2)
    have HB2 := Kp.mk (HB1.out.ext x2)
    have HR2 := Kp.mk (HR1.out.ext x2)
    have X02 := Kp.mk (X01.out.trans x2)
    clear x2 m0 m1 hb1
    cases hb : bitsB (b.drop 1) z with
    | false =>
      have HN := Kp.mk hb
      clear hb
      go_wp2_with (first | ((with_reducible refine at_store 2 20 ?_); refine wpList_store_row rfl bit _ _ rfl w.heap.size #[.slice none 0 0, .int .i64 0] rfl rfl bit _ HR2.out.h szBt rfl (one_two8 _ _ _ _) ?_) | fail)
      have hx := X2.out.setRow (Nat.le_refl _) #[.slice none 0 0, .int .i64 0]
      refine bodyPost_ret (v := .tuple #[.agg #[.slice none 0 0, .int .i64 0], err 2]) ?_ rfl ?_
      · exact results_cell_row2 rfl _ _ w.heap.size bit _ _ _ rfl rfl (HR2.out.row _) Tryd.underlying62 rfl szBt
      refine .inl ⟨?_, rfl, hx⟩
      rw [← HZ.out, HN.out]
      exact fun h => by cases h.2
    | true =>
      have HN := Kp.mk hb
      clear hb
      obtain ⟨m0, m1⟩ := box2b HB2.out (Ext.refl _)
      go_wp2_with fail
      refine (Clone_any (HD.out.ext X2.out) (by omega)).mono ?_
      rintro e W3 ⟨A3, c3, rfl, hs3, ho3, x3⟩
      have X3 := Kp.mk (X2.out.trans x3)
      have HB3 := Kp.mk (HB2.out.ext x3)
      have HR3 := Kp.mk (HR2.out.ext x3)
      have HO3 := Kp.mk ho3
      have hqne : q < W2.heap.size := HB2.out.lt
      have hwW : w.heap.size ≤ W2.heap.size := X2.out.size
      clear x3 m0 m1 hs3 ho3
      have m0 := HB3.out.h.cell 0
      have m1 := HB3.out.h.cell 1
      have mf := HB3.out.h.frozen 0
      simp only [List.getElem?_toArray, List.getElem?_cons_zero, List.getElem?_cons_succ] at m0 m1
      have HR4 := Kp.mk (HR3.out.far (p := ⟨q, 0, none⟩) (show w.heap.size ≠ q by omega) (.slice A3 (n - 1) c3))
      have HO4 := Kp.mk (HO3.out.far (p := ⟨q, 0, none⟩) (fun e => by have := HO3.out.base q e; omega) (.slice A3 (n - 1) c3))
      go_wp2_with (first | ((with_reducible refine at_store 2 26 ?_); refine wpList_store_row rfl bit _ _ rfl w.heap.size #[.slice A3 (n - 1) c3, .int .i64 z] rfl rfl bit _ HR4.out.h szBt rfl (one_two8 _ _ _ _) ?_) | fail)
      have hx : Ext w ((W3.setCell ⟨q, 0, none⟩ (.slice A3 (n - 1) c3)).setRow w.heap.size #[.slice A3 (n - 1) c3, .int .i64 z]) := (X3.out.setCell (show w.heap.size ≤ q by omega) _).setRow (Nat.le_refl _) _
      refine bodyPost_ret (v := .tuple #[.agg #[.slice A3 (n - 1) c3, .int .i64 z], .nilIface]) ?_ rfl ?_
      · exact results_cell_row2 rfl _ _ w.heap.size bit _ _ _ rfl rfl (HR4.out.row _) Tryd.underlying62 rfl szBt
      have ho5 : Own ((W3.setCell ⟨q, 0, none⟩ (.slice A3 (n - 1) c3)).setRow w.heap.size #[.slice A3 (n - 1) c3, .int .i64 z]) W2.heap.size (.slice A3 (n - 1) c3) (n - 1) (b.drop 1) :=
        (HO4.out.rw.mds ((Mds.refl [w.heap.size] _).setRow (by simp) _) fun k hk e => by
          have e1 := HO4.out.base k (mem_fpv.1 hk)
          rw [List.mem_singleton.1 e] at e1
          omega).own
      refine .inr ⟨⟨d2, by rw [← HZ.out, HN.out]⟩, A3, c3, ?_, ho5.lower hwW, hx⟩
      rw [← HZ.out]
end Go.Proofs.YtfipgmjaabggjaaDoor
namespace Go.Proofs.YtfipgmjaabggjaaDoor
open Go Go.RowKit
set_option maxRecDepth 4000

/-- the sums of a round of the reference's -/
structure OStep2 (s : Nat) (x : BitVec 8) (q c n : Nat) : Prop where
  mu : IntKind.u32.wrap ((s : Int) * 128) = (q : Int)
  tm : (ub x).tmod 128 = (c : Int)
  w8 : IntKind.u8.wrap (c : Int) = (c : Int)
  w32 : IntKind.u32.wrap (c : Int) = (c : Int)
  ad : IntKind.u32.wrap ((q : Int) + (c : Int)) = (n : Int)
  val : n = (s * 128 + x.toNat % 128) % 4294967296
theorem ostep2 (s : Nat) (x : BitVec 8) : ∃ q c n, OStep2 s x q c n := by
  have hx := x.isLt
  refine ⟨s * 128 % 4294967296, x.toNat % 128, (s * 128 + x.toNat % 128) % 4294967296, ?_, ?_, ?_, ?_, ?_, rfl⟩
  · rw [IntKind.wrap_u32]; omega
  · unfold ub; rw [Int.tmod_eq_emod_of_nonneg (by omega)]; omega
  · rw [IntKind.wrap_u8]; omega
  · rw [IntKind.wrap_u32]; omega
  · rw [IntKind.wrap_u32]; omega
theorem dec_lt8 (x : BitVec 8) : decide (ub x < 128) = decide (x.toNat < 128) := by
  unfold ub
  by_cases h : x.toNat < 128
  · rw [decide_eq_true h, decide_eq_true (by omega)]
  · rw [decide_eq_false h, decide_eq_false (by omega)]
theorem str_ne {x y : List (BitVec 8)} (h : x ≠ y) : ((strOf x).toList == (strOf y).toList) = false := beq_eq_false_iff_ne.2 fun e => h (strOf_inj e)
/-- what the reference's ReadOid answers -/
def RefOidR (w : World) (b : List (BitVec 8)) (e : Ending) (w' : World) : Prop :=
  (¬ (OidP (oidU (pmO b)) ∧ oidB (oidU (pmO b)) = b) ∧ e = .returned (.tuple #[.slice none 0 0, .bool false]) ∧ Ext w w') ∨
  (OidP (oidU (pmO b)) ∧ oidB (oidU (pmO b)) = b ∧ ∃ A' c', e = .returned (.tuple #[.slice A' (oidU (pmO b)).length c', .bool true]) ∧ Rd vL w' A' (oidU (pmO b)).length c' (oidU (pmO b)) ∧ Ext w w')
theorem oidP_nil : ¬ OidP (oidU []) := fun ⟨_, _, _, h, _⟩ => by cases h
end Go.Proofs.YtfipgmjaabggjaaDoor
