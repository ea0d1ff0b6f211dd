/-
  The reference's Hidden.
  The walk of the law NatInvs.
  rsa: factorMay, roundOf, paired.
  rsa: Pair.
-/
import Derived.Test.YticggkllfojgkaaDoorM18
import Derived.Test.YticggkllfojgkaaDoorM19
import Derived.Test.YticggkllfojgkaaDoorM14
import Derived.Laws.ResultCell
namespace Go.Proofs.YticggkllfojgkaaDoor
open Go Go.RowKit
set_option maxRecDepth 4000

section
variable {E F : Option Addr} {p q y z N : Nat} {w : World} {l1 l2 : List (BitVec 8)}
/-- what Hidden tells, where something is amiss -/
def NoHid (w : World) (k : Int) (e : Ending) (w' : World) : Prop := e = .returned (.tuple #[.slice none 0 0, .int .i64 k]) ∧ Ext w w'
def HidR (w : World) (n : Nat) (l : List (BitVec 8)) (e : Ending) (w' : World) : Prop := ∃ A c, e = .returned (.tuple #[.slice A n c, .int .i64 0]) ∧ Bs w' A n c l ∧ Ext w w'
theorem Hid_long (ht : Bs w E p q l1) (hN : N ≤ 1000) (h : N < p + 11) (h62 : 11 ≤ N) (hp : p ≤ 1000000) : Calls Tryd.prog 11 #[.int .i64 (N : Int), .slice E p q, .slice F y z] w (NoHid w 4) := by
  have d1 : (N : Int) - 11 < (p : Int) := by omega
  have w1' : IntKind.i64.wrap ((N : Int) - 11) = (N : Int) - 11 := by rw [IntKind.wrap_i64]; omega
  clear ht
  go_enter Tryd.func11, Tryd.ntmps11
  go_wp2_with fail
  go_ret2
  exact ⟨rfl, (by (repeat (first | assumption | exact Ext.refl _ | apply Ext.drew | apply Ext.drewN | apply Ext.alloc | refine Ext.trans ?_ (by assumption))); first | done | fail)⟩
theorem gb_lit (l : List (BitVec 8)) (i : Nat) (h : i < l.length) : l.take (i + 1) = l.take i ++ [gb l i] := by
  rw [List.take_add_one, List.getElem?_eq_getElem h]
  simp [gb, h]
theorem Own.lit2 (w : World) (a b : BitVec 8) (B : Nat) (hB : B ≤ w.heap.size) : Own (w.alloc (.cells #[.int .u8 (ub a), .int .u8 (ub b)] 5)) B (.slice (some ⟨w.heap.size, 0, none⟩) 2 2) 2 [a, b] := Own.new w B 2 [a, b] rfl hB (by decide)
set_option maxHeartbeats 4000000 in
theorem Hid_bad (ht : Bs w E p q l1) (hf : Bs w F y z l2) (hN : N ≤ 1000) (h : p + 11 ≤ N) (hy : y ≤ 1000000) (hbad : y ≠ N - 3 - p ∨ fz l2 < l2.length) : Calls Tryd.prog 11 #[.int .i64 (N : Int), .slice E p q, .slice F y z] w (NoHid w 1) := by
  have d1 : decide ((N : Int) - 11 < (p : Int)) = false := decide_eq_false (by omega)
  have w1' : IntKind.i64.wrap ((N : Int) - 11) = (N : Int) - 11 := by rw [IntKind.wrap_i64]; omega
  have w2' : IntKind.i64.wrap ((N : Int) - 3) = (N : Int) - 3 := by rw [IntKind.wrap_i64]; omega
  obtain ⟨G, hG⟩ : ∃ G, N - 3 - p = G := ⟨_, rfl⟩
  rw [hG] at hbad
  have d2 : (N : Int) - 3 - (p : Int) = (G : Int) := by omega
  have w3' : IntKind.i64.wrap ((N : Int) - 3 - (p : Int)) = (G : Int) := by rw [IntKind.wrap_i64]; omega
  have w4' : IntKind.i64.wrap (G : Int) = (G : Int) := by rw [IntKind.wrap_i64]; omega
  have hlen := hf.len
  by_cases hq : y = G
  · subst hq
    have hlt : fz l2 < y := by rcases hbad with h | h; exact absurd rfl h; omega
    have HA := Kp.mk (fz_ahead l2)
    have HZ := Kp.mk (fz_at l2 (by omega))
    have HF := Kp.mk hf
    obtain ⟨J, hJ⟩ : ∃ J, fz l2 = J := ⟨_, rfl⟩
    rw [hJ] at hlt HA HZ
    obtain ⟨g, o, rfl, hc⟩ := hf.s.2.2.2 (by omega)
    have HC := Kp.mk hc
    have HO := Kp.mk (Own.lit2 w 0 2 w.heap.size (Nat.le_refl _))
    clear ht hf hbad hJ hc hG h hN
    go_enter Tryd.func11, Tryd.ntmps11
    go_wp2_with fail
    go_loopw [8, 9] (fun ov iv wr => ∃ i : Nat, i ≤ J ∧ iv = .int .i64 (i : Int) ∧ (∃ A c, ov = .slice A (2 + i) c) ∧ Own wr w.heap.size ov (2 + i) ([0, 2] ++ l2.take i) ∧ Ext w wr) (fun _ iv _ => y - (intOf iv).toNat)
    case atStart => exact ⟨0, by omega, rfl, ⟨_, _, rfl⟩, HO.out, (by (repeat (first | assumption | exact Ext.refl _ | apply Ext.drew | apply Ext.drewN | apply Ext.alloc | refine Ext.trans ?_ (by assumption))); first | done | fail)⟩
    case round =>
      obtain ⟨i, hi, rfl, ⟨Ao, co, rfl⟩, ho, hx⟩ := hrel
      have b0 : (i : Int) < (y : Int) := by omega
      have b2 : (i : Int) < 2000000 := by omega
      have ci := (hx.b.cell (p := ⟨g, o + i, none⟩) (block_lt_of_cell (HC.out i (by omega)))).trans (HC.out i (by omega))
      by_cases hq : i = J
      · subst hq
        rw [HZ.out, show ub (0 : BitVec 8) = 0 from rfl] at ci
        have HX := Kp.mk hx
        clear ho hx
        go_wp2_with fail
        go_ret2
        exact ⟨rfl, HX.out⟩
      · have hne := HA.out i (by omega)
        have hn2 : ¬ ub (gb l2 i) = 0 := fun e => hne (by apply BitVec.eq_of_toNat_eq; unfold ub at e; simpa using e)
        have hbe : (ub (gb l2 i) == 0) = false := beq_eq_false_iff_ne.2 hn2
        have HT := Kp.mk (show ([0, 2] ++ l2.take i) ++ [gb l2 i] = [0, 2] ++ l2.take (i + 1) by rw [gb_lit l2 i (by omega), List.append_assoc])
        have HL := Kp.mk (fun (W : World) => lit_bytes W [gb l2 i] #[.int .u8 (ub (gb l2 i))] 1 rfl rfl W.heap.size rfl)
        have HRO := Kp.mk ho
        have HX := Kp.mk hx
        clear ho hx hne
        generalize gb l2 i = x at *
        generalize ub x = v at *
        go_wp2_with (first | (at_builtin; refine wpList_append_bs rfl (.tmp 35) (.tmp 40) rfl w.heap.size (.slice Ao (2 + i) co) (2 + i) _ rfl (HRO.out.ext (by (repeat (first | assumption | exact Ext.refl _ | apply Ext.drew | apply Ext.drewN | apply Ext.alloc | refine Ext.trans ?_ (by assumption))); first | done | fail)) _ 1 1 [x] rfl (HL.out _) (by omega) (2 + (i + 1)) (by omega) _ HT.out w (HX.out.trans (by (repeat (first | assumption | exact Ext.refl _ | apply Ext.drew | apply Ext.drewN | apply Ext.alloc | refine Ext.trans ?_ (by assumption))); first | done | fail)) (Nat.le_refl _) (HX.out.trans (by (repeat (first | assumption | exact Ext.refl _ | apply Ext.drew | apply Ext.drewN | apply Ext.alloc | refine Ext.trans ?_ (by assumption))); first | done | fail)).size ?_; intro A5 c5 w5 ho5 hx5 _) | fail)
        go_roundw
        case rel => exact ⟨i + 1, by omega, by go_num, ⟨_, _, rfl⟩, ho5, hx5⟩
        case measure => simp [intOf]; omega
  · have d4 : ¬ (y : Int) = (G : Int) := by omega
    clear ht hf hbad hG h hN hq
    go_enter Tryd.func11, Tryd.ntmps11
    go_wp2_with fail
    go_ret2
    exact ⟨rfl, (by (repeat (first | assumption | exact Ext.refl _ | apply Ext.drew | apply Ext.drewN | apply Ext.alloc | refine Ext.trans ?_ (by assumption))); first | done | fail)⟩
set_option maxHeartbeats 4000000 in
theorem Hid_ok (ht : Bs w E p q l1) (hf : Bs w F y z l2) (hN : N ≤ 1000) (h : p + 11 ≤ N) (hy : y = N - 3 - p) (hz : fz l2 = l2.length) : Calls Tryd.prog 11 #[.int .i64 (N : Int), .slice E p q, .slice F y z] w (HidR w N (hdL l2 l1)) := by
  have d1 : decide ((N : Int) - 11 < (p : Int)) = false := decide_eq_false (by omega)
  have w1' : IntKind.i64.wrap ((N : Int) - 11) = (N : Int) - 11 := by rw [IntKind.wrap_i64]; omega
  have w2' : IntKind.i64.wrap ((N : Int) - 3) = (N : Int) - 3 := by rw [IntKind.wrap_i64]; omega
  have d2 : (N : Int) - 3 - (p : Int) = (y : Int) := by omega
  have w3' : IntKind.i64.wrap ((N : Int) - 3 - (p : Int)) = (y : Int) := by rw [IntKind.wrap_i64]; omega
  have w4' : IntKind.i64.wrap (y : Int) = (y : Int) := by rw [IntKind.wrap_i64]; omega
  have hlen := hf.len
  have HA := Kp.mk ((fz_all l2).1 hz)
  have HF := Kp.mk hf
  have HTX := Kp.mk ht
  have HO := Kp.mk (Own.lit2 w 0 2 w.heap.size (Nat.le_refl _))
  have hy3 : y ≤ 1000 := by omega
  have HQ := Kp.mk (show 2 + y + 1 + p = N by omega)
  have hp3 : p ≤ 1000 := by omega
  clear ht hf hz h hN hy
  go_enter Tryd.func11, Tryd.ntmps11
  go_wp2_with fail
  go_loopw [8, 9] (fun ov iv wr => ∃ i : Nat, i ≤ y ∧ iv = .int .i64 (i : Int) ∧ (∃ A c, ov = .slice A (2 + i) c) ∧ Own wr w.heap.size ov (2 + i) ([0, 2] ++ l2.take i) ∧ Ext w wr) (fun _ iv _ => y - (intOf iv).toNat)
  case atStart => exact ⟨0, by omega, rfl, ⟨_, _, rfl⟩, HO.out, (by (repeat (first | assumption | exact Ext.refl _ | apply Ext.drew | apply Ext.drewN | apply Ext.alloc | refine Ext.trans ?_ (by assumption))); first | done | fail)⟩
  case round =>
    obtain ⟨i, hi, rfl, ⟨Ao, co, rfl⟩, ho, hx⟩ := hrel
    have b2 : (i : Int) < 2000000 := by omega
    by_cases hlt : i < y
    · have b0 : (i : Int) < (y : Int) := by omega
      obtain ⟨g, o, rfl, hc⟩ := HF.out.s.2.2.2 (by omega)
      have ci := (hx.b.cell (p := ⟨g, o + i, none⟩) (block_lt_of_cell (hc i (by omega)))).trans (hc i (by omega))
      have hne := HA.out i (by omega)
      have hn2 : ¬ ub (gb l2 i) = 0 := fun e => hne (by apply BitVec.eq_of_toNat_eq; unfold ub at e; simpa using e)
      have hbe : (ub (gb l2 i) == 0) = false := beq_eq_false_iff_ne.2 hn2
      have HT := Kp.mk (show ([0, 2] ++ l2.take i) ++ [gb l2 i] = [0, 2] ++ l2.take (i + 1) by rw [gb_lit l2 i (by omega), List.append_assoc])
      have HL := Kp.mk (fun (W : World) => lit_bytes W [gb l2 i] #[.int .u8 (ub (gb l2 i))] 1 rfl rfl W.heap.size rfl)
      have HRO := Kp.mk ho
      have HX := Kp.mk hx
      clear ho hx hne hc
      generalize gb l2 i = x at *
      generalize ub x = v at *
      go_wp2_with (first | (at_builtin; refine wpList_append_bs rfl (.tmp 35) (.tmp 40) rfl w.heap.size (.slice Ao (2 + i) co) (2 + i) _ rfl (HRO.out.ext (by (repeat (first | assumption | exact Ext.refl _ | apply Ext.drew | apply Ext.drewN | apply Ext.alloc | refine Ext.trans ?_ (by assumption))); first | done | fail)) _ 1 1 [x] rfl (HL.out _) (by omega) (2 + (i + 1)) (by omega) _ HT.out w (HX.out.trans (by (repeat (first | assumption | exact Ext.refl _ | apply Ext.drew | apply Ext.drewN | apply Ext.alloc | refine Ext.trans ?_ (by assumption))); first | done | fail)) (Nat.le_refl _) (HX.out.trans (by (repeat (first | assumption | exact Ext.refl _ | apply Ext.drew | apply Ext.drewN | apply Ext.alloc | refine Ext.trans ?_ (by assumption))); first | done | fail)).size ?_; intro A5 c5 w5 ho5 hx5 _) | fail)
      go_roundw
      case rel => exact ⟨i + 1, by omega, by go_num, ⟨_, _, rfl⟩, ho5, hx5⟩
      case measure => simp [intOf]; omega
    · obtain rfl : i = y := by omega
      rw [List.take_of_length_le (by omega)] at ho
      have b0 : decide ((i : Int) < (i : Int)) = false := decide_eq_false (by omega)
      have HRO := Kp.mk ho
      have HX := Kp.mk hx
      have HL := Kp.mk (fun (W : World) => lit_bytes W [0] #[.int .u8 0] 1 rfl rfl W.heap.size rfl)
      clear ho hx hlt
      go_wp2_with (first | (at_builtin; refine wpList_append_bs rfl (.tmp 42) (.tmp 43) rfl w.heap.size (.slice Ao (2 + i) co) (2 + i) _ rfl (HRO.out.ext (by (repeat (first | assumption | exact Ext.refl _ | apply Ext.drew | apply Ext.drewN | apply Ext.alloc | refine Ext.trans ?_ (by assumption))); first | done | fail)) _ 1 1 [0] rfl (HL.out _) (by omega) (2 + i + 1) rfl _ rfl w (HX.out.trans (by (repeat (first | assumption | exact Ext.refl _ | apply Ext.drew | apply Ext.drewN | apply Ext.alloc | refine Ext.trans ?_ (by assumption))); first | done | fail)) (Nat.le_refl _) (HX.out.trans (by (repeat (first | assumption | exact Ext.refl _ | apply Ext.drew | apply Ext.drewN | apply Ext.alloc | refine Ext.trans ?_ (by assumption))); first | done | fail)).size ?_; intro A5 c5 w5 ho5 hx5 _) | (at_builtin; refine wpList_append_bs rfl (.tmp 45) (.tmp 46) rfl w.heap.size (.slice A5 (2 + i + 1) c5) (2 + i + 1) _ rfl ho5 _ p q l1 rfl (HTX.out.ext hx5) (by omega) N HQ.out _ rfl w hx5 (Nat.le_refl _) hx5.size ?_; intro A6 c6 w6 ho6 hx6 _) | fail)
      go_ret2
      exact ⟨A6, c6, rfl, ho6.bs, hx6⟩
end
end Go.Proofs.YticggkllfojgkaaDoor
namespace Go.Proofs.YticggkllfojgkaaDoor
open Go Go.RowKit
set_option maxRecDepth 4000

theorem InvVlong {w : World} {A B : Option Addr} {n c m d va vb : Nat} (ha : Nv w A n c va) (hb : Nv w B m d vb) (h : lng va ∨ lng vb) : Calls Tryd.prog 58 #[.slice A n c, .slice B m d] w (Bad1 w 4) := by
  obtain ⟨a, ha, rfl⟩ := ha
  obtain ⟨b, hb, rfl⟩ := hb
  exact Inv_long ha hb h
theorem gcd_mod (m a : Nat) : Nat.gcd m (a % m) = Nat.gcd m a := by rw [Nat.gcd_comm, ← Nat.gcd_rec]
theorem one_dg {v : Nat} (h : (dgs 65536 v).length = 1) : dg (dgs 65536 v) 0 = v := by
  have h1 := vl_take_all 65536 (dgs 65536 v) 1 (by omega)
  rw [show (1 : Nat) = 0 + 1 from rfl, vl_take_succ, vl_dgs (by decide)] at h1
  simpa [vl] using h1
/-- Euclid's way ends -/
theorem Eu.ends {a m : Nat} (hm : 2 ≤ m) (hg : Nat.gcd m a = 1) : ∀ (y x p q : Nat) (s : Bool), Eu a m x y p q s → ∃ v, v < m ∧ v * a % m = 1 := by
  intro y
  induction y using Nat.strongRecOn with
  | _ y ih =>
    intro x p q s h
    rcases Nat.eq_zero_or_pos y with hy | hy
    · subst hy
      have h1 := h.last
      rw [hg] at h1
      subst h1
      exact ⟨_, h.one hm⟩
    · exact ih (x % y) (Nat.mod_lt x hy) y q _ _ (h.next hy)
theorem invN_spec {a m : Nat} (hm : 2 ≤ m) (hg : Nat.gcd m a = 1) : invN a m < m ∧ invN a m * a % m = 1 := by
  obtain ⟨v, h1, h2⟩ := Eu.ends hm hg a m 0 1 true (Eu.start hm)
  have e := invN_eq h1 h2
  rw [← e]
  exact ⟨h1, h2⟩
end Go.Proofs.YticggkllfojgkaaDoor
namespace Go.Proofs.YticggkllfojgkaaDoor
open Go Go.RowKit
set_option maxRecDepth 4000

theorem nb_16 {v : Nat} (h : nb v ≤ 64) : v < BB ^ 16 := by
  have h1 := (nb_iff v 64).1 h
  rwa [show (256 : Nat) ^ 64 = BB ^ 16 by rw [show (64 : Nat) = 4 * 16 by rfl, Nat.pow_mul]] at h1
theorem nb_lng (v : Nat) : 256 < nb v ↔ lng v := by
  have h := nb_iff v 256
  rw [show (256 : Nat) ^ 256 = 65536 ^ 128 by rw [show (65536 : Nat) = 256 ^ 2 by rfl, ← Nat.pow_mul]] at h
  have h2 := len_iff (B := 65536) (by decide) v 128
  have h3 := may_iff v
  constructor
  · intro h4 
    exact Decidable.byContradiction fun h5 => by have := h.2 (h2.1 (h3.2 h5)); omega
  · intro h4
    rcases Nat.lt_or_ge 256 (nb v) with h5 | h5
    · exact h5
    · exact absurd h4 (h3.1 (h2.2 (h.1 h5)))
theorem bool_no {b : Bool} {p : Prop} (hb : b = true ↔ p) (h : ¬ p) : b = false := by
  cases b
  · rfl
  · exact absurd (hb.1 rfl) h
section
variable {A B D : Option Addr} {n c m d k f vp vq ve : Nat} {w : World}
theorem factorMay_any (h : Nv w A n c vp) (b : Bool) (hb : b = true ↔ 3 ≤ vp ∧ nb vp ≤ 64) : Calls Tryd.prog 40 #[.slice A n c] w fun e w' => e = .returned (.bool b) ∧ Ext w w' := by
  have HN := Kp.mk h
  clear h
  obtain ⟨N, hN⟩ : ∃ N, nb vp = N := ⟨_, rfl⟩
  have HS := Kp.mk hN
  rw [hN] at hb
  by_cases h3 : 3 ≤ vp
  · obtain ⟨z, hz, z1⟩ := cmpI_up h3
    have H5 := Kp.mk hz
    by_cases h64 : N ≤ 64
    · obtain rfl : b = true := hb.2 ⟨h3, h64⟩
      have d1 : (N : Int) ≤ 64 := by omega
      clear hb hz h3 h64 hN
      go_enter Tryd.func40, Tryd.ntmps40
      go_wp2_with fail
      refine (CmpV (HN.out.ext (by (repeat (first | assumption | exact Ext.refl _ | apply Ext.drew | apply Ext.drewN | apply Ext.alloc | refine Ext.trans ?_ (by assumption))); first | done | fail)) (Nv.lit w 3 3 rfl (by decide) _ rfl) _ H5.out).mono ?_
      rintro e w2 ⟨rfl, x2⟩
      go_wp2_with fail
      refine (sizeOf_any (HN.out.ext (by (repeat (first | assumption | exact Ext.refl _ | apply Ext.drew | apply Ext.drewN | apply Ext.alloc | refine Ext.trans ?_ (by assumption))); first | done | fail))).mono ?_
      rintro e w3 ⟨rfl, rfl⟩
      rw [HS.out]
      have HX := Kp.mk (show Ext w w3 from (by (repeat (first | assumption | exact Ext.refl _ | apply Ext.drew | apply Ext.drewN | apply Ext.alloc | refine Ext.trans ?_ (by assumption))); first | done | fail))
      clear x2
      go_wp2_with fail
      go_ret
      exact ⟨rfl, HX.out⟩
    · obtain rfl : b = false := bool_no hb (by omega)
      have d1 : decide ((N : Int) ≤ 64) = false := decide_eq_false (by omega)
      clear hb hz h3 h64 hN
      go_enter Tryd.func40, Tryd.ntmps40
      go_wp2_with fail
      refine (CmpV (HN.out.ext (by (repeat (first | assumption | exact Ext.refl _ | apply Ext.drew | apply Ext.drewN | apply Ext.alloc | refine Ext.trans ?_ (by assumption))); first | done | fail)) (Nv.lit w 3 3 rfl (by decide) _ rfl) _ H5.out).mono ?_
      rintro e w2 ⟨rfl, x2⟩
      go_wp2_with fail
      refine (sizeOf_any (HN.out.ext (by (repeat (first | assumption | exact Ext.refl _ | apply Ext.drew | apply Ext.drewN | apply Ext.alloc | refine Ext.trans ?_ (by assumption))); first | done | fail))).mono ?_
      rintro e w3 ⟨rfl, rfl⟩
      rw [HS.out]
      have HX := Kp.mk (show Ext w w3 from (by (repeat (first | assumption | exact Ext.refl _ | apply Ext.drew | apply Ext.drewN | apply Ext.alloc | refine Ext.trans ?_ (by assumption))); first | done | fail))
      clear x2
      go_wp2_with fail
      go_ret
      exact ⟨rfl, HX.out⟩
  · obtain rfl : b = false := bool_no hb (by omega)
    have H5 := Kp.mk (cmpI_lt (show vp < 3 by omega))
    clear hb h3 hN
    go_enter Tryd.func40, Tryd.ntmps40
    go_wp2_with fail
    refine (CmpV (HN.out.ext (by (repeat (first | assumption | exact Ext.refl _ | apply Ext.drew | apply Ext.drewN | apply Ext.alloc | refine Ext.trans ?_ (by assumption))); first | done | fail)) (Nv.lit w 3 3 rfl (by decide) _ rfl) _ H5.out).mono ?_
    rintro e w2 ⟨rfl, x2⟩
    have HX := Kp.mk (show Ext w w2 from (by (repeat (first | assumption | exact Ext.refl _ | apply Ext.drew | apply Ext.drewN | apply Ext.alloc | refine Ext.trans ?_ (by assumption))); first | done | fail))
    clear x2
    go_wp2_with fail
    go_ret
    exact ⟨rfl, HX.out⟩
/-- a factor that may be -/
structure Fac (v : Nat) : Prop where
  lo : 3 ≤ v
  hi : nb v ≤ 64
theorem Fac.lt {v : Nat} (h : Fac v) : v < BB ^ 16 := nb_16 h.hi
theorem Fac.pred {v : Nat} (h : Fac v) : v - 1 < BB ^ 16 := Nat.lt_of_le_of_lt (Nat.sub_le _ _) h.lt
theorem Fac.mul {v u : Nat} (h : Fac v) (g : Fac u) : v * u < BB ^ 32 := lt_mul h.lt g.lt (by decide)
theorem Fac.round {v u : Nat} (h : Fac v) (g : Fac u) : (v - 1) * (u - 1) < BB ^ 32 := lt_mul h.pred g.pred (by decide)
theorem Fac.round2 {v u : Nat} (h : Fac v) (g : Fac u) : 2 ≤ (v - 1) * (u - 1) := by
  have h1 := h.lo
  have h2 := g.lo
  have : 2 * 2 ≤ (v - 1) * (u - 1) := Nat.mul_le_mul (by omega) (by omega)
  omega
set_option maxHeartbeats 1000000 in
theorem roundOf_any (hp : Nv w A n c vp) (hq : Nv w B m d vq) (fp : Fac vp) (fq : Fac vq) : Calls Tryd.prog 57 #[.slice A n c, .slice B m d] w (Ok1 w ((vp - 1) * (vq - 1))) := by
  have HP := Kp.mk hp
  have HQ := Kp.mk hq
  have FP := Kp.mk fp
  have FQ := Kp.mk fq
  have l1 : ¬ lng 1 := short_of (k := 1) (by decide) (by decide)
  clear hp hq fp fq
  go_enter Tryd.func57, Tryd.ntmps57
  go_wp2_with fail
  refine (SubV (HP.out.ext (by (repeat (first | assumption | exact Ext.refl _ | apply Ext.drew | apply Ext.drewN | apply Ext.alloc | refine Ext.trans ?_ (by assumption))); first | done | fail)) (Nv.lit w 1 1 rfl (by decide) _ rfl) (short_of FP.out.lt (by decide)) l1 (by have := FP.out.lo; omega)).mono ?_
  rintro e w2 ⟨A2, n2, c2, rfl, r2, x2⟩
  have N2 := Kp.mk (Nv.of r2 (short_of FP.out.pred (by decide)))
  clear r2
  go_wp2_with fail
  refine (SubV (HQ.out.ext (by (repeat (first | assumption | exact Ext.refl _ | apply Ext.drew | apply Ext.drewN | apply Ext.alloc | refine Ext.trans ?_ (by assumption))); first | done | fail)) (Nv.lit w2 1 1 rfl (by decide) _ rfl) (short_of FQ.out.lt (by decide)) l1 (by have := FQ.out.lo; omega)).mono ?_
  rintro e w3 ⟨A3, n3, c3, rfl, r3, x⟩
  have N3 := Kp.mk (Nv.of r3 (short_of FQ.out.pred (by decide)))
  have x3 := Ext.trans (show Ext w2 _ from (by (repeat (first | assumption | exact Ext.refl _ | apply Ext.drew | apply Ext.drewN | apply Ext.alloc | refine Ext.trans ?_ (by assumption))); first | done | fail)) x
  clear r3 x
  go_wp2_with fail
  refine (MulV (N2.out.ext (by (repeat (first | assumption | exact Ext.refl _ | apply Ext.drew | apply Ext.drewN | apply Ext.alloc | refine Ext.trans ?_ (by assumption))); first | done | fail)) (N3.out.ext (by (repeat (first | assumption | exact Ext.refl _ | apply Ext.drew | apply Ext.drewN | apply Ext.alloc | refine Ext.trans ?_ (by assumption))); first | done | fail)) (short_of FP.out.pred (by decide)) (short_of FQ.out.pred (by decide))).mono ?_
  rintro e w4 ⟨A4, n4, c4, rfl, r4, x4⟩
  have R4 := Kp.mk (r4.lower (show w.heap.size ≤ w3.heap.size from (show Ext w w3 from (by (repeat (first | assumption | exact Ext.refl _ | apply Ext.drew | apply Ext.drewN | apply Ext.alloc | refine Ext.trans ?_ (by assumption))); first | done | fail)).size))
  have HX := Kp.mk (show Ext w w4 from (by (repeat (first | assumption | exact Ext.refl _ | apply Ext.drew | apply Ext.drewN | apply Ext.alloc | refine Ext.trans ?_ (by assumption))); first | done | fail))
  clear x2 x3 x4 r4
  go_wp2_with fail
  go_ret2
  exact ⟨A4, n4, c4, rfl, R4.out, HX.out⟩
theorem szS : (Tryd.prog.info? 30).map (·.size) = some 3 := by kernel_rfl
theorem szP2 : (Tryd.prog.info? 25).map (·.size) = some 2 := by kernel_rfl
theorem one_three (A B D : Option Addr) (n c m d k f : Nat) : (#[Value.slice A n c, Value.slice B m d, Value.slice D k f]).all (·.oneCell') = true := by simp [Value.oneCell']
theorem one_two (A B : Option Addr) (n c m d : Nat) : (#[Value.slice A n c, Value.slice B m d]).all (·.oneCell') = true := by simp [Value.oneCell']
theorem Rw.rowfar {α : Type} {T : TypeId} {e : α → Value} {w : World} {B n g : Nat} {v : Value} {l : List α} (h : Rw T e w B v n l) (hg : g < B) (cs : Array Value) : Rw T e (w.setRow g cs) B v n l := by
  refine ⟨h.o.1, ?_⟩
  rcases h.o.2 with h2 | ⟨g', cap, cur, h1, h3, h4, h5⟩
  · exact .inl h2
  · exact .inr ⟨g', cap, cur, h1, h3, (setRow_other w g g' cs (by omega)).trans h4, h5⟩
/-- a result that lies in a block known whole, another beside it -/
theorem results_cell_row2 {P : Program} {fn : Func} {p u : Tmp} {ty : TypeId} (h : fn.results = #[.cell p ty, .tmp u]) (tmps : Array Value) (w : World) (g : Nat) (t : TypeId) (cs : Array Value) (v : Value) (d : TypeDesc)
    (hp : tmps.getD p undef = .pointer (some ⟨g, 0, none⟩)) (hv : tmps.getD u undef = v) (hg : Blk w g t cs)
    (hu : P.underlying ty = some d) (hd : (match d with | .struct _ | .array _ _ => true | _ => false) = true) (hi : (P.info? ty).map (·.size) = some cs.size) :
    (results fn tmps).run P w = .ok (.tuple #[.agg cs, v]) w := by
  rw [results_cell_tmp h, hp, hv]
  simp [asAddr, run_loadVar_row w g t ty cs (0, 0) d hg.h hu hd hi, Result.andThen]
/-- a key, and that there is none -/
def KeyR (w : World) (vn ve vd : Nat) (e : Ending) (w' : World) : Prop :=
  ∃ A n c B m d D k f, e = .returned (.tuple #[.agg #[.slice A n c, .slice B m d, .slice D k f], .nilIface]) ∧ Rw ut vL w' w.heap.size (.slice A n c) n (dgs BB vn) ∧ Rw ut vL w' w.heap.size (.slice B m d) m (dgs BB ve) ∧ Rw ut vL w' w.heap.size (.slice D k f) k (dgs BB vd) ∧ Ext w w'
def NoKey (w : World) (k : Int) (e : Ending) (w' : World) : Prop := e = .returned (.tuple #[.agg #[.slice none 0 0, .slice none 0 0, .slice none 0 0], err k]) ∧ Ext w w'
set_option maxHeartbeats 2000000 in
theorem paired_ok (hp : Nv w A n c vp) (hq : Nv w B m d vq) (he : Nv w D k f ve) (fp : Fac vp) (fq : Fac vq) (le : ¬ lng ve) (hg : Nat.gcd ((vp - 1) * (vq - 1)) ve = 1) :
    Calls Tryd.prog 41 #[.slice A n c, .slice B m d, .slice D k f] w (KeyR w (vp * vq) ve (invN ve ((vp - 1) * (vq - 1)))) := by
  have HP := Kp.mk hp
  have HQ := Kp.mk hq
  have HE := Kp.mk he
  have FP := Kp.mk fp
  have FQ := Kp.mk fq
  have LE := Kp.mk le
  have HG := Kp.mk hg
  clear hp hq he fp fq le hg
  go_enter Tryd.func41, Tryd.ntmps41
  go_wp2_with fail
  refine (MulV (HP.out.ext (by (repeat (first | assumption | exact Ext.refl _ | apply Ext.drew | apply Ext.drewN | apply Ext.alloc | refine Ext.trans ?_ (by assumption))); first | done | fail)) (HQ.out.ext (by (repeat (first | assumption | exact Ext.refl _ | apply Ext.drew | apply Ext.drewN | apply Ext.alloc | refine Ext.trans ?_ (by assumption))); first | done | fail)) (short_of FP.out.lt (by decide)) (short_of FQ.out.lt (by decide))).mono ?_
  rintro e w2 ⟨A2, n2, c2, rfl, r2, x2⟩
  have R2 := Kp.mk (r2.lower (show w.heap.size + 1 ≤ _ by simp))
  clear r2
  go_wp2_with fail
  refine (roundOf_any (HP.out.ext (by (repeat (first | assumption | exact Ext.refl _ | apply Ext.drew | apply Ext.drewN | apply Ext.alloc | refine Ext.trans ?_ (by assumption))); first | done | fail)) (HQ.out.ext (by (repeat (first | assumption | exact Ext.refl _ | apply Ext.drew | apply Ext.drewN | apply Ext.alloc | refine Ext.trans ?_ (by assumption))); first | done | fail)) FP.out FQ.out).mono ?_
  rintro e w3 ⟨A3, n3, c3, rfl, r3, x3⟩
  have N3 := Kp.mk (Nv.of r3 (short_of (FP.out.round FQ.out) (by decide)))
  clear r3
  go_wp2_with fail
  refine (InvV (HE.out.ext (by (repeat (first | assumption | exact Ext.refl _ | apply Ext.drew | apply Ext.drewN | apply Ext.alloc | refine Ext.trans ?_ (by assumption))); first | done | fail)) (N3.out.ext (by (repeat (first | assumption | exact Ext.refl _ | apply Ext.drew | apply Ext.drewN | apply Ext.alloc | refine Ext.trans ?_ (by assumption))); first | done | fail)) LE.out (short_of (FP.out.round FQ.out) (by decide)) (FP.out.round2 FQ.out)).mono ?_
  rintro e w4 (⟨_, A4, n4, c4, rfl, r4, x4⟩ | ⟨h, -⟩)
  rotate_left
  · exact absurd HG.out h
  have hsz := (show Ext (w.alloc (.cells #[.slice none 0 0, .slice none 0 0, .slice none 0 0] 30)) w2 from (by (repeat (first | assumption | exact Ext.refl _ | apply Ext.drew | apply Ext.drewN | apply Ext.alloc | refine Ext.trans ?_ (by assumption))); first | done | fail)).size
  have hsz2 := (show Ext w2 w3 from (by (repeat (first | assumption | exact Ext.refl _ | apply Ext.drew | apply Ext.drewN | apply Ext.alloc | refine Ext.trans ?_ (by assumption))); first | done | fail)).size
  have hsz3 := (show Ext w3 w4 from (by (repeat (first | assumption | exact Ext.refl _ | apply Ext.drew | apply Ext.drewN | apply Ext.alloc | refine Ext.trans ?_ (by assumption))); first | done | fail)).size
  have HSZ : Kp (w.heap.size + 1 ≤ w2.heap.size) := Kp.mk (by simpa using hsz)
  have R4 := Kp.mk (r4.lower (show w.heap.size + 1 ≤ w3.heap.size from Nat.le_trans HSZ.out hsz2))
  have HS4 := Kp.mk (Nat.le_trans HSZ.out (Nat.le_trans hsz2 hsz3))
  clear r4 hsz hsz2 hsz3
  go_wp2_with fail
  refine (AddV (HE.out.ext (by (repeat (first | assumption | exact Ext.refl _ | apply Ext.drew | apply Ext.drewN | apply Ext.alloc | refine Ext.trans ?_ (by assumption))); first | done | fail)) (Nv.nil w4) LE.out (short_of (k := 1) (by decide) (by decide))).mono ?_
  rintro e w5 ⟨A5, n5, c5, rfl, r5, x5⟩
  rw [Nat.add_zero] at r5
  have R5 := Kp.mk (r5.lower HS4.out)
  have R2' := Kp.mk (R2.out.ext (show Ext w2 w5 from (by (repeat (first | assumption | exact Ext.refl _ | apply Ext.drew | apply Ext.drewN | apply Ext.alloc | refine Ext.trans ?_ (by assumption))); first | done | fail)))
  have R4' := Kp.mk (R4.out.ext x5)
  have hb := Blk.new w 30 #[.slice none 0 0, .slice none 0 0, .slice none 0 0]
  have HB := Kp.mk (hb.ext (show Ext _ w5 from (by (repeat (first | assumption | exact Ext.refl _ | apply Ext.drew | apply Ext.drewN | apply Ext.alloc | refine Ext.trans ?_ (by assumption))); first | done | fail)))
  have HX := Kp.mk (show Ext w w5 from (by (repeat (first | assumption | exact Ext.refl _ | apply Ext.drew | apply Ext.drewN | apply Ext.alloc | refine Ext.trans ?_ (by assumption))); first | done | fail))
  clear x2 x3 x4 x5 r5 R2 R4 hb
  go_wp2_with (first | ((with_reducible refine at_store 6 55 ?_); refine wpList_store_row rfl 30 _ _ rfl w.heap.size #[.slice A2 n2 c2, .slice A5 n5 c5, .slice A4 n4 c4] rfl rfl 30 _ HB.out.h szS rfl (one_three _ _ _ _ _ _ _ _ _) ?_) | fail)
  have hx := HX.out.setRow (Nat.le_refl _) #[.slice A2 n2 c2, .slice A5 n5 c5, .slice A4 n4 c4]
  (try simp only [Exit.inBlock, Exit.then])
  refine bodyPost_ret (v := .tuple #[.agg #[.slice A2 n2 c2, .slice A5 n5 c5, .slice A4 n4 c4], .nilIface]) ?_ rfl ?_
  · exact results_cell_row2 rfl _ _ w.heap.size 30 _ _ _ rfl rfl (HB.out.row _) Tryd.underlying30 rfl szS
  have hl : w.heap.size ≤ w.heap.size + 1 := Nat.le_succ _
  exact ⟨_, _, _, _, _, _, _, _, _, rfl, (R2'.out.rowfar (Nat.lt_succ_self _) _).lower hl, (R5.out.rowfar (Nat.lt_succ_self _) _).lower hl, (R4'.out.rowfar (Nat.lt_succ_self _) _).lower hl, hx⟩
set_option maxHeartbeats 2000000 in
theorem paired_none (hp : Nv w A n c vp) (hq : Nv w B m d vq) (he : Nv w D k f ve) (fp : Fac vp) (fq : Fac vq) (le : ¬ lng ve) (hg : Nat.gcd ((vp - 1) * (vq - 1)) ve ≠ 1) :
    Calls Tryd.prog 41 #[.slice A n c, .slice B m d, .slice D k f] w (NoKey w 13) := by
  have HP := Kp.mk hp
  have HQ := Kp.mk hq
  have HE := Kp.mk he
  have FP := Kp.mk fp
  have FQ := Kp.mk fq
  have LE := Kp.mk le
  have HG := Kp.mk hg
  clear hp hq he fp fq le hg
  go_enter Tryd.func41, Tryd.ntmps41
  go_wp2_with fail
  refine (MulV (HP.out.ext (by (repeat (first | assumption | exact Ext.refl _ | apply Ext.drew | apply Ext.drewN | apply Ext.alloc | refine Ext.trans ?_ (by assumption))); first | done | fail)) (HQ.out.ext (by (repeat (first | assumption | exact Ext.refl _ | apply Ext.drew | apply Ext.drewN | apply Ext.alloc | refine Ext.trans ?_ (by assumption))); first | done | fail)) (short_of FP.out.lt (by decide)) (short_of FQ.out.lt (by decide))).mono ?_
  rintro e w2 ⟨A2, n2, c2, rfl, r2, x2⟩
  clear r2
  go_wp2_with fail
  refine (roundOf_any (HP.out.ext (by (repeat (first | assumption | exact Ext.refl _ | apply Ext.drew | apply Ext.drewN | apply Ext.alloc | refine Ext.trans ?_ (by assumption))); first | done | fail)) (HQ.out.ext (by (repeat (first | assumption | exact Ext.refl _ | apply Ext.drew | apply Ext.drewN | apply Ext.alloc | refine Ext.trans ?_ (by assumption))); first | done | fail)) FP.out FQ.out).mono ?_
  rintro e w3 ⟨A3, n3, c3, rfl, r3, x3⟩
  have N3 := Kp.mk (Nv.of r3 (short_of (FP.out.round FQ.out) (by decide)))
  clear r3
  go_wp2_with fail
  refine (InvV (HE.out.ext (by (repeat (first | assumption | exact Ext.refl _ | apply Ext.drew | apply Ext.drewN | apply Ext.alloc | refine Ext.trans ?_ (by assumption))); first | done | fail)) (N3.out.ext (by (repeat (first | assumption | exact Ext.refl _ | apply Ext.drew | apply Ext.drewN | apply Ext.alloc | refine Ext.trans ?_ (by assumption))); first | done | fail)) LE.out (short_of (FP.out.round FQ.out) (by decide)) (FP.out.round2 FQ.out)).mono ?_
  rintro e w4 (⟨h, -⟩ | ⟨_, rfl, x4⟩)
  · exact absurd h HG.out
  have hb := Blk.new w 30 #[.slice none 0 0, .slice none 0 0, .slice none 0 0]
  have HB := Kp.mk (hb.ext (show Ext _ w4 from (by (repeat (first | assumption | exact Ext.refl _ | apply Ext.drew | apply Ext.drewN | apply Ext.alloc | refine Ext.trans ?_ (by assumption))); first | done | fail)))
  have HX := Kp.mk (show Ext w w4 from (by (repeat (first | assumption | exact Ext.refl _ | apply Ext.drew | apply Ext.drewN | apply Ext.alloc | refine Ext.trans ?_ (by assumption))); first | done | fail))
  clear x2 x3 x4 hb
  go_wp2_with (first | ((with_reducible refine at_store 6 41 ?_); refine wpList_store_row rfl 30 _ _ rfl w.heap.size #[.slice none 0 0, .slice none 0 0, .slice none 0 0] rfl rfl 30 _ HB.out.h szS rfl (one_three _ _ _ _ _ _ _ _ _) ?_) | fail)
  have hx := HX.out.setRow (Nat.le_refl _) #[.slice none 0 0, .slice none 0 0, .slice none 0 0]
  (try simp only [Exit.inBlock, Exit.then])
  refine bodyPost_ret (v := .tuple #[.agg #[.slice none 0 0, .slice none 0 0, .slice none 0 0], err 13]) ?_ rfl ?_
  · exact results_cell_row2 rfl _ _ w.heap.size 30 _ _ _ rfl rfl (HB.out.row _) Tryd.underlying30 rfl szS
  exact ⟨rfl, hx⟩
end
end Go.Proofs.YticggkllfojgkaaDoor
namespace Go.Proofs.YticggkllfojgkaaDoor
open Go Go.RowKit
set_option maxRecDepth 4000

/-- the three that are looked at, one behind the other -/
structure Trio (w : World) (g : Nat) (A : Option Addr) (n c : Nat) (B : Option Addr) (m d : Nat) (D : Option Addr) (k f vp vq ve : Nat) : Prop where
  p : Nv w A n c vp
  q : Nv w B m d vq
  e : Nv w D k f ve
  b : ∃ t, Blk w g t #[.slice A n c, .slice B m d, .slice D k f]
theorem Trio.cells {w : World} {g : Nat} {A B D : Option Addr} {n c m d k f vp vq ve : Nat} (h : Trio w g A n c B m d D k f vp vq ve) : w.cell? ⟨g, 0, none⟩ = some (.slice A n c) ∧ w.cell? ⟨g, 1, none⟩ = some (.slice B m d) ∧ w.cell? ⟨g, 2, none⟩ = some (.slice D k f) := by
  obtain ⟨t, hb⟩ := h.b
  exact ⟨hb.h.cell 0, hb.h.cell 1, hb.h.cell 2⟩
section
variable {A B D : Option Addr} {n c m d k f vp vq ve : Nat} {w : World}
set_option maxHeartbeats 4000000 in
theorem Pair_long (hp : Nv w A n c vp) (hq : Nv w B m d vq) (he : Nv w D k f ve) (h : lng vp ∨ lng vq ∨ lng ve) : Calls Tryd.prog 24 #[.slice A n c, .slice B m d, .slice D k f] w (NoKey w 4) := by
  have hx : Ext w ((w.alloc (.cells #[.slice none 0 0, .slice none 0 0, .slice none 0 0] 30)).alloc (.cells #[.slice A n c, .slice B m d, .slice D k f] 23)) := (by (repeat (first | assumption | exact Ext.refl _ | apply Ext.drew | apply Ext.drewN | apply Ext.alloc | refine Ext.trans ?_ (by assumption))); first | done | fail)
  have HT := Kp.mk (show Trio ((w.alloc (.cells #[.slice none 0 0, .slice none 0 0, .slice none 0 0] 30)).alloc (.cells #[.slice A n c, .slice B m d, .slice D k f] 23)) (w.heap.size + 1) A n c B m d D k f vp vq ve from ⟨hp.ext hx, hq.ext hx, he.ext hx, _, by have h := Blk.new (w.alloc (.cells #[.slice none 0 0, .slice none 0 0, .slice none 0 0] 30)) 23 #[.slice A n c, .slice B m d, .slice D k f]; rwa [show (w.alloc (.cells #[.slice none 0 0, .slice none 0 0, .slice none 0 0] 30)).heap.size = w.heap.size + 1 by simp] at h⟩)
  have HB := Kp.mk ((Blk.new w 30 #[.slice none 0 0, .slice none 0 0, .slice none 0 0]).ext (show Ext _ ((w.alloc (.cells #[.slice none 0 0, .slice none 0 0, .slice none 0 0] 30)).alloc (.cells #[.slice A n c, .slice B m d, .slice D k f] 23)) from (by (repeat (first | assumption | exact Ext.refl _ | apply Ext.drew | apply Ext.drewN | apply Ext.alloc | refine Ext.trans ?_ (by assumption))); first | done | fail)))
  have HX := Kp.mk hx
  have hsz : ((w.alloc (.cells #[.slice none 0 0, .slice none 0 0, .slice none 0 0] 30)).alloc (.cells #[.slice A n c, .slice B m d, .slice D k f] 23)).heap.size = w.heap.size + 1 + 1 := by simp
  have HSZ := Kp.mk hsz
  clear hx hp hq he hsz
  rw [← nb_lng, ← nb_lng, ← nb_lng] at h
  obtain ⟨NP, hNP⟩ : ∃ N, nb vp = N := ⟨_, rfl⟩
  obtain ⟨NQ, hNQ⟩ : ∃ N, nb vq = N := ⟨_, rfl⟩
  obtain ⟨NE, hNE⟩ : ∃ N, nb ve = N := ⟨_, rfl⟩
  rw [hNP, hNQ, hNE] at h
  have HP := Kp.mk hNP
  have HQ := Kp.mk hNQ
  have HE := Kp.mk hNE
  clear hNP hNQ hNE
  go_enter Tryd.func24, Tryd.ntmps24
  go_wp2_with fail
  generalize (w.alloc (.cells #[.slice none 0 0, .slice none 0 0, .slice none 0 0] 30)).alloc (.cells #[.slice A n c, .slice B m d, .slice D k f] 23) = W at *
  have kc := HT.out.cells
  obtain ⟨k0, k1, k2⟩ := kc
  go_loopw [17] (fun iv wr => ∃ j : Nat, j ≤ 3 ∧ iv = .int .i64 j ∧ (0 < j → NP ≤ 256) ∧ (1 < j → NQ ≤ 256) ∧ (2 < j → NE ≤ 256) ∧ wr = W) (fun i _ => 3 - (intOf i).toNat)
  case atStart => exact ⟨0, by omega, rfl, by omega, by omega, by omega, rfl⟩
  case round =>
    obtain ⟨j, hj, rfl, g1, g2, g3, rfl⟩ := hrel
    have hj3 : j = 0 ∨ j = 1 ∨ j = 2 ∨ j = 3 := by omega
    rcases hj3 with rfl | rfl | rfl | rfl
    · by_cases hl : NP ≤ 256
      · have b1 : decide ((256 : Int) < (NP : Int)) = false := decide_eq_false (by omega)
        have b2 : decide (256 < NP) = false := decide_eq_false (by omega)
        go_wp2_with fail
        refine (sizeOf_any HT.out.p).mono ?_
        rintro e w1 ⟨rfl, rfl⟩
        rw [HP.out]
        go_wp2_with fail
        go_roundw
        case rel => exact ⟨1, by omega, rfl, fun _ => hl, by omega, by omega, trivial⟩
        case measure => simp [intOf]
      · have b1 : (256 : Int) < (NP : Int) := by omega
        have b2 : 256 < NP := by omega
        clear h g1 g2 g3 hl
        go_wp2_with fail
        refine (sizeOf_any HT.out.p).mono ?_
        rintro e w1 ⟨rfl, rfl⟩
        rw [HP.out]
        go_wp2_with (first | ((with_reducible refine at_store 6 24 ?_); refine wpList_store_row rfl 30 _ _ rfl w.heap.size #[.slice none 0 0, .slice none 0 0, .slice none 0 0] rfl rfl 30 _ HB.out.h szS rfl (one_three _ _ _ _ _ _ _ _ _) ?_) | fail)
        have hx := HX.out.setRow (Nat.le_refl _) #[.slice none 0 0, .slice none 0 0, .slice none 0 0]
        refine bodyPost_ret (v := .tuple #[.agg #[.slice none 0 0, .slice none 0 0, .slice none 0 0], err 4]) ?_ rfl ?_
        · exact results_cell_row2 rfl _ _ w.heap.size 30 _ _ _ rfl rfl (HB.out.row _) Tryd.underlying30 rfl szS
        exact ⟨rfl, hx⟩
    · by_cases hl : NQ ≤ 256
      · have b1 : decide ((256 : Int) < (NQ : Int)) = false := decide_eq_false (by omega)
        have b2 : decide (256 < NQ) = false := decide_eq_false (by omega)
        go_wp2_with fail
        refine (sizeOf_any HT.out.q).mono ?_
        rintro e w1 ⟨rfl, rfl⟩
        rw [HQ.out]
        go_wp2_with fail
        go_roundw
        case rel => exact ⟨2, by omega, rfl, fun _ => g1 (by omega), fun _ => hl, by omega, trivial⟩
        case measure => simp [intOf]
      · have b1 : (256 : Int) < (NQ : Int) := by omega
        have b2 : 256 < NQ := by omega
        clear h g1 g2 g3 hl
        go_wp2_with fail
        refine (sizeOf_any HT.out.q).mono ?_
        rintro e w1 ⟨rfl, rfl⟩
        rw [HQ.out]
        go_wp2_with (first | ((with_reducible refine at_store 6 24 ?_); refine wpList_store_row rfl 30 _ _ rfl w.heap.size #[.slice none 0 0, .slice none 0 0, .slice none 0 0] rfl rfl 30 _ HB.out.h szS rfl (one_three _ _ _ _ _ _ _ _ _) ?_) | fail)
        have hx := HX.out.setRow (Nat.le_refl _) #[.slice none 0 0, .slice none 0 0, .slice none 0 0]
        refine bodyPost_ret (v := .tuple #[.agg #[.slice none 0 0, .slice none 0 0, .slice none 0 0], err 4]) ?_ rfl ?_
        · exact results_cell_row2 rfl _ _ w.heap.size 30 _ _ _ rfl rfl (HB.out.row _) Tryd.underlying30 rfl szS
        exact ⟨rfl, hx⟩
    · by_cases hl : NE ≤ 256
      · have b1 : decide ((256 : Int) < (NE : Int)) = false := decide_eq_false (by omega)
        have b2 : decide (256 < NE) = false := decide_eq_false (by omega)
        go_wp2_with fail
        refine (sizeOf_any HT.out.e).mono ?_
        rintro e w1 ⟨rfl, rfl⟩
        rw [HE.out]
        go_wp2_with fail
        go_roundw
        case rel => exact ⟨3, by omega, rfl, fun _ => g1 (by omega), fun _ => g2 (by omega), fun _ => hl, trivial⟩
        case measure => simp [intOf]
      · have b1 : (256 : Int) < (NE : Int) := by omega
        have b2 : 256 < NE := by omega
        clear h g1 g2 g3 hl
        go_wp2_with fail
        refine (sizeOf_any HT.out.e).mono ?_
        rintro e w1 ⟨rfl, rfl⟩
        rw [HE.out]
        go_wp2_with (first | ((with_reducible refine at_store 6 24 ?_); refine wpList_store_row rfl 30 _ _ rfl w.heap.size #[.slice none 0 0, .slice none 0 0, .slice none 0 0] rfl rfl 30 _ HB.out.h szS rfl (one_three _ _ _ _ _ _ _ _ _) ?_) | fail)
        have hx := HX.out.setRow (Nat.le_refl _) #[.slice none 0 0, .slice none 0 0, .slice none 0 0]
        refine bodyPost_ret (v := .tuple #[.agg #[.slice none 0 0, .slice none 0 0, .slice none 0 0], err 4]) ?_ rfl ?_
        · exact results_cell_row2 rfl _ _ w.heap.size 30 _ _ _ rfl rfl (HB.out.row _) Tryd.underlying30 rfl szS
        exact ⟨rfl, hx⟩
    · exfalso
      have := g1 (by omega)
      have := g2 (by omega)
      have := g3 (by omega)
      omega
set_option maxHeartbeats 4000000 in
theorem Pair_facp (hp : Nv w A n c vp) (hq : Nv w B m d vq) (he : Nv w D k f ve) (sp : ¬ lng vp) (sq : ¬ lng vq) (se : ¬ lng ve) (h : ¬ Fac vp) : Calls Tryd.prog 24 #[.slice A n c, .slice B m d, .slice D k f] w (NoKey w 1) := by
  have hx : Ext w ((w.alloc (.cells #[.slice none 0 0, .slice none 0 0, .slice none 0 0] 30)).alloc (.cells #[.slice A n c, .slice B m d, .slice D k f] 23)) := (by (repeat (first | assumption | exact Ext.refl _ | apply Ext.drew | apply Ext.drewN | apply Ext.alloc | refine Ext.trans ?_ (by assumption))); first | done | fail)
  have HT := Kp.mk (show Trio ((w.alloc (.cells #[.slice none 0 0, .slice none 0 0, .slice none 0 0] 30)).alloc (.cells #[.slice A n c, .slice B m d, .slice D k f] 23)) (w.heap.size + 1) A n c B m d D k f vp vq ve from ⟨hp.ext hx, hq.ext hx, he.ext hx, _, by have h := Blk.new (w.alloc (.cells #[.slice none 0 0, .slice none 0 0, .slice none 0 0] 30)) 23 #[.slice A n c, .slice B m d, .slice D k f]; rwa [show (w.alloc (.cells #[.slice none 0 0, .slice none 0 0, .slice none 0 0] 30)).heap.size = w.heap.size + 1 by simp] at h⟩)
  have HB := Kp.mk ((Blk.new w 30 #[.slice none 0 0, .slice none 0 0, .slice none 0 0]).ext (show Ext _ ((w.alloc (.cells #[.slice none 0 0, .slice none 0 0, .slice none 0 0] 30)).alloc (.cells #[.slice A n c, .slice B m d, .slice D k f] 23)) from (by (repeat (first | assumption | exact Ext.refl _ | apply Ext.drew | apply Ext.drewN | apply Ext.alloc | refine Ext.trans ?_ (by assumption))); first | done | fail)))
  have HX := Kp.mk hx
  have hsz : ((w.alloc (.cells #[.slice none 0 0, .slice none 0 0, .slice none 0 0] 30)).alloc (.cells #[.slice A n c, .slice B m d, .slice D k f] 23)).heap.size = w.heap.size + 1 + 1 := by simp
  have HSZ := Kp.mk hsz
  clear hx hp hq he hsz
  rw [← nb_lng] at sp sq
  have SE := Kp.mk se
  rw [← nb_lng] at se
  obtain ⟨NP, hNP⟩ : ∃ N, nb vp = N := ⟨_, rfl⟩
  obtain ⟨NQ, hNQ⟩ : ∃ N, nb vq = N := ⟨_, rfl⟩
  obtain ⟨NE, hNE⟩ : ∃ N, nb ve = N := ⟨_, rfl⟩
  rw [hNP] at sp
  rw [hNQ] at sq
  rw [hNE] at se
  have HP := Kp.mk hNP
  have HQ := Kp.mk hNQ
  have HE := Kp.mk hNE
  clear hNP hNQ hNE
  have H := Kp.mk h
  clear h
  go_enter Tryd.func24, Tryd.ntmps24
  go_wp2_with fail
  generalize (w.alloc (.cells #[.slice none 0 0, .slice none 0 0, .slice none 0 0] 30)).alloc (.cells #[.slice A n c, .slice B m d, .slice D k f] 23) = W at *
  have kc := HT.out.cells
  go_loopw [17] (fun iv wr => ∃ j : Nat, j ≤ 3 ∧ iv = .int .i64 j ∧ wr = W) (fun i _ => 3 - (intOf i).toNat)
  case atStart => exact ⟨0, by omega, rfl, rfl⟩
  case round =>
    obtain ⟨j, hj, rfl, rfl⟩ := hrel
    have hj3 : j = 0 ∨ j = 1 ∨ j = 2 ∨ j = 3 := by omega
    rcases hj3 with rfl | rfl | rfl | rfl
    · obtain ⟨k0, k1, k2⟩ := kc
      have b1 : decide ((256 : Int) < (NP : Int)) = false := decide_eq_false (by omega)
      have b2 : decide (256 < NP) = false := decide_eq_false (by omega)
      clear sp sq se
      go_wp2_with fail
      refine (sizeOf_any HT.out.p).mono ?_
      rintro e w1 ⟨rfl, rfl⟩
      rw [HP.out]
      go_wp2_with fail
      go_roundw
      case rel => exact ⟨1, by omega, rfl, trivial⟩
      case measure => simp [intOf]
    · obtain ⟨k0, k1, k2⟩ := kc
      have b1 : decide ((256 : Int) < (NQ : Int)) = false := decide_eq_false (by omega)
      have b2 : decide (256 < NQ) = false := decide_eq_false (by omega)
      clear sp sq se
      go_wp2_with fail
      refine (sizeOf_any HT.out.q).mono ?_
      rintro e w1 ⟨rfl, rfl⟩
      rw [HQ.out]
      go_wp2_with fail
      go_roundw
      case rel => exact ⟨2, by omega, rfl, trivial⟩
      case measure => simp [intOf]
    · obtain ⟨k0, k1, k2⟩ := kc
      have b1 : decide ((256 : Int) < (NE : Int)) = false := decide_eq_false (by omega)
      have b2 : decide (256 < NE) = false := decide_eq_false (by omega)
      clear sp sq se
      go_wp2_with fail
      refine (sizeOf_any HT.out.e).mono ?_
      rintro e w1 ⟨rfl, rfl⟩
      rw [HE.out]
      go_wp2_with fail
      go_roundw
      case rel => exact ⟨3, by omega, rfl, trivial⟩
      case measure => simp [intOf]
    · clear sp sq se kc hj
      go_wp2_with fail
      refine (factorMay_any (HT.out.p.ext (by (repeat (first | assumption | exact Ext.refl _ | apply Ext.drew | apply Ext.drewN | apply Ext.alloc | refine Ext.trans ?_ (by assumption))); first | done | fail)) false ⟨(fun h => nomatch h), fun h => absurd (Fac.mk h.1 h.2) H.out⟩).mono ?_
      rintro e w2 ⟨rfl, x2⟩
      have HXX := Kp.mk x2
      clear x2
      go_wp2_with (first | ((with_reducible refine at_store 6 35 ?_); refine wpList_store_row rfl 30 _ _ rfl w.heap.size #[.slice none 0 0, .slice none 0 0, .slice none 0 0] rfl rfl 30 _ (HB.out.ext HXX.out).h szS rfl (one_three _ _ _ _ _ _ _ _ _) ?_) | fail)
      have hx := (HX.out.trans HXX.out).setRow (Nat.le_refl _) #[.slice none 0 0, .slice none 0 0, .slice none 0 0]
      refine bodyPost_ret (v := .tuple #[.agg #[.slice none 0 0, .slice none 0 0, .slice none 0 0], err 1]) ?_ rfl ?_
      · exact results_cell_row2 rfl _ _ w.heap.size 30 _ _ _ rfl rfl ((HB.out.ext HXX.out).row _) Tryd.underlying30 rfl szS
      exact ⟨rfl, hx⟩
set_option maxHeartbeats 4000000 in
theorem Pair_facq (hp : Nv w A n c vp) (hq : Nv w B m d vq) (he : Nv w D k f ve) (sp : ¬ lng vp) (sq : ¬ lng vq) (se : ¬ lng ve) (fp : Fac vp) (h : ¬ Fac vq) : Calls Tryd.prog 24 #[.slice A n c, .slice B m d, .slice D k f] w (NoKey w 1) := by
  have hx : Ext w ((w.alloc (.cells #[.slice none 0 0, .slice none 0 0, .slice none 0 0] 30)).alloc (.cells #[.slice A n c, .slice B m d, .slice D k f] 23)) := (by (repeat (first | assumption | exact Ext.refl _ | apply Ext.drew | apply Ext.drewN | apply Ext.alloc | refine Ext.trans ?_ (by assumption))); first | done | fail)
  have HT := Kp.mk (show Trio ((w.alloc (.cells #[.slice none 0 0, .slice none 0 0, .slice none 0 0] 30)).alloc (.cells #[.slice A n c, .slice B m d, .slice D k f] 23)) (w.heap.size + 1) A n c B m d D k f vp vq ve from ⟨hp.ext hx, hq.ext hx, he.ext hx, _, by have h := Blk.new (w.alloc (.cells #[.slice none 0 0, .slice none 0 0, .slice none 0 0] 30)) 23 #[.slice A n c, .slice B m d, .slice D k f]; rwa [show (w.alloc (.cells #[.slice none 0 0, .slice none 0 0, .slice none 0 0] 30)).heap.size = w.heap.size + 1 by simp] at h⟩)
  have HB := Kp.mk ((Blk.new w 30 #[.slice none 0 0, .slice none 0 0, .slice none 0 0]).ext (show Ext _ ((w.alloc (.cells #[.slice none 0 0, .slice none 0 0, .slice none 0 0] 30)).alloc (.cells #[.slice A n c, .slice B m d, .slice D k f] 23)) from (by (repeat (first | assumption | exact Ext.refl _ | apply Ext.drew | apply Ext.drewN | apply Ext.alloc | refine Ext.trans ?_ (by assumption))); first | done | fail)))
  have HX := Kp.mk hx
  have hsz : ((w.alloc (.cells #[.slice none 0 0, .slice none 0 0, .slice none 0 0] 30)).alloc (.cells #[.slice A n c, .slice B m d, .slice D k f] 23)).heap.size = w.heap.size + 1 + 1 := by simp
  have HSZ := Kp.mk hsz
  clear hx hp hq he hsz
  rw [← nb_lng] at sp sq
  have SE := Kp.mk se
  rw [← nb_lng] at se
  obtain ⟨NP, hNP⟩ : ∃ N, nb vp = N := ⟨_, rfl⟩
  obtain ⟨NQ, hNQ⟩ : ∃ N, nb vq = N := ⟨_, rfl⟩
  obtain ⟨NE, hNE⟩ : ∃ N, nb ve = N := ⟨_, rfl⟩
  rw [hNP] at sp
  rw [hNQ] at sq
  rw [hNE] at se
  have HP := Kp.mk hNP
  have HQ := Kp.mk hNQ
  have HE := Kp.mk hNE
  clear hNP hNQ hNE
  have FP := Kp.mk fp
  have H := Kp.mk h
  clear h fp
  go_enter Tryd.func24, Tryd.ntmps24
  go_wp2_with fail
  generalize (w.alloc (.cells #[.slice none 0 0, .slice none 0 0, .slice none 0 0] 30)).alloc (.cells #[.slice A n c, .slice B m d, .slice D k f] 23) = W at *
  have kc := HT.out.cells
  go_loopw [17] (fun iv wr => ∃ j : Nat, j ≤ 3 ∧ iv = .int .i64 j ∧ wr = W) (fun i _ => 3 - (intOf i).toNat)
  case atStart => exact ⟨0, by omega, rfl, rfl⟩
  case round =>
    obtain ⟨j, hj, rfl, rfl⟩ := hrel
    have hj3 : j = 0 ∨ j = 1 ∨ j = 2 ∨ j = 3 := by omega
    rcases hj3 with rfl | rfl | rfl | rfl
    · obtain ⟨k0, k1, k2⟩ := kc
      have b1 : decide ((256 : Int) < (NP : Int)) = false := decide_eq_false (by omega)
      have b2 : decide (256 < NP) = false := decide_eq_false (by omega)
      clear sp sq se
      go_wp2_with fail
      refine (sizeOf_any HT.out.p).mono ?_
      rintro e w1 ⟨rfl, rfl⟩
      rw [HP.out]
      go_wp2_with fail
      go_roundw
      case rel => exact ⟨1, by omega, rfl, trivial⟩
      case measure => simp [intOf]
    · obtain ⟨k0, k1, k2⟩ := kc
      have b1 : decide ((256 : Int) < (NQ : Int)) = false := decide_eq_false (by omega)
      have b2 : decide (256 < NQ) = false := decide_eq_false (by omega)
      clear sp sq se
      go_wp2_with fail
      refine (sizeOf_any HT.out.q).mono ?_
      rintro e w1 ⟨rfl, rfl⟩
      rw [HQ.out]
      go_wp2_with fail
      go_roundw
      case rel => exact ⟨2, by omega, rfl, trivial⟩
      case measure => simp [intOf]
    · obtain ⟨k0, k1, k2⟩ := kc
      have b1 : decide ((256 : Int) < (NE : Int)) = false := decide_eq_false (by omega)
      have b2 : decide (256 < NE) = false := decide_eq_false (by omega)
      clear sp sq se
      go_wp2_with fail
      refine (sizeOf_any HT.out.e).mono ?_
      rintro e w1 ⟨rfl, rfl⟩
      rw [HE.out]
      go_wp2_with fail
      go_roundw
      case rel => exact ⟨3, by omega, rfl, trivial⟩
      case measure => simp [intOf]
    · clear sp sq se kc hj
      go_wp2_with fail
      refine (factorMay_any (HT.out.p.ext (by (repeat (first | assumption | exact Ext.refl _ | apply Ext.drew | apply Ext.drewN | apply Ext.alloc | refine Ext.trans ?_ (by assumption))); first | done | fail)) true (by simp [FP.out.lo, FP.out.hi])).mono ?_
      rintro e w2 ⟨rfl, x2⟩
      go_wp2_with fail
      refine (factorMay_any (HT.out.q.ext (by (repeat (first | assumption | exact Ext.refl _ | apply Ext.drew | apply Ext.drewN | apply Ext.alloc | refine Ext.trans ?_ (by assumption))); first | done | fail)) false ⟨(fun h => nomatch h), fun h => absurd (Fac.mk h.1 h.2) H.out⟩).mono ?_
      rintro e w3 ⟨rfl, x3⟩
      have HXX := Kp.mk (x2.trans x3)
      clear x2 x3
      go_wp2_with (first | ((with_reducible refine at_store 6 35 ?_); refine wpList_store_row rfl 30 _ _ rfl w.heap.size #[.slice none 0 0, .slice none 0 0, .slice none 0 0] rfl rfl 30 _ (HB.out.ext HXX.out).h szS rfl (one_three _ _ _ _ _ _ _ _ _) ?_) | fail)
      have hx := (HX.out.trans HXX.out).setRow (Nat.le_refl _) #[.slice none 0 0, .slice none 0 0, .slice none 0 0]
      refine bodyPost_ret (v := .tuple #[.agg #[.slice none 0 0, .slice none 0 0, .slice none 0 0], err 1]) ?_ rfl ?_
      · exact results_cell_row2 rfl _ _ w.heap.size 30 _ _ _ rfl rfl ((HB.out.ext HXX.out).row _) Tryd.underlying30 rfl szS
      exact ⟨rfl, hx⟩
set_option maxHeartbeats 4000000 in
theorem Pair_none (hp : Nv w A n c vp) (hq : Nv w B m d vq) (he : Nv w D k f ve) (sp : ¬ lng vp) (sq : ¬ lng vq) (se : ¬ lng ve) (fp : Fac vp) (fq : Fac vq) (hg : Nat.gcd ((vp - 1) * (vq - 1)) ve ≠ 1) : Calls Tryd.prog 24 #[.slice A n c, .slice B m d, .slice D k f] w (NoKey w 13) := by
  have hx : Ext w ((w.alloc (.cells #[.slice none 0 0, .slice none 0 0, .slice none 0 0] 30)).alloc (.cells #[.slice A n c, .slice B m d, .slice D k f] 23)) := (by (repeat (first | assumption | exact Ext.refl _ | apply Ext.drew | apply Ext.drewN | apply Ext.alloc | refine Ext.trans ?_ (by assumption))); first | done | fail)
  have HT := Kp.mk (show Trio ((w.alloc (.cells #[.slice none 0 0, .slice none 0 0, .slice none 0 0] 30)).alloc (.cells #[.slice A n c, .slice B m d, .slice D k f] 23)) (w.heap.size + 1) A n c B m d D k f vp vq ve from ⟨hp.ext hx, hq.ext hx, he.ext hx, _, by have h := Blk.new (w.alloc (.cells #[.slice none 0 0, .slice none 0 0, .slice none 0 0] 30)) 23 #[.slice A n c, .slice B m d, .slice D k f]; rwa [show (w.alloc (.cells #[.slice none 0 0, .slice none 0 0, .slice none 0 0] 30)).heap.size = w.heap.size + 1 by simp] at h⟩)
  have HB := Kp.mk ((Blk.new w 30 #[.slice none 0 0, .slice none 0 0, .slice none 0 0]).ext (show Ext _ ((w.alloc (.cells #[.slice none 0 0, .slice none 0 0, .slice none 0 0] 30)).alloc (.cells #[.slice A n c, .slice B m d, .slice D k f] 23)) from (by (repeat (first | assumption | exact Ext.refl _ | apply Ext.drew | apply Ext.drewN | apply Ext.alloc | refine Ext.trans ?_ (by assumption))); first | done | fail)))
  have HX := Kp.mk hx
  have hsz : ((w.alloc (.cells #[.slice none 0 0, .slice none 0 0, .slice none 0 0] 30)).alloc (.cells #[.slice A n c, .slice B m d, .slice D k f] 23)).heap.size = w.heap.size + 1 + 1 := by simp
  have HSZ := Kp.mk hsz
  clear hx hp hq he hsz
  rw [← nb_lng] at sp sq
  have SE := Kp.mk se
  rw [← nb_lng] at se
  obtain ⟨NP, hNP⟩ : ∃ N, nb vp = N := ⟨_, rfl⟩
  obtain ⟨NQ, hNQ⟩ : ∃ N, nb vq = N := ⟨_, rfl⟩
  obtain ⟨NE, hNE⟩ : ∃ N, nb ve = N := ⟨_, rfl⟩
  rw [hNP] at sp
  rw [hNQ] at sq
  rw [hNE] at se
  have HP := Kp.mk hNP
  have HQ := Kp.mk hNQ
  have HE := Kp.mk hNE
  clear hNP hNQ hNE
  have FP := Kp.mk fp
  have FQ := Kp.mk fq
  have HG := Kp.mk hg
  clear fp fq hg
  go_enter Tryd.func24, Tryd.ntmps24
  go_wp2_with fail
  generalize (w.alloc (.cells #[.slice none 0 0, .slice none 0 0, .slice none 0 0] 30)).alloc (.cells #[.slice A n c, .slice B m d, .slice D k f] 23) = W at *
  have kc := HT.out.cells
  go_loopw [17] (fun iv wr => ∃ j : Nat, j ≤ 3 ∧ iv = .int .i64 j ∧ wr = W) (fun i _ => 3 - (intOf i).toNat)
  case atStart => exact ⟨0, by omega, rfl, rfl⟩
  case round =>
    obtain ⟨j, hj, rfl, rfl⟩ := hrel
    have hj3 : j = 0 ∨ j = 1 ∨ j = 2 ∨ j = 3 := by omega
    rcases hj3 with rfl | rfl | rfl | rfl
    · obtain ⟨k0, k1, k2⟩ := kc
      have b1 : decide ((256 : Int) < (NP : Int)) = false := decide_eq_false (by omega)
      have b2 : decide (256 < NP) = false := decide_eq_false (by omega)
      clear sp sq se
      go_wp2_with fail
      refine (sizeOf_any HT.out.p).mono ?_
      rintro e w1 ⟨rfl, rfl⟩
      rw [HP.out]
      go_wp2_with fail
      go_roundw
      case rel => exact ⟨1, by omega, rfl, trivial⟩
      case measure => simp [intOf]
    · obtain ⟨k0, k1, k2⟩ := kc
      have b1 : decide ((256 : Int) < (NQ : Int)) = false := decide_eq_false (by omega)
      have b2 : decide (256 < NQ) = false := decide_eq_false (by omega)
      clear sp sq se
      go_wp2_with fail
      refine (sizeOf_any HT.out.q).mono ?_
      rintro e w1 ⟨rfl, rfl⟩
      rw [HQ.out]
      go_wp2_with fail
      go_roundw
      case rel => exact ⟨2, by omega, rfl, trivial⟩
      case measure => simp [intOf]
    · obtain ⟨k0, k1, k2⟩ := kc
      have b1 : decide ((256 : Int) < (NE : Int)) = false := decide_eq_false (by omega)
      have b2 : decide (256 < NE) = false := decide_eq_false (by omega)
      clear sp sq se
      go_wp2_with fail
      refine (sizeOf_any HT.out.e).mono ?_
      rintro e w1 ⟨rfl, rfl⟩
      rw [HE.out]
      go_wp2_with fail
      go_roundw
      case rel => exact ⟨3, by omega, rfl, trivial⟩
      case measure => simp [intOf]
    · clear sp sq se kc hj
      go_wp2_with fail
      refine (factorMay_any (HT.out.p.ext (by (repeat (first | assumption | exact Ext.refl _ | apply Ext.drew | apply Ext.drewN | apply Ext.alloc | refine Ext.trans ?_ (by assumption))); first | done | fail)) true (by simp [FP.out.lo, FP.out.hi])).mono ?_
      rintro e w2 ⟨rfl, x2⟩
      go_wp2_with fail
      refine (factorMay_any (HT.out.q.ext (by (repeat (first | assumption | exact Ext.refl _ | apply Ext.drew | apply Ext.drewN | apply Ext.alloc | refine Ext.trans ?_ (by assumption))); first | done | fail)) true (by simp [FQ.out.lo, FQ.out.hi])).mono ?_
      rintro e w3 ⟨rfl, x3⟩
      go_wp2_with fail
      refine (paired_none (HT.out.p.ext (by (repeat (first | assumption | exact Ext.refl _ | apply Ext.drew | apply Ext.drewN | apply Ext.alloc | refine Ext.trans ?_ (by assumption))); first | done | fail)) (HT.out.q.ext (by (repeat (first | assumption | exact Ext.refl _ | apply Ext.drew | apply Ext.drewN | apply Ext.alloc | refine Ext.trans ?_ (by assumption))); first | done | fail)) (HT.out.e.ext (by (repeat (first | assumption | exact Ext.refl _ | apply Ext.drew | apply Ext.drewN | apply Ext.alloc | refine Ext.trans ?_ (by assumption))); first | done | fail)) FP.out FQ.out SE.out HG.out).mono ?_
      rintro e w4 ⟨rfl, x4⟩
      have hb5 := Blk.new w4 30 #[.slice none 0 0, .slice none 0 0, .slice none 0 0]
      have HXX := Kp.mk (show Ext wr (w4.alloc (.cells #[.slice none 0 0, .slice none 0 0, .slice none 0 0] 30)) from (by (repeat (first | assumption | exact Ext.refl _ | apply Ext.drew | apply Ext.drewN | apply Ext.alloc | refine Ext.trans ?_ (by assumption))); first | done | fail))
      clear x2 x3 x4 hb5
      go_wp2_with (first | ((with_reducible refine at_store 6 46 ?_); refine wpList_store_row rfl 30 _ _ rfl w.heap.size #[.slice none 0 0, .slice none 0 0, .slice none 0 0] rfl rfl 30 _ (HB.out.ext HXX.out).h szS rfl (one_three _ _ _ _ _ _ _ _ _) ?_) | fail)
      have hx := (HX.out.trans HXX.out).setRow (Nat.le_refl _) #[.slice none 0 0, .slice none 0 0, .slice none 0 0]
      refine bodyPost_ret (v := .tuple #[.agg #[.slice none 0 0, .slice none 0 0, .slice none 0 0], err 13]) ?_ rfl ?_
      · exact results_cell_row2 rfl _ _ w.heap.size 30 _ _ _ rfl rfl ((HB.out.ext HXX.out).row _) Tryd.underlying30 rfl szS
      exact ⟨rfl, hx⟩
set_option maxHeartbeats 4000000 in
theorem Pair_amiss (hp : Nv w A n c vp) (hq : Nv w B m d vq) (he : Nv w D k f ve) (sp : ¬ lng vp) (sq : ¬ lng vq) (se : ¬ lng ve) (fp : Fac vp) (fq : Fac vq) (hg : Nat.gcd ((vp - 1) * (vq - 1)) ve = 1) (hk : ¬ PubOk (vp * vq) ve) : Calls Tryd.prog 24 #[.slice A n c, .slice B m d, .slice D k f] w (NoKey w 1) := by
  have hx : Ext w ((w.alloc (.cells #[.slice none 0 0, .slice none 0 0, .slice none 0 0] 30)).alloc (.cells #[.slice A n c, .slice B m d, .slice D k f] 23)) := (by (repeat (first | assumption | exact Ext.refl _ | apply Ext.drew | apply Ext.drewN | apply Ext.alloc | refine Ext.trans ?_ (by assumption))); first | done | fail)
  have HT := Kp.mk (show Trio ((w.alloc (.cells #[.slice none 0 0, .slice none 0 0, .slice none 0 0] 30)).alloc (.cells #[.slice A n c, .slice B m d, .slice D k f] 23)) (w.heap.size + 1) A n c B m d D k f vp vq ve from ⟨hp.ext hx, hq.ext hx, he.ext hx, _, by have h := Blk.new (w.alloc (.cells #[.slice none 0 0, .slice none 0 0, .slice none 0 0] 30)) 23 #[.slice A n c, .slice B m d, .slice D k f]; rwa [show (w.alloc (.cells #[.slice none 0 0, .slice none 0 0, .slice none 0 0] 30)).heap.size = w.heap.size + 1 by simp] at h⟩)
  have HB := Kp.mk ((Blk.new w 30 #[.slice none 0 0, .slice none 0 0, .slice none 0 0]).ext (show Ext _ ((w.alloc (.cells #[.slice none 0 0, .slice none 0 0, .slice none 0 0] 30)).alloc (.cells #[.slice A n c, .slice B m d, .slice D k f] 23)) from (by (repeat (first | assumption | exact Ext.refl _ | apply Ext.drew | apply Ext.drewN | apply Ext.alloc | refine Ext.trans ?_ (by assumption))); first | done | fail)))
  have HX := Kp.mk hx
  have hsz : ((w.alloc (.cells #[.slice none 0 0, .slice none 0 0, .slice none 0 0] 30)).alloc (.cells #[.slice A n c, .slice B m d, .slice D k f] 23)).heap.size = w.heap.size + 1 + 1 := by simp
  have HSZ := Kp.mk hsz
  clear hx hp hq he hsz
  rw [← nb_lng] at sp sq
  have SE := Kp.mk se
  rw [← nb_lng] at se
  obtain ⟨NP, hNP⟩ : ∃ N, nb vp = N := ⟨_, rfl⟩
  obtain ⟨NQ, hNQ⟩ : ∃ N, nb vq = N := ⟨_, rfl⟩
  obtain ⟨NE, hNE⟩ : ∃ N, nb ve = N := ⟨_, rfl⟩
  rw [hNP] at sp
  rw [hNQ] at sq
  rw [hNE] at se
  have HP := Kp.mk hNP
  have HQ := Kp.mk hNQ
  have HE := Kp.mk hNE
  clear hNP hNQ hNE
  have FP := Kp.mk fp
  have FQ := Kp.mk fq
  have HG := Kp.mk hg
  clear fp fq hg
  have HK := Kp.mk hk
  clear hk
  go_enter Tryd.func24, Tryd.ntmps24
  go_wp2_with fail
  generalize (w.alloc (.cells #[.slice none 0 0, .slice none 0 0, .slice none 0 0] 30)).alloc (.cells #[.slice A n c, .slice B m d, .slice D k f] 23) = W at *
  have kc := HT.out.cells
  go_loopw [17] (fun iv wr => ∃ j : Nat, j ≤ 3 ∧ iv = .int .i64 j ∧ wr = W) (fun i _ => 3 - (intOf i).toNat)
  case atStart => exact ⟨0, by omega, rfl, rfl⟩
  case round =>
    obtain ⟨j, hj, rfl, rfl⟩ := hrel
    have hj3 : j = 0 ∨ j = 1 ∨ j = 2 ∨ j = 3 := by omega
    rcases hj3 with rfl | rfl | rfl | rfl
    · obtain ⟨k0, k1, k2⟩ := kc
      have b1 : decide ((256 : Int) < (NP : Int)) = false := decide_eq_false (by omega)
      have b2 : decide (256 < NP) = false := decide_eq_false (by omega)
      clear sp sq se
      go_wp2_with fail
      refine (sizeOf_any HT.out.p).mono ?_
      rintro e w1 ⟨rfl, rfl⟩
      rw [HP.out]
      go_wp2_with fail
      go_roundw
      case rel => exact ⟨1, by omega, rfl, trivial⟩
      case measure => simp [intOf]
    · obtain ⟨k0, k1, k2⟩ := kc
      have b1 : decide ((256 : Int) < (NQ : Int)) = false := decide_eq_false (by omega)
      have b2 : decide (256 < NQ) = false := decide_eq_false (by omega)
      clear sp sq se
      go_wp2_with fail
      refine (sizeOf_any HT.out.q).mono ?_
      rintro e w1 ⟨rfl, rfl⟩
      rw [HQ.out]
      go_wp2_with fail
      go_roundw
      case rel => exact ⟨2, by omega, rfl, trivial⟩
      case measure => simp [intOf]
    · obtain ⟨k0, k1, k2⟩ := kc
      have b1 : decide ((256 : Int) < (NE : Int)) = false := decide_eq_false (by omega)
      have b2 : decide (256 < NE) = false := decide_eq_false (by omega)
      clear sp sq se
      go_wp2_with fail
      refine (sizeOf_any HT.out.e).mono ?_
      rintro e w1 ⟨rfl, rfl⟩
      rw [HE.out]
      go_wp2_with fail
      go_roundw
      case rel => exact ⟨3, by omega, rfl, trivial⟩
      case measure => simp [intOf]
    · clear sp sq se kc hj
      go_wp2_with fail
      refine (factorMay_any (HT.out.p.ext (by (repeat (first | assumption | exact Ext.refl _ | apply Ext.drew | apply Ext.drewN | apply Ext.alloc | refine Ext.trans ?_ (by assumption))); first | done | fail)) true (by simp [FP.out.lo, FP.out.hi])).mono ?_
      rintro e w2 ⟨rfl, x2⟩
      go_wp2_with fail
      refine (factorMay_any (HT.out.q.ext (by (repeat (first | assumption | exact Ext.refl _ | apply Ext.drew | apply Ext.drewN | apply Ext.alloc | refine Ext.trans ?_ (by assumption))); first | done | fail)) true (by simp [FQ.out.lo, FQ.out.hi])).mono ?_
      rintro e w3 ⟨rfl, x3⟩
      go_wp2_with fail
      refine (paired_ok (HT.out.p.ext (by (repeat (first | assumption | exact Ext.refl _ | apply Ext.drew | apply Ext.drewN | apply Ext.alloc | refine Ext.trans ?_ (by assumption))); first | done | fail)) (HT.out.q.ext (by (repeat (first | assumption | exact Ext.refl _ | apply Ext.drew | apply Ext.drewN | apply Ext.alloc | refine Ext.trans ?_ (by assumption))); first | done | fail)) (HT.out.e.ext (by (repeat (first | assumption | exact Ext.refl _ | apply Ext.drew | apply Ext.drewN | apply Ext.alloc | refine Ext.trans ?_ (by assumption))); first | done | fail)) FP.out FQ.out SE.out HG.out).mono ?_
      rintro e w4 ⟨A4, n4, c4, A5, n5, c5, A6, n6, c6, rfl, r4, r5, r6, x4⟩
      have hs4 : w.heap.size + 1 ≤ w3.heap.size := by have h1 := (x2.trans x3).size; have h2 := HSZ.out; omega
      have R4 := Kp.mk (r4.lower hs4)
      have R5 := Kp.mk (r5.lower hs4)
      have R6 := Kp.mk (r6.lower hs4)
      have hiv := invN_spec (FP.out.round2 FQ.out) HG.out
      have hlt : (vp - 1) * (vq - 1) < vp * vq := by have h1 := FP.out.lo; have h2 := FQ.out.lo; exact Nat.lt_of_le_of_lt (Nat.mul_le_mul_right _ (Nat.sub_le _ _)) (Nat.mul_lt_mul_of_pos_left (by omega) (by omega))
      have hd1 : 1 ≤ invN ve ((vp - 1) * (vq - 1)) := by rcases Nat.eq_zero_or_pos (invN ve ((vp - 1) * (vq - 1))) with h | h; (rw [h, Nat.zero_mul, Nat.zero_mod] at hiv; exact absurd hiv.2 (by decide)); exact h
      have N4 := Kp.mk (Nv.of r4 (short_of (FP.out.mul FQ.out) (by decide)))
      have N5 := Kp.mk (Nv.of r5 SE.out)
      have N6 := Kp.mk (Nv.of r6 (short_of (Nat.lt_trans hiv.1 (FP.out.round FQ.out)) (by decide)))
      have HD := Kp.mk (And.intro hd1 (Nat.lt_trans hiv.1 hlt))
      generalize vp * vq = vn at *
      generalize invN ve ((vp - 1) * (vq - 1)) = vd at *
      have HXX := Kp.mk (show Ext wr (w4.alloc (.cells #[.slice A4 n4 c4, .slice A5 n5 c5, .slice A6 n6 c6] 30)) from (by (repeat (first | assumption | exact Ext.refl _ | apply Ext.drew | apply Ext.drewN | apply Ext.alloc | refine Ext.trans ?_ (by assumption))); first | done | fail))
      have HXW := Kp.mk (show Ext wr w4 from (by (repeat (first | assumption | exact Ext.refl _ | apply Ext.drew | apply Ext.drewN | apply Ext.alloc | refine Ext.trans ?_ (by assumption))); first | done | fail))
      clear hiv hlt hd1 r4 r5 r6 x2 x3 x4 hs4
      have HZ := Kp.mk (Blk.new w4 30 #[.slice none 0 0, .slice none 0 0, .slice none 0 0])
      have HR := Kp.mk (HZ.out.row #[.slice A4 n4 c4, .slice A5 n5 c5, .slice A6 n6 c6])
      have HW := Kp.mk (Ext.setRow (show Ext w4 (w4.alloc (.cells #[.slice none 0 0, .slice none 0 0, .slice none 0 0] 30)) from (by (repeat (first | assumption | exact Ext.refl _ | apply Ext.drew | apply Ext.drewN | apply Ext.alloc | refine Ext.trans ?_ (by assumption))); first | done | fail)) (Nat.le_refl w4.heap.size) #[.slice A4 n4 c4, .slice A5 n5 c5, .slice A6 n6 c6])
      go_wp2_with (first | ((with_reducible refine at_store 10 42 ?_); refine wpList_store_row rfl 30 _ _ rfl w4.heap.size #[.slice A4 n4 c4, .slice A5 n5 c5, .slice A6 n6 c6] rfl rfl 30 _ HZ.out.h szS rfl (one_three _ _ _ _ _ _ _ _ _) ?_) | ((with_reducible refine at_load_to 48 10 ?_); refine wpList_load_row rfl 30 _ rfl w4.heap.size rfl 30 _ (0, 0) _ HR.out.h Tryd.underlying30 rfl szS ?_) | fail)
      generalize (w4.alloc (.cells #[.slice none 0 0, .slice none 0 0, .slice none 0 0] 30)).setRow w4.heap.size #[.slice A4 n4 c4, .slice A5 n5 c5, .slice A6 n6 c6] = wz at *
      refine (secretMay_any (N4.out.ext HW.out) (N5.out.ext HW.out) (N6.out.ext HW.out) false (⟨(fun h => nomatch h), fun h => absurd h.1 HK.out⟩)).mono ?_
      rintro e w5 ⟨rfl, x5⟩
      have HXX := Kp.mk ((HXW.out.trans HW.out).trans x5)
      clear x5
      go_wp2_with (first | ((with_reducible refine at_store 6 51 ?_); refine wpList_store_row rfl 30 _ _ rfl w.heap.size #[.slice none 0 0, .slice none 0 0, .slice none 0 0] rfl rfl 30 _ (HB.out.ext HXX.out).h szS rfl (one_three _ _ _ _ _ _ _ _ _) ?_) | fail)
      have hx := (HX.out.trans HXX.out).setRow (Nat.le_refl _) #[.slice none 0 0, .slice none 0 0, .slice none 0 0]
      refine bodyPost_ret (v := .tuple #[.agg #[.slice none 0 0, .slice none 0 0, .slice none 0 0], err 1]) ?_ rfl ?_
      · exact results_cell_row2 rfl _ _ w.heap.size 30 _ _ _ rfl rfl ((HB.out.ext HXX.out).row _) Tryd.underlying30 rfl szS
      exact ⟨rfl, hx⟩
set_option maxHeartbeats 4000000 in
theorem Pair_ok (hp : Nv w A n c vp) (hq : Nv w B m d vq) (he : Nv w D k f ve) (sp : ¬ lng vp) (sq : ¬ lng vq) (se : ¬ lng ve) (fp : Fac vp) (fq : Fac vq) (hg : Nat.gcd ((vp - 1) * (vq - 1)) ve = 1) (hk : PubOk (vp * vq) ve) : Calls Tryd.prog 24 #[.slice A n c, .slice B m d, .slice D k f] w (KeyR w (vp * vq) ve (invN ve ((vp - 1) * (vq - 1)))) := by
  have hx : Ext w ((w.alloc (.cells #[.slice none 0 0, .slice none 0 0, .slice none 0 0] 30)).alloc (.cells #[.slice A n c, .slice B m d, .slice D k f] 23)) := (by (repeat (first | assumption | exact Ext.refl _ | apply Ext.drew | apply Ext.drewN | apply Ext.alloc | refine Ext.trans ?_ (by assumption))); first | done | fail)
  have HT := Kp.mk (show Trio ((w.alloc (.cells #[.slice none 0 0, .slice none 0 0, .slice none 0 0] 30)).alloc (.cells #[.slice A n c, .slice B m d, .slice D k f] 23)) (w.heap.size + 1) A n c B m d D k f vp vq ve from ⟨hp.ext hx, hq.ext hx, he.ext hx, _, by have h := Blk.new (w.alloc (.cells #[.slice none 0 0, .slice none 0 0, .slice none 0 0] 30)) 23 #[.slice A n c, .slice B m d, .slice D k f]; rwa [show (w.alloc (.cells #[.slice none 0 0, .slice none 0 0, .slice none 0 0] 30)).heap.size = w.heap.size + 1 by simp] at h⟩)
  have HB := Kp.mk ((Blk.new w 30 #[.slice none 0 0, .slice none 0 0, .slice none 0 0]).ext (show Ext _ ((w.alloc (.cells #[.slice none 0 0, .slice none 0 0, .slice none 0 0] 30)).alloc (.cells #[.slice A n c, .slice B m d, .slice D k f] 23)) from (by (repeat (first | assumption | exact Ext.refl _ | apply Ext.drew | apply Ext.drewN | apply Ext.alloc | refine Ext.trans ?_ (by assumption))); first | done | fail)))
  have HX := Kp.mk hx
  have hsz : ((w.alloc (.cells #[.slice none 0 0, .slice none 0 0, .slice none 0 0] 30)).alloc (.cells #[.slice A n c, .slice B m d, .slice D k f] 23)).heap.size = w.heap.size + 1 + 1 := by simp
  have HSZ := Kp.mk hsz
  clear hx hp hq he hsz
  rw [← nb_lng] at sp sq
  have SE := Kp.mk se
  rw [← nb_lng] at se
  obtain ⟨NP, hNP⟩ : ∃ N, nb vp = N := ⟨_, rfl⟩
  obtain ⟨NQ, hNQ⟩ : ∃ N, nb vq = N := ⟨_, rfl⟩
  obtain ⟨NE, hNE⟩ : ∃ N, nb ve = N := ⟨_, rfl⟩
  rw [hNP] at sp
  rw [hNQ] at sq
  rw [hNE] at se
  have HP := Kp.mk hNP
  have HQ := Kp.mk hNQ
  have HE := Kp.mk hNE
  clear hNP hNQ hNE
  have FP := Kp.mk fp
  have FQ := Kp.mk fq
  have HG := Kp.mk hg
  clear fp fq hg
  have HK := Kp.mk hk
  clear hk
  go_enter Tryd.func24, Tryd.ntmps24
  go_wp2_with fail
  generalize (w.alloc (.cells #[.slice none 0 0, .slice none 0 0, .slice none 0 0] 30)).alloc (.cells #[.slice A n c, .slice B m d, .slice D k f] 23) = W at *
  have kc := HT.out.cells
  go_loopw [17] (fun iv wr => ∃ j : Nat, j ≤ 3 ∧ iv = .int .i64 j ∧ wr = W) (fun i _ => 3 - (intOf i).toNat)
  case atStart => exact ⟨0, by omega, rfl, rfl⟩
  case round =>
    obtain ⟨j, hj, rfl, rfl⟩ := hrel
    have hj3 : j = 0 ∨ j = 1 ∨ j = 2 ∨ j = 3 := by omega
    rcases hj3 with rfl | rfl | rfl | rfl
    · obtain ⟨k0, k1, k2⟩ := kc
      have b1 : decide ((256 : Int) < (NP : Int)) = false := decide_eq_false (by omega)
      have b2 : decide (256 < NP) = false := decide_eq_false (by omega)
      clear sp sq se
      go_wp2_with fail
      refine (sizeOf_any HT.out.p).mono ?_
      rintro e w1 ⟨rfl, rfl⟩
      rw [HP.out]
      go_wp2_with fail
      go_roundw
      case rel => exact ⟨1, by omega, rfl, trivial⟩
      case measure => simp [intOf]
    · obtain ⟨k0, k1, k2⟩ := kc
      have b1 : decide ((256 : Int) < (NQ : Int)) = false := decide_eq_false (by omega)
      have b2 : decide (256 < NQ) = false := decide_eq_false (by omega)
      clear sp sq se
      go_wp2_with fail
      refine (sizeOf_any HT.out.q).mono ?_
      rintro e w1 ⟨rfl, rfl⟩
      rw [HQ.out]
      go_wp2_with fail
      go_roundw
      case rel => exact ⟨2, by omega, rfl, trivial⟩
      case measure => simp [intOf]
    · obtain ⟨k0, k1, k2⟩ := kc
      have b1 : decide ((256 : Int) < (NE : Int)) = false := decide_eq_false (by omega)
      have b2 : decide (256 < NE) = false := decide_eq_false (by omega)
      clear sp sq se
      go_wp2_with fail
      refine (sizeOf_any HT.out.e).mono ?_
      rintro e w1 ⟨rfl, rfl⟩
      rw [HE.out]
      go_wp2_with fail
      go_roundw
      case rel => exact ⟨3, by omega, rfl, trivial⟩
      case measure => simp [intOf]
    · clear sp sq se kc hj
      go_wp2_with fail
      refine (factorMay_any (HT.out.p.ext (by (repeat (first | assumption | exact Ext.refl _ | apply Ext.drew | apply Ext.drewN | apply Ext.alloc | refine Ext.trans ?_ (by assumption))); first | done | fail)) true (by simp [FP.out.lo, FP.out.hi])).mono ?_
      rintro e w2 ⟨rfl, x2⟩
      go_wp2_with fail
      refine (factorMay_any (HT.out.q.ext (by (repeat (first | assumption | exact Ext.refl _ | apply Ext.drew | apply Ext.drewN | apply Ext.alloc | refine Ext.trans ?_ (by assumption))); first | done | fail)) true (by simp [FQ.out.lo, FQ.out.hi])).mono ?_
      rintro e w3 ⟨rfl, x3⟩
      go_wp2_with fail
      refine (paired_ok (HT.out.p.ext (by (repeat (first | assumption | exact Ext.refl _ | apply Ext.drew | apply Ext.drewN | apply Ext.alloc | refine Ext.trans ?_ (by assumption))); first | done | fail)) (HT.out.q.ext (by (repeat (first | assumption | exact Ext.refl _ | apply Ext.drew | apply Ext.drewN | apply Ext.alloc | refine Ext.trans ?_ (by assumption))); first | done | fail)) (HT.out.e.ext (by (repeat (first | assumption | exact Ext.refl _ | apply Ext.drew | apply Ext.drewN | apply Ext.alloc | refine Ext.trans ?_ (by assumption))); first | done | fail)) FP.out FQ.out SE.out HG.out).mono ?_
      rintro e w4 ⟨A4, n4, c4, A5, n5, c5, A6, n6, c6, rfl, r4, r5, r6, x4⟩
      have hs4 : w.heap.size + 1 ≤ w3.heap.size := by have h1 := (x2.trans x3).size; have h2 := HSZ.out; omega
      have R4 := Kp.mk (r4.lower hs4)
      have R5 := Kp.mk (r5.lower hs4)
      have R6 := Kp.mk (r6.lower hs4)
      have hiv := invN_spec (FP.out.round2 FQ.out) HG.out
      have hlt : (vp - 1) * (vq - 1) < vp * vq := by have h1 := FP.out.lo; have h2 := FQ.out.lo; exact Nat.lt_of_le_of_lt (Nat.mul_le_mul_right _ (Nat.sub_le _ _)) (Nat.mul_lt_mul_of_pos_left (by omega) (by omega))
      have hd1 : 1 ≤ invN ve ((vp - 1) * (vq - 1)) := by rcases Nat.eq_zero_or_pos (invN ve ((vp - 1) * (vq - 1))) with h | h; (rw [h, Nat.zero_mul, Nat.zero_mod] at hiv; exact absurd hiv.2 (by decide)); exact h
      have N4 := Kp.mk (Nv.of r4 (short_of (FP.out.mul FQ.out) (by decide)))
      have N5 := Kp.mk (Nv.of r5 SE.out)
      have N6 := Kp.mk (Nv.of r6 (short_of (Nat.lt_trans hiv.1 (FP.out.round FQ.out)) (by decide)))
      have HD := Kp.mk (And.intro hd1 (Nat.lt_trans hiv.1 hlt))
      generalize vp * vq = vn at *
      generalize invN ve ((vp - 1) * (vq - 1)) = vd at *
      have HXX := Kp.mk (show Ext wr (w4.alloc (.cells #[.slice A4 n4 c4, .slice A5 n5 c5, .slice A6 n6 c6] 30)) from (by (repeat (first | assumption | exact Ext.refl _ | apply Ext.drew | apply Ext.drewN | apply Ext.alloc | refine Ext.trans ?_ (by assumption))); first | done | fail))
      have HXW := Kp.mk (show Ext wr w4 from (by (repeat (first | assumption | exact Ext.refl _ | apply Ext.drew | apply Ext.drewN | apply Ext.alloc | refine Ext.trans ?_ (by assumption))); first | done | fail))
      clear hiv hlt hd1 r4 r5 r6 x2 x3 x4 hs4
      have HZ := Kp.mk (Blk.new w4 30 #[.slice none 0 0, .slice none 0 0, .slice none 0 0])
      have HR := Kp.mk (HZ.out.row #[.slice A4 n4 c4, .slice A5 n5 c5, .slice A6 n6 c6])
      have HW := Kp.mk (Ext.setRow (show Ext w4 (w4.alloc (.cells #[.slice none 0 0, .slice none 0 0, .slice none 0 0] 30)) from (by (repeat (first | assumption | exact Ext.refl _ | apply Ext.drew | apply Ext.drewN | apply Ext.alloc | refine Ext.trans ?_ (by assumption))); first | done | fail)) (Nat.le_refl w4.heap.size) #[.slice A4 n4 c4, .slice A5 n5 c5, .slice A6 n6 c6])
      go_wp2_with (first | ((with_reducible refine at_store 10 42 ?_); refine wpList_store_row rfl 30 _ _ rfl w4.heap.size #[.slice A4 n4 c4, .slice A5 n5 c5, .slice A6 n6 c6] rfl rfl 30 _ HZ.out.h szS rfl (one_three _ _ _ _ _ _ _ _ _) ?_) | ((with_reducible refine at_load_to 48 10 ?_); refine wpList_load_row rfl 30 _ rfl w4.heap.size rfl 30 _ (0, 0) _ HR.out.h Tryd.underlying30 rfl szS ?_) | fail)
      generalize (w4.alloc (.cells #[.slice none 0 0, .slice none 0 0, .slice none 0 0] 30)).setRow w4.heap.size #[.slice A4 n4 c4, .slice A5 n5 c5, .slice A6 n6 c6] = wz at *
      refine (secretMay_any (N4.out.ext HW.out) (N5.out.ext HW.out) (N6.out.ext HW.out) true (⟨fun _ => ⟨HK.out, HD.out⟩, fun _ => rfl⟩)).mono ?_
      rintro e w5 ⟨rfl, x5⟩
      have HXX := Kp.mk ((HXW.out.trans HW.out).trans x5)
      have HR5 := Kp.mk (HR.out.ext x5)
      have Q4 := Kp.mk ((R4.out.ext HW.out).ext x5)
      have Q5 := Kp.mk ((R5.out.ext HW.out).ext x5)
      have Q6 := Kp.mk ((R6.out.ext HW.out).ext x5)
      clear x5
      go_wp2_with (first | ((with_reducible refine at_load_to 53 10 ?_); refine wpList_load_row rfl 30 _ rfl w4.heap.size rfl 30 _ (0, 0) _ HR5.out.h Tryd.underlying30 rfl szS ?_) | ((with_reducible refine at_store 6 53 ?_); refine wpList_store_row rfl 30 _ _ rfl w.heap.size #[.slice A4 n4 c4, .slice A5 n5 c5, .slice A6 n6 c6] rfl rfl 30 _ (HB.out.ext HXX.out).h szS rfl (one_three _ _ _ _ _ _ _ _ _) ?_) | fail)
      have hx := (HX.out.trans HXX.out).setRow (Nat.le_refl _) #[.slice A4 n4 c4, .slice A5 n5 c5, .slice A6 n6 c6]
      refine bodyPost_ret (v := .tuple #[.agg #[.slice A4 n4 c4, .slice A5 n5 c5, .slice A6 n6 c6], .nilIface]) ?_ rfl ?_
      · exact results_cell_row2 rfl _ _ w.heap.size 30 _ _ _ rfl rfl ((HB.out.ext HXX.out).row _) Tryd.underlying30 rfl szS
      have hl : w.heap.size ≤ w.heap.size + 1 := Nat.le_succ _
      exact ⟨_, _, _, _, _, _, _, _, _, rfl, (Q4.out.rowfar (Nat.lt_succ_self _) _).lower hl, (Q5.out.rowfar (Nat.lt_succ_self _) _).lower hl, (Q6.out.rowfar (Nat.lt_succ_self _) _).lower hl, hx⟩
end
end Go.Proofs.YticggkllfojgkaaDoor
