/-
  The reference's Write.
  The reference's Bytes.
  The walk of the law NatDivs.
  The reference's Power, Hidden, Shown.
-/
import Derived.Test.YticggkllfojgkaaDoorM12
import Derived.Test.YticggkllfojgkaaDoorM11
import Derived.Test.YticggkllfojgkaaDoorM14
import Derived.Test.YticggkllfojgkaaDoorM18
namespace Go.Proofs.YticggkllfojgkaaDoor
open Go Go.RowKit
set_option maxRecDepth 4000

theorem digit_byte {v q s : Nat} (hs : s < 2) : dg (dgs 65536 v) q / 256 ^ s % 256 = v / 256 ^ (2 * q + s) % 256 := by
  obtain ⟨z, hz⟩ := div_dg (B := 65536) (by decide) (cn_dgs (by decide) v).d q
  rw [vl_dgs (by decide)] at hz
  have e1 : v / 256 ^ (2 * q + s) = v / 65536 ^ q / 256 ^ s := by
    rw [Nat.pow_add, Nat.pow_mul, show (256 : Nat) ^ 2 = 65536 from rfl, Nat.div_div_eq_div_mul]
  rw [e1, hz]
  generalize dg (dgs 65536 v) q = x
  generalize dg (dgs 65536 v) (q + 1) + 65536 * z = y
  rcases (show s = 0 ∨ s = 1 by omega) with rfl | rfl
  · simp only [Nat.pow_zero, Nat.div_one]; omega
  · simp only [Nat.pow_one]; omega
/-- what the reference's Write tells -/
def WriteB (w : World) (v k : Nat) (e : Ending) (w' : World) : Prop :=
  ∃ A c, e = .returned (.tuple #[.slice A k c, .bool true]) ∧ Own w' w.heap.size (.slice A k c) k (toB v k) ∧ Ext w w'
set_option maxHeartbeats 2000000 in
theorem refWrite_any {A : Option Addr} {n c v k : Nat} {w : World} (h : Rd vI w A n c (dgs 65536 v)) (hk : nb v ≤ k) (hk2 : k ≤ 256) : Calls Tryd.prog 33 #[.slice A n c, .int .i64 (k : Int)] w (WriteB w v k) := by
  have hlen := h.len
  have hv := (nb_iff v k).1 hk
  have hv2 : v < 256 ^ (2 * n) := by
    have h1 := (len_iff (B := 65536) (by decide) v n).1 (by omega)
    rwa [Nat.pow_mul]
  have hn : n ≤ 128 := by
    have h1 := (len_iff (B := 65536) (by decide) v 128).2 (by
      rw [show (65536 : Nat) = 256 ^ 2 by rfl, ← Nat.pow_mul]
      exact Nat.lt_of_lt_of_le hv (Nat.pow_le_pow_right (by decide) hk2))
    omega
  have HC := Kp.mk (Size_any h (by omega))
  rw [sz_nb] at HC
  have HR := Kp.mk h
  obtain ⟨N, hN⟩ : ∃ N, nb v = N := ⟨_, rfl⟩
  rw [hN] at HC hk
  have b1 : decide ((k : Int) < (N : Int)) = false := decide_eq_false (by omega)
  have b2 : decide ((k : Int) < 0) = false := decide_eq_false (by omega)
  have b3 : decide (k < N) = false := decide_eq_false (by omega)
  obtain ⟨M, hM⟩ : ∃ M, min k (2 * n) = M := ⟨_, rfl⟩
  have hM1 : M ≤ k := by omega
  have hM2 : M ≤ 2 * n := by omega
  have hM3 : M = k ∨ M = 2 * n := by omega
  have HV := Kp.mk (show v < 256 ^ M by rcases hM3 with e | e <;> rw [e] <;> assumption)
  have hmk := run_makeN k (k : Int) rfl (by omega)
  rw [← wrS_zero v k] at hmk
  clear h hv hv2 hN hlen hM hk
  go_enter Tryd.func33, Tryd.ntmps33
  go_wp2_with fail
  refine HC.out.mono ?_
  rintro e w1 ⟨rfl, rfl⟩
  have HB0 := Kp.mk (Blk.new w1 5 (bv (wrS v k 0)))
  go_wp2_with fail
  go_loopw [7] (fun iv wr => ∃ i : Nat, i ≤ M ∧ iv = .int .i64 (i : Int) ∧ Blk wr w1.heap.size 5 (bv (wrS v k i)) ∧ Ext w1 wr) (fun iv _ => M - (intOf iv).toNat)
  case atStart => exact ⟨0, by omega, rfl, HB0.out, (by (repeat (first | assumption | exact Ext.refl _ | apply Ext.drew | apply Ext.drewN | apply Ext.alloc | refine Ext.trans ?_ (by assumption))); first | done | fail)⟩
  case round =>
    obtain ⟨i, hi, rfl, hb, hx⟩ := hrel
    obtain ⟨q, hq⟩ : ∃ q, i / 2 = q := ⟨_, rfl⟩
    obtain ⟨s, hs⟩ : ∃ s, i % 2 = s := ⟨_, rfl⟩
    have hiq : i = 2 * q + s := by omega
    have d1 : (i : Int) / 2 = (q : Int) := by omega
    have d2 : (i : Int) % 2 = (s : Int) := by omega
    have d3 : (i : Int).tdiv 2 = (q : Int) := by rw [Int.tdiv_eq_ediv_of_nonneg (by omega)]; exact d1
    have d4 : (i : Int).tmod 2 = (s : Int) := by rw [Int.tmod_eq_emod_of_nonneg (by omega)]; exact d2
    have d5 : (i : Int) < 1000 := by omega
    by_cases hlt : i < M
    · obtain ⟨g, o, rfl⟩ := HR.out.some_ (by omega)
      have k1 := (HR.out.ext hx).dig q (by omega)
      unfold vI at k1
      have hy := (cn_dgs (B := 65536) (by decide) v).d.at (by decide) q
      have hlb := digit_byte (v := v) (q := q) (s := s) (by omega)
      rw [← hiq] at hlb
      obtain ⟨P, hP⟩ : ∃ P, k - 1 - i = P := ⟨_, rfl⟩
      have k4 := hb.h.frozen P
      have k3 := (hb.h.cell P).trans (bv_at _ P (by simp [wrS]; omega))
      have hset := hb.setB P (BitVec.ofNat 8 (v / 256 ^ i))
      rw [← hP, wrS_set v k i (by omega), hP, ub_ofNat] at hset
      generalize dg (dgs 65536 v) q = y at *
      have c0 : (i : Int) < (k : Int) := by omega
      have c1 : (q : Int) < (n : Int) := by omega
      have c2 : (k : Int) - 1 - (i : Int) = (P : Int) := by omega
      have c3 : (P : Int) < (k : Int) := by omega
      have c4 : (y : Int) < 65536 := by omega
      rcases (show s = 0 ∨ s = 1 by omega) with rfl | rfl
      · rw [Nat.pow_zero, Nat.div_one] at hlb
        have e1 : ((v / 256 ^ i : Nat) : Int) % 256 = (y : Int) % 256 := by omega
        rw [e1] at hset
        have e2 : IntKind.u8.wrap ((y : Int) % 256) = (y : Int) % 256 := by rw [IntKind.wrap_u8]; omega
        have e3 : (y : Int).tmod 256 = (y : Int) % 256 := by rw [Int.tmod_eq_emod_of_nonneg (by omega)]
        have HS := Kp.mk hset
        have HX2 := Kp.mk (hx.setCell (p := ⟨w1.heap.size, P, none⟩) (Nat.le_refl _) (.int .u8 ((y : Int) % 256)))
        clear hb hx hq hs hiq hP hlb hset e1 hM1 hM2 hM3
        go_wp2_with fail
        go_roundw
        case rel => exact ⟨i + 1, by omega, by go_num, HS.out, HX2.out⟩
        case measure => simp [intOf]; omega
      · rw [Nat.pow_one] at hlb
        obtain ⟨z, hz⟩ : ∃ z, y / 256 = z := ⟨_, rfl⟩
        rw [hz] at hlb
        have e1 : ((v / 256 ^ i : Nat) : Int) % 256 = (z : Int) % 256 := by omega
        rw [e1] at hset
        have e2 : IntKind.u8.wrap ((z : Int) % 256) = (z : Int) % 256 := by rw [IntKind.wrap_u8]; omega
        have e3 : (z : Int).tmod 256 = (z : Int) % 256 := by rw [Int.tmod_eq_emod_of_nonneg (by omega)]
        have e4 : (y : Int) / 256 = (z : Int) := by omega
        have e5 : (y : Int).tdiv 256 = (z : Int) := by rw [Int.tdiv_eq_ediv_of_nonneg (by omega)]; exact e4
        have e6 : (z : Int) < 256 := by omega
        have HS := Kp.mk hset
        have HX2 := Kp.mk (hx.setCell (p := ⟨w1.heap.size, P, none⟩) (Nat.le_refl _) (.int .u8 ((z : Int) % 256)))
        clear hb hx hq hs hiq hP hlb hset e1 hM1 hM2 hM3 hz
        go_wp2_with fail
        go_roundw
        case rel => exact ⟨i + 1, by omega, by go_num, HS.out, HX2.out⟩
        case measure => simp [intOf]; omega
    · obtain rfl : i = M := by omega
      have hall := wrS_all v k i HV.out hM1
      rw [hall] at hb
      have HF := Kp.mk (show WriteB w1 v k (.returned (.tuple #[.slice (some ⟨w1.heap.size, 0, none⟩) k k, .bool true])) wr from
        ⟨_, _, rfl, Own.has hb.h (toB_len _ _) (Nat.le_refl _) (by unfold maxLen; omega), hx⟩)
      by_cases hik : i = k
      · have c0 : decide ((i : Int) < (k : Int)) = false := decide_eq_false (by omega)
        have c0' : decide (i < k) = false := decide_eq_false (by omega)
        clear hb hx hall hq hs hiq hM3 hM1 hM2
        go_wp2_with fail
        go_ret2
        exact HF.out
      · have c0 : (i : Int) < (k : Int) := by omega
        have c1 : decide ((q : Int) < (n : Int)) = false := decide_eq_false (by omega)
        have c1' : decide (q < n) = false := decide_eq_false (by omega)
        have c0' : i < k := by omega
        clear hb hx hall hq hs hiq hM3 hM1 hM2
        go_wp2_with fail
        go_ret2
        exact HF.out
end Go.Proofs.YticggkllfojgkaaDoor
namespace Go.Proofs.YticggkllfojgkaaDoor
open Go Go.RowKit
set_option maxRecDepth 4000

set_option maxHeartbeats 1000000 in
theorem Bytes_any {l : List Nat} {A : Option Addr} {n c : Nat} {w : World} (h : Rd vB w A n c l) (hd : Dg 256 l) (hn : n ≤ 1000000000000) :
    Calls Tryd.prog 32 #[.slice A n c] w (FreshN w (vl 256 l.reverse)) := by
  have hlen := h.len
  obtain ⟨r, hr⟩ : ∃ r, l.reverse = r := ⟨_, rfl⟩
  have hrl : r.length = n := by rw [← hr, List.length_reverse, hlen]
  have hdr : Dg 256 r := by rw [← hr]; exact hd.rev
  have hat : ∀ i, i < n → dg l (n - 1 - i) = dg r i := fun i hi => by rw [← hr, dg_rev l i (by omega), hlen]
  rw [hr]
  have HR := Kp.mk h
  have HD := Kp.mk hdr
  have HAT := Kp.mk hat
  clear h hd hr hdr hat
  go_enter Tryd.func32, Tryd.ntmps32
  go_wp2_with fail
  go_loopw [3, 4] (fun ov iv wr => ∃ j : Nat, 2 * j ≤ n + 1 ∧ iv = .int .i64 ((n : Int) - 1 - 2 * (j : Int)) ∧ (∃ A c, ov = .slice A j c) ∧ Rn wr w.heap.size ov j (jn 256 (r.take (2 * j))) ∧ Ext w wr) (fun _ i _ => (intOf i + 3).toNat)
  case atStart => exact ⟨0, by omega, by go_num, ⟨_, _, rfl⟩, Rw.nil _ _, Ext.refl _⟩
  case round =>
    obtain ⟨j, hj, rfl, ⟨Ao, co, rfl⟩, ho, hx⟩ := hrel
    by_cases hlt : 2 * j < n
    · obtain ⟨g, o, rfl⟩ := HR.out.some_ (by omega)
      obtain ⟨i, hi⟩ : ∃ i : Nat, n - 1 - 2 * j = i := ⟨_, rfl⟩
      have e0 : (n : Int) - 1 - 2 * (j : Int) = (i : Int) := by omega
      rw [e0]
      have k1 : wr.cell? ⟨g, o + i, none⟩ = some (.int .u8 (dg l i : Int)) := (HR.out.ext hx).dig i (by omega)
      have ha := HAT.out (2 * j) hlt
      rw [hi] at ha
      rw [ha] at k1
      have h1 := HD.out.at (by decide) (2 * j)
      have b0 : (i : Int) < (n : Int) := by omega
      have HRO := Kp.mk ho
      have HX := Kp.mk hx
      have HE := Kp.mk (And.intro hi e0)
      by_cases h2 : 2 * j + 1 < n
      · obtain ⟨k, hk⟩ : ∃ k, i = k + 1 := ⟨i - 1, by omega⟩
        have k2 : wr.cell? ⟨g, o + k, none⟩ = some (.int .u8 (dg l k : Int)) := (HR.out.ext hx).dig k (by omega)
        have ha2 := HAT.out (2 * j + 1) h2
        rw [show n - 1 - (2 * j + 1) = k by omega] at ha2
        rw [ha2] at k2
        have h3 := HD.out.at (by decide) (2 * j + 1)
        have HT := Kp.mk (jn_take2 256 r j (by omega))
        have HK := Kp.mk hk
        have b2 : (k : Int) < (n : Int) := by omega
        have e1 : (i : Int) - 1 = (k : Int) := by omega
        have g1 : (0 : Int) < (i : Int) := by omega
        have g2 : 0 < i := by omega
        clear hk
        clear ho hx hi e0 ha ha2
        generalize dg r (2 * j) = x at *
        generalize dg r (2 * j + 1) = y at *
        obtain ⟨z, hz⟩ : ∃ z : Nat, x + y * 256 = z := ⟨_, rfl⟩
        obtain ⟨v, hv⟩ : ∃ v : Nat, y * 256 = v := ⟨_, rfl⟩
        have e6 : (y : Int) * 256 = (v : Int) := by omega
        have e5 : (x : Int) + (v : Int) = (z : Int) := by omega
        have b6 : (v : Int) < 65536 := by omega
        have b5 : (z : Int) < 65536 := by omega
        have b7 : (x : Int) < 256 := by omega
        have b8 : (y : Int) < 256 := by omega
        rw [hz] at HT
        clear hz hv
        go_wp2_with (first | (at_builtin; refine wpList_append_I rfl (.tmp 29) (.tmp 31) rfl w.heap.size (.slice Ao j co) j _ rfl (HRO.out.ext (by (repeat (first | assumption | exact Ext.refl _ | apply Ext.drew | apply Ext.drewN | apply Ext.alloc | refine Ext.trans ?_ (by assumption))); first | done | fail)) _ 1 1 [z] rfl (lit1 _ _ _ rfl) (by omega) (j + 1) rfl _ HT.out.symm w (HX.out.trans (by (repeat (first | assumption | exact Ext.refl _ | apply Ext.drew | apply Ext.drewN | apply Ext.alloc | refine Ext.trans ?_ (by assumption))); first | done | fail)) (Nat.le_refl _) (HX.out.trans (by (repeat (first | assumption | exact Ext.refl _ | apply Ext.drew | apply Ext.drewN | apply Ext.alloc | refine Ext.trans ?_ (by assumption))); first | done | fail)).size ?_; intro A5 c5 w5 ho5 hx5 _) | fail)
        go_roundw
        case rel => have hi := HE.out; have hk := HK.out; exact ⟨j + 1, by omega, by go_num, ⟨_, _, rfl⟩, ho5, hx5⟩
        case measure => have hi := HE.out; have hk := HK.out; simp [intOf]; omega
      · have HT := Kp.mk (jn_take1 256 r j (by omega))
        obtain rfl : i = 0 := by omega
        rw [Nat.add_zero] at k1
        rw [show ((0 : Nat) : Int) = 0 from rfl] at b0 ⊢
        clear ho hx hi e0 ha
        generalize dg r (2 * j) = x at *
        have b7 : (x : Int) < 256 := by omega
        go_wp2_with (first | (at_builtin; refine wpList_append_I rfl (.tmp 29) (.tmp 31) rfl w.heap.size (.slice Ao j co) j _ rfl (HRO.out.ext (by (repeat (first | assumption | exact Ext.refl _ | apply Ext.drew | apply Ext.drewN | apply Ext.alloc | refine Ext.trans ?_ (by assumption))); first | done | fail)) _ 1 1 [x] rfl (lit1 _ _ _ (by first | rfl | omega)) (by omega) (j + 1) rfl _ HT.out.symm w (HX.out.trans (by (repeat (first | assumption | exact Ext.refl _ | apply Ext.drew | apply Ext.drewN | apply Ext.alloc | refine Ext.trans ?_ (by assumption))); first | done | fail)) (Nat.le_refl _) (HX.out.trans (by (repeat (first | assumption | exact Ext.refl _ | apply Ext.drew | apply Ext.drewN | apply Ext.alloc | refine Ext.trans ?_ (by assumption))); first | done | fail)).size ?_; intro A5 c5 w5 ho5 hx5 _) | fail)
        go_roundw
        case rel => have hi := HE.out; exact ⟨j + 1, by omega, by go_num, ⟨_, _, rfl⟩, ho5, hx5⟩
        case measure => simp [intOf]
    · rw [List.take_of_length_le (by omega)] at ho
      have b0 : decide ((0 : Int) ≤ (n : Int) - 1 - 2 * (j : Int)) = false := decide_eq_false (by omega)
      have C := Kp.mk (FreshN.of_trim (v := vl 256 r) ho (jn_dg (by decide) HD.out) (by omega) (jn_vl 256 r) hx)
      clear ho hx
      generalize (n : Int) - 1 - 2 * (j : Int) = y at *
      go_wp2_with fail
      refine C.out.mono ?_
      rintro e w2 ⟨A2, n2, c2, rfl, hr2, ho2, hx2⟩
      go_wp2_with fail
      go_ret
      exact ⟨A2, n2, c2, rfl, hr2, ho2, hx2⟩
end Go.Proofs.YticggkllfojgkaaDoor
namespace Go.Proofs.YticggkllfojgkaaDoor
open Go Go.RowKit
set_option maxRecDepth 4000

section
variable {w : World} {A B E : Option Addr} {n c m d k f va vb ve : Nat}
theorem rd_n {v k : Nat} (h : Rd vI w A n c (dgs 65536 v)) (hv : v < BB ^ k) : n ≤ 2 * k := by have h1 := len16 hv; have h2 := h.len; omega
theorem RDivV {j k : Nat} (ha : Rd vI w A n c (dgs 65536 va)) (hb : Rd vI w B m d (dgs 65536 vb)) (la : va < BB ^ j) (lb : vb < BB ^ k) (hj : j ≤ 400) (hk : k ≤ 400) (h0 : vb ≠ 0) : Calls Tryd.prog 67 #[.slice A n c, .slice B m d] w (DivR w va vb) :=
  div_any ⟨ha, by have := rd_n ha la; omega⟩ ⟨hb, by have := rd_n hb lb; omega⟩ (by have := rd_n ha la; omega) (by have := rd_n hb lb; omega) h0
theorem RRestV {j k : Nat} (ha : Rd vI w A n c (dgs 65536 va)) (hb : Rd vI w B m d (dgs 65536 vb)) (la : va < BB ^ j) (lb : vb < BB ^ k) (hj : j ≤ 400) (hk : k ≤ 400) (h0 : vb ≠ 0) : Calls Tryd.prog 50 #[.slice A n c, .slice B m d] w (FreshN w (va % vb)) :=
  rest_any ⟨ha, by have := rd_n ha la; omega⟩ ⟨hb, by have := rd_n hb lb; omega⟩ (by have := rd_n ha la; omega) (by have := rd_n hb lb; omega) h0
theorem RExpV {i j k l : Nat} (ha : Rd vI w A n c (dgs 65536 va)) (he : Rd vI w E l f (dgs 65536 ve)) (hb : Rd vI w B m d (dgs 65536 vb)) (la : va < BB ^ i) (le : ve < BB ^ j) (lb : vb < BB ^ k) (hi : i ≤ 400) (hj : j ≤ 400) (hk : k ≤ 400) (h0 : vb ≠ 0) : Calls Tryd.prog 34 #[.slice A n c, .slice E l f, .slice B m d] w (FreshN w (va ^ ve % vb)) :=
  exp_any ⟨ha, by have := rd_n ha la; omega⟩ ⟨he, by have := rd_n he le; omega⟩ ⟨hb, by have := rd_n hb lb; omega⟩ (by have := rd_n ha la; omega) (by have := rd_n he le; omega) (by have := rd_n hb lb; omega) h0
end
end Go.Proofs.YticggkllfojgkaaDoor
namespace Go.Proofs.YticggkllfojgkaaDoor
open Go Go.RowKit
set_option maxRecDepth 4000

/-- bytes, and that they are it -/
def YesB (w : World) (n : Nat) (l : List (BitVec 8)) (e : Ending) (w' : World) : Prop := ∃ A c, e = .returned (.tuple #[.slice A n c, .bool true]) ∧ Bs w' A n c l ∧ Ext w w'
def NoB (w : World) (e : Ending) (w' : World) : Prop := e = .returned (.tuple #[.slice none 0 0, .bool false]) ∧ Ext w w'
theorem b256 (j : Nat) : (256 : Nat) ^ (4 * j) = BB ^ j := by rw [Nat.pow_mul]
section
variable {A B D : Option Addr} {n c m d k f vt vn j : Nat} {w : World} {l : List (BitVec 8)}
theorem bytes_num (hl : Bs w A n c l) (hn : n ≤ 1000000) : Calls Tryd.prog 32 #[.slice A n c] w (FreshN w (bnum l)) := Bytes_any (Rd.of_sl hl.s) (Dg.of_bytes l) (by omega)
set_option maxHeartbeats 2000000 in
theorem Power_some (hl : Bs w A n c l) (ht : Nv w B m d vt) (hv : Nv w D k f vn) (lt : vt < BB ^ j) (hj : j ≤ 400) (h128 : nb vn ≤ 128) (h0 : vn ≠ 0) {r : List (BitVec 8)} (h : rs l vt vn = some r) :
    Calls Tryd.prog 13 #[.slice A n c, .slice B m d, .slice D k f] w (YesB w (nb vn) r) := by
  obtain ⟨h1, h2, h3⟩ := rs_some h
  have hlen := hl.len
  obtain ⟨N, hN⟩ : ∃ N, nb vn = N := ⟨_, rfl⟩
  have bn := nb_bb h128
  have bb : bnum l < BB ^ 32 := Nat.lt_trans h2 bn
  have hmod : bnum l ^ vt % vn < vn := Nat.mod_lt _ (Nat.pos_of_ne_zero h0)
  have hnp := nb_mod hmod
  obtain ⟨z, hz⟩ : ∃ z, cmpI (bnum l) vn = z := ⟨_, rfl⟩
  have Z := Kp.mk (cmpI_lt h2)
  obtain rfl : n = N := by omega
  rw [hN] at hnp h3 h128 ⊢
  have HS := Kp.mk hN
  have HL := Kp.mk hl
  have HT := Kp.mk ht
  have HV := Kp.mk hv
  have HLT := Kp.mk lt
  have HBN := Kp.mk bn
  have HBB := Kp.mk bb
  have HNP := Kp.mk hnp
  have H0 := Kp.mk h0
  have H3 := Kp.mk h3
  clear h h1 h2 h3 hl ht hv lt bn bb hmod hnp h0 hN hz hlen
  go_enter Tryd.func13, Tryd.ntmps13
  go_wp2_with fail
  refine (OfV HV.out).mono ?_
  rintro e w1 ⟨A1, n1, c1, rfl, r1, _, x1⟩
  have I1 := Kp.mk r1
  have J1 := Kp.mk (Ni.of r1 HBN.out (by decide))
  have q1 : n1 ≤ 800 := by have h1 := len16 HBN.out; have h2 := r1.len; omega
  clear r1
  go_wp2_with fail
  refine (bytes_num (HL.out.ext (by (repeat (first | assumption | exact Ext.refl _ | apply Ext.drew | apply Ext.drewN | apply Ext.alloc | refine Ext.trans ?_ (by assumption))); first | done | fail)) (by omega)).mono ?_
  rintro e w2 ⟨A2, n2, c2, rfl, r2, _, x2⟩
  have I2 := Kp.mk r2
  have J2 := Kp.mk (Ni.of r2 HBB.out (by decide))
  clear r2
  have C := Kp.mk (Size_any (I1.out.ext (show Ext w1 w2 from (by (repeat (first | assumption | exact Ext.refl _ | apply Ext.drew | apply Ext.drewN | apply Ext.alloc | refine Ext.trans ?_ (by assumption))); first | done | fail))) (by omega))
  rw [sz_nb, HS.out] at C
  go_wp2_with fail
  refine C.out.mono ?_
  rintro e w3 ⟨rfl, hw⟩
  subst hw
  clear C
  go_wp2_with fail
  refine (RCmpV (J2.out.ext (by (repeat (first | assumption | exact Ext.refl _ | apply Ext.drew | apply Ext.drewN | apply Ext.alloc | refine Ext.trans ?_ (by assumption))); first | done | fail)) (J1.out.ext (by (repeat (first | assumption | exact Ext.refl _ | apply Ext.drew | apply Ext.drewN | apply Ext.alloc | refine Ext.trans ?_ (by assumption))); first | done | fail)) _ Z.out).mono ?_
  rintro e w4 ⟨rfl, x4⟩
  go_wp2_with fail
  refine (OfV (HT.out.ext (by (repeat (first | assumption | exact Ext.refl _ | apply Ext.drew | apply Ext.drewN | apply Ext.alloc | refine Ext.trans ?_ (by assumption))); first | done | fail))).mono ?_
  rintro e w5 ⟨A5, n5, c5, rfl, r5, _, x5⟩
  have I5 := Kp.mk r5
  clear r5
  go_wp2_with fail
  refine (RExpV (I2.out.ext (by (repeat (first | assumption | exact Ext.refl _ | apply Ext.drew | apply Ext.drewN | apply Ext.alloc | refine Ext.trans ?_ (by assumption))); first | done | fail)) (I5.out.ext (by (repeat (first | assumption | exact Ext.refl _ | apply Ext.drew | apply Ext.drewN | apply Ext.alloc | refine Ext.trans ?_ (by assumption))); first | done | fail)) (I1.out.ext (by (repeat (first | assumption | exact Ext.refl _ | apply Ext.drew | apply Ext.drewN | apply Ext.alloc | refine Ext.trans ?_ (by assumption))); first | done | fail)) HBB.out HLT.out HBN.out (by decide) hj (by decide) H0.out).mono ?_
  rintro e w6 ⟨A6, n6, c6, rfl, r6, _, x6⟩
  have I6 := Kp.mk r6
  clear r6
  go_wp2_with fail
  refine (refWrite_any (k := n) I6.out HNP.out (by omega)).mono ?_
  rintro e w7 ⟨A7, c7, rfl, o7, x7⟩
  rw [← H3.out] at o7
  have HO := Kp.mk o7.bs
  have HX := Kp.mk (show Ext w w7 from (by (repeat (first | assumption | exact Ext.refl _ | apply Ext.drew | apply Ext.drewN | apply Ext.alloc | refine Ext.trans ?_ (by assumption))); first | done | fail))
  clear o7 x1 x2 x4 x5 x6 x7
  go_wp2_with fail
  go_ret2
  exact ⟨A7, c7, rfl, HO.out, HX.out⟩
set_option maxHeartbeats 2000000 in
theorem Power_none (hl : Bs w A n c l) (hv : Nv w D k f vn) (h300 : n ≤ 400) (h128 : nb vn ≤ 128) (h : rs l vt vn = none) :
    Calls Tryd.prog 13 #[.slice A n c, .slice B m d, .slice D k f] w (NoB w) := by
  have hlen := hl.len
  obtain ⟨N, hN⟩ : ∃ N, nb vn = N := ⟨_, rfl⟩
  have bn := nb_bb h128
  have HV := Kp.mk hv
  have HL := Kp.mk hl
  have HS := Kp.mk hN
  have HBN := Kp.mk bn
  obtain ⟨J, hJ, bb⟩ : ∃ J, J ≤ 400 ∧ bnum l < BB ^ J := ⟨n, h300, by
    rw [← b256]
    exact Nat.lt_of_lt_of_le (bnum_lt l) (Nat.pow_le_pow_right (by decide) (by omega))⟩
  have HBB := Kp.mk bb
  by_cases he : n = N
  · subst he
    have hge : vn ≤ bnum l := by
      unfold rs at h
      split at h
      · cases h
      · next h1 =>
        rcases Nat.lt_or_ge (bnum l) vn with h2 | h2
        · exact absurd ⟨by omega, h2⟩ h1
        · exact h2
    obtain ⟨z, hz, z1⟩ := cmpI_up hge
    have Z := Kp.mk hz
    clear h hl hv bn hN hge hz bb
    go_enter Tryd.func13, Tryd.ntmps13
    go_wp2_with fail
    refine (OfV HV.out).mono ?_
    rintro e w1 ⟨A1, n1, c1, rfl, r1, _, x1⟩
    have I1 := Kp.mk r1
    have J1 := Kp.mk (Ni.of r1 HBN.out (by decide))
    have q1 : n1 ≤ 800 := by have h1 := len16 HBN.out; have h2 := r1.len; omega
    clear r1
    go_wp2_with fail
    refine (bytes_num (HL.out.ext (by (repeat (first | assumption | exact Ext.refl _ | apply Ext.drew | apply Ext.drewN | apply Ext.alloc | refine Ext.trans ?_ (by assumption))); first | done | fail)) (by omega)).mono ?_
    rintro e w2 ⟨A2, n2, c2, rfl, r2, _, x2⟩
    have J2 := Kp.mk (Ni.of r2 HBB.out hJ)
    clear r2
    have C := Kp.mk (Size_any (I1.out.ext (show Ext w1 w2 from (by (repeat (first | assumption | exact Ext.refl _ | apply Ext.drew | apply Ext.drewN | apply Ext.alloc | refine Ext.trans ?_ (by assumption))); first | done | fail))) (by omega))
    rw [sz_nb, HS.out] at C
    go_wp2_with fail
    refine C.out.mono ?_
    rintro e w3 ⟨rfl, hw⟩
    subst hw
    clear C
    go_wp2_with fail
    refine (RCmpV (J2.out.ext (by (repeat (first | assumption | exact Ext.refl _ | apply Ext.drew | apply Ext.drewN | apply Ext.alloc | refine Ext.trans ?_ (by assumption))); first | done | fail)) (J1.out.ext (by (repeat (first | assumption | exact Ext.refl _ | apply Ext.drew | apply Ext.drewN | apply Ext.alloc | refine Ext.trans ?_ (by assumption))); first | done | fail)) _ Z.out).mono ?_
    rintro e w4 ⟨rfl, x4⟩
    have HX := Kp.mk (show Ext w w4 from (by (repeat (first | assumption | exact Ext.refl _ | apply Ext.drew | apply Ext.drewN | apply Ext.alloc | refine Ext.trans ?_ (by assumption))); first | done | fail))
    clear x1 x2 x4
    go_wp2_with fail
    go_ret2
    exact ⟨rfl, HX.out⟩
  · have hne : ¬ (n : Int) = (N : Int) := by omega
    clear h hl hv bn hN bb he
    go_enter Tryd.func13, Tryd.ntmps13
    go_wp2_with fail
    refine (OfV HV.out).mono ?_
    rintro e w1 ⟨A1, n1, c1, rfl, r1, _, x1⟩
    have I1 := Kp.mk r1
    have q1 : n1 ≤ 800 := by have h1 := len16 HBN.out; have h2 := r1.len; omega
    clear r1
    go_wp2_with fail
    refine (bytes_num (HL.out.ext (by (repeat (first | assumption | exact Ext.refl _ | apply Ext.drew | apply Ext.drewN | apply Ext.alloc | refine Ext.trans ?_ (by assumption))); first | done | fail)) (by omega)).mono ?_
    rintro e w2 ⟨A2, n2, c2, rfl, r2, _, x2⟩
    clear r2
    have C := Kp.mk (Size_any (I1.out.ext (show Ext w1 w2 from (by (repeat (first | assumption | exact Ext.refl _ | apply Ext.drew | apply Ext.drewN | apply Ext.alloc | refine Ext.trans ?_ (by assumption))); first | done | fail))) (by omega))
    rw [sz_nb, HS.out] at C
    go_wp2_with fail
    refine C.out.mono ?_
    rintro e w3 ⟨rfl, hw⟩
    subst hw
    clear C
    have HX := Kp.mk (show Ext w w3 from (by (repeat (first | assumption | exact Ext.refl _ | apply Ext.drew | apply Ext.drewN | apply Ext.alloc | refine Ext.trans ?_ (by assumption))); first | done | fail))
    clear x1 x2
    go_wp2_with fail
    go_ret2
    exact ⟨rfl, HX.out⟩
end
/-- the first byte 00 -/
theorem fz_eq {l : List (BitVec 8)} {k : Nat} (h : ∀ j, j < k → gb l j ≠ 0) (hk : k < l.length) (h0 : gb l k = 0) : fz l = k := by
  have h1 := fz_le l
  rcases Nat.lt_trichotomy (fz l) k with h2 | h2 | h2
  · exact absurd (fz_at l (by omega)) (h _ h2)
  · exact h2
  · exact absurd h0 (fz_ahead l k h2)
theorem fz_end {l : List (BitVec 8)} (h : ∀ j, j < l.length → gb l j ≠ 0) : fz l = l.length := by
  have h1 := fz_le l
  rcases Nat.lt_or_ge (fz l) l.length with h2 | h2
  · exact absurd (fz_at l h2) (h _ h2)
  · omega
theorem take_two {l : List (BitVec 8)} (h : 2 ≤ l.length) : l.take 2 = [gb l 0, gb l 1] := by
  match l, h with
  | x :: y :: r, _ => simp [gb]
section
variable {A B D : Option Addr} {n c m d k f N : Nat} {w : World} {l l1 l2 : List (BitVec 8)}
/-- what Shown tells -/
def ShownR (w : World) (o : Option (List (BitVec 8))) (e : Ending) (w' : World) : Prop :=
  ∃ A n c t b, e = .returned (.tuple #[.slice A n c, .bool b]) ∧ n ≤ 400 ∧ Bs w' A n c t ∧ Ext w w' ∧ ((b = false ∧ o = none) ∨ (b = true ∧ o = some t))
theorem nul_bs (w : World) : Bs w none 0 0 [] := Bs.nil w
set_option maxHeartbeats 2000000 in
theorem refShown_any (hl : Bs w A n c l) (hn : n ≤ 400) : Calls Tryd.prog 16 #[.slice A n c] w (ShownR w (shownL l)) := by
  have hlen := hl.len
  have HL := Kp.mk hl
  by_cases h11 : n < 11
  · have hs : shownL l = none := by
      unfold shownL
      rw [if_neg]
      rintro ⟨_, h2, h3⟩
      rw [List.length_drop] at h2
      omega
    rw [hs]
    have d1 : (n : Int) < 11 := by omega
    clear hl hs
    go_enter Tryd.func16, Tryd.ntmps16
    go_wp2_with fail
    go_ret2
    exact ⟨none, 0, 0, [], false, rfl, by omega, Bs.nil _, (by (repeat (first | assumption | exact Ext.refl _ | apply Ext.drew | apply Ext.drewN | apply Ext.alloc | refine Ext.trans ?_ (by assumption))); first | done | fail), .inl ⟨rfl, rfl⟩⟩
  · have d1 : decide ((n : Int) < 11) = false := decide_eq_false (by omega)
    have d1' : decide (n < 11) = false := decide_eq_false h11
    obtain ⟨g, o, rfl, hc⟩ := hl.s.2.2.2 (by omega)
    have c0 := hc 0 (by omega)
    have c1 := hc 1 (by omega)
    rw [Nat.add_zero] at c0
    have e0 : (⟨g, o, none⟩ : Addr) = ⟨g, o + 0, none⟩ := rfl
    have ht2 := take_two (l := l) (by omega)
    by_cases h0 : gb l 0 = 0
    · rw [h0] at c0
      by_cases h2 : gb l 1 = 2
      · rw [h2] at c1
        have HC := Kp.mk hc
        have HT := Kp.mk (show l.take 2 = [0, 2] by rw [ht2, h0, h2])
        have hcap := hl.cap
        have u0 : ub (0 : BitVec 8) = 0 := rfl
        have u2 : ub (2 : BitVec 8) = 2 := rfl
        rw [u0] at c0
        rw [u2] at c1
        clear hl hc ht2 h0 h2 u0 u2 e0
        go_enter Tryd.func16, Tryd.ntmps16
        go_wp2_with fail
        go_loopw [4] (fun iv wr => ∃ i : Nat, 2 ≤ i ∧ i ≤ n ∧ iv = .int .i64 (i : Int) ∧ (∀ j, 2 ≤ j → j < i → gb l j ≠ 0) ∧ wr = w) (fun iv _ => n - (intOf iv).toNat)
        case atStart => exact ⟨2, by omega, by omega, rfl, fun j h1 h2 => by omega, rfl⟩
        case round =>
          obtain ⟨i, hi2, hi, rfl, hz, rfl⟩ := hrel
          have HZ := Kp.mk hz
          have b2 : (i : Int) < 1000 := by omega
          by_cases hlt : i < n
          · have ci := HC.out i hlt
            have b0 : (i : Int) < (n : Int) := by omega
            by_cases hq : gb l i = 0
            · rw [hq, show ub (0 : BitVec 8) = 0 from rfl] at ci
              have hf : fz (l.drop 2) = i - 2 := by
                refine fz_eq (fun j hj => ?_) (by rw [List.length_drop, hlen]; omega) ?_
                · rw [gb_drop]; exact HZ.out _ (by omega) (by omega)
                · rw [gb_drop, show 2 + (i - 2) = i by omega]; exact hq
              have hfl : fz (l.drop 2) < (l.drop 2).length := by rw [hf, List.length_drop, hlen]; omega
              have hdr := HL.out.drop (i + 1) (by omega)
              have hs := fun W => run_from (P := Tryd.prog) (some ⟨g, o, none⟩) n c 26 5 Tryd.underlying26 szB (i + 1) ((i : Int) + 1) (by omega) (by omega) W
              obtain ⟨A', hA'⟩ : ∃ A', (if c = i + 1 then (some ⟨g, o, none⟩ : Option Addr) else Option.map (fun x : Addr => x.add (i + 1)) (some ⟨g, o, none⟩)) = A' := ⟨_, rfl⟩
              rw [hA'] at hdr
              simp only [hA'] at hs
              obtain ⟨M, hM⟩ : ∃ M, n - (i + 1) = M := ⟨_, rfl⟩
              rw [hM] at hdr
              simp only [hM] at hs
              have hM4 : M ≤ 400 := by omega
              have ho := Own.new wr wr.heap.size 0 [] rfl (Nat.le_refl _) (Nat.zero_le _)
              have hx : Ext wr (wr.alloc (.cells (bv []) 5)) := (by (repeat (first | assumption | exact Ext.refl _ | apply Ext.drew | apply Ext.drewN | apply Ext.alloc | refine Ext.trans ?_ (by assumption))); first | done | fail)
              have hb := hdr.ext hx
              have w1' : IntKind.i64.wrap ((i : Int) + 1) = (i : Int) + 1 := by rw [IntKind.wrap_i64]; omega
              obtain ⟨T, hT⟩ : ∃ T, l.drop (i + 1) = T := ⟨_, rfl⟩
              rw [hT] at hdr hb
              have hdd : (l.drop 2).drop (fz (l.drop 2) + 1) = T := by rw [hf, List.drop_drop, ← hT]; congr 1; omega
              by_cases h10 : 10 ≤ i
              · have hres : shownL l = some T := by unfold shownL; rw [if_pos ⟨HT.out, hfl, by omega⟩, hdd]
                have HRES := Kp.mk hres
                have b10 : (10 : Int) ≤ (i : Int) := by omega
                clear hA' hf hfl hdd hT hres hq hz hdr
                go_wp2_with (first | (at_builtin; refine wpList_append_bs rfl (.tmp 31) (.tmp 35) rfl wr.heap.size _ 0 [] rfl ho A' M (c - (i + 1)) T rfl hb (by omega) M (by omega) T rfl wr hx (Nat.le_refl _) hx.size ?_; intro A5 c5 w5 ho5 hx5 _) | fail)
                go_ret2
                exact ⟨A5, M, c5, T, true, rfl, hM4, ho5.bs, hx5, .inr ⟨rfl, HRES.out⟩⟩
              · have hres : shownL l = none := by unfold shownL; rw [if_neg]; rintro ⟨_, _, h3⟩; omega
                have HRES := Kp.mk hres
                have b10 : decide ((10 : Int) ≤ (i : Int)) = false := decide_eq_false (by omega)
                have b10' : decide (10 ≤ i) = false := decide_eq_false (by omega)
                clear hA' hf hfl hdd hT hres hq hz hdr
                go_wp2_with (first | (at_builtin; refine wpList_append_bs rfl (.tmp 31) (.tmp 35) rfl wr.heap.size _ 0 [] rfl ho A' M (c - (i + 1)) T rfl hb (by omega) M (by omega) T rfl wr hx (Nat.le_refl _) hx.size ?_; intro A5 c5 w5 ho5 hx5 _) | fail)
                go_ret2
                exact ⟨A5, M, c5, T, false, rfl, hM4, ho5.bs, hx5, .inl ⟨rfl, HRES.out⟩⟩
            · have hne : ¬ ub (gb l i) = 0 := fun e => hq (by apply BitVec.eq_of_toNat_eq; unfold ub at e; simpa using e)
              have HQ := Kp.mk hq
              generalize gb l i = x at ci hne
              generalize ub x = y at ci hne
              clear hz hq
              have hbe : (y == 0) = false := beq_eq_false_iff_ne.2 hne
              go_wp2_with fail
              go_roundw
              case rel => exact ⟨i + 1, by omega, by omega, by go_num, fun j h1 h2 => by
                rcases Nat.lt_or_ge j i with h3 | h3
                · exact HZ.out j h1 h3
                · obtain rfl : j = i := by omega
                  exact HQ.out, trivial⟩
              case measure => simp [intOf]; omega
          · obtain rfl : i = n := by omega
            have hres : shownL l = none := by
              unfold shownL
              rw [if_neg]
              rintro ⟨_, h2, _⟩
              have h3 := fz_end (l := l.drop 2) (fun j hj => by
                rw [List.length_drop, hlen] at hj
                rw [gb_drop]
                exact HZ.out _ (by omega) (by omega))
              omega
            have HRES := Kp.mk hres
            clear hz hres
            go_wp2_with fail
            go_ret2
            exact ⟨none, 0, 0, [], false, rfl, by omega, Bs.nil _, Ext.refl _, .inl ⟨rfl, HRES.out⟩⟩
      · have hs : shownL l = none := by
          unfold shownL
          rw [if_neg]
          rintro ⟨h3, _, _⟩
          rw [ht2] at h3
          exact h2 (by injection h3 with _ h4; injection h4)
        rw [hs]
        have hne : ¬ ub (gb l 1) = 2 := fun e => h2 (by apply BitVec.eq_of_toNat_eq; unfold ub at e; show (gb l 1).toNat = 2; omega)
        rw [show ub (0 : BitVec 8) = 0 from rfl] at c0
        generalize gb l 1 = x at c1 hne
        generalize ub x = y at c1 hne
        clear hl hc ht2 hs h2 h0 e0
        go_enter Tryd.func16, Tryd.ntmps16
        go_wp2_with fail
        go_ret2
        exact ⟨none, 0, 0, [], false, rfl, by omega, Bs.nil _, (by (repeat (first | assumption | exact Ext.refl _ | apply Ext.drew | apply Ext.drewN | apply Ext.alloc | refine Ext.trans ?_ (by assumption))); first | done | fail), .inl ⟨rfl, rfl⟩⟩
    · have hs : shownL l = none := by
        unfold shownL
        rw [if_neg]
        rintro ⟨h3, _, _⟩
        rw [ht2] at h3
        exact h0 (by injection h3)
      rw [hs]
      have hne : ¬ ub (gb l 0) = 0 := fun e => h0 (by apply BitVec.eq_of_toNat_eq; unfold ub at e; simpa using e)
      generalize gb l 0 = x at c0 hne
      generalize ub x = y at c0 hne
      clear hl hc ht2 hs h0 e0
      go_enter Tryd.func16, Tryd.ntmps16
      go_wp2_with fail
      go_ret2
      exact ⟨none, 0, 0, [], false, rfl, by omega, Bs.nil _, (by (repeat (first | assumption | exact Ext.refl _ | apply Ext.drew | apply Ext.drewN | apply Ext.alloc | refine Ext.trans ?_ (by assumption))); first | done | fail), .inl ⟨rfl, rfl⟩⟩
end
end Go.Proofs.YticggkllfojgkaaDoor
