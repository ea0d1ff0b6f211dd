/-
  The reference's Exp, Gcd.
-/
import Derived.Test.YtpmoaccaknfodaaQf
namespace Go.Proofs.Ytpmoaccaknfodaa
open Go Go.RowKit

theorem lt_len {v m : Nat} (h : v < 65536 ^ m) : (dgs 65536 v).length ≤ m := (len_iff (by decide) v m).2 h
theorem lt16_mul {x y j k : Nat} (hx : x < 65536 ^ j) (hy : y < 65536 ^ k) : x * y < 65536 ^ (j + k) := by
  rw [Nat.pow_add]
  exact Nat.mul_lt_mul_of_lt_of_le hx (Nat.le_of_lt hy) (Nat.pow_pos (by decide))
theorem rd_ni {w : World} {A : Option Addr} {n c v m : Nat} (h : Rd vI w A n c (dgs 65536 v)) (hv : v < 65536 ^ m) (hm : m ≤ 1000000) : Ni w A n c v := ⟨h, by have := lt_len hv; have := h.len; omega⟩
theorem and1i (y : Nat) (hy : y < 4294967296) : bits .and .i64 (y : Int) 1 = ((y % 2 : Nat) : Int) := by
  show IntKind.i64.wrap ((BitVec.ofInt 64 (y : Int) &&& BitVec.ofInt 64 1).toNat : Int) = _
  rw [BitVec.ofInt_natCast, show BitVec.ofInt 64 1 = BitVec.ofNat 64 1 by decide, BitVec.toNat_and, BitVec.toNat_ofNat, BitVec.toNat_ofNat, Nat.mod_eq_of_lt (by omega), show 1 % 2 ^ 64 = 1 by decide, Nat.and_one_is_mod, IntKind.wrap_i64]
  omega
set_option maxHeartbeats 4000000 in
theorem exp_any {A E M : Option Addr} {n c k d m f va ve vm : Nat} {w : World} (ha : Ni w A n c va) (he : Ni w E k d ve) (hm : Ni w M m f vm) (hn : n ≤ 1000) (hk : k ≤ 1000) (hmm : m ≤ 1000) (h0 : vm ≠ 0) :
    Calls Try.prog 28 #[.slice A n c, .slice E k d, .slice M m f] w (FreshN w (va ^ ve % vm)) := by
  have hlm := hm.r.len
  have hle := he.r.len
  have lvm : vm < 65536 ^ m := (len_iff (by decide) vm m).1 (by omega)
  have lve : ve < 65536 ^ k := (len_iff (by decide) ve k).1 (by omega)
  have HA := Kp.mk ha
  have HE := Kp.mk he
  have HM := Kp.mk hm
  have hmp := Nat.pos_of_ne_zero h0
  have C1 := Kp.mk (rest_any (show Ni (w.alloc (.cells #[.int .i64 (1 : Int)] it)) (some ⟨w.heap.size, 0, none⟩) 1 1 1 from ⟨by rw [← one_dgs (d := 1) (by decide) (by decide)]; exact lit1 w 1 _ rfl, by omega⟩) (hm.ext (by (repeat (first | assumption | exact Ext.refl _ | apply Ext.drew | apply Ext.drewN | apply Ext.alloc | refine Ext.trans ?_ (by assumption))); first | done | fail)) (by omega) (by omega) h0)
  have LM := Kp.mk lvm
  have LE := Kp.mk lve
  clear ha he hm lvm lve
  go_enter Try.func28, Try.ntmps28
  go_wp2_with fail
  refine C1.out.mono ?_
  rintro e w1 ⟨A1, n1, c1, rfl, r1, o1, x1⟩
  have X1 := Kp.mk ((show Ext w (w.alloc (.cells #[.int .i64 (1 : Int)] it)) from (by (repeat (first | assumption | exact Ext.refl _ | apply Ext.drew | apply Ext.drewN | apply Ext.alloc | refine Ext.trans ?_ (by assumption))); first | done | fail)).trans x1)
  have O1 := Kp.mk (o1.lower (B' := w.heap.size) (by simp))
  clear r1 o1 x1 C1
  go_wp2_with fail
  refine (rest_any (HA.out.ext X1.out) (HM.out.ext X1.out) (by omega) (by omega) h0).mono ?_
  rintro e w2 ⟨A2, n2, c2, rfl, r2, o2, x2⟩
  have X2 := Kp.mk (X1.out.trans x2)
  have O2 := Kp.mk r2
  have O12 := Kp.mk (O1.out.ext x2)
  clear r2 o2 x2
  have w16 : IntKind.i64.wrap (16 * (k : Int)) = 16 * (k : Int) := by rw [IntKind.wrap_i64]; omega
  go_wp2_with fail
  go_loopw [7, 9] (fun ov iv wr => ∃ i : Nat, ∃ A n c, i ≤ 16 * k ∧ iv = .int .i64 ((i : Int) - 1) ∧ ov = .slice A n c ∧ Rn wr w.heap.size (.slice A n c) n (dgs 65536 (va ^ (ve / 2 ^ i) % vm)) ∧ Ext w2 wr) (fun _ i _ => (intOf i + 1).toNat)
  case atStart =>
    refine ⟨16 * k, _, _, _, Nat.le_refl _, by go_num, rfl, ?_, Ext.refl _⟩
    rw [Nat.div_eq_of_lt (by rw [Nat.pow_mul]; exact LE.out), Nat.pow_zero]
    exact O12.out
  case round =>
    obtain ⟨i, A3, n3, c3, hi, rfl, rfl, ho, hx⟩ := hrel
    have HO := Kp.mk ho
    have HX := Kp.mk hx
    clear ho hx
    by_cases hi0 : i = 0
    · subst hi0
      rw [Nat.pow_zero, Nat.div_one] at HO
      have HF := Kp.mk (show FreshN w (va ^ ve % vm) (.returned (.slice A3 n3 c3)) wr from ⟨_, _, _, rfl, HO.out.rd, HO.out, X2.out.trans HX.out⟩)
      clear HO
      go_wp2_with fail
      go_ret
      exact HF.out
    · obtain ⟨j, rfl⟩ : ∃ j, i = j + 1 := ⟨i - 1, by omega⟩
      have e0 : ((j + 1 : Nat) : Int) - 1 = (j : Int) := by omega
      rw [e0]
      have hpb := pow_bit va ve vm j
      have hbd := bit_dg 16 (dgs 65536 ve) (cn_dgs (B := 65536) (by decide) ve).d j (by decide)
      rw [show (2 : Nat) ^ 16 = 65536 from rfl, vl_dgs (B := 65536) (by decide)] at hbd
      rw [hbd] at hpb
      obtain ⟨P, hP⟩ : ∃ P, va ^ (ve / 2 ^ (j + 1)) % vm = P := ⟨_, rfl⟩
      rw [hP] at hpb HO
      have hPm : P < vm := by rw [← hP]; exact Nat.mod_lt _ hmp
      have lP : P < 65536 ^ m := Nat.lt_trans hPm LM.out
      have NP := Kp.mk (rd_ni HO.out.rd lP (by omega))
      have C2 := Kp.mk (RMulV NP.out NP.out)
      have LPP := Kp.mk (lt16_mul lP lP)
      have HPB := Kp.mk hpb
      clear hbd hP hpb lP hPm
      go_wp2_with fail
      refine C2.out.mono ?_
      rintro e w3 ⟨A4, n4, c4, rfl, r4, _, x4⟩
      have N4 := rd_ni r4 LPP.out (by omega)
      have C3 := Kp.mk (rest_any N4 (HM.out.ext (X2.out.trans (HX.out.trans x4))) (by have := lt_len LPP.out; have := r4.len; omega) (by omega) h0)
      have X4 := Kp.mk (HX.out.trans x4)
      have XR4 := Kp.mk x4
      clear N4 r4 x4 C2
      go_wp2_with fail
      refine C3.out.mono ?_
      rintro e w5 ⟨A5, n5, c5, rfl, r5, o5, x5⟩
      have X5 := Kp.mk (X4.out.trans x5)
      have O5 := Kp.mk (o5.lower (B' := w.heap.size) (X2.out.trans X4.out).size)
      clear r5 o5 x5 C3
      obtain ⟨g, o, rfl⟩ := HE.out.r.some_ (by omega)
      have k1 := (HE.out.r.ext (X2.out.trans X5.out)).dig (j / 16) (by omega)
      unfold vI at k1
      have hy := (cn_dgs (B := 65536) (by decide) ve).d.at (by decide) (j / 16)
      generalize dg (dgs 65536 ve) (j / 16) = y at *
      have q1 : (j : Int) / 16 = ((j / 16 : Nat) : Int) := by omega
      have q2 : (j : Int) % 16 = ((j % 16 : Nat) : Int) := by omega
      have hq : j / 16 < k := by omega
      have hr : j % 16 < 16 := by omega
      have hjb : (j : Int) < 32000 := by omega
      obtain ⟨q, hqq⟩ : ∃ q, j / 16 = q := ⟨_, rfl⟩
      obtain ⟨r, hrr⟩ : ∃ r, j % 16 = r := ⟨_, rfl⟩
      rw [hqq] at q1 hq k1
      rw [hrr] at q2 hr HPB
      have hyr : y / 2 ^ r < 65536 := Nat.lt_of_le_of_lt (Nat.div_le_self _ _) hy
      have e1 : (y : Int) / 2 ^ r = ((y / 2 ^ r : Nat) : Int) := by simp
      have e2 := and1i (y / 2 ^ r) (by omega)
      obtain ⟨z, hz⟩ : ∃ z, y / 2 ^ r = z := ⟨_, rfl⟩
      rw [hz] at HPB e1 e2 hyr
      have b1 : (q : Int) < (k : Int) := by omega
      have b2 : (y : Int) < 65536 := by omega
      clear hqq hrr hz
      rcases Nat.mod_two_eq_zero_or_one z with hbit | hbit
      · rw [hbit, if_neg (by decide), Nat.mul_one, Nat.mod_mod] at HPB
        have HF := Kp.mk (And.intro O5.out X5.out)
        rw [← HPB.out] at HF
        clear O5 X5 HPB NP
        go_wp2_with fail
        go_roundw
        case rel => exact ⟨j, _, _, _, by omega, by go_num, rfl, HF.out⟩
        case measure => simp [intOf]
      · rw [hbit, if_pos rfl] at HPB
        have hPm2 : P * P % vm < vm := Nat.mod_lt _ hmp
        have lP2 := Nat.lt_trans hPm2 LM.out
        have lX := Nat.lt_trans (Nat.mod_lt va hmp) LM.out
        have C4 := Kp.mk (RMulV (rd_ni O5.out.rd lP2 (by omega)) (rd_ni (O2.out.ext X5.out) lX (by omega)))
        have L4 := Kp.mk (lt16_mul lP2 lX)
        clear hPm2 lP2 lX
        go_wp2_with fail
        refine C4.out.mono ?_
        rintro e w6 ⟨A6, n6, c6, rfl, r6, _, x6⟩
        have N6 := rd_ni r6 L4.out (by omega)
        have C5 := Kp.mk (rest_any N6 (HM.out.ext (X2.out.trans (X5.out.trans x6))) (by have := lt_len L4.out; have := r6.len; omega) (by omega) h0)
        rw [← HPB.out] at C5
        have X6 := Kp.mk (X5.out.trans x6)
        clear N6 r6 x6 C4
        go_wp2_with fail
        refine C5.out.mono ?_
        rintro e w7 ⟨A7, n7, c7, rfl, r7, o7, x7⟩
        have HF := Kp.mk (And.intro (o7.lower (B' := w.heap.size) (X2.out.trans X6.out).size) (X6.out.trans x7))
        clear r7 o7 x7 C5
        go_wp2_with fail
        go_roundw
        case rel => exact ⟨j, _, _, _, by omega, by go_num, rfl, HF.out⟩
        case measure => simp [intOf]
/-- Euclid: what both have in common -/
theorem gcd_any {A B : Option Addr} {n c m d va vb : Nat} {w : World} (ha : Ni w A n c va) (hb : Ni w B m d vb) (hn : n ≤ 100000) (hm : m ≤ 100000) :
    Calls Try.prog 30 #[.slice A n c, .slice B m d] w fun e w' => ∃ A' n' c', e = .returned (.slice A' n' c') ∧ Rd vI w' A' n' c' (dgs 65536 (Nat.gcd va vb)) ∧ Ext w w' := by
  have HA := Kp.mk (And.intro ha hn)
  have HB := Kp.mk (And.intro hb hm)
  clear ha hb hn hm
  go_enter Try.func30, Try.ntmps30
  go_wp2_with fail
  go_loopw [5, 6] (fun xv yv wr => ∃ x y A n c B m d, xv = .slice A n c ∧ yv = .slice B m d ∧ (Ni wr A n c x ∧ n ≤ 100000) ∧ (Ni wr B m d y ∧ m ≤ 100000) ∧ Nat.gcd x y = Nat.gcd va vb ∧ Ext w wr) (fun _ yv wr => rdI wr yv)
  case atStart => exact ⟨va, vb, _, _, _, _, _, _, rfl, rfl, HA.out, HB.out, rfl, Ext.refl _⟩
  case round =>
    obtain ⟨x, y, A1, n1, c1, A2, n2, c2, rfl, rfl, h1, h2, hg, hx⟩ := hrel
    have H1 := Kp.mk h1
    have H2 := Kp.mk h2
    have HG := Kp.mk hg
    have HX := Kp.mk hx
    clear h1 h2 hg hx HA HB
    by_cases hy : n2 = 0
    · subst hy
      have hy0 : y = 0 := (dgs_nil (B := 65536) (by decide) y).1 (List.eq_nil_of_length_eq_zero H2.out.1.r.len)
      have hxg : x = Nat.gcd va vb := by have h := HG.out; rw [hy0, Nat.gcd_zero_right] at h; exact h
      have HF := Kp.mk H1.out.1.r
      rw [hxg] at HF
      clear hxg hy0
      go_wp2_with fail
      go_ret
      exact ⟨_, _, _, rfl, HF.out, HX.out⟩
    · have hy0 : y ≠ 0 := fun e => hy (by have h := H2.out.1.r.len; rw [e] at h; exact h.symm)
      have b0 : (0 : Int) < (n2 : Int) := by omega
      have C := Kp.mk (rest_any H1.out.1 H2.out.1 H1.out.2 H2.out.2 hy0)
      go_wp2_with fail
      refine C.out.mono ?_
      rintro e w3 ⟨A3, n3, c3, rfl, r3, _, x3⟩
      have hlt : x % y < y := Nat.mod_lt _ (Nat.pos_of_ne_zero hy0)
      have l3 : n3 ≤ 100000 := by
        have h1 := r3.len
        have h2 := H2.out.1.r.len
        have h3 := (len_iff (B := 65536) (by decide) (x % y) n2).2 (Nat.lt_trans hlt ((len_iff (B := 65536) (by decide) y n2).1 (by omega)))
        have h4 := H2.out.2
        omega
      have HF := Kp.mk (And.intro (show Ni w3 A2 n2 c2 y ∧ n2 ≤ 100000 from ⟨H2.out.1.ext x3, H2.out.2⟩) (And.intro (show Ni w3 A3 n3 c3 (x % y) ∧ n3 ≤ 100000 from ⟨⟨r3, by omega⟩, l3⟩) (And.intro (show Nat.gcd y (x % y) = Nat.gcd va vb by rw [← HG.out, Nat.gcd_comm y, ← Nat.gcd_rec, Nat.gcd_comm]) (HX.out.trans x3))))
      have HM := Kp.mk (show rdI w3 (.slice A3 n3 c3) < rdI wr (.slice A2 n2 c2) by rw [rdI_eq r3, rdI_eq H2.out.1.r]; exact hlt)
      clear r3 x3 hlt l3 C
      go_wp2_with fail
      go_roundw
      case rel => exact ⟨_, _, _, _, _, _, _, _, rfl, rfl, HF.out⟩
      case measure => exact HM.out
end Go.Proofs.Ytpmoaccaknfodaa
