/-
  The reference's Div, Rest.
  The reference's Exp, Gcd.
  rsa: secretMay, Check; the reference's odd, Public, Secret, Size; the laws' light, public, cut.
  The walk of the law NatDivs.
-/
import Derived.Test.YtkdjhklnlnfhfaaGreatDoorM24
namespace Go.Proofs.YtkdjhklnlnfhfaaGreatDoor
open Go Go.RowKit
set_option maxRecDepth 4000

theorem cons_dgs {x R : Nat} (hx : x < 65536) : vl 65536 ([x] ++ dgs 65536 R) = x + 65536 * R ∧ Dg 65536 ([x] ++ dgs 65536 R) :=
  ⟨by rw [List.singleton_append]; show x + 65536 * vl 65536 (dgs 65536 R) = _; rw [vl_dgs (by decide)], (Dg.one hx).append (cn_dgs (by decide) R).d⟩
theorem one_dgs {d : Nat} (h0 : d ≠ 0) (hd : d < 65536) : [d] = dgs 65536 d := dgs_of (by decide) ⟨Dg.one hd, by simpa using h0⟩ (by simp [vl])
theorem len_mul {r vb m : Nat} (h : r < 65536 * vb) (hb : (dgs 65536 vb).length = m) : (dgs 65536 r).length ≤ m + 1 := by
  refine (len_iff (by decide) r (m + 1)).2 ?_
  have h1 := (len_iff (B := 65536) (by decide) vb m).1 (by omega)
  rw [Nat.pow_succ]
  omega
theorem cmpI_ge {a b : Nat} (h : b ≤ a) : ¬ cmpI a b < 0 := by
  rcases Nat.lt_or_ge b a with h1 | h1
  · rw [cmpI_gt h1]; decide
  · rw [show a = b by omega, cmpI_eq]; decide
theorem litI_own (w : World) (x : Nat) (a : Int) (B : Nat) (ha : a = (x : Int)) (hB : B ≤ w.heap.size) : Rn (w.alloc (.cells #[.int .i64 a] it)) B (.slice (some ⟨w.heap.size, 0, none⟩) 1 1) 1 [x] := by
  subst ha
  exact Rw.has (Has.new w it _ _ rfl) (by rfl) hB (by decide)
/-- between the rounds -/
structure DvW (w : World) (a : List Nat) (vb n i R : Nat) (qs : List Nat) (A2 : Option Addr) (n2 c2 : Nat) (wr : World) : Prop where
  s : DivS 65536 a vb i qs R
  q : Rn wr w.heap.size (.slice (some ⟨w.heap.size, 0, none⟩) n n) n qs
  r : Rn wr (w.heap.size + 1) (.slice A2 n2 c2) n2 (dgs 65536 R)
  x : Ext w wr
  sz : w.heap.size + 1 ≤ wr.heap.size
structure DtW (w : World) (a : List Nat) (vb n k r d : Nat) (qs : List Nat) (A2 : Option Addr) (n2 c2 : Nat) (wr : World) : Prop where
  s : DivT 65536 a vb k qs r d
  q : Rn wr w.heap.size (.slice (some ⟨w.heap.size, 0, none⟩) n n) n qs
  r : Rn wr (w.heap.size + 1) (.slice A2 n2 c2) n2 (dgs 65536 r)
  x : Ext w wr
  sz : w.heap.size + 1 ≤ wr.heap.size
def DivR (w : World) (va vb : Nat) (e : Ending) (w' : World) : Prop :=
  ∃ A1 n1 c1 A2 n2 c2, e = .returned (.tuple #[.slice A1 n1 c1, .slice A2 n2 c2]) ∧ Rn w' w.heap.size (.slice A1 n1 c1) n1 (dgs 65536 (va / vb)) ∧ Rn w' w.heap.size (.slice A2 n2 c2) n2 (dgs 65536 (va % vb)) ∧ Ext w w'
end Go.Proofs.YtkdjhklnlnfhfaaGreatDoor
namespace Go.Proofs.YtkdjhklnlnfhfaaGreatDoor
open Go Go.RowKit
set_option maxRecDepth 4000

theorem lt_len {v m : Nat} (h : v < 65536 ^ m) : (dgs 65536 v).length ≤ m := (len_iff (by decide) v m).2 h
theorem lt16_mul {x y j k : Nat} (hx : x < 65536 ^ j) (hy : y < 65536 ^ k) : x * y < 65536 ^ (j + k) := by
  rw [Nat.pow_add]
  exact Nat.mul_lt_mul_of_lt_of_le hx (Nat.le_of_lt hy) (Nat.pow_pos (by decide))
theorem rd_ni {w : World} {A : Option Addr} {n c v m : Nat} (h : Rd vI w A n c (dgs 65536 v)) (hv : v < 65536 ^ m) (hm : m ≤ 1000000) : Ni w A n c v := ⟨h, by have := lt_len hv; have := h.len; omega⟩
theorem and1i (y : Nat) (hy : y < 4294967296) : bits .and .i64 (y : Int) 1 = ((y % 2 : Nat) : Int) := by
  show IntKind.i64.wrap ((BitVec.ofInt 64 (y : Int) &&& BitVec.ofInt 64 1).toNat : Int) = _
  rw [BitVec.ofInt_natCast, show BitVec.ofInt 64 1 = BitVec.ofNat 64 1 by decide, BitVec.toNat_and, BitVec.toNat_ofNat, BitVec.toNat_ofNat, Nat.mod_eq_of_lt (by omega), show 1 % 2 ^ 64 = 1 by decide, Nat.and_one_is_mod, IntKind.wrap_i64]
  omega
end Go.Proofs.YtkdjhklnlnfhfaaGreatDoor
namespace Go.Proofs.YtkdjhklnlnfhfaaGreatDoor
open Go Go.RowKit
set_option maxRecDepth 4000

theorem sec_cases (vn ve vd : Nat) : (SecOk vn ve vd ∧ PubOk vn ve ∧ 1 ≤ vd ∧ vd < vn) ∨ (¬ SecOk vn ve vd ∧ ¬ PubOk vn ve) ∨ (¬ SecOk vn ve vd ∧ PubOk vn ve ∧ vd < 1) ∨ (¬ SecOk vn ve vd ∧ PubOk vn ve ∧ 1 ≤ vd ∧ vn ≤ vd) := by
  unfold SecOk
  by_cases h : PubOk vn ve
  · simp only [h, true_and, not_true, false_and, false_or]
    omega
  · simp [h]
section
variable {A B D : Option Addr} {n c m d k f vn ve vd : Nat} {w : World}
set_option maxHeartbeats 4000000 in
theorem secretMay_any (hn : Nv w A n c vn) (he : Nv w B m d ve) (hd : Nv w D k f vd) (b : Bool) (hb : b = true ↔ SecOk vn ve vd) :
    Calls Tryz.prog 71 #[.agg #[.slice A n c, .slice B m d, .slice D k f]] w fun e w' => e = .returned (.bool b) ∧ Ext w w' := by
  have HN := Kp.mk hn
  have HE := Kp.mk he
  have HD := Kp.mk hd
  have HB := Kp.mk (Blk.new w 58 #[.slice A n c, .slice B m d, .slice D k f])
  clear hn he hd
  rcases sec_cases vn ve vd with ⟨h, h1, h2, h3⟩ | ⟨h, h1⟩ | ⟨h, h1, h2⟩ | ⟨h, h1, h2, h3⟩
  · obtain rfl : b = true := hb.2 h
    have H1 := Kp.mk h1
    obtain ⟨z, hz, z1⟩ := cmpI_up h2
    have H2 := Kp.mk hz
    clear hz h2
    have H3 := Kp.mk (cmpI_lt h3)
    clear h3
    clear hb h h1
    go_enter Tryz.func71, Tryz.ntmps71
    go_wp2_with fail
    refine (publicMay_any (HN.out.ext (by (repeat (first | assumption | exact Ext.refl _ | apply Ext.drew | apply Ext.drewN | apply Ext.alloc | refine Ext.trans ?_ (by assumption))); first | done | fail)) (HE.out.ext (by (repeat (first | assumption | exact Ext.refl _ | apply Ext.drew | apply Ext.drewN | apply Ext.alloc | refine Ext.trans ?_ (by assumption))); first | done | fail)) true (by simp [H1.out])).mono ?_
    rintro e w2 ⟨rfl, x⟩
    have x2 := x
    clear x
    obtain ⟨c0, c1, c2⟩ := box3 HB.out (show Ext (w.alloc (.cells #[.slice A n c, .slice B m d, .slice D k f] 58)) w2 from (by (repeat (first | assumption | exact Ext.refl _ | apply Ext.drew | apply Ext.drewN | apply Ext.alloc | refine Ext.trans ?_ (by assumption))); first | done | fail))
    go_wp2_with fail
    refine (CmpV (HD.out.ext (by (repeat (first | assumption | exact Ext.refl _ | apply Ext.drew | apply Ext.drewN | apply Ext.alloc | refine Ext.trans ?_ (by assumption))); first | done | fail)) (Nv.lit w2 1 1 rfl (by decide) _ rfl) _ H2.out).mono ?_
    rintro e w3 ⟨rfl, x⟩
    have x3 := Ext.trans (show Ext w2 _ from (by (repeat (first | assumption | exact Ext.refl _ | apply Ext.drew | apply Ext.drewN | apply Ext.alloc | refine Ext.trans ?_ (by assumption))); first | done | fail)) x
    clear x
    obtain ⟨c0, c1, c2⟩ := box3 HB.out (show Ext (w.alloc (.cells #[.slice A n c, .slice B m d, .slice D k f] 58)) w3 from (by (repeat (first | assumption | exact Ext.refl _ | apply Ext.drew | apply Ext.drewN | apply Ext.alloc | refine Ext.trans ?_ (by assumption))); first | done | fail))
    go_wp2_with fail
    refine (CmpV (HD.out.ext (by (repeat (first | assumption | exact Ext.refl _ | apply Ext.drew | apply Ext.drewN | apply Ext.alloc | refine Ext.trans ?_ (by assumption))); first | done | fail)) (HN.out.ext (by (repeat (first | assumption | exact Ext.refl _ | apply Ext.drew | apply Ext.drewN | apply Ext.alloc | refine Ext.trans ?_ (by assumption))); first | done | fail)) _ H3.out).mono ?_
    rintro e w4 ⟨rfl, x⟩
    have x4 := Ext.trans (show Ext w3 _ from (by (repeat (first | assumption | exact Ext.refl _ | apply Ext.drew | apply Ext.drewN | apply Ext.alloc | refine Ext.trans ?_ (by assumption))); first | done | fail)) x
    clear x
    obtain ⟨c0, c1, c2⟩ := box3 HB.out (show Ext (w.alloc (.cells #[.slice A n c, .slice B m d, .slice D k f] 58)) w4 from (by (repeat (first | assumption | exact Ext.refl _ | apply Ext.drew | apply Ext.drewN | apply Ext.alloc | refine Ext.trans ?_ (by assumption))); first | done | fail))
    have HX := Kp.mk (show Ext w w4 from (by (repeat (first | assumption | exact Ext.refl _ | apply Ext.drew | apply Ext.drewN | apply Ext.alloc | refine Ext.trans ?_ (by assumption))); first | done | fail))
    clear x2 x3 x4
    go_wp2_with fail
    go_ret
    exact ⟨rfl, HX.out⟩
  · obtain rfl : b = false := by cases b <;> simp_all
    have H1 := Kp.mk h1
    clear hb h h1
    go_enter Tryz.func71, Tryz.ntmps71
    go_wp2_with fail
    refine (publicMay_any (HN.out.ext (by (repeat (first | assumption | exact Ext.refl _ | apply Ext.drew | apply Ext.drewN | apply Ext.alloc | refine Ext.trans ?_ (by assumption))); first | done | fail)) (HE.out.ext (by (repeat (first | assumption | exact Ext.refl _ | apply Ext.drew | apply Ext.drewN | apply Ext.alloc | refine Ext.trans ?_ (by assumption))); first | done | fail)) false (by simp [H1.out])).mono ?_
    rintro e w2 ⟨rfl, x⟩
    have x2 := x
    clear x
    obtain ⟨c0, c1, c2⟩ := box3 HB.out (show Ext (w.alloc (.cells #[.slice A n c, .slice B m d, .slice D k f] 58)) w2 from (by (repeat (first | assumption | exact Ext.refl _ | apply Ext.drew | apply Ext.drewN | apply Ext.alloc | refine Ext.trans ?_ (by assumption))); first | done | fail))
    have HX := Kp.mk (show Ext w w2 from (by (repeat (first | assumption | exact Ext.refl _ | apply Ext.drew | apply Ext.drewN | apply Ext.alloc | refine Ext.trans ?_ (by assumption))); first | done | fail))
    clear x2
    go_wp2_with fail
    go_ret
    exact ⟨rfl, HX.out⟩
  · obtain rfl : b = false := by cases b <;> simp_all
    have H1 := Kp.mk h1
    have H2 := Kp.mk (cmpI_lt h2)
    clear h2
    clear hb h h1
    go_enter Tryz.func71, Tryz.ntmps71
    go_wp2_with fail
    refine (publicMay_any (HN.out.ext (by (repeat (first | assumption | exact Ext.refl _ | apply Ext.drew | apply Ext.drewN | apply Ext.alloc | refine Ext.trans ?_ (by assumption))); first | done | fail)) (HE.out.ext (by (repeat (first | assumption | exact Ext.refl _ | apply Ext.drew | apply Ext.drewN | apply Ext.alloc | refine Ext.trans ?_ (by assumption))); first | done | fail)) true (by simp [H1.out])).mono ?_
    rintro e w2 ⟨rfl, x⟩
    have x2 := x
    clear x
    obtain ⟨c0, c1, c2⟩ := box3 HB.out (show Ext (w.alloc (.cells #[.slice A n c, .slice B m d, .slice D k f] 58)) w2 from (by (repeat (first | assumption | exact Ext.refl _ | apply Ext.drew | apply Ext.drewN | apply Ext.alloc | refine Ext.trans ?_ (by assumption))); first | done | fail))
    go_wp2_with fail
    refine (CmpV (HD.out.ext (by (repeat (first | assumption | exact Ext.refl _ | apply Ext.drew | apply Ext.drewN | apply Ext.alloc | refine Ext.trans ?_ (by assumption))); first | done | fail)) (Nv.lit w2 1 1 rfl (by decide) _ rfl) _ H2.out).mono ?_
    rintro e w3 ⟨rfl, x⟩
    have x3 := Ext.trans (show Ext w2 _ from (by (repeat (first | assumption | exact Ext.refl _ | apply Ext.drew | apply Ext.drewN | apply Ext.alloc | refine Ext.trans ?_ (by assumption))); first | done | fail)) x
    clear x
    obtain ⟨c0, c1, c2⟩ := box3 HB.out (show Ext (w.alloc (.cells #[.slice A n c, .slice B m d, .slice D k f] 58)) w3 from (by (repeat (first | assumption | exact Ext.refl _ | apply Ext.drew | apply Ext.drewN | apply Ext.alloc | refine Ext.trans ?_ (by assumption))); first | done | fail))
    have HX := Kp.mk (show Ext w w3 from (by (repeat (first | assumption | exact Ext.refl _ | apply Ext.drew | apply Ext.drewN | apply Ext.alloc | refine Ext.trans ?_ (by assumption))); first | done | fail))
    clear x2 x3
    go_wp2_with fail
    go_ret
    exact ⟨rfl, HX.out⟩
  · obtain rfl : b = false := by cases b <;> simp_all
    have H1 := Kp.mk h1
    obtain ⟨z, hz, z1⟩ := cmpI_up h2
    have H2 := Kp.mk hz
    clear hz h2
    obtain ⟨y, hy, y1⟩ := cmpI_no h3
    have H3 := Kp.mk hy
    clear hy h3
    clear hb h h1
    go_enter Tryz.func71, Tryz.ntmps71
    go_wp2_with fail
    refine (publicMay_any (HN.out.ext (by (repeat (first | assumption | exact Ext.refl _ | apply Ext.drew | apply Ext.drewN | apply Ext.alloc | refine Ext.trans ?_ (by assumption))); first | done | fail)) (HE.out.ext (by (repeat (first | assumption | exact Ext.refl _ | apply Ext.drew | apply Ext.drewN | apply Ext.alloc | refine Ext.trans ?_ (by assumption))); first | done | fail)) true (by simp [H1.out])).mono ?_
    rintro e w2 ⟨rfl, x⟩
    have x2 := x
    clear x
    obtain ⟨c0, c1, c2⟩ := box3 HB.out (show Ext (w.alloc (.cells #[.slice A n c, .slice B m d, .slice D k f] 58)) w2 from (by (repeat (first | assumption | exact Ext.refl _ | apply Ext.drew | apply Ext.drewN | apply Ext.alloc | refine Ext.trans ?_ (by assumption))); first | done | fail))
    go_wp2_with fail
    refine (CmpV (HD.out.ext (by (repeat (first | assumption | exact Ext.refl _ | apply Ext.drew | apply Ext.drewN | apply Ext.alloc | refine Ext.trans ?_ (by assumption))); first | done | fail)) (Nv.lit w2 1 1 rfl (by decide) _ rfl) _ H2.out).mono ?_
    rintro e w3 ⟨rfl, x⟩
    have x3 := Ext.trans (show Ext w2 _ from (by (repeat (first | assumption | exact Ext.refl _ | apply Ext.drew | apply Ext.drewN | apply Ext.alloc | refine Ext.trans ?_ (by assumption))); first | done | fail)) x
    clear x
    obtain ⟨c0, c1, c2⟩ := box3 HB.out (show Ext (w.alloc (.cells #[.slice A n c, .slice B m d, .slice D k f] 58)) w3 from (by (repeat (first | assumption | exact Ext.refl _ | apply Ext.drew | apply Ext.drewN | apply Ext.alloc | refine Ext.trans ?_ (by assumption))); first | done | fail))
    go_wp2_with fail
    refine (CmpV (HD.out.ext (by (repeat (first | assumption | exact Ext.refl _ | apply Ext.drew | apply Ext.drewN | apply Ext.alloc | refine Ext.trans ?_ (by assumption))); first | done | fail)) (HN.out.ext (by (repeat (first | assumption | exact Ext.refl _ | apply Ext.drew | apply Ext.drewN | apply Ext.alloc | refine Ext.trans ?_ (by assumption))); first | done | fail)) _ H3.out).mono ?_
    rintro e w4 ⟨rfl, x⟩
    have x4 := Ext.trans (show Ext w3 _ from (by (repeat (first | assumption | exact Ext.refl _ | apply Ext.drew | apply Ext.drewN | apply Ext.alloc | refine Ext.trans ?_ (by assumption))); first | done | fail)) x
    clear x
    obtain ⟨c0, c1, c2⟩ := box3 HB.out (show Ext (w.alloc (.cells #[.slice A n c, .slice B m d, .slice D k f] 58)) w4 from (by (repeat (first | assumption | exact Ext.refl _ | apply Ext.drew | apply Ext.drewN | apply Ext.alloc | refine Ext.trans ?_ (by assumption))); first | done | fail))
    have HX := Kp.mk (show Ext w w4 from (by (repeat (first | assumption | exact Ext.refl _ | apply Ext.drew | apply Ext.drewN | apply Ext.alloc | refine Ext.trans ?_ (by assumption))); first | done | fail))
    clear x2 x3 x4
    go_wp2_with fail
    go_ret
    exact ⟨rfl, HX.out⟩
theorem Check_ok (hn : Nv w A n c vn) (he : Nv w B m d ve) (h : PubOk vn ve) : Calls Tryz.prog 79 #[.agg #[.slice A n c, .slice B m d]] w fun e w' => e = .returned (.nilIface) ∧ Ext w w' := by
  have HN := Kp.mk hn
  have HE := Kp.mk he
  have H1 := Kp.mk h
  clear hn he h
  go_enter Tryz.func79, Tryz.ntmps79
  go_wp2_with fail
  refine (publicMay_any (HN.out.ext (by (repeat (first | assumption | exact Ext.refl _ | apply Ext.drew | apply Ext.drewN | apply Ext.alloc | refine Ext.trans ?_ (by assumption))); first | done | fail)) (HE.out.ext (by (repeat (first | assumption | exact Ext.refl _ | apply Ext.drew | apply Ext.drewN | apply Ext.alloc | refine Ext.trans ?_ (by assumption))); first | done | fail)) true (by simp [H1.out])).mono ?_
  rintro e w2 ⟨rfl, x⟩
  have HX := Kp.mk (Ext.trans (show Ext w (w.alloc (.cells #[.slice A n c, .slice B m d] 29)) from (by (repeat (first | assumption | exact Ext.refl _ | apply Ext.drew | apply Ext.drewN | apply Ext.alloc | refine Ext.trans ?_ (by assumption))); first | done | fail)) x)
  clear x
  go_wp2_with fail
  go_ret
  exact ⟨rfl, HX.out⟩
theorem Check_bad (hn : Nv w A n c vn) (he : Nv w B m d ve) (h : ¬ PubOk vn ve) : Calls Tryz.prog 79 #[.agg #[.slice A n c, .slice B m d]] w fun e w' => e = .returned (err 1) ∧ Ext w w' := by
  have HN := Kp.mk hn
  have HE := Kp.mk he
  have H1 := Kp.mk h
  clear hn he h
  go_enter Tryz.func79, Tryz.ntmps79
  go_wp2_with fail
  refine (publicMay_any (HN.out.ext (by (repeat (first | assumption | exact Ext.refl _ | apply Ext.drew | apply Ext.drewN | apply Ext.alloc | refine Ext.trans ?_ (by assumption))); first | done | fail)) (HE.out.ext (by (repeat (first | assumption | exact Ext.refl _ | apply Ext.drew | apply Ext.drewN | apply Ext.alloc | refine Ext.trans ?_ (by assumption))); first | done | fail)) false (by simp [H1.out])).mono ?_
  rintro e w2 ⟨rfl, x⟩
  have HX := Kp.mk (Ext.trans (show Ext w (w.alloc (.cells #[.slice A n c, .slice B m d] 29)) from (by (repeat (first | assumption | exact Ext.refl _ | apply Ext.drew | apply Ext.drewN | apply Ext.alloc | refine Ext.trans ?_ (by assumption))); first | done | fail)) x)
  clear x
  go_wp2_with fail
  go_ret
  exact ⟨rfl, HX.out⟩
/-- the reference's -/
theorem odd_any {l : List Nat} (h : Rd vI w A n c (dgs 65536 vn)) (hn : n ≤ 1000000000) (b : Bool) (hb : b = true ↔ vn % 2 = 1) : Calls Tryz.prog 95 #[.slice A n c] w fun e w' => e = .returned (.bool b) ∧ Ext w w' := by
  have hlen := h.len
  have hv := vl_dgs (B := 65536) (by decide) vn
  by_cases h0 : n = 0
  · subst h0
    rw [List.eq_nil_of_length_eq_zero hlen] at hv
    obtain rfl : b = false := by cases b <;> simp_all [vl] <;> omega
    clear h hb hv
    go_enter Tryz.func95, Tryz.ntmps95
    go_wp2_with fail
    go_ret
    exact ⟨rfl, (by (repeat (first | assumption | exact Ext.refl _ | apply Ext.drew | apply Ext.drewN | apply Ext.alloc | refine Ext.trans ?_ (by assumption))); first | done | fail)⟩
  · obtain ⟨g, o, rfl⟩ := h.some_ (by omega)
    have k1 := h.dig 0 (by omega)
    unfold vI at k1
    rw [Nat.add_zero] at k1
    have e : vn % 2 = dg (dgs 65536 vn) 0 % 2 := by
      have hs := vl_split 65536 (dgs 65536 vn) 0 (by omega)
      rw [hv, List.take_zero] at hs
      simp only [vl, Nat.pow_zero, Nat.one_mul, Nat.zero_add] at hs
      generalize dg (dgs 65536 vn) 0 = x at *
      omega
    rw [e] at hb
    have b0 : (0 : Int) < (n : Int) := by omega
    clear h e hlen hv
    generalize dg (dgs 65536 vn) 0 = x at *
    by_cases hx : x % 2 = 1
    · obtain rfl : b = true := hb.2 hx
      have a1 : (x : Int) % 2 = 1 := by omega
      have a2 : (x : Int).tmod 2 = 1 := by rw [Int.tmod_eq_emod_of_nonneg (by omega)]; exact a1
      clear hb hx
      go_enter Tryz.func95, Tryz.ntmps95
      go_wp2_with fail
      go_ret
      exact ⟨by first | rfl | simp, (by (repeat (first | assumption | exact Ext.refl _ | apply Ext.drew | apply Ext.drewN | apply Ext.alloc | refine Ext.trans ?_ (by assumption))); first | done | fail)⟩
    · obtain rfl : b = false := by cases b <;> simp_all
      have a1 : (x : Int) % 2 = 0 := by omega
      have a2 : (x : Int).tmod 2 = 0 := by rw [Int.tmod_eq_emod_of_nonneg (by omega)]; exact a1
      clear hb hx
      go_enter Tryz.func95, Tryz.ntmps95
      go_wp2_with fail
      go_ret
      exact ⟨by first | rfl | simp, (by (repeat (first | assumption | exact Ext.refl _ | apply Ext.drew | apply Ext.drewN | apply Ext.alloc | refine Ext.trans ?_ (by assumption))); first | done | fail)⟩
theorem ref_cases (vn ve : Nat) : (PubOk vn ve ∧ 62 ≤ nb vn ∧ nb vn ≤ 128 ∧ vn % 2 = 1 ∧ ve % 2 = 1 ∧ 3 ≤ ve ∧ ve < vn) ∨ (¬ PubOk vn ve ∧ nb vn < 62) ∨ (¬ PubOk vn ve ∧ 62 ≤ nb vn ∧ 128 < nb vn) ∨ (¬ PubOk vn ve ∧ 62 ≤ nb vn ∧ nb vn ≤ 128 ∧ vn % 2 ≠ 1) ∨
    (¬ PubOk vn ve ∧ 62 ≤ nb vn ∧ nb vn ≤ 128 ∧ vn % 2 = 1 ∧ ve % 2 ≠ 1) ∨ (¬ PubOk vn ve ∧ 62 ≤ nb vn ∧ nb vn ≤ 128 ∧ vn % 2 = 1 ∧ ve % 2 = 1 ∧ ve < 3) ∨ (¬ PubOk vn ve ∧ 62 ≤ nb vn ∧ nb vn ≤ 128 ∧ vn % 2 = 1 ∧ ve % 2 = 1 ∧ 3 ≤ ve ∧ vn ≤ ve) := by
  unfold PubOk
  omega
set_option maxHeartbeats 4000000 in
theorem refPublic_any {i j : Nat} (hn : Nv w A n c vn) (he : Nv w B m d ve) (ln : vn < BB ^ i) (le : ve < BB ^ j) (hi : i ≤ 400) (hj : j ≤ 400) (b : Bool) (hb : b = true ↔ PubOk vn ve) :
    Calls Tryz.prog 39 #[.agg #[.slice A n c, .slice B m d]] w fun e w' => e = .returned (.bool b) ∧ Ext w w' := by
  have HN := Kp.mk hn
  have HE := Kp.mk he
  have HB := Kp.mk (Blk.new w 29 #[.slice A n c, .slice B m d])
  have LN := Kp.mk ln
  have LE := Kp.mk le
  clear hn he ln le
  obtain ⟨N, hN⟩ : ∃ N, nb vn = N := ⟨_, rfl⟩
  have HS := Kp.mk hN
  rcases ref_cases vn ve with ⟨h, h1, h2, h3, h4, h5, h6⟩ | ⟨h, h1⟩ | ⟨h, h1, h2⟩ | ⟨h, h1, h2, h3⟩ | ⟨h, h1, h2, h3, h4⟩ | ⟨h, h1, h2, h3, h4, h5⟩ | ⟨h, h1, h2, h3, h4, h5, h6⟩
  · obtain rfl : b = true := hb.2 h
    rw [hN] at h1
    have d1 : (62 : Int) ≤ (N : Int) := by omega
    rw [hN] at h2
    have d2 : (N : Int) ≤ 128 := by omega
    have H3 := Kp.mk h3
    have H4 := Kp.mk h4
    obtain ⟨z, hz, z1⟩ := cmpI_up h5
    have H5 := Kp.mk hz
    clear hz
    have H6 := Kp.mk (cmpI_lt h6)
    clear hb hN h h1 h2 h3 h4 h5 h6
    go_enter Tryz.func39, Tryz.ntmps39
    go_wp2_with fail
    refine (OfV (HN.out.ext (by (repeat (first | assumption | exact Ext.refl _ | apply Ext.drew | apply Ext.drewN | apply Ext.alloc | refine Ext.trans ?_ (by assumption))); first | done | fail))).mono ?_
    rintro e w2 ⟨A1, n1, e1, rfl, r1, _, x⟩
    have x2 := x
    clear x
    obtain ⟨c0, c1⟩ := box2 HB.out (show Ext (w.alloc (.cells #[.slice A n c, .slice B m d] 29)) w2 from (by (repeat (first | assumption | exact Ext.refl _ | apply Ext.drew | apply Ext.drewN | apply Ext.alloc | refine Ext.trans ?_ (by assumption))); first | done | fail))
    have M1 := Kp.mk (Ni.of r1 LN.out hi)
    have hn1 : n1 ≤ 800 := by have h1 := len16 LN.out; have h2 := r1.len; omega
    clear r1
    go_wp2_with fail
    refine (OfV (HE.out.ext (by (repeat (first | assumption | exact Ext.refl _ | apply Ext.drew | apply Ext.drewN | apply Ext.alloc | refine Ext.trans ?_ (by assumption))); first | done | fail))).mono ?_
    rintro e w3 ⟨A2, n2, e2, rfl, r2, _, x⟩
    have x3 := Ext.trans (show Ext w2 _ from (by (repeat (first | assumption | exact Ext.refl _ | apply Ext.drew | apply Ext.drewN | apply Ext.alloc | refine Ext.trans ?_ (by assumption))); first | done | fail)) x
    clear x
    obtain ⟨c0, c1⟩ := box2 HB.out (show Ext (w.alloc (.cells #[.slice A n c, .slice B m d] 29)) w3 from (by (repeat (first | assumption | exact Ext.refl _ | apply Ext.drew | apply Ext.drewN | apply Ext.alloc | refine Ext.trans ?_ (by assumption))); first | done | fail))
    have M2 := Kp.mk (Ni.of r2 LE.out hj)
    have hn2 : n2 ≤ 800 := by have h1 := len16 LE.out; have h2 := r2.len; omega
    clear r2
    have C := Kp.mk (Size_any (M1.out.ext (by (repeat (first | assumption | exact Ext.refl _ | apply Ext.drew | apply Ext.drewN | apply Ext.alloc | refine Ext.trans ?_ (by assumption))); first | done | fail)).r (by omega))
    rw [sz_nb, HS.out] at C
    go_wp2_with fail
    refine C.out.mono ?_
    rintro e w4 ⟨rfl, hw4⟩
    subst hw4
    have N3 := Kp.mk (show Ni (w4.alloc (.cells #[.int .i64 (3 : Int)] it)) (some ⟨w4.heap.size, 0, none⟩) 1 1 3 from ⟨by rw [← one_dgs (d := 3) (by decide) (by decide)]; exact lit1 w4 3 _ rfl, by omega⟩)
    go_wp2_with fail
    refine (odd_any (l := []) (M1.out.ext (by (repeat (first | assumption | exact Ext.refl _ | apply Ext.drew | apply Ext.drewN | apply Ext.alloc | refine Ext.trans ?_ (by assumption))); first | done | fail)).r (by omega) true (by simp [H3.out])).mono ?_
    rintro e w5 ⟨rfl, x⟩
    have x5 := x
    clear x
    obtain ⟨c0, c1⟩ := box2 HB.out (show Ext (w.alloc (.cells #[.slice A n c, .slice B m d] 29)) w5 from (by (repeat (first | assumption | exact Ext.refl _ | apply Ext.drew | apply Ext.drewN | apply Ext.alloc | refine Ext.trans ?_ (by assumption))); first | done | fail))
    go_wp2_with fail
    refine (odd_any (l := []) (M2.out.ext (by (repeat (first | assumption | exact Ext.refl _ | apply Ext.drew | apply Ext.drewN | apply Ext.alloc | refine Ext.trans ?_ (by assumption))); first | done | fail)).r (by omega) true (by simp [H4.out])).mono ?_
    rintro e w6 ⟨rfl, x⟩
    have x6 := Ext.trans (show Ext w5 _ from (by (repeat (first | assumption | exact Ext.refl _ | apply Ext.drew | apply Ext.drewN | apply Ext.alloc | refine Ext.trans ?_ (by assumption))); first | done | fail)) x
    clear x
    obtain ⟨c0, c1⟩ := box2 HB.out (show Ext (w.alloc (.cells #[.slice A n c, .slice B m d] 29)) w6 from (by (repeat (first | assumption | exact Ext.refl _ | apply Ext.drew | apply Ext.drewN | apply Ext.alloc | refine Ext.trans ?_ (by assumption))); first | done | fail))
    go_wp2_with fail
    refine (RCmpV (M2.out.ext (by (repeat (first | assumption | exact Ext.refl _ | apply Ext.drew | apply Ext.drewN | apply Ext.alloc | refine Ext.trans ?_ (by assumption))); first | done | fail)) (show Ni _ _ 1 1 3 from N3.out.ext (by (repeat (first | assumption | exact Ext.refl _ | apply Ext.drew | apply Ext.drewN | apply Ext.alloc | refine Ext.trans ?_ (by assumption))); first | done | fail)) _ H5.out).mono ?_
    rintro e w7 ⟨rfl, x⟩
    have x7 := Ext.trans (show Ext w6 _ from (by (repeat (first | assumption | exact Ext.refl _ | apply Ext.drew | apply Ext.drewN | apply Ext.alloc | refine Ext.trans ?_ (by assumption))); first | done | fail)) x
    clear x
    obtain ⟨c0, c1⟩ := box2 HB.out (show Ext (w.alloc (.cells #[.slice A n c, .slice B m d] 29)) w7 from (by (repeat (first | assumption | exact Ext.refl _ | apply Ext.drew | apply Ext.drewN | apply Ext.alloc | refine Ext.trans ?_ (by assumption))); first | done | fail))
    go_wp2_with fail
    refine (RCmpV (M2.out.ext (by (repeat (first | assumption | exact Ext.refl _ | apply Ext.drew | apply Ext.drewN | apply Ext.alloc | refine Ext.trans ?_ (by assumption))); first | done | fail)) (M1.out.ext (by (repeat (first | assumption | exact Ext.refl _ | apply Ext.drew | apply Ext.drewN | apply Ext.alloc | refine Ext.trans ?_ (by assumption))); first | done | fail)) _ H6.out).mono ?_
    rintro e w8 ⟨rfl, x⟩
    have x8 := Ext.trans (show Ext w7 _ from (by (repeat (first | assumption | exact Ext.refl _ | apply Ext.drew | apply Ext.drewN | apply Ext.alloc | refine Ext.trans ?_ (by assumption))); first | done | fail)) x
    clear x
    obtain ⟨c0, c1⟩ := box2 HB.out (show Ext (w.alloc (.cells #[.slice A n c, .slice B m d] 29)) w8 from (by (repeat (first | assumption | exact Ext.refl _ | apply Ext.drew | apply Ext.drewN | apply Ext.alloc | refine Ext.trans ?_ (by assumption))); first | done | fail))
    skip
    have HX := Kp.mk (show Ext w w8 from (by (repeat (first | assumption | exact Ext.refl _ | apply Ext.drew | apply Ext.drewN | apply Ext.alloc | refine Ext.trans ?_ (by assumption))); first | done | fail))
    clear x2 x3 x5 x6 x7 x8
    go_wp2_with fail
    go_ret
    exact ⟨rfl, HX.out⟩
  · obtain rfl : b = false := by cases b <;> simp_all
    rw [hN] at h1
    have d1 : decide ((62 : Int) ≤ (N : Int)) = false := decide_eq_false (by omega)
    clear hb hN h h1
    go_enter Tryz.func39, Tryz.ntmps39
    go_wp2_with fail
    refine (OfV (HN.out.ext (by (repeat (first | assumption | exact Ext.refl _ | apply Ext.drew | apply Ext.drewN | apply Ext.alloc | refine Ext.trans ?_ (by assumption))); first | done | fail))).mono ?_
    rintro e w2 ⟨A1, n1, e1, rfl, r1, _, x⟩
    have x2 := x
    clear x
    obtain ⟨c0, c1⟩ := box2 HB.out (show Ext (w.alloc (.cells #[.slice A n c, .slice B m d] 29)) w2 from (by (repeat (first | assumption | exact Ext.refl _ | apply Ext.drew | apply Ext.drewN | apply Ext.alloc | refine Ext.trans ?_ (by assumption))); first | done | fail))
    have M1 := Kp.mk (Ni.of r1 LN.out hi)
    have hn1 : n1 ≤ 800 := by have h1 := len16 LN.out; have h2 := r1.len; omega
    clear r1
    go_wp2_with fail
    refine (OfV (HE.out.ext (by (repeat (first | assumption | exact Ext.refl _ | apply Ext.drew | apply Ext.drewN | apply Ext.alloc | refine Ext.trans ?_ (by assumption))); first | done | fail))).mono ?_
    rintro e w3 ⟨A2, n2, e2, rfl, r2, _, x⟩
    have x3 := Ext.trans (show Ext w2 _ from (by (repeat (first | assumption | exact Ext.refl _ | apply Ext.drew | apply Ext.drewN | apply Ext.alloc | refine Ext.trans ?_ (by assumption))); first | done | fail)) x
    clear x
    obtain ⟨c0, c1⟩ := box2 HB.out (show Ext (w.alloc (.cells #[.slice A n c, .slice B m d] 29)) w3 from (by (repeat (first | assumption | exact Ext.refl _ | apply Ext.drew | apply Ext.drewN | apply Ext.alloc | refine Ext.trans ?_ (by assumption))); first | done | fail))
    have M2 := Kp.mk (Ni.of r2 LE.out hj)
    have hn2 : n2 ≤ 800 := by have h1 := len16 LE.out; have h2 := r2.len; omega
    clear r2
    have C := Kp.mk (Size_any (M1.out.ext (by (repeat (first | assumption | exact Ext.refl _ | apply Ext.drew | apply Ext.drewN | apply Ext.alloc | refine Ext.trans ?_ (by assumption))); first | done | fail)).r (by omega))
    rw [sz_nb, HS.out] at C
    go_wp2_with fail
    refine C.out.mono ?_
    rintro e w4 ⟨rfl, hw4⟩
    subst hw4
    skip
    have HX := Kp.mk (show Ext w w4 from (by (repeat (first | assumption | exact Ext.refl _ | apply Ext.drew | apply Ext.drewN | apply Ext.alloc | refine Ext.trans ?_ (by assumption))); first | done | fail))
    clear x2 x3
    go_wp2_with fail
    go_ret
    exact ⟨rfl, HX.out.alloc _⟩
  · obtain rfl : b = false := by cases b <;> simp_all
    rw [hN] at h1
    have d1 : (62 : Int) ≤ (N : Int) := by omega
    rw [hN] at h2
    have d2 : decide ((N : Int) ≤ 128) = false := decide_eq_false (by omega)
    clear hb hN h h1 h2
    go_enter Tryz.func39, Tryz.ntmps39
    go_wp2_with fail
    refine (OfV (HN.out.ext (by (repeat (first | assumption | exact Ext.refl _ | apply Ext.drew | apply Ext.drewN | apply Ext.alloc | refine Ext.trans ?_ (by assumption))); first | done | fail))).mono ?_
    rintro e w2 ⟨A1, n1, e1, rfl, r1, _, x⟩
    have x2 := x
    clear x
    obtain ⟨c0, c1⟩ := box2 HB.out (show Ext (w.alloc (.cells #[.slice A n c, .slice B m d] 29)) w2 from (by (repeat (first | assumption | exact Ext.refl _ | apply Ext.drew | apply Ext.drewN | apply Ext.alloc | refine Ext.trans ?_ (by assumption))); first | done | fail))
    have M1 := Kp.mk (Ni.of r1 LN.out hi)
    have hn1 : n1 ≤ 800 := by have h1 := len16 LN.out; have h2 := r1.len; omega
    clear r1
    go_wp2_with fail
    refine (OfV (HE.out.ext (by (repeat (first | assumption | exact Ext.refl _ | apply Ext.drew | apply Ext.drewN | apply Ext.alloc | refine Ext.trans ?_ (by assumption))); first | done | fail))).mono ?_
    rintro e w3 ⟨A2, n2, e2, rfl, r2, _, x⟩
    have x3 := Ext.trans (show Ext w2 _ from (by (repeat (first | assumption | exact Ext.refl _ | apply Ext.drew | apply Ext.drewN | apply Ext.alloc | refine Ext.trans ?_ (by assumption))); first | done | fail)) x
    clear x
    obtain ⟨c0, c1⟩ := box2 HB.out (show Ext (w.alloc (.cells #[.slice A n c, .slice B m d] 29)) w3 from (by (repeat (first | assumption | exact Ext.refl _ | apply Ext.drew | apply Ext.drewN | apply Ext.alloc | refine Ext.trans ?_ (by assumption))); first | done | fail))
    have M2 := Kp.mk (Ni.of r2 LE.out hj)
    have hn2 : n2 ≤ 800 := by have h1 := len16 LE.out; have h2 := r2.len; omega
    clear r2
    have C := Kp.mk (Size_any (M1.out.ext (by (repeat (first | assumption | exact Ext.refl _ | apply Ext.drew | apply Ext.drewN | apply Ext.alloc | refine Ext.trans ?_ (by assumption))); first | done | fail)).r (by omega))
    rw [sz_nb, HS.out] at C
    go_wp2_with fail
    refine C.out.mono ?_
    rintro e w4 ⟨rfl, hw4⟩
    subst hw4
    skip
    have HX := Kp.mk (show Ext w w4 from (by (repeat (first | assumption | exact Ext.refl _ | apply Ext.drew | apply Ext.drewN | apply Ext.alloc | refine Ext.trans ?_ (by assumption))); first | done | fail))
    clear x2 x3
    go_wp2_with fail
    go_ret
    exact ⟨rfl, HX.out.alloc _⟩
  · obtain rfl : b = false := by cases b <;> simp_all
    rw [hN] at h1
    have d1 : (62 : Int) ≤ (N : Int) := by omega
    rw [hN] at h2
    have d2 : (N : Int) ≤ 128 := by omega
    have H3 := Kp.mk h3
    clear hb hN h h1 h2 h3
    go_enter Tryz.func39, Tryz.ntmps39
    go_wp2_with fail
    refine (OfV (HN.out.ext (by (repeat (first | assumption | exact Ext.refl _ | apply Ext.drew | apply Ext.drewN | apply Ext.alloc | refine Ext.trans ?_ (by assumption))); first | done | fail))).mono ?_
    rintro e w2 ⟨A1, n1, e1, rfl, r1, _, x⟩
    have x2 := x
    clear x
    obtain ⟨c0, c1⟩ := box2 HB.out (show Ext (w.alloc (.cells #[.slice A n c, .slice B m d] 29)) w2 from (by (repeat (first | assumption | exact Ext.refl _ | apply Ext.drew | apply Ext.drewN | apply Ext.alloc | refine Ext.trans ?_ (by assumption))); first | done | fail))
    have M1 := Kp.mk (Ni.of r1 LN.out hi)
    have hn1 : n1 ≤ 800 := by have h1 := len16 LN.out; have h2 := r1.len; omega
    clear r1
    go_wp2_with fail
    refine (OfV (HE.out.ext (by (repeat (first | assumption | exact Ext.refl _ | apply Ext.drew | apply Ext.drewN | apply Ext.alloc | refine Ext.trans ?_ (by assumption))); first | done | fail))).mono ?_
    rintro e w3 ⟨A2, n2, e2, rfl, r2, _, x⟩
    have x3 := Ext.trans (show Ext w2 _ from (by (repeat (first | assumption | exact Ext.refl _ | apply Ext.drew | apply Ext.drewN | apply Ext.alloc | refine Ext.trans ?_ (by assumption))); first | done | fail)) x
    clear x
    obtain ⟨c0, c1⟩ := box2 HB.out (show Ext (w.alloc (.cells #[.slice A n c, .slice B m d] 29)) w3 from (by (repeat (first | assumption | exact Ext.refl _ | apply Ext.drew | apply Ext.drewN | apply Ext.alloc | refine Ext.trans ?_ (by assumption))); first | done | fail))
    have M2 := Kp.mk (Ni.of r2 LE.out hj)
    have hn2 : n2 ≤ 800 := by have h1 := len16 LE.out; have h2 := r2.len; omega
    clear r2
    have C := Kp.mk (Size_any (M1.out.ext (by (repeat (first | assumption | exact Ext.refl _ | apply Ext.drew | apply Ext.drewN | apply Ext.alloc | refine Ext.trans ?_ (by assumption))); first | done | fail)).r (by omega))
    rw [sz_nb, HS.out] at C
    go_wp2_with fail
    refine C.out.mono ?_
    rintro e w4 ⟨rfl, hw4⟩
    subst hw4
    go_wp2_with fail
    refine (odd_any (l := []) (M1.out.ext (by (repeat (first | assumption | exact Ext.refl _ | apply Ext.drew | apply Ext.drewN | apply Ext.alloc | refine Ext.trans ?_ (by assumption))); first | done | fail)).r (by omega) false (by simp [H3.out])).mono ?_
    rintro e w5 ⟨rfl, x⟩
    have x5 := Ext.trans (show Ext w4 _ from (by (repeat (first | assumption | exact Ext.refl _ | apply Ext.drew | apply Ext.drewN | apply Ext.alloc | refine Ext.trans ?_ (by assumption))); first | done | fail)) x
    clear x
    obtain ⟨c0, c1⟩ := box2 HB.out (show Ext (w.alloc (.cells #[.slice A n c, .slice B m d] 29)) w5 from (by (repeat (first | assumption | exact Ext.refl _ | apply Ext.drew | apply Ext.drewN | apply Ext.alloc | refine Ext.trans ?_ (by assumption))); first | done | fail))
    skip
    have HX := Kp.mk (show Ext w w5 from (by (repeat (first | assumption | exact Ext.refl _ | apply Ext.drew | apply Ext.drewN | apply Ext.alloc | refine Ext.trans ?_ (by assumption))); first | done | fail))
    clear x2 x3 x5
    go_wp2_with fail
    go_ret
    exact ⟨rfl, HX.out⟩
  · obtain rfl : b = false := by cases b <;> simp_all
    rw [hN] at h1
    have d1 : (62 : Int) ≤ (N : Int) := by omega
    rw [hN] at h2
    have d2 : (N : Int) ≤ 128 := by omega
    have H3 := Kp.mk h3
    have H4 := Kp.mk h4
    clear hb hN h h1 h2 h3 h4
    go_enter Tryz.func39, Tryz.ntmps39
    go_wp2_with fail
    refine (OfV (HN.out.ext (by (repeat (first | assumption | exact Ext.refl _ | apply Ext.drew | apply Ext.drewN | apply Ext.alloc | refine Ext.trans ?_ (by assumption))); first | done | fail))).mono ?_
    rintro e w2 ⟨A1, n1, e1, rfl, r1, _, x⟩
    have x2 := x
    clear x
    obtain ⟨c0, c1⟩ := box2 HB.out (show Ext (w.alloc (.cells #[.slice A n c, .slice B m d] 29)) w2 from (by (repeat (first | assumption | exact Ext.refl _ | apply Ext.drew | apply Ext.drewN | apply Ext.alloc | refine Ext.trans ?_ (by assumption))); first | done | fail))
    have M1 := Kp.mk (Ni.of r1 LN.out hi)
    have hn1 : n1 ≤ 800 := by have h1 := len16 LN.out; have h2 := r1.len; omega
    clear r1
    go_wp2_with fail
    refine (OfV (HE.out.ext (by (repeat (first | assumption | exact Ext.refl _ | apply Ext.drew | apply Ext.drewN | apply Ext.alloc | refine Ext.trans ?_ (by assumption))); first | done | fail))).mono ?_
    rintro e w3 ⟨A2, n2, e2, rfl, r2, _, x⟩
    have x3 := Ext.trans (show Ext w2 _ from (by (repeat (first | assumption | exact Ext.refl _ | apply Ext.drew | apply Ext.drewN | apply Ext.alloc | refine Ext.trans ?_ (by assumption))); first | done | fail)) x
    clear x
    obtain ⟨c0, c1⟩ := box2 HB.out (show Ext (w.alloc (.cells #[.slice A n c, .slice B m d] 29)) w3 from (by (repeat (first | assumption | exact Ext.refl _ | apply Ext.drew | apply Ext.drewN | apply Ext.alloc | refine Ext.trans ?_ (by assumption))); first | done | fail))
    have M2 := Kp.mk (Ni.of r2 LE.out hj)
    have hn2 : n2 ≤ 800 := by have h1 := len16 LE.out; have h2 := r2.len; omega
    clear r2
    have C := Kp.mk (Size_any (M1.out.ext (by (repeat (first | assumption | exact Ext.refl _ | apply Ext.drew | apply Ext.drewN | apply Ext.alloc | refine Ext.trans ?_ (by assumption))); first | done | fail)).r (by omega))
    rw [sz_nb, HS.out] at C
    go_wp2_with fail
    refine C.out.mono ?_
    rintro e w4 ⟨rfl, hw4⟩
    subst hw4
    go_wp2_with fail
    refine (odd_any (l := []) (M1.out.ext (by (repeat (first | assumption | exact Ext.refl _ | apply Ext.drew | apply Ext.drewN | apply Ext.alloc | refine Ext.trans ?_ (by assumption))); first | done | fail)).r (by omega) true (by simp [H3.out])).mono ?_
    rintro e w5 ⟨rfl, x⟩
    have x5 := Ext.trans (show Ext w4 _ from (by (repeat (first | assumption | exact Ext.refl _ | apply Ext.drew | apply Ext.drewN | apply Ext.alloc | refine Ext.trans ?_ (by assumption))); first | done | fail)) x
    clear x
    obtain ⟨c0, c1⟩ := box2 HB.out (show Ext (w.alloc (.cells #[.slice A n c, .slice B m d] 29)) w5 from (by (repeat (first | assumption | exact Ext.refl _ | apply Ext.drew | apply Ext.drewN | apply Ext.alloc | refine Ext.trans ?_ (by assumption))); first | done | fail))
    go_wp2_with fail
    refine (odd_any (l := []) (M2.out.ext (by (repeat (first | assumption | exact Ext.refl _ | apply Ext.drew | apply Ext.drewN | apply Ext.alloc | refine Ext.trans ?_ (by assumption))); first | done | fail)).r (by omega) false (by simp [H4.out])).mono ?_
    rintro e w6 ⟨rfl, x⟩
    have x6 := Ext.trans (show Ext w5 _ from (by (repeat (first | assumption | exact Ext.refl _ | apply Ext.drew | apply Ext.drewN | apply Ext.alloc | refine Ext.trans ?_ (by assumption))); first | done | fail)) x
    clear x
    obtain ⟨c0, c1⟩ := box2 HB.out (show Ext (w.alloc (.cells #[.slice A n c, .slice B m d] 29)) w6 from (by (repeat (first | assumption | exact Ext.refl _ | apply Ext.drew | apply Ext.drewN | apply Ext.alloc | refine Ext.trans ?_ (by assumption))); first | done | fail))
    skip
    have HX := Kp.mk (show Ext w w6 from (by (repeat (first | assumption | exact Ext.refl _ | apply Ext.drew | apply Ext.drewN | apply Ext.alloc | refine Ext.trans ?_ (by assumption))); first | done | fail))
    clear x2 x3 x5 x6
    go_wp2_with fail
    go_ret
    exact ⟨rfl, HX.out⟩
  · obtain rfl : b = false := by cases b <;> simp_all
    rw [hN] at h1
    have d1 : (62 : Int) ≤ (N : Int) := by omega
    rw [hN] at h2
    have d2 : (N : Int) ≤ 128 := by omega
    have H3 := Kp.mk h3
    have H4 := Kp.mk h4
    have H5 := Kp.mk (cmpI_lt h5)
    clear hb hN h h1 h2 h3 h4 h5
    go_enter Tryz.func39, Tryz.ntmps39
    go_wp2_with fail
    refine (OfV (HN.out.ext (by (repeat (first | assumption | exact Ext.refl _ | apply Ext.drew | apply Ext.drewN | apply Ext.alloc | refine Ext.trans ?_ (by assumption))); first | done | fail))).mono ?_
    rintro e w2 ⟨A1, n1, e1, rfl, r1, _, x⟩
    have x2 := x
    clear x
    obtain ⟨c0, c1⟩ := box2 HB.out (show Ext (w.alloc (.cells #[.slice A n c, .slice B m d] 29)) w2 from (by (repeat (first | assumption | exact Ext.refl _ | apply Ext.drew | apply Ext.drewN | apply Ext.alloc | refine Ext.trans ?_ (by assumption))); first | done | fail))
    have M1 := Kp.mk (Ni.of r1 LN.out hi)
    have hn1 : n1 ≤ 800 := by have h1 := len16 LN.out; have h2 := r1.len; omega
    clear r1
    go_wp2_with fail
    refine (OfV (HE.out.ext (by (repeat (first | assumption | exact Ext.refl _ | apply Ext.drew | apply Ext.drewN | apply Ext.alloc | refine Ext.trans ?_ (by assumption))); first | done | fail))).mono ?_
    rintro e w3 ⟨A2, n2, e2, rfl, r2, _, x⟩
    have x3 := Ext.trans (show Ext w2 _ from (by (repeat (first | assumption | exact Ext.refl _ | apply Ext.drew | apply Ext.drewN | apply Ext.alloc | refine Ext.trans ?_ (by assumption))); first | done | fail)) x
    clear x
    obtain ⟨c0, c1⟩ := box2 HB.out (show Ext (w.alloc (.cells #[.slice A n c, .slice B m d] 29)) w3 from (by (repeat (first | assumption | exact Ext.refl _ | apply Ext.drew | apply Ext.drewN | apply Ext.alloc | refine Ext.trans ?_ (by assumption))); first | done | fail))
    have M2 := Kp.mk (Ni.of r2 LE.out hj)
    have hn2 : n2 ≤ 800 := by have h1 := len16 LE.out; have h2 := r2.len; omega
    clear r2
    have C := Kp.mk (Size_any (M1.out.ext (by (repeat (first | assumption | exact Ext.refl _ | apply Ext.drew | apply Ext.drewN | apply Ext.alloc | refine Ext.trans ?_ (by assumption))); first | done | fail)).r (by omega))
    rw [sz_nb, HS.out] at C
    go_wp2_with fail
    refine C.out.mono ?_
    rintro e w4 ⟨rfl, hw4⟩
    subst hw4
    have N3 := Kp.mk (show Ni (w4.alloc (.cells #[.int .i64 (3 : Int)] it)) (some ⟨w4.heap.size, 0, none⟩) 1 1 3 from ⟨by rw [← one_dgs (d := 3) (by decide) (by decide)]; exact lit1 w4 3 _ rfl, by omega⟩)
    go_wp2_with fail
    refine (odd_any (l := []) (M1.out.ext (by (repeat (first | assumption | exact Ext.refl _ | apply Ext.drew | apply Ext.drewN | apply Ext.alloc | refine Ext.trans ?_ (by assumption))); first | done | fail)).r (by omega) true (by simp [H3.out])).mono ?_
    rintro e w5 ⟨rfl, x⟩
    have x5 := x
    clear x
    obtain ⟨c0, c1⟩ := box2 HB.out (show Ext (w.alloc (.cells #[.slice A n c, .slice B m d] 29)) w5 from (by (repeat (first | assumption | exact Ext.refl _ | apply Ext.drew | apply Ext.drewN | apply Ext.alloc | refine Ext.trans ?_ (by assumption))); first | done | fail))
    go_wp2_with fail
    refine (odd_any (l := []) (M2.out.ext (by (repeat (first | assumption | exact Ext.refl _ | apply Ext.drew | apply Ext.drewN | apply Ext.alloc | refine Ext.trans ?_ (by assumption))); first | done | fail)).r (by omega) true (by simp [H4.out])).mono ?_
    rintro e w6 ⟨rfl, x⟩
    have x6 := Ext.trans (show Ext w5 _ from (by (repeat (first | assumption | exact Ext.refl _ | apply Ext.drew | apply Ext.drewN | apply Ext.alloc | refine Ext.trans ?_ (by assumption))); first | done | fail)) x
    clear x
    obtain ⟨c0, c1⟩ := box2 HB.out (show Ext (w.alloc (.cells #[.slice A n c, .slice B m d] 29)) w6 from (by (repeat (first | assumption | exact Ext.refl _ | apply Ext.drew | apply Ext.drewN | apply Ext.alloc | refine Ext.trans ?_ (by assumption))); first | done | fail))
    go_wp2_with fail
    refine (RCmpV (M2.out.ext (by (repeat (first | assumption | exact Ext.refl _ | apply Ext.drew | apply Ext.drewN | apply Ext.alloc | refine Ext.trans ?_ (by assumption))); first | done | fail)) (show Ni _ _ 1 1 3 from N3.out.ext (by (repeat (first | assumption | exact Ext.refl _ | apply Ext.drew | apply Ext.drewN | apply Ext.alloc | refine Ext.trans ?_ (by assumption))); first | done | fail)) _ H5.out).mono ?_
    rintro e w7 ⟨rfl, x⟩
    have x7 := Ext.trans (show Ext w6 _ from (by (repeat (first | assumption | exact Ext.refl _ | apply Ext.drew | apply Ext.drewN | apply Ext.alloc | refine Ext.trans ?_ (by assumption))); first | done | fail)) x
    clear x
    obtain ⟨c0, c1⟩ := box2 HB.out (show Ext (w.alloc (.cells #[.slice A n c, .slice B m d] 29)) w7 from (by (repeat (first | assumption | exact Ext.refl _ | apply Ext.drew | apply Ext.drewN | apply Ext.alloc | refine Ext.trans ?_ (by assumption))); first | done | fail))
    skip
    have HX := Kp.mk (show Ext w w7 from (by (repeat (first | assumption | exact Ext.refl _ | apply Ext.drew | apply Ext.drewN | apply Ext.alloc | refine Ext.trans ?_ (by assumption))); first | done | fail))
    clear x2 x3 x5 x6 x7
    go_wp2_with fail
    go_ret
    exact ⟨rfl, HX.out⟩
  · obtain rfl : b = false := by cases b <;> simp_all
    rw [hN] at h1
    have d1 : (62 : Int) ≤ (N : Int) := by omega
    rw [hN] at h2
    have d2 : (N : Int) ≤ 128 := by omega
    have H3 := Kp.mk h3
    have H4 := Kp.mk h4
    obtain ⟨z, hz, z1⟩ := cmpI_up h5
    have H5 := Kp.mk hz
    clear hz
    obtain ⟨y, hy, y1⟩ := cmpI_no h6
    have H6 := Kp.mk hy
    clear hy
    clear hb hN h h1 h2 h3 h4 h5 h6
    go_enter Tryz.func39, Tryz.ntmps39
    go_wp2_with fail
    refine (OfV (HN.out.ext (by (repeat (first | assumption | exact Ext.refl _ | apply Ext.drew | apply Ext.drewN | apply Ext.alloc | refine Ext.trans ?_ (by assumption))); first | done | fail))).mono ?_
    rintro e w2 ⟨A1, n1, e1, rfl, r1, _, x⟩
    have x2 := x
    clear x
    obtain ⟨c0, c1⟩ := box2 HB.out (show Ext (w.alloc (.cells #[.slice A n c, .slice B m d] 29)) w2 from (by (repeat (first | assumption | exact Ext.refl _ | apply Ext.drew | apply Ext.drewN | apply Ext.alloc | refine Ext.trans ?_ (by assumption))); first | done | fail))
    have M1 := Kp.mk (Ni.of r1 LN.out hi)
    have hn1 : n1 ≤ 800 := by have h1 := len16 LN.out; have h2 := r1.len; omega
    clear r1
    go_wp2_with fail
    refine (OfV (HE.out.ext (by (repeat (first | assumption | exact Ext.refl _ | apply Ext.drew | apply Ext.drewN | apply Ext.alloc | refine Ext.trans ?_ (by assumption))); first | done | fail))).mono ?_
    rintro e w3 ⟨A2, n2, e2, rfl, r2, _, x⟩
    have x3 := Ext.trans (show Ext w2 _ from (by (repeat (first | assumption | exact Ext.refl _ | apply Ext.drew | apply Ext.drewN | apply Ext.alloc | refine Ext.trans ?_ (by assumption))); first | done | fail)) x
    clear x
    obtain ⟨c0, c1⟩ := box2 HB.out (show Ext (w.alloc (.cells #[.slice A n c, .slice B m d] 29)) w3 from (by (repeat (first | assumption | exact Ext.refl _ | apply Ext.drew | apply Ext.drewN | apply Ext.alloc | refine Ext.trans ?_ (by assumption))); first | done | fail))
    have M2 := Kp.mk (Ni.of r2 LE.out hj)
    have hn2 : n2 ≤ 800 := by have h1 := len16 LE.out; have h2 := r2.len; omega
    clear r2
    have C := Kp.mk (Size_any (M1.out.ext (by (repeat (first | assumption | exact Ext.refl _ | apply Ext.drew | apply Ext.drewN | apply Ext.alloc | refine Ext.trans ?_ (by assumption))); first | done | fail)).r (by omega))
    rw [sz_nb, HS.out] at C
    go_wp2_with fail
    refine C.out.mono ?_
    rintro e w4 ⟨rfl, hw4⟩
    subst hw4
    have N3 := Kp.mk (show Ni (w4.alloc (.cells #[.int .i64 (3 : Int)] it)) (some ⟨w4.heap.size, 0, none⟩) 1 1 3 from ⟨by rw [← one_dgs (d := 3) (by decide) (by decide)]; exact lit1 w4 3 _ rfl, by omega⟩)
    go_wp2_with fail
    refine (odd_any (l := []) (M1.out.ext (by (repeat (first | assumption | exact Ext.refl _ | apply Ext.drew | apply Ext.drewN | apply Ext.alloc | refine Ext.trans ?_ (by assumption))); first | done | fail)).r (by omega) true (by simp [H3.out])).mono ?_
    rintro e w5 ⟨rfl, x⟩
    have x5 := x
    clear x
    obtain ⟨c0, c1⟩ := box2 HB.out (show Ext (w.alloc (.cells #[.slice A n c, .slice B m d] 29)) w5 from (by (repeat (first | assumption | exact Ext.refl _ | apply Ext.drew | apply Ext.drewN | apply Ext.alloc | refine Ext.trans ?_ (by assumption))); first | done | fail))
    go_wp2_with fail
    refine (odd_any (l := []) (M2.out.ext (by (repeat (first | assumption | exact Ext.refl _ | apply Ext.drew | apply Ext.drewN | apply Ext.alloc | refine Ext.trans ?_ (by assumption))); first | done | fail)).r (by omega) true (by simp [H4.out])).mono ?_
    rintro e w6 ⟨rfl, x⟩
    have x6 := Ext.trans (show Ext w5 _ from (by (repeat (first | assumption | exact Ext.refl _ | apply Ext.drew | apply Ext.drewN | apply Ext.alloc | refine Ext.trans ?_ (by assumption))); first | done | fail)) x
    clear x
    obtain ⟨c0, c1⟩ := box2 HB.out (show Ext (w.alloc (.cells #[.slice A n c, .slice B m d] 29)) w6 from (by (repeat (first | assumption | exact Ext.refl _ | apply Ext.drew | apply Ext.drewN | apply Ext.alloc | refine Ext.trans ?_ (by assumption))); first | done | fail))
    go_wp2_with fail
    refine (RCmpV (M2.out.ext (by (repeat (first | assumption | exact Ext.refl _ | apply Ext.drew | apply Ext.drewN | apply Ext.alloc | refine Ext.trans ?_ (by assumption))); first | done | fail)) (show Ni _ _ 1 1 3 from N3.out.ext (by (repeat (first | assumption | exact Ext.refl _ | apply Ext.drew | apply Ext.drewN | apply Ext.alloc | refine Ext.trans ?_ (by assumption))); first | done | fail)) _ H5.out).mono ?_
    rintro e w7 ⟨rfl, x⟩
    have x7 := Ext.trans (show Ext w6 _ from (by (repeat (first | assumption | exact Ext.refl _ | apply Ext.drew | apply Ext.drewN | apply Ext.alloc | refine Ext.trans ?_ (by assumption))); first | done | fail)) x
    clear x
    obtain ⟨c0, c1⟩ := box2 HB.out (show Ext (w.alloc (.cells #[.slice A n c, .slice B m d] 29)) w7 from (by (repeat (first | assumption | exact Ext.refl _ | apply Ext.drew | apply Ext.drewN | apply Ext.alloc | refine Ext.trans ?_ (by assumption))); first | done | fail))
    go_wp2_with fail
    refine (RCmpV (M2.out.ext (by (repeat (first | assumption | exact Ext.refl _ | apply Ext.drew | apply Ext.drewN | apply Ext.alloc | refine Ext.trans ?_ (by assumption))); first | done | fail)) (M1.out.ext (by (repeat (first | assumption | exact Ext.refl _ | apply Ext.drew | apply Ext.drewN | apply Ext.alloc | refine Ext.trans ?_ (by assumption))); first | done | fail)) _ H6.out).mono ?_
    rintro e w8 ⟨rfl, x⟩
    have x8 := Ext.trans (show Ext w7 _ from (by (repeat (first | assumption | exact Ext.refl _ | apply Ext.drew | apply Ext.drewN | apply Ext.alloc | refine Ext.trans ?_ (by assumption))); first | done | fail)) x
    clear x
    obtain ⟨c0, c1⟩ := box2 HB.out (show Ext (w.alloc (.cells #[.slice A n c, .slice B m d] 29)) w8 from (by (repeat (first | assumption | exact Ext.refl _ | apply Ext.drew | apply Ext.drewN | apply Ext.alloc | refine Ext.trans ?_ (by assumption))); first | done | fail))
    skip
    have HX := Kp.mk (show Ext w w8 from (by (repeat (first | assumption | exact Ext.refl _ | apply Ext.drew | apply Ext.drewN | apply Ext.alloc | refine Ext.trans ?_ (by assumption))); first | done | fail))
    clear x2 x3 x5 x6 x7 x8
    go_wp2_with fail
    go_ret
    exact ⟨rfl, HX.out⟩
end
end Go.Proofs.YtkdjhklnlnfhfaaGreatDoor
namespace Go.Proofs.YtkdjhklnlnfhfaaGreatDoor
open Go Go.RowKit
set_option maxRecDepth 4000

section
variable {w : World} {A B E : Option Addr} {n c m d k f va vb ve : Nat}
theorem rd_n {v k : Nat} (h : Rd vI w A n c (dgs 65536 v)) (hv : v < BB ^ k) : n ≤ 2 * k := by have h1 := len16 hv; have h2 := h.len; omega
end
end Go.Proofs.YtkdjhklnlnfhfaaGreatDoor
