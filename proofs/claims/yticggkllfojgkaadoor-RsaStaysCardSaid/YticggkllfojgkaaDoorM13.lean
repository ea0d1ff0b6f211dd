/-
  rsa: publicMay, secretMay, factorMay, Check.
  The reference's fit.
  Long division digit by digit: what each round leaves; numbers told by slices of ints. No condition on the program.
  The reference's Div, Rest.
-/
import Derived.Test.YticggkllfojgkaaDoorM12
import Derived.Test.YticggkllfojgkaaDoorM9
import Derived.Test.YticggkllfojgkaaDoorM11
namespace Go.Proofs.YticggkllfojgkaaDoor
open Go Go.RowKit
set_option maxRecDepth 4000

theorem Nv.lit (w : World) (x : Nat) (a : Int) (ha : a = (x : Int)) (hx : x < 4294967296) (g : Nat) (hg : g = w.heap.size) : Nv (w.alloc (.cells #[.int .u32 a] ut)) (some ⟨g, 0, none⟩) 1 1 x := ⟨[x], In1.lit w x a ha hx g hg, vl_one x⟩
theorem cmpI_up {a b : Nat} (h : b ≤ a) : ∃ z, cmpI a b = z ∧ 0 ≤ z := ⟨_, rfl, by
  unfold cmpI
  rw [if_neg (by omega)]
  split <;> decide⟩
theorem cmpI_no {a b : Nat} (h : b ≤ a) : ∃ z, cmpI a b = z ∧ decide (z < 0) = false := by
  obtain ⟨z, h1, h2⟩ := cmpI_up h
  exact ⟨z, h1, decide_eq_false (by omega)⟩
/-- a struct's cells in a block -/
theorem box2 {w w' : World} {g t : Nat} {u v : Value} (h : Blk w g t #[u, v]) (hx : Ext w w') : w'.cell? ⟨g, 0, none⟩ = some u ∧ w'.cell? ⟨g, 1, none⟩ = some v := ⟨(h.ext hx).h.cell 0, (h.ext hx).h.cell 1⟩
theorem box3 {w w' : World} {g t : Nat} {u v y : Value} (h : Blk w g t #[u, v, y]) (hx : Ext w w') : w'.cell? ⟨g, 0, none⟩ = some u ∧ w'.cell? ⟨g, 1, none⟩ = some v ∧ w'.cell? ⟨g, 2, none⟩ = some y := ⟨(h.ext hx).h.cell 0, (h.ext hx).h.cell 1, (h.ext hx).h.cell 2⟩
/-- what a key says of itself, one behind the other -/
theorem pub_cases (vn ve : Nat) : (PubOk vn ve ∧ vn % 2 = 1 ∧ 62 ≤ nb vn ∧ nb vn ≤ 128 ∧ ve % 2 = 1 ∧ 3 ≤ ve ∧ ve < vn) ∨ (¬ PubOk vn ve ∧ vn % 2 ≠ 1) ∨ (¬ PubOk vn ve ∧ vn % 2 = 1 ∧ nb vn < 62) ∨ (¬ PubOk vn ve ∧ vn % 2 = 1 ∧ 62 ≤ nb vn ∧ 128 < nb vn) ∨
    (¬ PubOk vn ve ∧ vn % 2 = 1 ∧ 62 ≤ nb vn ∧ nb vn ≤ 128 ∧ ve % 2 ≠ 1) ∨ (¬ PubOk vn ve ∧ vn % 2 = 1 ∧ 62 ≤ nb vn ∧ nb vn ≤ 128 ∧ ve % 2 = 1 ∧ ve < 3) ∨ (¬ PubOk vn ve ∧ vn % 2 = 1 ∧ 62 ≤ nb vn ∧ nb vn ≤ 128 ∧ ve % 2 = 1 ∧ 3 ≤ ve ∧ vn ≤ ve) := by
  unfold PubOk
  omega
set_option maxHeartbeats 4000000 in
theorem publicMay_any {A B : Option Addr} {n c m d vn ve : Nat} {w : World} (hn : Nv w A n c vn) (he : Nv w B m d ve) (b : Bool) (hb : b = true ↔ PubOk vn ve) :
    Calls Tryd.prog 25 #[.agg #[.slice A n c, .slice B m d]] w fun e w' => e = .returned (.bool b) ∧ Ext w w' := by
  have HN := Kp.mk hn
  have HE := Kp.mk he
  have HB := Kp.mk (Blk.new w 25 #[.slice A n c, .slice B m d])
  clear hn he
  obtain ⟨N, hN⟩ : ∃ N, nb vn = N := ⟨_, rfl⟩
  have HS := Kp.mk hN
  rcases pub_cases vn ve with ⟨h, h1, h2, h3, h4, h5, h6⟩ | ⟨h, h1⟩ | ⟨h, h1, h2⟩ | ⟨h, h1, h2, h3⟩ | ⟨h, h1, h2, h3, h4⟩ | ⟨h, h1, h2, h3, h4, h5⟩ | ⟨h, h1, h2, h3, h4, h5, h6⟩
  · obtain rfl : b = true := hb.2 h
    have H1 := Kp.mk h1
    rw [hN] at h2
    have d1 : (62 : Int) ≤ (N : Int) := by omega
    rw [hN] at h3
    have d2 : (N : Int) ≤ 128 := by omega
    have H4 := Kp.mk h4
    obtain ⟨z, hz, z1⟩ := cmpI_up h5
    have H5 := Kp.mk hz
    clear hz
    have H6 := Kp.mk (cmpI_lt h6)
    clear hb hN h h1 h2 h3 h4 h5 h6
    go_enter Tryd.func25, Tryd.ntmps25
    go_wp2_with fail
    refine (sizeOf_any (HN.out.ext (by (repeat (first | assumption | exact Ext.refl _ | apply Ext.drew | apply Ext.drewN | apply Ext.alloc | refine Ext.trans ?_ (by assumption))); first | done | fail))).mono ?_
    rintro e w1 ⟨rfl, rfl⟩
    rw [HS.out]
    go_wp2_with fail
    refine (isOdd_any (HN.out.ext (by (repeat (first | assumption | exact Ext.refl _ | apply Ext.drew | apply Ext.drewN | apply Ext.alloc | refine Ext.trans ?_ (by assumption))); first | done | fail)) true (by simp [H1.out])).mono ?_
    rintro e w2 ⟨rfl, x2⟩
    obtain ⟨c0, c1⟩ := box2 HB.out x2
    go_wp2_with fail
    refine (isOdd_any (HE.out.ext (by (repeat (first | assumption | exact Ext.refl _ | apply Ext.drew | apply Ext.drewN | apply Ext.alloc | refine Ext.trans ?_ (by assumption))); first | done | fail)) true (by simp [H4.out])).mono ?_
    rintro e w3 ⟨rfl, x⟩
    have x3 := Ext.trans (show Ext (w.alloc (.cells #[.slice A n c, .slice B m d] 25)) _ from (by (repeat (first | assumption | exact Ext.refl _ | apply Ext.drew | apply Ext.drewN | apply Ext.alloc | refine Ext.trans ?_ (by assumption))); first | done | fail)) x
    clear x
    obtain ⟨c0, c1⟩ := box2 HB.out x3
    go_wp2_with fail
    refine (CmpV (HE.out.ext (by (repeat (first | assumption | exact Ext.refl _ | apply Ext.drew | apply Ext.drewN | apply Ext.alloc | refine Ext.trans ?_ (by assumption))); first | done | fail)) (Nv.lit w3 3 3 rfl (by decide) _ rfl) _ H5.out).mono ?_
    rintro e w4 ⟨rfl, x⟩
    have x4 := Ext.trans (show Ext (w.alloc (.cells #[.slice A n c, .slice B m d] 25)) _ from (by (repeat (first | assumption | exact Ext.refl _ | apply Ext.drew | apply Ext.drewN | apply Ext.alloc | refine Ext.trans ?_ (by assumption))); first | done | fail)) x
    clear x
    obtain ⟨c0, c1⟩ := box2 HB.out x4
    go_wp2_with fail
    refine (CmpV (HE.out.ext (by (repeat (first | assumption | exact Ext.refl _ | apply Ext.drew | apply Ext.drewN | apply Ext.alloc | refine Ext.trans ?_ (by assumption))); first | done | fail)) (HN.out.ext (by (repeat (first | assumption | exact Ext.refl _ | apply Ext.drew | apply Ext.drewN | apply Ext.alloc | refine Ext.trans ?_ (by assumption))); first | done | fail)) _ H6.out).mono ?_
    rintro e w5 ⟨rfl, x⟩
    have x5 := Ext.trans (show Ext (w.alloc (.cells #[.slice A n c, .slice B m d] 25)) _ from (by (repeat (first | assumption | exact Ext.refl _ | apply Ext.drew | apply Ext.drewN | apply Ext.alloc | refine Ext.trans ?_ (by assumption))); first | done | fail)) x
    clear x
    obtain ⟨c0, c1⟩ := box2 HB.out x5
    have HX := Kp.mk (show Ext w w5 from (by (repeat (first | assumption | exact Ext.refl _ | apply Ext.drew | apply Ext.drewN | apply Ext.alloc | refine Ext.trans ?_ (by assumption))); first | done | fail))
    clear x2 x3 x4 x5
    go_wp2_with fail
    go_ret
    exact ⟨rfl, HX.out⟩
  · obtain rfl : b = false := by cases b <;> simp_all
    have H1 := Kp.mk h1
    clear hb hN h h1 
    go_enter Tryd.func25, Tryd.ntmps25
    go_wp2_with fail
    refine (sizeOf_any (HN.out.ext (by (repeat (first | assumption | exact Ext.refl _ | apply Ext.drew | apply Ext.drewN | apply Ext.alloc | refine Ext.trans ?_ (by assumption))); first | done | fail))).mono ?_
    rintro e w1 ⟨rfl, rfl⟩
    rw [HS.out]
    go_wp2_with fail
    refine (isOdd_any (HN.out.ext (by (repeat (first | assumption | exact Ext.refl _ | apply Ext.drew | apply Ext.drewN | apply Ext.alloc | refine Ext.trans ?_ (by assumption))); first | done | fail)) false (by simp [H1.out])).mono ?_
    rintro e w2 ⟨rfl, x2⟩
    obtain ⟨c0, c1⟩ := box2 HB.out x2
    have HX := Kp.mk (show Ext w w2 from (by (repeat (first | assumption | exact Ext.refl _ | apply Ext.drew | apply Ext.drewN | apply Ext.alloc | refine Ext.trans ?_ (by assumption))); first | done | fail))
    clear x2
    go_wp2_with fail
    go_ret
    exact ⟨rfl, HX.out⟩
  · obtain rfl : b = false := by cases b <;> simp_all
    have H1 := Kp.mk h1
    rw [hN] at h2
    have d1 : decide ((62 : Int) ≤ (N : Int)) = false := decide_eq_false (by omega)
    clear hb hN h h1 h2
    go_enter Tryd.func25, Tryd.ntmps25
    go_wp2_with fail
    refine (sizeOf_any (HN.out.ext (by (repeat (first | assumption | exact Ext.refl _ | apply Ext.drew | apply Ext.drewN | apply Ext.alloc | refine Ext.trans ?_ (by assumption))); first | done | fail))).mono ?_
    rintro e w1 ⟨rfl, rfl⟩
    rw [HS.out]
    go_wp2_with fail
    refine (isOdd_any (HN.out.ext (by (repeat (first | assumption | exact Ext.refl _ | apply Ext.drew | apply Ext.drewN | apply Ext.alloc | refine Ext.trans ?_ (by assumption))); first | done | fail)) true (by simp [H1.out])).mono ?_
    rintro e w2 ⟨rfl, x2⟩
    obtain ⟨c0, c1⟩ := box2 HB.out x2
    have HX := Kp.mk (show Ext w w2 from (by (repeat (first | assumption | exact Ext.refl _ | apply Ext.drew | apply Ext.drewN | apply Ext.alloc | refine Ext.trans ?_ (by assumption))); first | done | fail))
    clear x2
    go_wp2_with fail
    go_ret
    exact ⟨rfl, HX.out⟩
  · obtain rfl : b = false := by cases b <;> simp_all
    have H1 := Kp.mk h1
    rw [hN] at h2
    have d1 : (62 : Int) ≤ (N : Int) := by omega
    rw [hN] at h3
    have d2 : decide ((N : Int) ≤ 128) = false := decide_eq_false (by omega)
    clear hb hN h h1 h2 h3
    go_enter Tryd.func25, Tryd.ntmps25
    go_wp2_with fail
    refine (sizeOf_any (HN.out.ext (by (repeat (first | assumption | exact Ext.refl _ | apply Ext.drew | apply Ext.drewN | apply Ext.alloc | refine Ext.trans ?_ (by assumption))); first | done | fail))).mono ?_
    rintro e w1 ⟨rfl, rfl⟩
    rw [HS.out]
    go_wp2_with fail
    refine (isOdd_any (HN.out.ext (by (repeat (first | assumption | exact Ext.refl _ | apply Ext.drew | apply Ext.drewN | apply Ext.alloc | refine Ext.trans ?_ (by assumption))); first | done | fail)) true (by simp [H1.out])).mono ?_
    rintro e w2 ⟨rfl, x2⟩
    obtain ⟨c0, c1⟩ := box2 HB.out x2
    have HX := Kp.mk (show Ext w w2 from (by (repeat (first | assumption | exact Ext.refl _ | apply Ext.drew | apply Ext.drewN | apply Ext.alloc | refine Ext.trans ?_ (by assumption))); first | done | fail))
    clear x2
    go_wp2_with fail
    go_ret
    exact ⟨rfl, HX.out⟩
  · obtain rfl : b = false := by cases b <;> simp_all
    have H1 := Kp.mk h1
    rw [hN] at h2
    have d1 : (62 : Int) ≤ (N : Int) := by omega
    rw [hN] at h3
    have d2 : (N : Int) ≤ 128 := by omega
    have H4 := Kp.mk h4
    clear hb hN h h1 h2 h3 h4
    go_enter Tryd.func25, Tryd.ntmps25
    go_wp2_with fail
    refine (sizeOf_any (HN.out.ext (by (repeat (first | assumption | exact Ext.refl _ | apply Ext.drew | apply Ext.drewN | apply Ext.alloc | refine Ext.trans ?_ (by assumption))); first | done | fail))).mono ?_
    rintro e w1 ⟨rfl, rfl⟩
    rw [HS.out]
    go_wp2_with fail
    refine (isOdd_any (HN.out.ext (by (repeat (first | assumption | exact Ext.refl _ | apply Ext.drew | apply Ext.drewN | apply Ext.alloc | refine Ext.trans ?_ (by assumption))); first | done | fail)) true (by simp [H1.out])).mono ?_
    rintro e w2 ⟨rfl, x2⟩
    obtain ⟨c0, c1⟩ := box2 HB.out x2
    go_wp2_with fail
    refine (isOdd_any (HE.out.ext (by (repeat (first | assumption | exact Ext.refl _ | apply Ext.drew | apply Ext.drewN | apply Ext.alloc | refine Ext.trans ?_ (by assumption))); first | done | fail)) false (by simp [H4.out])).mono ?_
    rintro e w3 ⟨rfl, x⟩
    have x3 := Ext.trans (show Ext (w.alloc (.cells #[.slice A n c, .slice B m d] 25)) _ from (by (repeat (first | assumption | exact Ext.refl _ | apply Ext.drew | apply Ext.drewN | apply Ext.alloc | refine Ext.trans ?_ (by assumption))); first | done | fail)) x
    clear x
    obtain ⟨c0, c1⟩ := box2 HB.out x3
    have HX := Kp.mk (show Ext w w3 from (by (repeat (first | assumption | exact Ext.refl _ | apply Ext.drew | apply Ext.drewN | apply Ext.alloc | refine Ext.trans ?_ (by assumption))); first | done | fail))
    clear x2 x3
    go_wp2_with fail
    go_ret
    exact ⟨rfl, HX.out⟩
  · obtain rfl : b = false := by cases b <;> simp_all
    have H1 := Kp.mk h1
    rw [hN] at h2
    have d1 : (62 : Int) ≤ (N : Int) := by omega
    rw [hN] at h3
    have d2 : (N : Int) ≤ 128 := by omega
    have H4 := Kp.mk h4
    have H5 := Kp.mk (cmpI_lt h5)
    clear hb hN h h1 h2 h3 h4 h5
    go_enter Tryd.func25, Tryd.ntmps25
    go_wp2_with fail
    refine (sizeOf_any (HN.out.ext (by (repeat (first | assumption | exact Ext.refl _ | apply Ext.drew | apply Ext.drewN | apply Ext.alloc | refine Ext.trans ?_ (by assumption))); first | done | fail))).mono ?_
    rintro e w1 ⟨rfl, rfl⟩
    rw [HS.out]
    go_wp2_with fail
    refine (isOdd_any (HN.out.ext (by (repeat (first | assumption | exact Ext.refl _ | apply Ext.drew | apply Ext.drewN | apply Ext.alloc | refine Ext.trans ?_ (by assumption))); first | done | fail)) true (by simp [H1.out])).mono ?_
    rintro e w2 ⟨rfl, x2⟩
    obtain ⟨c0, c1⟩ := box2 HB.out x2
    go_wp2_with fail
    refine (isOdd_any (HE.out.ext (by (repeat (first | assumption | exact Ext.refl _ | apply Ext.drew | apply Ext.drewN | apply Ext.alloc | refine Ext.trans ?_ (by assumption))); first | done | fail)) true (by simp [H4.out])).mono ?_
    rintro e w3 ⟨rfl, x⟩
    have x3 := Ext.trans (show Ext (w.alloc (.cells #[.slice A n c, .slice B m d] 25)) _ from (by (repeat (first | assumption | exact Ext.refl _ | apply Ext.drew | apply Ext.drewN | apply Ext.alloc | refine Ext.trans ?_ (by assumption))); first | done | fail)) x
    clear x
    obtain ⟨c0, c1⟩ := box2 HB.out x3
    go_wp2_with fail
    refine (CmpV (HE.out.ext (by (repeat (first | assumption | exact Ext.refl _ | apply Ext.drew | apply Ext.drewN | apply Ext.alloc | refine Ext.trans ?_ (by assumption))); first | done | fail)) (Nv.lit w3 3 3 rfl (by decide) _ rfl) _ H5.out).mono ?_
    rintro e w4 ⟨rfl, x⟩
    have x4 := Ext.trans (show Ext (w.alloc (.cells #[.slice A n c, .slice B m d] 25)) _ from (by (repeat (first | assumption | exact Ext.refl _ | apply Ext.drew | apply Ext.drewN | apply Ext.alloc | refine Ext.trans ?_ (by assumption))); first | done | fail)) x
    clear x
    obtain ⟨c0, c1⟩ := box2 HB.out x4
    have HX := Kp.mk (show Ext w w4 from (by (repeat (first | assumption | exact Ext.refl _ | apply Ext.drew | apply Ext.drewN | apply Ext.alloc | refine Ext.trans ?_ (by assumption))); first | done | fail))
    clear x2 x3 x4
    go_wp2_with fail
    go_ret
    exact ⟨rfl, HX.out⟩
  · obtain rfl : b = false := by cases b <;> simp_all
    have H1 := Kp.mk h1
    rw [hN] at h2
    have d1 : (62 : Int) ≤ (N : Int) := by omega
    rw [hN] at h3
    have d2 : (N : Int) ≤ 128 := by omega
    have H4 := Kp.mk h4
    obtain ⟨z, hz, z1⟩ := cmpI_up h5
    have H5 := Kp.mk hz
    clear hz
    obtain ⟨y, hy, y1⟩ := cmpI_no h6
    have H6 := Kp.mk hy
    clear hy
    clear hb hN h h1 h2 h3 h4 h5 h6
    go_enter Tryd.func25, Tryd.ntmps25
    go_wp2_with fail
    refine (sizeOf_any (HN.out.ext (by (repeat (first | assumption | exact Ext.refl _ | apply Ext.drew | apply Ext.drewN | apply Ext.alloc | refine Ext.trans ?_ (by assumption))); first | done | fail))).mono ?_
    rintro e w1 ⟨rfl, rfl⟩
    rw [HS.out]
    go_wp2_with fail
    refine (isOdd_any (HN.out.ext (by (repeat (first | assumption | exact Ext.refl _ | apply Ext.drew | apply Ext.drewN | apply Ext.alloc | refine Ext.trans ?_ (by assumption))); first | done | fail)) true (by simp [H1.out])).mono ?_
    rintro e w2 ⟨rfl, x2⟩
    obtain ⟨c0, c1⟩ := box2 HB.out x2
    go_wp2_with fail
    refine (isOdd_any (HE.out.ext (by (repeat (first | assumption | exact Ext.refl _ | apply Ext.drew | apply Ext.drewN | apply Ext.alloc | refine Ext.trans ?_ (by assumption))); first | done | fail)) true (by simp [H4.out])).mono ?_
    rintro e w3 ⟨rfl, x⟩
    have x3 := Ext.trans (show Ext (w.alloc (.cells #[.slice A n c, .slice B m d] 25)) _ from (by (repeat (first | assumption | exact Ext.refl _ | apply Ext.drew | apply Ext.drewN | apply Ext.alloc | refine Ext.trans ?_ (by assumption))); first | done | fail)) x
    clear x
    obtain ⟨c0, c1⟩ := box2 HB.out x3
    go_wp2_with fail
    refine (CmpV (HE.out.ext (by (repeat (first | assumption | exact Ext.refl _ | apply Ext.drew | apply Ext.drewN | apply Ext.alloc | refine Ext.trans ?_ (by assumption))); first | done | fail)) (Nv.lit w3 3 3 rfl (by decide) _ rfl) _ H5.out).mono ?_
    rintro e w4 ⟨rfl, x⟩
    have x4 := Ext.trans (show Ext (w.alloc (.cells #[.slice A n c, .slice B m d] 25)) _ from (by (repeat (first | assumption | exact Ext.refl _ | apply Ext.drew | apply Ext.drewN | apply Ext.alloc | refine Ext.trans ?_ (by assumption))); first | done | fail)) x
    clear x
    obtain ⟨c0, c1⟩ := box2 HB.out x4
    go_wp2_with fail
    refine (CmpV (HE.out.ext (by (repeat (first | assumption | exact Ext.refl _ | apply Ext.drew | apply Ext.drewN | apply Ext.alloc | refine Ext.trans ?_ (by assumption))); first | done | fail)) (HN.out.ext (by (repeat (first | assumption | exact Ext.refl _ | apply Ext.drew | apply Ext.drewN | apply Ext.alloc | refine Ext.trans ?_ (by assumption))); first | done | fail)) _ H6.out).mono ?_
    rintro e w5 ⟨rfl, x⟩
    have x5 := Ext.trans (show Ext (w.alloc (.cells #[.slice A n c, .slice B m d] 25)) _ from (by (repeat (first | assumption | exact Ext.refl _ | apply Ext.drew | apply Ext.drewN | apply Ext.alloc | refine Ext.trans ?_ (by assumption))); first | done | fail)) x
    clear x
    obtain ⟨c0, c1⟩ := box2 HB.out x5
    have HX := Kp.mk (show Ext w w5 from (by (repeat (first | assumption | exact Ext.refl _ | apply Ext.drew | apply Ext.drewN | apply Ext.alloc | refine Ext.trans ?_ (by assumption))); first | done | fail))
    clear x2 x3 x4 x5
    go_wp2_with fail
    go_ret
    exact ⟨rfl, HX.out⟩
end Go.Proofs.YticggkllfojgkaaDoor
namespace Go.Proofs.YticggkllfojgkaaDoor
open Go Go.RowKit
set_option maxRecDepth 4000

/-- what fit tells: how often at least -/
def Fitted (w : World) (va vb : Nat) (e : Ending) (w' : World) : Prop := ∃ d : Nat, e = .returned (.int .i64 (d : Int)) ∧ 1 ≤ d ∧ d * vb ≤ va ∧ d < 65536 ∧ Ext w w'
theorem fit_lt {d va vb : Nat} (h : d * vb ≤ va) (hlt : va < 65536 * vb) : d < 65536 := by
  have h2 : d * vb < 65536 * vb := Nat.lt_of_le_of_lt h hlt
  exact Nat.lt_of_mul_lt_mul_right h2
/-- three digits over two, and one more -/
theorem fit_math {a b : List Nat} {q : Nat} (ca : Dg 65536 a) (hlb : b.length = q + 2) (db : Dg 65536 b) (hlt : vl 65536 a < 65536 * vl 65536 b) :
    ((dg a (q + 2) * 65536 + dg a (q + 1)) * 65536 + dg a q) / (dg b (q + 1) * 65536 + dg b q + 1) * vl 65536 b ≤ vl 65536 a := by
  have hb := vl_lt (by decide) (db.take q)
  rw [List.length_take, Nat.min_eq_left (by omega)] at hb
  have t0 : ∀ x, 65536 ^ (q + 1) * x = 65536 ^ q * x * 65536 := fun x => by rw [Nat.pow_succ, Nat.mul_right_comm]
  have t1 : ∀ x, 65536 ^ (q + 1 + 1) * x = 65536 ^ q * x * 65536 * 65536 := fun x => by rw [Nat.pow_succ, Nat.mul_assoc, Nat.mul_comm 65536 x, ← Nat.mul_assoc, t0]
  have e2 : vl 65536 b = vl 65536 (b.take q) + 65536 ^ q * (dg b (q + 1) * 65536 + dg b q) := by
    rw [← vl_take_all 65536 b (q + 2) (by omega), show q + 2 = q + 1 + 1 by omega, vl_take_succ, vl_take_succ, t0, Nat.mul_add, ← Nat.mul_assoc]
    omega
  refine fit_le (B := 65536) (hi := dg b (q + 1) * 65536 + dg b q) (rh := (dg a (q + 2) * 65536 + dg a (q + 1)) * 65536 + dg a q) q ?_ ?_ rfl
  · rw [e2, Nat.add_mul, Nat.one_mul, Nat.mul_comm (65536 ^ q)]
    omega
  · have e3 : vl 65536 (a.take (q + 3)) = vl 65536 (a.take q) + 65536 ^ q * ((dg a (q + 2) * 65536 + dg a (q + 1)) * 65536 + dg a q) := by
      rw [show q + 3 = q + 1 + 1 + 1 by omega, vl_take_succ, vl_take_succ, vl_take_succ, t1, t0, Nat.mul_add, ← Nat.mul_assoc, Nat.mul_add, ← Nat.mul_assoc, show q + 1 + 1 = q + 2 by omega]
      omega
    have e4 := congrArg (vl 65536) (List.take_append_drop (q + 3) a)
    rw [vl_append] at e4
    rw [Nat.mul_comm]
    omega
set_option maxHeartbeats 4000000 in
theorem fit_any {A B : Option Addr} {n c m d va vb : Nat} {w : World} (ha : Ni w A n c va) (hb : Ni w B m d vb) (h0 : vb ≠ 0) (hge : vb ≤ va) (hlt : va < 65536 * vb) :
    Calls Tryd.prog 93 #[.slice A n c, .slice B m d] w (Fitted w va vb) := by
  have hla := ha.r.len
  have hlb := hb.r.len
  have hnb := ha.n
  have hmb := hb.n
  have HA := Kp.mk ha.r
  have HB := Kp.mk hb.r
  have ca := cn_dgs (B := 65536) (by decide) va
  have cb := cn_dgs (B := 65536) (by decide) vb
  have hva := vl_dgs (B := 65536) (by decide) va
  have hvb := vl_dgs (B := 65536) (by decide) vb
  have HLT := Kp.mk hlt
  have HGE := Kp.mk hge
  have hm0 : 0 < m := by
    rcases Nat.eq_zero_or_pos m with h | h
    · rw [h] at hlb
      exact absurd ((dgs_nil (by decide) vb).1 (List.eq_nil_of_length_eq_zero hlb)) h0
    · exact h
  clear ha hb
  by_cases h1 : m = 1
  · subst h1
    have e1 : vb = dg (dgs 65536 vb) 0 := by
      have := vl_take_all 65536 (dgs 65536 vb) 1 (by omega)
      rw [show (1 : Nat) = 0 + 1 from rfl, vl_take_succ, hvb] at this
      simpa [vl] using this.symm
    have hb1 : dg (dgs 65536 vb) 0 < 65536 := cb.d.at (by decide) 0
    have hla2 : (dgs 65536 va).length ≤ 2 := (len_iff (by decide) va 2).2 (by
      have : va < 65536 * 65536 := by rw [e1] at hlt; omega
      exact this)
    have e2 : va = dg (dgs 65536 va) 0 + 65536 * dg (dgs 65536 va) 1 := by
      have := vl_take_all 65536 (dgs 65536 va) 2 (by omega)
      rw [show (2 : Nat) = 0 + 1 + 1 from rfl, vl_take_succ, vl_take_succ, hva] at this
      simpa [vl] using this.symm
    have a0 := ca.d.at (by decide) 0
    have a1 := ca.d.at (by decide) 1
    obtain ⟨g, o, rfl⟩ := HB.out.some_ (by omega)
    have D1 := Kp.mk (fun u (h : Ext w u) => digit_any (HA.out.ext h) 1 1 rfl)
    have D0 := Kp.mk (fun u (h : Ext w u) => digit_any (HA.out.ext h) 0 0 rfl)
    have kb := fun u (h : Ext w u) => (HB.out.ext h).dig 0 (by omega)
    unfold vI at kb
    rw [← e1] at kb
    simp only [Nat.add_zero] at kb
    have hF : Fitted w va vb (.returned (.int .i64 ((va / vb : Nat) : Int))) w ∧ 1 ≤ va / vb := by
      have h3 : 1 ≤ va / vb := (Nat.le_div_iff_mul_le (Nat.pos_of_ne_zero h0)).2 (by rw [Nat.one_mul]; exact hge)
      have h4 := Nat.div_mul_le_self va vb
      exact ⟨⟨_, rfl, h3, h4, fit_lt h4 hlt, Ext.refl _⟩, h3⟩
    have HF := Kp.mk hF
    generalize dg (dgs 65536 va) 0 = x0 at *
    generalize dg (dgs 65536 va) 1 = x1 at *
    have hvb2 : vb < 65536 := by omega
    have w1 : IntKind.i64.wrap ((x1 : Int) * 65536) = (x1 : Int) * 65536 := by rw [IntKind.wrap_i64]; omega
    have w2 : IntKind.i64.wrap ((x1 : Int) * 65536 + (x0 : Int)) = (va : Int) := by rw [IntKind.wrap_i64]; omega
    have hq : ¬ (vb : Int) = 0 := by omega
    have t1 : (va : Int).tdiv (vb : Int) = ((va / vb : Nat) : Int) := rfl
    have hle := Nat.div_le_self va vb
    have hvab : va < 4294967296 := by omega
    obtain ⟨D, hD⟩ : ∃ D, va / vb = D := ⟨_, rfl⟩
    rw [hD] at HF t1 hle
    have w3 : IntKind.i64.wrap (D : Int) = (D : Int) := by rw [IntKind.wrap_i64]; omega
    have hD1 : ¬ (D : Int) = 0 := by have := HF.out.2; omega
    clear e1 e2 hla hlb hva hvb ca cb hla2 a0 a1 hb1 hlt hge hD hF
    go_enter Tryd.func93, Tryd.ntmps93
    go_wp2_with fail
    refine wp_region_held_drew (S := fun w' => Ext w w') (by kernel_rfl) (Ext.refl w).drew (fun hHeld => ?_)
    refine wpAnyH_take (i := 0) (oi := ⟨some 11, _, _, _, _, _⟩) (v := ?_) rfl (by kernel_rfl) (by kernel_rfl) (by kernel_rfl) (fun _ _ _ h => h) (Or.inl ⟨by rfl, ?_⟩) (by assumption) ?_
    rotate_left
    · (intro w hSw; (try dsimp only at hSw); go_simp; try with_reducible rfl)
    try simp only [Act.put, List.setIfInBounds_toArray, List.set_cons_zero, List.set_cons_succ]
    refine wpAnyH_take (i := 3) (oi := ⟨some 14, _, _, _, _, _⟩) (v := ?_) rfl (by kernel_rfl) (by kernel_rfl) (by kernel_rfl) (fun _ _ _ h => h) (Or.inl ⟨by rfl, ?_⟩) (by assumption) ?_
    rotate_left
    · (intro w hSw; (try dsimp only at hSw); go_simp; try with_reducible rfl)
    try simp only [Act.put, List.setIfInBounds_toArray, List.set_cons_zero, List.set_cons_succ]
    refine wpAnyH_take (i := 6) (oi := ⟨some 17, _, _, _, _, _⟩) (v := ?_) rfl (by kernel_rfl) (by kernel_rfl) (by kernel_rfl) (fun _ _ _ h => h) (Or.inl ⟨by rfl, ?_⟩) (by assumption) ?_
    rotate_left
    · (intro w hSw; (try dsimp only at hSw); go_simp; try with_reducible rfl)
    try simp only [Act.put, List.setIfInBounds_toArray, List.set_cons_zero, List.set_cons_succ]
    refine wpAnyH_take (i := 7) (oi := ⟨some 18, _, _, _, _, _⟩) (v := ?_) rfl (by kernel_rfl) (by kernel_rfl) (by kernel_rfl) (fun _ _ _ h => h) (Or.inl ⟨by rfl, ?_⟩) (by assumption) ?_
    rotate_left
    · (intro w hSw; (try dsimp only at hSw); go_simp; try with_reducible rfl)
    try simp only [Act.put, List.setIfInBounds_toArray, List.set_cons_zero, List.set_cons_succ]
    refine wpAnyH_take (i := 8) (oi := ⟨some 19, _, _, _, _, _⟩) (v := ?_) rfl (by kernel_rfl) (by kernel_rfl) (by kernel_rfl) (fun _ _ _ h => h) (Or.inl ⟨by rfl, ?_⟩) (by assumption) ?_
    rotate_left
    · (intro w hSw; (try dsimp only at hSw); go_simp; try with_reducible rfl)
    try simp only [Act.put, List.setIfInBounds_toArray, List.set_cons_zero, List.set_cons_succ]
    refine next_one 1 (by kernel_rfl) rfl (by rfl) fun K' HK' => ?_
    go_simp
    refine (D1.out _ (by (repeat (first | assumption | exact Ext.refl _ | apply Ext.drew | apply Ext.drewN | apply Ext.alloc | refine Ext.trans ?_ (by assumption))); first | done | fail)).mono ?_
    rintro e u1 ⟨rfl, hw1⟩
    have hx1 : Ext w.drew u1 := by rw [hw1]; exact Ext.refl _
    clear hw1
    have hS2 := Ext.trans hHeld hx1
    refine held_go HK' hS2 (fun _ => ?_)
    clear HK'
    refine held_more (S' := fun w' => Ext u1 w') (fun _ h => Ext.trans hS2 h) _ _ _ _ ?_
    clear hHeld hS2
    have hHeld : Ext u1 u1 := Ext.refl _
    try simp only [Act.put, List.setIfInBounds_toArray, List.set_cons_zero, List.set_cons_succ]
    refine wpAnyH_take (i := 2) (oi := ⟨some 13, _, _, _, _, _⟩) (v := ?_) rfl (by kernel_rfl) (by kernel_rfl) (by kernel_rfl) (fun _ _ _ h => h) (Or.inl ⟨by rfl, ?_⟩) (by assumption) ?_
    rotate_left
    · (intro w hSw; (try dsimp only at hSw); go_simp; try with_reducible rfl)
    try simp only [Act.put, List.setIfInBounds_toArray, List.set_cons_zero, List.set_cons_succ]
    refine next_one 4 (by kernel_rfl) rfl (by rfl) fun K' HK' => ?_
    go_simp
    refine (D0.out _ (((Ext.refl w).drew).trans hx1)).mono ?_
    rintro e u2 ⟨rfl, hw2⟩
    have hx2 : Ext u1 u2 := by rw [hw2]; exact Ext.refl _
    clear hw2
    have hS2 := Ext.trans hHeld hx2
    refine held_go HK' hS2 (fun _ => ?_)
    clear HK'
    refine held_more (S' := fun w' => Ext u2 w') (fun _ h => Ext.trans hS2 h) _ _ _ _ ?_
    clear hHeld hS2
    have hHeld : Ext u2 u2 := Ext.refl _
    try simp only [Act.put, List.setIfInBounds_toArray, List.set_cons_zero, List.set_cons_succ]
    refine wpAnyH_take (i := 5) (oi := ⟨some 16, _, _, _, _, _⟩) (v := ?_) rfl (by kernel_rfl) (by kernel_rfl) (by kernel_rfl) (fun _ _ _ h => h) (Or.inl ⟨by rfl, ?_⟩) (by assumption) ?_
    rotate_left
    · (intro w hSw; (try dsimp only at hSw); go_simp; try with_reducible rfl)
    try simp only [Act.put, List.setIfInBounds_toArray, List.set_cons_zero, List.set_cons_succ]
    refine wpAnyH_take (i := 9) (oi := ⟨some 20, _, _, _, _, _⟩) (v := ?_) rfl (by kernel_rfl) (by kernel_rfl) (by kernel_rfl) (fun _ _ _ h => h) (Or.inl ⟨by rfl, ?_⟩) (by assumption) ?_
    rotate_left
    · (intro w hSw; (try dsimp only at hSw); go_simp; try with_reducible rfl)
    try simp only [Act.put, List.setIfInBounds_toArray, List.set_cons_zero, List.set_cons_succ]
    refine wpAnyH_take (i := 10) (oi := ⟨some 6, _, _, _, _, _⟩) (v := ?_) rfl (by kernel_rfl) (by kernel_rfl) (by kernel_rfl) (fun _ _ _ h => h) (Or.inl ⟨by rfl, ?_⟩) (by assumption) ?_
    rotate_left
    · (intro w hSw; (try dsimp only at hSw); go_simp; try with_reducible rfl)
    try simp only [Act.put, List.setIfInBounds_toArray, List.set_cons_zero, List.set_cons_succ]
    refine wpAnyH_done (by kernel_rfl) ?_ _
    have HX := Kp.mk (((Ext.refl w).drew.trans hx1).trans hx2)
    clear hHeld hx1 hx2
    go_wp2_with fail
    go_ret
    obtain ⟨⟨d', e, p1, p2, p3, _⟩, _⟩ := HF.out
    exact ⟨d', e, p1, p2, p3, HX.out⟩
  · obtain ⟨q, rfl⟩ : ∃ q, m = q + 2 := ⟨m - 2, by omega⟩
    have hfm := fit_math (q := q) ca.d hlb cb.d (by rw [hva, hvb]; exact hlt)
    rw [hva, hvb] at hfm
    have a2 := ca.d.at (by decide) (q + 2)
    have a1 := ca.d.at (by decide) (q + 1)
    have a0 := ca.d.at (by decide) q
    have b1 := cb.d.at (by decide) (q + 1)
    have b0 := cb.d.at (by decide) q
    obtain ⟨g, o, rfl⟩ := HB.out.some_ (by omega)
    have D2 := Kp.mk (fun u (h : Ext w u) z hz => digit_any (HA.out.ext h) (q + 2) z hz)
    have D1 := Kp.mk (fun u (h : Ext w u) z hz => digit_any (HA.out.ext h) (q + 1) z hz)
    have D0 := Kp.mk (fun u (h : Ext w u) z hz => digit_any (HA.out.ext h) q z hz)
    have kb1 := fun u (h : Ext w u) => (HB.out.ext h).dig (q + 1) (by omega)
    have kb0 := fun u (h : Ext w u) => (HB.out.ext h).dig q (by omega)
    unfold vI at kb1 kb0
    generalize dg (dgs 65536 va) (q + 2) = x2 at *
    generalize dg (dgs 65536 va) (q + 1) = x1 at *
    generalize dg (dgs 65536 va) q = x0 at *
    generalize dg (dgs 65536 vb) (q + 1) = y1 at *
    generalize dg (dgs 65536 vb) q = y0 at *
    have w1 : IntKind.i64.wrap ((x2 : Int) * 65536) = (x2 : Int) * 65536 := by rw [IntKind.wrap_i64]; omega
    have w2 : IntKind.i64.wrap ((x2 : Int) * 65536 + (x1 : Int)) = (x2 : Int) * 65536 + (x1 : Int) := by rw [IntKind.wrap_i64]; omega
    have w3 : IntKind.i64.wrap (((x2 : Int) * 65536 + (x1 : Int)) * 65536) = ((x2 : Int) * 65536 + (x1 : Int)) * 65536 := by rw [IntKind.wrap_i64]; omega
    have w5 : IntKind.i64.wrap ((y1 : Int) * 65536) = (y1 : Int) * 65536 := by rw [IntKind.wrap_i64]; omega
    have w6 : IntKind.i64.wrap ((y1 : Int) * 65536 + (y0 : Int)) = (y1 : Int) * 65536 + (y0 : Int) := by rw [IntKind.wrap_i64]; omega
    obtain ⟨R, hR⟩ : ∃ R, (x2 * 65536 + x1) * 65536 + x0 = R := ⟨_, rfl⟩
    obtain ⟨H, hH⟩ : ∃ H, y1 * 65536 + y0 + 1 = H := ⟨_, rfl⟩
    have w4 : IntKind.i64.wrap (((x2 : Int) * 65536 + (x1 : Int)) * 65536 + (x0 : Int)) = (R : Int) := by rw [IntKind.wrap_i64]; omega
    have w7 : IntKind.i64.wrap ((y1 : Int) * 65536 + (y0 : Int) + 1) = (H : Int) := by rw [IntKind.wrap_i64]; omega
    rw [hR, hH] at hfm
    have hH0 : ¬ H = 0 := by omega
    have hRb : R < 300000000000000 := by omega
    have hle := Nat.div_le_self R H
    have t1 : (R : Int).tdiv (H : Int) = ((R / H : Nat) : Int) := rfl
    have t2 : (R : Int) / (H : Int) = ((R / H : Nat) : Int) := rfl
    obtain ⟨D, hD⟩ : ∃ D, R / H = D := ⟨_, rfl⟩
    rw [hD] at hfm t1 t2 hle
    have w8 : IntKind.i64.wrap (D : Int) = (D : Int) := by rw [IntKind.wrap_i64]; omega
    have s1 : (q : Int) + 2 - 1 = (q : Int) + 1 := by omega
    have c1 : (q : Int) + 1 < (q : Int) + 2 := by omega
    have c0 : (0 : Int) ≤ (q : Int) + 1 := by omega
    have c0q : (0 : Int) ≤ (q : Int) := by omega
    have c2 : (q : Int) < (q : Int) + 2 := by omega
    have v1 : IntKind.i64.wrap ((q : Int) + 1) = (q : Int) + 1 := by rw [IntKind.wrap_i64]; omega
    have v2 : IntKind.i64.wrap (q : Int) = (q : Int) := by rw [IntKind.wrap_i64]; omega
    have n1 : ¬ ((q + 2 : Nat) : Int) = 1 := by omega
    have HF := Kp.mk (show (D ≠ 0 → Fitted w va vb (.returned (.int .i64 (D : Int))) w) ∧ Fitted w va vb (.returned (.int .i64 1)) w from
      ⟨fun h => ⟨D, rfl, Nat.pos_of_ne_zero h, hfm, fit_lt hfm hlt, Ext.refl _⟩, 1, rfl, by omega, by rw [Nat.one_mul]; exact hge, by omega, Ext.refl _⟩)
    clear hla hlb hva hvb ca cb hlt hge hD hR hH hfm hle a2 a1 a0 b1 b0 hRb h0
    go_enter Tryd.func93, Tryd.ntmps93
    go_wp2_with fail
    refine wp_region_held_drew (S := fun w' => Ext w w') (by kernel_rfl) (Ext.refl w).drew (fun hHeld => ?_)
    refine wpAnyH_take (i := 0) (oi := ⟨some 21, _, _, _, _, _⟩) (v := ?_) rfl (by kernel_rfl) (by kernel_rfl) (by kernel_rfl) (fun _ _ _ h => h) (Or.inl ⟨by rfl, ?_⟩) (by assumption) ?_
    rotate_left
    · (intro w hSw; (try dsimp only at hSw); go_simp; try with_reducible rfl)
    try simp only [Act.put, List.setIfInBounds_toArray, List.set_cons_zero, List.set_cons_succ]
    refine wpAnyH_take (i := 1) (oi := ⟨some 22, _, _, _, _, _⟩) (v := ?_) rfl (by kernel_rfl) (by kernel_rfl) (by kernel_rfl) (fun _ _ _ h => h) (Or.inl ⟨by rfl, ?_⟩) (by assumption) ?_
    rotate_left
    · (intro w hSw; (try dsimp only at hSw); go_simp; try with_reducible rfl)
    try simp only [Act.put, List.setIfInBounds_toArray, List.set_cons_zero, List.set_cons_succ]
    refine wpAnyH_take (i := 4) (oi := ⟨some 25, _, _, _, _, _⟩) (v := ?_) rfl (by kernel_rfl) (by kernel_rfl) (by kernel_rfl) (fun _ _ _ h => h) (Or.inl ⟨by rfl, ?_⟩) (by assumption) ?_
    rotate_left
    · (intro w hSw; (try dsimp only at hSw); go_simp; try with_reducible rfl)
    try simp only [Act.put, List.setIfInBounds_toArray, List.set_cons_zero, List.set_cons_succ]
    refine wpAnyH_take (i := 5) (oi := ⟨some 26, _, _, _, _, _⟩) (v := ?_) rfl (by kernel_rfl) (by kernel_rfl) (by kernel_rfl) (fun _ _ _ h => h) (Or.inl ⟨by rfl, ?_⟩) (by assumption) ?_
    rotate_left
    · (intro w hSw; (try dsimp only at hSw); go_simp; try with_reducible rfl)
    try simp only [Act.put, List.setIfInBounds_toArray, List.set_cons_zero, List.set_cons_succ]
    refine wpAnyH_take (i := 6) (oi := ⟨some 27, _, _, _, _, _⟩) (v := ?_) rfl (by kernel_rfl) (by kernel_rfl) (by kernel_rfl) (fun _ _ _ h => h) (Or.inl ⟨by rfl, ?_⟩) (by assumption) ?_
    rotate_left
    · (intro w hSw; (try dsimp only at hSw); go_simp; try with_reducible rfl)
    try simp only [Act.put, List.setIfInBounds_toArray, List.set_cons_zero, List.set_cons_succ]
    refine wpAnyH_take (i := 10) (oi := ⟨some 31, _, _, _, _, _⟩) (v := ?_) rfl (by kernel_rfl) (by kernel_rfl) (by kernel_rfl) (fun _ _ _ h => h) (Or.inl ⟨by rfl, ?_⟩) (by assumption) ?_
    rotate_left
    · (intro w hSw; (try dsimp only at hSw); go_simp; try with_reducible rfl)
    try simp only [Act.put, List.setIfInBounds_toArray, List.set_cons_zero, List.set_cons_succ]
    refine wpAnyH_take (i := 11) (oi := ⟨some 32, _, _, _, _, _⟩) (v := ?_) rfl (by kernel_rfl) (by kernel_rfl) (by kernel_rfl) (fun _ _ _ h => h) (Or.inl ⟨by rfl, ?_⟩) (by assumption) ?_
    rotate_left
    · (intro w hSw; (try dsimp only at hSw); go_simp; try with_reducible rfl)
    try simp only [Act.put, List.setIfInBounds_toArray, List.set_cons_zero, List.set_cons_succ]
    refine wpAnyH_take (i := 12) (oi := ⟨some 33, _, _, _, _, _⟩) (v := ?_) rfl (by kernel_rfl) (by kernel_rfl) (by kernel_rfl) (fun _ _ _ h => h) (Or.inl ⟨by rfl, ?_⟩) (by assumption) ?_
    rotate_left
    · (intro w hSw; (try dsimp only at hSw); go_simp; try with_reducible rfl)
    try simp only [Act.put, List.setIfInBounds_toArray, List.set_cons_zero, List.set_cons_succ]
    refine wpAnyH_take (i := 15) (oi := ⟨some 36, _, _, _, _, _⟩) (v := ?_) rfl (by kernel_rfl) (by kernel_rfl) (by kernel_rfl) (fun _ _ _ h => h) (Or.inl ⟨by rfl, ?_⟩) (by assumption) ?_
    rotate_left
    · (intro w hSw; (try dsimp only at hSw); go_simp; try with_reducible rfl)
    try simp only [Act.put, List.setIfInBounds_toArray, List.set_cons_zero, List.set_cons_succ]
    refine wpAnyH_take (i := 16) (oi := ⟨some 37, _, _, _, _, _⟩) (v := ?_) rfl (by kernel_rfl) (by kernel_rfl) (by kernel_rfl) (fun _ _ _ h => h) (Or.inl ⟨by rfl, ?_⟩) (by assumption) ?_
    rotate_left
    · (intro w hSw; (try dsimp only at hSw); go_simp; try with_reducible rfl)
    try simp only [Act.put, List.setIfInBounds_toArray, List.set_cons_zero, List.set_cons_succ]
    refine wpAnyH_take (i := 17) (oi := ⟨some 38, _, _, _, _, _⟩) (v := ?_) rfl (by kernel_rfl) (by kernel_rfl) (by kernel_rfl) (fun _ _ _ h => h) (Or.inl ⟨by rfl, ?_⟩) (by assumption) ?_
    rotate_left
    · (intro w hSw; (try dsimp only at hSw); go_simp; try with_reducible rfl)
    try simp only [Act.put, List.setIfInBounds_toArray, List.set_cons_zero, List.set_cons_succ]
    refine wpAnyH_take (i := 18) (oi := ⟨some 39, _, _, _, _, _⟩) (v := ?_) rfl (by kernel_rfl) (by kernel_rfl) (by kernel_rfl) (fun _ _ _ h => h) (Or.inl ⟨by rfl, ?_⟩) (by assumption) ?_
    rotate_left
    · (intro w hSw; (try dsimp only at hSw); go_simp; try with_reducible rfl)
    try simp only [Act.put, List.setIfInBounds_toArray, List.set_cons_zero, List.set_cons_succ]
    refine wpAnyH_take (i := 19) (oi := ⟨some 40, _, _, _, _, _⟩) (v := ?_) rfl (by kernel_rfl) (by kernel_rfl) (by kernel_rfl) (fun _ _ _ h => h) (Or.inl ⟨by rfl, ?_⟩) (by assumption) ?_
    rotate_left
    · (intro w hSw; (try dsimp only at hSw); go_simp; try with_reducible rfl)
    try simp only [Act.put, List.setIfInBounds_toArray, List.set_cons_zero, List.set_cons_succ]
    refine wpAnyH_take (i := 20) (oi := ⟨some 41, _, _, _, _, _⟩) (v := ?_) rfl (by kernel_rfl) (by kernel_rfl) (by kernel_rfl) (fun _ _ _ h => h) (Or.inl ⟨by rfl, ?_⟩) (by assumption) ?_
    rotate_left
    · (intro w hSw; (try dsimp only at hSw); go_simp; try with_reducible rfl)
    try simp only [Act.put, List.setIfInBounds_toArray, List.set_cons_zero, List.set_cons_succ]
    refine wpAnyH_take (i := 21) (oi := ⟨some 42, _, _, _, _, _⟩) (v := ?_) rfl (by kernel_rfl) (by kernel_rfl) (by kernel_rfl) (fun _ _ _ h => h) (Or.inl ⟨by rfl, ?_⟩) (by assumption) ?_
    rotate_left
    · (intro w hSw; (try dsimp only at hSw); go_simp; try with_reducible rfl)
    try simp only [Act.put, List.setIfInBounds_toArray, List.set_cons_zero, List.set_cons_succ]
    refine wpAnyH_take (i := 22) (oi := ⟨some 43, _, _, _, _, _⟩) (v := ?_) rfl (by kernel_rfl) (by kernel_rfl) (by kernel_rfl) (fun _ _ _ h => h) (Or.inl ⟨by rfl, ?_⟩) (by assumption) ?_
    rotate_left
    · (intro w hSw; (try dsimp only at hSw); go_simp; try with_reducible rfl)
    try simp only [Act.put, List.setIfInBounds_toArray, List.set_cons_zero, List.set_cons_succ]
    refine wpAnyH_take (i := 23) (oi := ⟨some 44, _, _, _, _, _⟩) (v := ?_) rfl (by kernel_rfl) (by kernel_rfl) (by kernel_rfl) (fun _ _ _ h => h) (Or.inl ⟨by rfl, ?_⟩) (by assumption) ?_
    rotate_left
    · (intro w hSw; (try dsimp only at hSw); go_simp; try with_reducible rfl)
    try simp only [Act.put, List.setIfInBounds_toArray, List.set_cons_zero, List.set_cons_succ]
    refine wpAnyH_take (i := 24) (oi := ⟨some 45, _, _, _, _, _⟩) (v := ?_) rfl (by kernel_rfl) (by kernel_rfl) (by kernel_rfl) (fun _ _ _ h => h) (Or.inl ⟨by rfl, ?_⟩) (by assumption) ?_
    rotate_left
    · (intro w hSw; (try dsimp only at hSw); go_simp; try with_reducible rfl)
    try simp only [Act.put, List.setIfInBounds_toArray, List.set_cons_zero, List.set_cons_succ]
    refine wpAnyH_take (i := 25) (oi := ⟨some 46, _, _, _, _, _⟩) (v := ?_) rfl (by kernel_rfl) (by kernel_rfl) (by kernel_rfl) (fun _ _ _ h => h) (Or.inl ⟨by rfl, ?_⟩) (by assumption) ?_
    rotate_left
    · (intro w hSw; (try dsimp only at hSw); go_simp; try with_reducible rfl)
    try simp only [Act.put, List.setIfInBounds_toArray, List.set_cons_zero, List.set_cons_succ]
    refine wpAnyH_take (i := 26) (oi := ⟨some 47, _, _, _, _, _⟩) (v := ?_) rfl (by kernel_rfl) (by kernel_rfl) (by kernel_rfl) (fun _ _ _ h => h) (Or.inl ⟨by rfl, ?_⟩) (by assumption) ?_
    rotate_left
    · (intro w hSw; (try dsimp only at hSw); go_simp; try with_reducible rfl)
    try simp only [Act.put, List.setIfInBounds_toArray, List.set_cons_zero, List.set_cons_succ]
    refine wpAnyH_take (i := 27) (oi := ⟨some 48, _, _, _, _, _⟩) (v := ?_) rfl (by kernel_rfl) (by kernel_rfl) (by kernel_rfl) (fun _ _ _ h => h) (Or.inl ⟨by rfl, ?_⟩) (by assumption) ?_
    rotate_left
    · (intro w hSw; (try dsimp only at hSw); go_simp; try with_reducible rfl)
    try simp only [Act.put, List.setIfInBounds_toArray, List.set_cons_zero, List.set_cons_succ]
    refine next_one 2 (by kernel_rfl) rfl (by rfl) fun K' HK' => ?_
    go_simp
    refine (D2.out _ (by (repeat (first | assumption | exact Ext.refl _ | apply Ext.drew | apply Ext.drewN | apply Ext.alloc | refine Ext.trans ?_ (by assumption))); first | done | fail) _ (by first | rfl | omega | (simp; done))).mono ?_
    rintro e u1 ⟨rfl, hw1⟩
    have hx1 : Ext w.drew u1 := by rw [hw1]; exact Ext.refl _
    clear hw1
    have hS2 := Ext.trans hHeld hx1
    refine held_go HK' hS2 (fun _ => ?_)
    clear HK'
    refine held_more (S' := fun w' => Ext u1 w') (fun _ h => Ext.trans hS2 h) _ _ _ _ ?_
    clear hHeld hS2
    have hHeld : Ext u1 u1 := Ext.refl _
    try simp only [Act.put, List.setIfInBounds_toArray, List.set_cons_zero, List.set_cons_succ]
    refine wpAnyH_take (i := 3) (oi := ⟨some 24, _, _, _, _, _⟩) (v := ?_) rfl (by kernel_rfl) (by kernel_rfl) (by kernel_rfl) (fun _ _ _ h => h) (Or.inl ⟨by rfl, ?_⟩) (by assumption) ?_
    rotate_left
    · (intro w hSw; (try dsimp only at hSw); go_simp; try with_reducible rfl)
    try simp only [Act.put, List.setIfInBounds_toArray, List.set_cons_zero, List.set_cons_succ]
    refine next_one 7 (by kernel_rfl) rfl (by rfl) fun K' HK' => ?_
    go_simp
    refine (D1.out _ (((Ext.refl w).drew).trans hx1) _ (by first | rfl | omega | (simp; done))).mono ?_
    rintro e u2 ⟨rfl, hw2⟩
    have hx2 : Ext u1 u2 := by rw [hw2]; exact Ext.refl _
    clear hw2
    have hS2 := Ext.trans hHeld hx2
    refine held_go HK' hS2 (fun _ => ?_)
    clear HK'
    refine held_more (S' := fun w' => Ext u2 w') (fun _ h => Ext.trans hS2 h) _ _ _ _ ?_
    clear hHeld hS2
    have hHeld : Ext u2 u2 := Ext.refl _
    try simp only [Act.put, List.setIfInBounds_toArray, List.set_cons_zero, List.set_cons_succ]
    refine wpAnyH_take (i := 8) (oi := ⟨some 29, _, _, _, _, _⟩) (v := ?_) rfl (by kernel_rfl) (by kernel_rfl) (by kernel_rfl) (fun _ _ _ h => h) (Or.inl ⟨by rfl, ?_⟩) (by assumption) ?_
    rotate_left
    · (intro w hSw; (try dsimp only at hSw); go_simp; try with_reducible rfl)
    try simp only [Act.put, List.setIfInBounds_toArray, List.set_cons_zero, List.set_cons_succ]
    refine wpAnyH_take (i := 9) (oi := ⟨some 30, _, _, _, _, _⟩) (v := ?_) rfl (by kernel_rfl) (by kernel_rfl) (by kernel_rfl) (fun _ _ _ h => h) (Or.inl ⟨by rfl, ?_⟩) (by assumption) ?_
    rotate_left
    · (intro w hSw; (try dsimp only at hSw); go_simp; try with_reducible rfl)
    try simp only [Act.put, List.setIfInBounds_toArray, List.set_cons_zero, List.set_cons_succ]
    refine next_one 13 (by kernel_rfl) rfl (by rfl) fun K' HK' => ?_
    go_simp
    refine (D0.out _ ((((Ext.refl w).drew).trans hx1).trans hx2) _ (by first | rfl | omega | (simp; done))).mono ?_
    rintro e u3 ⟨rfl, hw3⟩
    have hx3 : Ext u2 u3 := by rw [hw3]; exact Ext.refl _
    clear hw3
    have hS2 := Ext.trans hHeld hx3
    refine held_go HK' hS2 (fun _ => ?_)
    clear HK'
    refine held_more (S' := fun w' => Ext u3 w') (fun _ h => Ext.trans hS2 h) _ _ _ _ ?_
    clear hHeld hS2
    have hHeld : Ext u3 u3 := Ext.refl _
    try simp only [Act.put, List.setIfInBounds_toArray, List.set_cons_zero, List.set_cons_succ]
    refine wpAnyH_take (i := 14) (oi := ⟨some 35, _, _, _, _, _⟩) (v := ?_) rfl (by kernel_rfl) (by kernel_rfl) (by kernel_rfl) (fun _ _ _ h => h) (Or.inl ⟨by rfl, ?_⟩) (by assumption) ?_
    rotate_left
    · (intro w hSw; (try dsimp only at hSw); go_simp; try with_reducible rfl)
    try simp only [Act.put, List.setIfInBounds_toArray, List.set_cons_zero, List.set_cons_succ]
    refine wpAnyH_take (i := 28) (oi := ⟨some 49, _, _, _, _, _⟩) (v := ?_) rfl (by kernel_rfl) (by kernel_rfl) (by kernel_rfl) (fun _ _ _ h => h) (Or.inl ⟨by rfl, ?_⟩) (by assumption) ?_
    rotate_left
    · (intro w hSw; (try dsimp only at hSw); go_simp; try with_reducible rfl)
    try simp only [Act.put, List.setIfInBounds_toArray, List.set_cons_zero, List.set_cons_succ]
    refine wpAnyH_take (i := 29) (oi := ⟨some 6, _, _, _, _, _⟩) (v := ?_) rfl (by kernel_rfl) (by kernel_rfl) (by kernel_rfl) (fun _ _ _ h => h) (Or.inl ⟨by rfl, ?_⟩) (by assumption) ?_
    rotate_left
    · (intro w hSw; (try dsimp only at hSw); go_simp; try with_reducible rfl)
    try simp only [Act.put, List.setIfInBounds_toArray, List.set_cons_zero, List.set_cons_succ]
    refine wpAnyH_done (by kernel_rfl) ?_ _
    have HX := Kp.mk ((((Ext.refl w).drew.trans hx1).trans hx2).trans hx3)
    clear hHeld hx1 hx2 hx3
    by_cases hD0 : D = 0
    · subst hD0
      go_wp2_with fail
      go_ret
      obtain ⟨d', e, p1, p2, p3, _⟩ := HF.out.2
      exact ⟨d', e, p1, p2, p3, HX.out⟩
    · have hD1 : ¬ (D : Int) = 0 := by omega
      have HD0 := Kp.mk hD0
      go_wp2_with fail
      go_ret
      obtain ⟨d', e, p1, p2, p3, _⟩ := HF.out.1 HD0.out
      exact ⟨d', e, p1, p2, p3, HX.out⟩
end Go.Proofs.YticggkllfojgkaaDoor
namespace Go.Proofs.YticggkllfojgkaaDoor
open Go Go.RowKit
set_option maxRecDepth 4000

/-- i digits are still to come -/
structure DivS (B : Nat) (a : List Nat) (vb i : Nat) (q : List Nat) (R : Nat) : Prop where
  len : q.length = a.length
  d : Dg B q
  z : ∀ j, j < i → dg q j = 0
  lt : R < vb
  v : vl B a = vl B q * vb + B ^ i * R + vl B (a.take i)
/-- while a digit is found -/
structure DivT (B : Nat) (a : List Nat) (vb k : Nat) (q : List Nat) (r d : Nat) : Prop where
  len : q.length = a.length
  dq : Dg B q
  z : ∀ j, j < k → dg q j = 0
  dk : dg q k = d
  lt : d * vb + r < B * vb
  v : vl B a = vl B q * vb + B ^ k * r + vl B (a.take k)
theorem DivS.start {B : Nat} (hB : 0 < B) (a : List Nat) {vb : Nat} (hb : 0 < vb) : DivS B a vb a.length (List.replicate a.length 0) 0 :=
  ⟨by simp, fun d hd => by rw [List.eq_of_mem_replicate hd]; exact hB, fun j _ => dg_zeros _ _, hb, by rw [vl_zeros, List.take_length]; simp⟩
theorem DivS.enter {B : Nat} {a q : List Nat} {vb k R : Nat} (ha : Dg B a) (hB : 0 < B) (h : DivS B a vb (k + 1) q R) : DivT B a vb k q (dg a k + B * R) 0 := by
  refine ⟨h.len, h.d, fun j hj => h.z j (by omega), h.z k (by omega), ?_, ?_⟩
  · have h1 := ha.at hB k
    have h2 : B * (R + 1) ≤ B * vb := Nat.mul_le_mul_left _ h.lt
    rw [Nat.mul_succ] at h2
    omega
  · have h1 := h.v
    rw [vl_take_succ, Nat.pow_succ, Nat.mul_assoc] at h1
    rw [h1, Nat.mul_add]
    omega
theorem DivT.next {B : Nat} {a q : List Nat} {vb k r d e : Nat} (hb : 0 < vb) (hk : k < a.length) (h : DivT B a vb k q r d) (he : e * vb ≤ r) : DivT B a vb k (q.set k (d + e)) (r - vb * e) (d + e) ∧ d + e < B := by
  have hlt : d + e < B := by
    have h1 : (d + e) * vb < B * vb := by rw [Nat.add_mul]; have := h.lt; omega
    exact Nat.lt_of_mul_lt_mul_right h1
  have hkq : k < q.length := by rw [h.len]; exact hk
  refine ⟨⟨by rw [List.length_set, h.len], h.dq.set k _ hlt, fun j hj => ?_, ?_, ?_, ?_⟩, hlt⟩
  · rw [dg_set _ _ _ _ hkq, if_neg (by omega)]
    exact h.z j hj
  · rw [dg_set _ _ _ _ hkq, if_pos rfl]
  · rw [Nat.add_mul]
    have h1 := h.lt
    rw [Nat.mul_comm e vb] at he ⊢
    omega
  · have h1 := vl_set B q k (d + e) hkq
    rw [h.dk, Nat.mul_add] at h1
    have h2 : vl B (q.set k (d + e)) = vl B q + B ^ k * e := by omega
    have h3 : B ^ k * r = B ^ k * (r - vb * e) + B ^ k * e * vb := by
      rw [Nat.mul_comm e vb] at he
      rw [Nat.mul_assoc, Nat.mul_comm e vb, ← Nat.mul_add, Nat.sub_add_cancel he]
    rw [h.v, h2, Nat.add_mul, h3]
    omega
theorem DivT.leave {B : Nat} {a q : List Nat} {vb k r d : Nat} (h : DivT B a vb k q r d) (hr : r < vb) : DivS B a vb k q r := ⟨h.len, h.dq, h.z, hr, h.v⟩
theorem DivS.done {B : Nat} {a q : List Nat} {vb R : Nat} (h : DivS B a vb 0 q R) : vl B q = vl B a / vb ∧ R = vl B a % vb := by
  have h1 := h.v
  rw [List.take_zero, Nat.pow_zero, Nat.one_mul] at h1
  simp only [vl, Nat.add_zero] at h1
  have h2 := (Nat.div_mod_unique (Nat.lt_of_le_of_lt (Nat.zero_le _) h.lt)).2 ⟨show R + vb * vl B q = vl B a by rw [h1, Nat.mul_comm]; omega, h.lt⟩
  exact ⟨h2.1.symm, h2.2.symm⟩
/-- two lists of digits that one slice reads as are one -/
theorem vI_inj {x y : Nat} (h : vI x = vI y) : x = y := by
  unfold vI at h
  injection h with _ h2
  omega
theorem Rd.uniqI {w : World} {A : Option Addr} {n c : Nat} {l l' : List Nat} (h : Rd vI w A n c l) (h' : Rd vI w A n c l') : l = l' := by
  refine List.ext_getElem? fun j => ?_
  by_cases hj : j < n
  · obtain ⟨g, o, ea, hc⟩ := h.at_ (by omega)
    obtain ⟨g', o', ea', hc'⟩ := h'.at_ (by omega)
    rw [ea] at ea'
    cases ea'
    have e1 := dg_in l j (by rw [h.len]; exact hj)
    have e2 := dg_in l' j (by rw [h'.len]; exact hj)
    have h1 := hc j _ e1
    rw [hc' j _ e2] at h1
    rw [e1, e2, vI_inj (Option.some.inj h1)]
  · rw [List.getElem?_eq_none (by rw [h.len]; omega), List.getElem?_eq_none (by rw [h'.len]; omega)]
/-- the number that a slice of ints reads as -/
noncomputable def rdI (w : World) (v : Value) : Nat := by
  classical
  exact if h : ∃ y : Nat, ∃ A n c, v = .slice A n c ∧ Rd vI w A n c (dgs 65536 y) then Classical.choose h else 0
theorem rdI_eq {w : World} {A : Option Addr} {n c y : Nat} (h : Rd vI w A n c (dgs 65536 y)) : rdI w (.slice A n c) = y := by
  have hh : ∃ y : Nat, ∃ A' n' c', Value.slice A n c = .slice A' n' c' ∧ Rd vI w A' n' c' (dgs 65536 y) := ⟨y, A, n, c, rfl, h⟩
  unfold rdI
  rw [dif_pos hh]
  obtain ⟨A', n', c', e, h'⟩ := Classical.choose_spec hh
  cases e
  have e2 := congrArg (vl 65536) (h'.uniqI h)
  rwa [vl_dgs (by decide), vl_dgs (by decide)] at e2
end Go.Proofs.YticggkllfojgkaaDoor
namespace Go.Proofs.YticggkllfojgkaaDoor
open Go Go.RowKit
set_option maxRecDepth 4000

theorem cons_dgs {x R : Nat} (hx : x < 65536) : vl 65536 ([x] ++ dgs 65536 R) = x + 65536 * R ∧ Dg 65536 ([x] ++ dgs 65536 R) :=
  ⟨by rw [List.singleton_append]; show x + 65536 * vl 65536 (dgs 65536 R) = _; rw [vl_dgs (by decide)], (Dg.one hx).append (cn_dgs (by decide) R).d⟩
theorem one_dgs {d : Nat} (h0 : d ≠ 0) (hd : d < 65536) : [d] = dgs 65536 d := dgs_of (by decide) ⟨Dg.one hd, by simpa using h0⟩ (by simp [vl])
theorem len_mul {r vb m : Nat} (h : r < 65536 * vb) (hb : (dgs 65536 vb).length = m) : (dgs 65536 r).length ≤ m + 1 := by
  refine (len_iff (by decide) r (m + 1)).2 ?_
  have h1 := (len_iff (B := 65536) (by decide) vb m).1 (by omega)
  rw [Nat.pow_succ]
  omega
theorem cmpI_ge {a b : Nat} (h : b ≤ a) : ¬ cmpI a b < 0 := by
  rcases Nat.lt_or_ge b a with h1 | h1
  · rw [cmpI_gt h1]; decide
  · rw [show a = b by omega, cmpI_eq]; decide
theorem litI_own (w : World) (x : Nat) (a : Int) (B : Nat) (ha : a = (x : Int)) (hB : B ≤ w.heap.size) : Rn (w.alloc (.cells #[.int .i64 a] it)) B (.slice (some ⟨w.heap.size, 0, none⟩) 1 1) 1 [x] := by
  subst ha
  exact Rw.has (Has.new w it _ _ rfl) (by rfl) hB (by decide)
/-- between the rounds -/
structure DvW (w : World) (a : List Nat) (vb n i R : Nat) (qs : List Nat) (A2 : Option Addr) (n2 c2 : Nat) (wr : World) : Prop where
  s : DivS 65536 a vb i qs R
  q : Rn wr w.heap.size (.slice (some ⟨w.heap.size, 0, none⟩) n n) n qs
  r : Rn wr (w.heap.size + 1) (.slice A2 n2 c2) n2 (dgs 65536 R)
  x : Ext w wr
  sz : w.heap.size + 1 ≤ wr.heap.size
structure DtW (w : World) (a : List Nat) (vb n k r d : Nat) (qs : List Nat) (A2 : Option Addr) (n2 c2 : Nat) (wr : World) : Prop where
  s : DivT 65536 a vb k qs r d
  q : Rn wr w.heap.size (.slice (some ⟨w.heap.size, 0, none⟩) n n) n qs
  r : Rn wr (w.heap.size + 1) (.slice A2 n2 c2) n2 (dgs 65536 r)
  x : Ext w wr
  sz : w.heap.size + 1 ≤ wr.heap.size
def DivR (w : World) (va vb : Nat) (e : Ending) (w' : World) : Prop :=
  ∃ A1 n1 c1 A2 n2 c2, e = .returned (.tuple #[.slice A1 n1 c1, .slice A2 n2 c2]) ∧ Rn w' w.heap.size (.slice A1 n1 c1) n1 (dgs 65536 (va / vb)) ∧ Rn w' w.heap.size (.slice A2 n2 c2) n2 (dgs 65536 (va % vb)) ∧ Ext w w'
set_option maxHeartbeats 4000000 in
theorem div_any {A B : Option Addr} {n c m d va vb : Nat} {w : World} (ha : Ni w A n c va) (hb : Ni w B m d vb) (hn : n ≤ 100000) (hm : m ≤ 100000) (h0 : vb ≠ 0) :
    Calls Tryd.prog 67 #[.slice A n c, .slice B m d] w (DivR w va vb) := by
  have hla := ha.r.len
  have hlb := hb.r.len
  have HA := Kp.mk ha
  have HB := Kp.mk hb
  have hmk := run_makeI n (n : Int) rfl (by omega)
  have hst := DivS.start (B := 65536) (by decide) (dgs 65536 va) (Nat.pos_of_ne_zero h0)
  rw [hla] at hst
  have HST := Kp.mk (show DvW w (dgs 65536 va) vb n n 0 (List.replicate n 0) none 0 0 (w.alloc (.cells (zI n) it)) from
    ⟨hst, makeI_own w n (by omega), Rw.nil _ _, (by (repeat (first | assumption | exact Ext.refl _ | apply Ext.drew | apply Ext.drewN | apply Ext.alloc | refine Ext.trans ?_ (by assumption))); first | done | fail), by simp⟩)
  clear ha hb hst
  generalize zI n = ZZ at *
  go_enter Tryd.func67, Tryd.ntmps67
  go_wp2_with fail
  go_loopw [7, 8] (fun rv iv wr => ∃ i R : Nat, ∃ qs A2 n2 c2, i ≤ n ∧ iv = .int .i64 ((i : Int) - 1) ∧ rv = .slice A2 n2 c2 ∧ DvW w (dgs 65536 va) vb n i R qs A2 n2 c2 wr) (fun _ i _ => (intOf i + 1).toNat)
  case atStart => exact ⟨n, 0, _, _, _, _, Nat.le_refl _, rfl, rfl, HST.out⟩
  case round =>
    obtain ⟨i, R, qs, A2, n2, c2, hi, rfl, rfl, hs⟩ := hrel
    have HS := Kp.mk hs
    clear hs
    by_cases hi0 : i = 0
    · subst hi0
      obtain ⟨v1, v2⟩ := HS.out.s.done
      rw [vl_dgs (B := 65536) (by decide)] at v1 v2
      have CT := Kp.mk (trim_own HS.out.q HS.out.s.d (by omega))
      have HF := Kp.mk (And.intro v1 v2)
      clear v1 v2
      go_wp2_with fail
      refine CT.out.mono ?_
      rintro e w2 ⟨m2, rfl, hr2, rfl⟩
      rw [HF.out.1] at hr2
      have hr3 := HS.out.r
      rw [HF.out.2] at hr3
      have HE := Kp.mk (show DivR w va vb (.returned (.tuple #[.slice (some ⟨w.heap.size, 0, none⟩) m2 n, .slice A2 n2 c2])) w2 from ⟨_, _, _, _, _, _, rfl, hr2, hr3.lower (by omega), HS.out.x⟩)
      clear hr2 hr3
      go_wp2_with fail
      go_ret2
      exact HE.out
    · obtain ⟨k, rfl⟩ : ∃ k, i = k + 1 := ⟨i - 1, by omega⟩
      have e0 : ((k + 1 : Nat) : Int) - 1 = (k : Int) := by omega
      rw [e0]
      obtain ⟨g, o, rfl⟩ := HA.out.r.some_ (by omega)
      have k1 : ∀ u, Ext wr u → u.cell? ⟨g, o + k, none⟩ = some (.int .i64 (dg (dgs 65536 va) k : Int)) := fun u h => (HA.out.r.ext (HS.out.x.trans h)).dig k (by omega)
      have b0 : (k : Int) < (n : Int) := by omega
      have hx0 := (cn_dgs (B := 65536) (by decide) va).d.at (by decide) k
      have hte := HS.out.s.enter (cn_dgs (B := 65536) (by decide) va).d (by decide)
      obtain ⟨x, hx⟩ : ∃ x, dg (dgs 65536 va) k = x := ⟨_, rfl⟩
      rw [hx] at k1 hx0 hte
      have HTE := Kp.mk hte
      have hR := (len_iff (B := 65536) (by decide) R m).2 (Nat.lt_trans HS.out.s.lt ((len_iff (B := 65536) (by decide) vb m).1 (by omega)))
      have hn2 : n2 ≤ 100000 := by have := HS.out.r.len; omega
      obtain ⟨hv, hd⟩ := cons_dgs (R := R) hx0
      have HV := Kp.mk (And.intro hv hd)
      have hcl := fun (u : World) (A5 : Option Addr) (c5 : Nat) (h : Rn u wr.heap.size (.slice A5 (1 + n2) c5) (1 + n2) ([x] ++ dgs 65536 R)) => trim_own h HV.out.2 (by omega)
      rw [hv] at hcl
      have CT := Kp.mk hcl
      clear hx hte hv hd hR hcl
      have hsz := HS.out.sz
      go_wp2_with (first | (go_at_call 39; refine (CT.out _ _ _ ho5).mono ?_; rintro e w6 ⟨m6, rfl, hr6, rfl⟩) | (at_builtin; refine wpList_append_I rfl (.tmp 24) (.tmp 25) rfl wr.heap.size _ 1 [x] rfl (litI_own _ x _ _ rfl (show Ext wr _ from (by (repeat (first | assumption | exact Ext.refl _ | apply Ext.drew | apply Ext.drewN | apply Ext.alloc | refine Ext.trans ?_ (by assumption))); first | done | fail)).size) _ _ _ _ rfl (HS.out.r.rd.ext (by (repeat (first | assumption | exact Ext.refl _ | apply Ext.drew | apply Ext.drewN | apply Ext.alloc | refine Ext.trans ?_ (by assumption))); first | done | fail)) (by omega) (1 + n2) rfl _ rfl wr (by (repeat (first | assumption | exact Ext.refl _ | apply Ext.drew | apply Ext.drewN | apply Ext.alloc | refine Ext.trans ?_ (by assumption))); first | done | fail) (Nat.le_refl _) (show Ext wr _ from (by (repeat (first | assumption | exact Ext.refl _ | apply Ext.drew | apply Ext.drewN | apply Ext.alloc | refine Ext.trans ?_ (by assumption))); first | done | fail)).size ?_; intro A5 c5 w5 ho5 hx5 _) | fail)
      have HD := Kp.mk (show DtW w (dgs 65536 va) vb n k (x + 65536 * R) 0 qs A5 m6 c5 w6 from ⟨HTE.out, HS.out.q.ext hx5, hr6.lower hsz, HS.out.x.trans hx5, Nat.le_trans hsz hx5.size⟩)
      clear ho5 hx5 hr6 hsz CT HV HTE hn2 hx0 k1 hi0 HS
      obtain ⟨wo, rfl⟩ : ∃ wo : World, wo = wr := ⟨_, rfl⟩
      go_loopw [7] (fun rv wq => ∃ r d : Nat, ∃ qs A2 n2 c2, rv = .slice A2 n2 c2 ∧ DtW w (dgs 65536 va) vb n k r d qs A2 n2 c2 wq) (fun rv wq => rdI wq rv)
      case atStart => exact ⟨_, _, _, _, _, _, rfl, HD.out⟩
      case round =>
        clear HD
        obtain ⟨r, d2, qs, A2, n2, c2, rfl, hs⟩ := hrel
        have hlt : r < 65536 * vb := by have := hs.s.lt; omega
        have hn2 : n2 ≤ 1000000 := by
          have h1 := len_mul hlt hlb
          have h2 := hs.r.len
          omega
        have NR := Kp.mk (show Ni wr A2 n2 c2 r from ⟨hs.r.rd, hn2⟩)
        have HS := Kp.mk hs
        by_cases hr : r < vb
        · have C1 := Kp.mk (RCmpV NR.out (HB.out.ext HS.out.x) (-1) (cmpI_lt hr))
          have HR := Kp.mk hr
          clear hs hr hlt hn2
          go_wp2_with fail
          refine C1.out.mono ?_
          rintro e w3 ⟨rfl, hx3⟩
          have HF := Kp.mk (show DvW w (dgs 65536 va) vb n k r qs A2 n2 c2 w3 from ⟨HS.out.s.leave HR.out, HS.out.q.ext hx3, HS.out.r.ext hx3, HS.out.x.trans hx3, Nat.le_trans HS.out.sz hx3.size⟩)
          clear hx3
          go_wp2_with fail
          go_roundw
          case rel => exact ⟨k, r, qs, A2, n2, c2, by omega, by go_num, rfl, HF.out⟩
          case measure => simp [intOf]
        · obtain ⟨z, hz, hz0⟩ : ∃ z, cmpI r vb = z ∧ ¬ z < 0 := ⟨_, rfl, cmpI_ge (Nat.le_of_not_lt hr)⟩
          have C1 := Kp.mk (RCmpV NR.out (HB.out.ext HS.out.x) z hz)
          have C2 := Kp.mk (fun u (h : Ext wr u) => fit_any (NR.out.ext h) ((HB.out.ext HS.out.x).ext h) h0 (Nat.le_of_not_lt hr) hlt)
          have hz1 : (0 : Int) ≤ z := by omega
          clear hs hz hz0
          go_wp2_with fail
          refine C1.out.mono ?_
          rintro e w3 ⟨rfl, hx3⟩
          go_wp2_with fail
          refine (C2.out _ hx3).mono ?_
          rintro e w4 ⟨d3, rfl, p1, p2, p3, hx4⟩
          have hle : vb * d3 ≤ r := by rw [Nat.mul_comm]; exact p2
          have HP := Kp.mk (And.intro p1 (And.intro p3 hle))
          obtain ⟨hnx, hdd⟩ := HS.out.s.next (Nat.pos_of_ne_zero h0) (by omega) p2
          have hq4 := HS.out.q.ext (hx3.trans hx4)
          have k3 := hq4.cell k _ (dg_in qs k (by rw [hq4.len]; omega))
          rw [HS.out.s.dk] at k3
          unfold vI at k3
          have k4 := hq4.free k
          have HNX := Kp.mk hnx
          have HQ4 := Kp.mk (hq4.set k (d2 + d3))
          have hr4 := HS.out.r.ext (hx3.trans hx4)
          have HR4 := Kp.mk (hr4.far (p := ⟨w.heap.size, k, none⟩) (fun e => Nat.not_succ_le_self _ (hr4.base _ e)) (vI (d2 + d3)))
          have HX4 := Kp.mk ((HS.out.x.trans (hx3.trans hx4)).setCell (p := ⟨w.heap.size, k, none⟩) (Nat.le_refl _) (vI (d2 + d3)))
          have hdi : (d2 : Int) + (d3 : Int) < 65536 := by omega
          have HZ4 := Kp.mk (Nat.le_trans HS.out.sz (hx3.trans hx4).size)
          obtain ⟨E, hE⟩ : ∃ E, d2 + d3 = E := ⟨_, rfl⟩
          have e5 : (d2 : Int) + (d3 : Int) = (E : Int) := by omega
          rw [hE] at HQ4 HR4 HX4 HNX
          unfold vI at HQ4 HR4 HX4
          clear hq4 hr4 hx3 hx4 hnx hdd hle p1 p2 p3 hE C1 C2
          go_wp2_with fail
          have hsz : (w4.setCell ⟨w.heap.size, k, none⟩ (.int .i64 (E : Int))).heap.size = w4.heap.size := by simp
          rw [← hsz]
          generalize w4.setCell ⟨w.heap.size, k, none⟩ (.int .i64 (E : Int)) = w5 at *
          have hN3 : Ni (w5.alloc (.cells #[.int .i64 (d3 : Int)] it)) (some ⟨w5.heap.size, 0, none⟩) 1 1 d3 := ⟨by rw [← one_dgs (by have := HP.out.1; omega) HP.out.2.1]; exact lit1 w5 d3 _ rfl, by omega⟩
          refine (RMulV (HB.out.ext (HX4.out.trans (by (repeat (first | assumption | exact Ext.refl _ | apply Ext.drew | apply Ext.drewN | apply Ext.alloc | refine Ext.trans ?_ (by assumption))); first | done | fail))) hN3).mono ?_
          clear hN3
          rintro e w6 ⟨A6, n6, c6, rfl, r6, _, hx6⟩
          have hx56 : Ext w5 w6 := (show Ext w5 (w5.alloc (.cells #[.int .i64 (d3 : Int)] it)) from (by (repeat (first | assumption | exact Ext.refl _ | apply Ext.drew | apply Ext.drewN | apply Ext.alloc | refine Ext.trans ?_ (by assumption))); first | done | fail)).trans hx6
          have hn6 : n6 ≤ 1000000 := by
            have h1 := len_mul (Nat.lt_of_le_of_lt HP.out.2.2 hlt) hlb
            have h2 := r6.len
            omega
          have C4 := Kp.mk (RSubV (show Ni w6 A2 n2 c2 r from ⟨(HR4.out.ext hx56).rd, hn2⟩) (show Ni w6 A6 n6 c6 (vb * d3) from ⟨r6, hn6⟩) HP.out.2.2)
          have HX6 := Kp.mk hx56
          clear r6 hx6 hx56 hn6
          go_wp2_with fail
          refine C4.out.mono ?_
          rintro e w7 ⟨A7, n7, c7, rfl, r7, o7, hx7⟩
          have hx57 := HX6.out.trans hx7
          have HD7 := Kp.mk (show DtW w (dgs 65536 va) vb n k (r - vb * d3) E (qs.set k E) A7 n7 c7 w7 from
            ⟨HNX.out, HQ4.out.ext hx57, o7.lower (Nat.le_trans (Nat.le_of_eq rfl) (Nat.le_trans (by rw [← hsz] at HZ4; exact HZ4.out) HX6.out.size)), HX4.out.trans hx57, Nat.le_trans (by rw [← hsz] at HZ4; exact HZ4.out) hx57.size⟩)
          have HM := Kp.mk (show rdI w7 (.slice A7 n7 c7) < rdI wr (.slice A2 n2 c2) by
            rw [rdI_eq r7, rdI_eq HS.out.r.rd]
            have h1 := HP.out.1
            have h2 : 1 * 1 ≤ vb * d3 := Nat.mul_le_mul (Nat.pos_of_ne_zero h0) h1
            have h3 := HP.out.2.2
            omega)
          clear r7 o7 hx7 hx57 C4
          go_wp2_with fail
          go_roundw
          case rel => exact ⟨_, _, _, _, _, _, rfl, HD7.out⟩
          case measure => exact HM.out
/-- what is left -/
theorem rest_any {A B : Option Addr} {n c m d va vb : Nat} {w : World} (ha : Ni w A n c va) (hb : Ni w B m d vb) (hn : n ≤ 100000) (hm : m ≤ 100000) (h0 : vb ≠ 0) :
    Calls Tryd.prog 50 #[.slice A n c, .slice B m d] w (FreshN w (va % vb)) := by
  have C := Kp.mk (div_any ha hb hn hm h0)
  clear ha hb
  go_enter Tryd.func50, Tryd.ntmps50
  go_wp2_with fail
  refine C.out.mono ?_
  rintro e w1 ⟨A1, n1, c1, A2, n2, c2, rfl, o1, o2, x1⟩
  have HF := Kp.mk (show FreshN w (va % vb) (.returned (.slice A2 n2 c2)) w1 from ⟨_, _, _, rfl, o2.rd, o2, x1⟩)
  clear o1 o2 x1
  go_wp2_with fail
  go_ret
  exact HF.out
end Go.Proofs.YticggkllfojgkaaDoor
