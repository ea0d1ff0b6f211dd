/-
  nat: Mul, Sub, Div.
  nat: bitsOf, hasBit; power.
  nat: power.
  nat: Exp.
-/
import Derived.Test.YticggkllfojgkaaM7
namespace Go.Proofs.Yticggkllfojgkaa
open Go Go.RowKit
set_option maxRecDepth 4000

theorem nl_mono {a b : Nat} (h : a ≤ b) : nl a ≤ nl b := by
  rcases Nat.lt_or_ge (nl b) (nl a) with h1 | h1
  · have := cn_len_lt (B := BB) (by decide) (cn_dgs (by decide) b) (cn_dgs (by decide) a) h1
    rw [vl_dgs (by decide), vl_dgs (by decide)] at this
    omega
  · exact h1
section
variable {w : World} {A B : Option Addr} {n c m d : Nat} {a b : List Nat}
theorem Mul_long (ha : In1 w A n c a) (hb : In1 w B m d b) (h : lng (vl BB a) ∨ lng (vl BB b)) : Calls Try.prog 33 #[.slice A n c, .slice B m d] w (Bad1 w 4) := by
  have C := Kp.mk (two_long ha hb h)
  clear ha hb h
  go_enter Try.func33, Try.ntmps33
  go_wp2_with fail
  refine C.out.mono ?_
  rintro e w1 ⟨rfl, rfl⟩
  go_wp2_with fail
  go_ret2
  exact ⟨rfl, (by (repeat (first | assumption | exact Ext.refl _ | apply Ext.drew | apply Ext.drewN | apply Ext.alloc | refine Ext.trans ?_ (by assumption))); first | done | fail)⟩
theorem Mul_ok (ha : In1 w A n c a) (hb : In1 w B m d b) (h1 : ¬ lng (vl BB a)) (h2 : ¬ lng (vl BB b)) : Calls Try.prog 33 #[.slice A n c, .slice B m d] w (Ok1 w (vl BB a * vl BB b)) := by
  have C := Kp.mk (two_short ha hb h1 h2)
  have hx : Ext w (w.alloc (.cells #[.slice A n c, .slice B m d] nt)) := (by (repeat (first | assumption | exact Ext.refl _ | apply Ext.drew | apply Ext.drewN | apply Ext.alloc | refine Ext.trans ?_ (by assumption))); first | done | fail)
  have C1 := Kp.mk (ha.ext hx).counted
  have C2 := Kp.mk (hb.ext hx).counted
  have HX := Kp.mk hx
  have HL := Kp.mk (show nl (vl BB a) ≤ 64 ∧ nl (vl BB b) ≤ 64 from ⟨Nat.le_of_not_lt h1, Nat.le_of_not_lt h2⟩)
  generalize vl BB a = va at *
  generalize vl BB b = vb at *
  clear ha hb h1 h2 hx
  go_enter Try.func33, Try.ntmps33
  go_wp2_with fail
  refine C.out.mono ?_
  rintro e w1 ⟨rfl, hw1⟩
  rw [← hw1] at C1 C2 HX
  clear hw1
  go_wp2_with fail
  refine C1.out.mono ?_
  rintro e w2 ⟨rfl, _, r1, rfl⟩
  have R1 := Kp.mk r1
  clear r1
  go_wp2_with fail
  refine C2.out.mono ?_
  rintro e w3 ⟨rfl, _, r2, rfl⟩
  have C3 := Kp.mk (product_any R1.out r2 (cn_dgs (by decide) va).d (cn_dgs (by decide) vb).d (by have := HL.out; omega) (by have := HL.out; omega))
  rw [vl_dgs (B := BB) (by decide), vl_dgs (B := BB) (by decide)] at C3
  clear r2 R1 C1 C2
  go_wp2_with fail
  refine C3.out.mono ?_
  rintro e w4 ⟨A4, n4, c4, rfl, ho, hx4⟩
  have HF := Kp.mk (show Ok1 w (va * vb) (.returned (.tuple #[.slice A4 n4 c4, .nilIface])) w4 from ⟨A4, n4, c4, rfl, ho.lower HX.out.size, HX.out.trans hx4⟩)
  clear ho hx4
  go_wp2_with fail
  go_ret2
  exact HF.out
theorem Sub_long (ha : In1 w A n c a) (hb : In1 w B m d b) (h : lng (vl BB a) ∨ lng (vl BB b)) : Calls Try.prog 43 #[.slice A n c, .slice B m d] w (Bad1 w 4) := by
  have C := Kp.mk (two_long ha hb h)
  clear ha hb h
  go_enter Try.func43, Try.ntmps43
  go_wp2_with fail
  refine C.out.mono ?_
  rintro e w1 ⟨rfl, rfl⟩
  go_wp2_with fail
  go_ret2
  exact ⟨rfl, (by (repeat (first | assumption | exact Ext.refl _ | apply Ext.drew | apply Ext.drewN | apply Ext.alloc | refine Ext.trans ?_ (by assumption))); first | done | fail)⟩
theorem Sub_low (ha : In1 w A n c a) (hb : In1 w B m d b) (h1 : ¬ lng (vl BB a)) (h2 : ¬ lng (vl BB b)) (hlt : vl BB a < vl BB b) : Calls Try.prog 43 #[.slice A n c, .slice B m d] w (Bad1 w 1) := by
  have C := Kp.mk (two_short ha hb h1 h2)
  have hx : Ext w (w.alloc (.cells #[.slice A n c, .slice B m d] nt)) := (by (repeat (first | assumption | exact Ext.refl _ | apply Ext.drew | apply Ext.drewN | apply Ext.alloc | refine Ext.trans ?_ (by assumption))); first | done | fail)
  have C0 := Kp.mk (CmpN_any (ha.r.ext hx) (hb.r.ext hx) ha.d hb.d (by have := ha.n; omega) (by have := hb.n; omega))
  have HX := Kp.mk hx
  rw [cmpI_lt hlt] at C0
  clear ha hb h1 h2 hlt hx
  go_enter Try.func43, Try.ntmps43
  go_wp2_with fail
  refine C.out.mono ?_
  rintro e w1 ⟨rfl, hw1⟩
  rw [← hw1] at C0 HX
  clear hw1
  go_wp2_with fail
  refine C0.out.mono ?_
  rintro e w0 ⟨rfl, hx0⟩
  have HX0 := Kp.mk (HX.out.trans hx0)
  clear hx0
  go_wp2_with fail
  go_ret2
  exact ⟨rfl, HX0.out⟩
theorem Sub_ok (ha : In1 w A n c a) (hb : In1 w B m d b) (h1 : ¬ lng (vl BB a)) (h2 : ¬ lng (vl BB b)) (hle : vl BB b ≤ vl BB a) : Calls Try.prog 43 #[.slice A n c, .slice B m d] w (Ok1 w (vl BB a - vl BB b)) := by
  have C := Kp.mk (two_short ha hb h1 h2)
  have hx : Ext w (w.alloc (.cells #[.slice A n c, .slice B m d] nt)) := (by (repeat (first | assumption | exact Ext.refl _ | apply Ext.drew | apply Ext.drewN | apply Ext.alloc | refine Ext.trans ?_ (by assumption))); first | done | fail)
  have D1 := Kp.mk (fun w' (h : Ext w w') => (ha.ext h).counted)
  have D2 := Kp.mk (fun w' (h : Ext w w') => (hb.ext h).counted)
  have HX := Kp.mk hx
  have HLE := Kp.mk hle
  have HNN := Kp.mk (show nl (vl BB b) ≤ nl (vl BB a) from nl_mono hle)
  have C0 := Kp.mk (fun w' (h : Ext w w') => CmpN_any (ha.r.ext h) (hb.r.ext h) ha.d hb.d (by have := ha.n; omega) (by have := hb.n; omega))
  have hz : ¬ cmpI (vl BB a) (vl BB b) < 0 := by
    rcases Nat.lt_or_ge (vl BB b) (vl BB a) with h | h
    · rw [cmpI_gt h]; decide
    · rw [show vl BB b = vl BB a by omega, cmpI_eq]; decide
  generalize cmpI (vl BB a) (vl BB b) = z at *
  have HL := Kp.mk (show nl (vl BB a) ≤ 64 ∧ nl (vl BB b) ≤ 64 from ⟨Nat.le_of_not_lt h1, Nat.le_of_not_lt h2⟩)
  generalize vl BB a = va at *
  generalize vl BB b = vb at *
  clear ha hb h1 h2 hx hle
  go_enter Try.func43, Try.ntmps43
  go_wp2_with fail
  refine C.out.mono ?_
  rintro e w1 ⟨rfl, hw1⟩
  rw [← hw1] at HX
  clear hw1
  go_wp2_with fail
  refine (C0.out _ HX.out).mono ?_
  rintro e w0 ⟨rfl, hx0⟩
  have HX0 := Kp.mk (HX.out.trans hx0)
  clear HX
  have HX := HX0
  have C1 := Kp.mk (D1.out _ HX0.out)
  have C2 := Kp.mk (D2.out _ HX0.out)
  clear hx0 HX0
  go_wp2_with fail
  refine C1.out.mono ?_
  rintro e w2 ⟨rfl, _, r1, rfl⟩
  have R1 := Kp.mk r1
  clear r1
  go_wp2_with fail
  refine C2.out.mono ?_
  rintro e w3 ⟨rfl, _, r2, rfl⟩
  have C3 := Kp.mk (difference_any R1.out r2 (cn_dgs (by decide) va).d (cn_dgs (by decide) vb).d HNN.out (by have := HL.out; omega) (by rw [vl_dgs (by decide), vl_dgs (by decide)]; exact HLE.out))
  rw [vl_dgs (B := BB) (by decide), vl_dgs (B := BB) (by decide)] at C3
  clear r2 R1 C1 C2
  go_wp2_with fail
  refine C3.out.mono ?_
  rintro e w4 ⟨A4, n4, c4, rfl, ho, hx4⟩
  have HF := Kp.mk (show Ok1 w (va - vb) (.returned (.tuple #[.slice A4 n4 c4, .nilIface])) w4 from ⟨A4, n4, c4, rfl, ho.lower HX.out.size, HX.out.trans hx4⟩)
  clear ho hx4
  go_wp2_with fail
  go_ret2
  exact HF.out
end
end Go.Proofs.Yticggkllfojgkaa
namespace Go.Proofs.Yticggkllfojgkaa
open Go Go.RowKit
set_option maxRecDepth 4000

theorem bitLen_hi (x : Nat) (hx : x < 4294967296) : x < 2 ^ Lib.bitLen x ∧ Lib.bitLen x ≤ 32 := by
  unfold Lib.bitLen
  by_cases h0 : x = 0
  · subst h0
    exact ⟨Nat.pow_pos (by decide), Lib.bitLenAux_le 64 0 32 (by decide)⟩
  · exact ⟨(Lib.bitLenAux_bounds 64 x (by omega) h0).2.2, Lib.bitLenAux_le 64 x 32 (by omega)⟩
theorem and1 (y : Nat) (hy : y < 4294967296) : bits .and .u32 (y : Int) 1 = ((y % 2 : Nat) : Int) := by
  show IntKind.u32.wrap ((BitVec.ofInt 32 (y : Int) &&& BitVec.ofInt 32 1).toNat : Int) = _
  rw [BitVec.ofInt_natCast, show BitVec.ofInt 32 1 = BitVec.ofNat 32 1 by decide, BitVec.toNat_and, BitVec.toNat_ofNat, BitVec.toNat_ofNat, Nat.mod_eq_of_lt (by omega), show 1 % 2 ^ 32 = 1 by decide, Nat.and_one_is_mod, IntKind.wrap_u32]
  omega
end Go.Proofs.Yticggkllfojgkaa
namespace Go.Proofs.Yticggkllfojgkaa
open Go Go.RowKit
set_option maxRecDepth 4000

theorem pw_step {va ve vm V x p : Nat} (hd : vm ∣ V) (hx : x % vm = va ^ (ve / 2 ^ (p + 1)) % vm) :
    (ve / 2 ^ p % 2 ≠ 1 → x * x % V % vm = va ^ (ve / 2 ^ p) % vm) ∧ (ve / 2 ^ p % 2 = 1 → x * x % V * (va % vm) % V % vm = va ^ (ve / 2 ^ p) % vm) := by
  have h := pow_bit va ve vm p
  rw [← hx, ← Nat.mul_mod] at h
  constructor
  · intro hb
    rw [if_neg hb, Nat.mul_one, Nat.mod_mod] at h
    rw [Nat.mod_mod_of_dvd _ hd, h]
  · intro hb
    rw [if_pos hb] at h
    rw [Nat.mod_mod_of_dvd _ hd, h, Nat.mul_mod, Nat.mod_mod_of_dvd _ hd, ← Nat.mul_mod, Nat.mod_mul_mod]
/-- between the rounds -/
structure PwS (w7 : World) (gO gw gt M V : Nat) (lo LW LT : List Nat) (wr : World) : Prop where
  ol : lo.length = M
  od : Dg BB lo
  ov : vl BB lo < V
  ob : Lb wr gO lo
  wl : LW.length = 2 * M
  wb : Lb wr gw LW
  tl : LT.length = M
  td : Dg BB LT
  tb : Lb wr gt LT
  x : Mds [gO, gw, gt] w7 wr
end Go.Proofs.Yticggkllfojgkaa
namespace Go.Proofs.Yticggkllfojgkaa
open Go Go.RowKit
set_option maxRecDepth 4000

section
variable {w : World} {A E B : Option Addr} {n c m d k ec : Nat} {a x b : List Nat}
theorem three (ha : In1 w A n c a) (he : In1 w E k ec x) (hb : In1 w B m d b) (r : Bool) (h : r = true ↔ lng (vl BB a) ∨ lng (vl BB x) ∨ lng (vl BB b)) :
    Calls Try.prog 41 #[.slice (some ⟨w.heap.size, 0, none⟩) 3 3] (w.alloc (.cells #[.slice A n c, .slice E k ec, .slice B m d] nt)) fun e w' => e = .returned (.bool r) ∧ w' = w.alloc (.cells #[.slice A n c, .slice E k ec, .slice B m d] nt) :=
  anyLong_at w nt [⟨A, n, c, a⟩, ⟨E, k, ec, x⟩, ⟨B, m, d, b⟩] _ rfl 3 rfl (by omega) (by simp [ha.ok, he.ok, hb.ok]) r (by simpa using h)
end
end Go.Proofs.Yticggkllfojgkaa
