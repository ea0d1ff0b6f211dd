/-
  nat: invert.
  nat: Inv; Write of what doesn't fit.
  The laws' head: up, one, light.
  What the rows' readings give the walks: arrays of words and of bytes, slices of bytes.
-/
import Derived.Test.YticggkllfojgkaaDoorM8
import Derived.Test.YticggkllfojgkaaDoorRows
import Derived.Test.YticggkllfojgkaaDoorM0
import Derived.ProofKit
import Derived.LaidMore
import Derived.OpenShut
import Derived.Lay
import Derived.MakeChecks
import Derived.ChangeOld
import Derived.Stop.Joined
import Derived.SizedLaws
namespace Go.Proofs.YticggkllfojgkaaDoor
open Go Go.RowKit
set_option maxRecDepth 4000

theorem vL_inj {x y : Nat} (h : vL x = vL y) : x = y := by
  unfold vL at h
  injection h with _ h2
  omega
theorem Rd.uniq {w : World} {A : Option Addr} {n c : Nat} {l l' : List Nat} (h : Rd vL w A n c l) (h' : Rd vL w A n c l') : l = l' := by
  refine List.ext_getElem? fun j => ?_
  by_cases hj : j < n
  · obtain ⟨g, o, ea, hc⟩ := h.at_ (by omega)
    obtain ⟨g', o', ea', hc'⟩ := h'.at_ (by omega)
    rw [ea] at ea'
    cases ea'
    have e1 := dg_in l j (by rw [h.len]; exact hj)
    have e2 := dg_in l' j (by rw [h'.len]; exact hj)
    have h1 := hc j _ e1
    rw [hc' j _ e2] at h1
    rw [e1, e2, vL_inj (Option.some.inj h1)]
  · rw [List.getElem?_eq_none (by rw [h.len]; omega), List.getElem?_eq_none (by rw [h'.len]; omega)]
/-- the number that a slice reads as -/
noncomputable def rdVal (w : World) (v : Value) : Nat := by
  classical
  exact if h : ∃ y : Nat, ∃ A n c, v = .slice A n c ∧ Rd vL w A n c (dgs BB y) then Classical.choose h else 0
theorem rdVal_eq {w : World} {A : Option Addr} {n c y : Nat} (h : Rd vL w A n c (dgs BB y)) : rdVal w (.slice A n c) = y := by
  have hh : ∃ y : Nat, ∃ A' n' c', Value.slice A n c = .slice A' n' c' ∧ Rd vL w A' n' c' (dgs BB y) := ⟨y, A, n, c, rfl, h⟩
  unfold rdVal
  rw [dif_pos hh]
  obtain ⟨A', n', c', e, h'⟩ := Classical.choose_spec hh
  cases e
  have e2 := congrArg (vl BB) (h'.uniq h)
  rwa [vl_dgs (by decide), vl_dgs (by decide)] at e2
/-- between the rounds -/
structure EuW (w : World) (va vm x y p q : Nat) (s : Bool) (A1 : Option Addr) (c1 : Nat) (A2 : Option Addr) (c2 : Nat) (A3 : Option Addr) (n3 c3 : Nat) (A4 : Option Addr) (n4 c4 : Nat) (wr : World) : Prop where
  e : Eu va vm x y p q s
  bx : nl x ≤ 64
  by_ : nl y ≤ 64
  rx : Rd vL wr A1 (nl x) c1 (dgs BB x)
  ry : Rd vL wr A2 (nl y) c2 (dgs BB y)
  op : Rw ut vL wr w.heap.size (.slice A3 n3 c3) n3 (dgs BB p)
  oq : Rw ut vL wr w.heap.size (.slice A4 n4 c4) n4 (dgs BB q)
  x_ : Ext w wr
theorem EuW.bq {w : World} {va vm x y p q : Nat} {s : Bool} {A1 : Option Addr} {c1 : Nat} {A2 : Option Addr} {c2 : Nat} {A3 : Option Addr} {n3 c3 : Nat} {A4 : Option Addr} {n4 c4 : Nat} {wr : World} (h : EuW w va vm x y p q s A1 c1 A2 c2 A3 n3 c3 A4 n4 c4 wr) (hm : nl vm ≤ 64) : n3 ≤ 64 ∧ n4 ≤ 64 := by
  have h3 := h.op.len
  have h4 := h.oq.len
  have e1 : nl p ≤ nl vm := nl_mono h.e.le
  have e2 : nl q ≤ nl vm := nl_mono (by
    have h1 : q * 1 ≤ q * x := Nat.mul_le_mul_left q h.e.pos
    have h2 := h.e.id
    omega)
  unfold nl at e1 e2 hm
  omega
/-- what is told of the inverse -/
def Inverted (w : World) (va vm : Nat) (e : Ending) (w' : World) : Prop :=
  (Nat.gcd vm va = 1 ∧ ∃ A n c, e = .returned (.tuple #[.slice A n c, .bool true]) ∧ Rw ut vL w' w.heap.size (.slice A n c) n (dgs BB (invN va vm)) ∧ Ext w w') ∨
  (Nat.gcd vm va ≠ 1 ∧ e = .returned (.tuple #[.slice none 0 0, .bool false]) ∧ Ext w w')
theorem nl_zero {v : Nat} (h : nl v = 0) : v = 0 := (dgs_nil (by decide) v).1 (List.eq_nil_of_length_eq_zero h)
theorem lit_own (w w0 : World) (l : List Nat) (cs : Array Value) (h : cs = lv l) (n : Nat) (hn : l.length = n) (hm : n ≤ maxLen) (g : Nat) (hg : g = w.heap.size) (h0 : w0.heap.size ≤ g) : Rw ut vL (w.alloc (.cells cs ut)) w0.heap.size (.slice (some ⟨g, 0, none⟩) n n) n l := by
  subst h hg
  exact (Lb.new w l).own h0 hn hm
theorem EuW.start {w : World} {A B : Option Addr} {c d va vm : Nat} (ha : Rd vL w A (nl va) c (dgs BB va)) (hb : Rd vL w B (nl vm) d (dgs BB vm)) (la : nl va ≤ 64) (lm : nl vm ≤ 64) (hm : 2 ≤ vm) :
    EuW w va vm vm va 0 1 true B d A c (some ⟨w.heap.size, 0, none⟩) 0 0 (some ⟨w.heap.size + 1, 0, none⟩) 1 1 ((w.alloc (.cells #[] ut)).alloc (.cells #[.int .u32 1] ut)) :=
  ⟨Eu.start hm, lm, la, hb.ext (by (repeat (first | assumption | exact Ext.refl _ | apply Ext.drew | apply Ext.drewN | apply Ext.alloc | refine Ext.trans ?_ (by assumption))); first | done | fail), ha.ext (by (repeat (first | assumption | exact Ext.refl _ | apply Ext.drew | apply Ext.drewN | apply Ext.alloc | refine Ext.trans ?_ (by assumption))); first | done | fail), (lit_own w w [] #[] rfl 0 rfl (by decide) _ rfl (Nat.le_refl _)).ext (by (repeat (first | assumption | exact Ext.refl _ | apply Ext.drew | apply Ext.drewN | apply Ext.alloc | refine Ext.trans ?_ (by assumption))); first | done | fail),
    lit_own (w.alloc (.cells #[] ut)) w [1] #[.int .u32 1] rfl 1 rfl (by decide) _ (by simp) (by omega), (by (repeat (first | assumption | exact Ext.refl _ | apply Ext.drew | apply Ext.drewN | apply Ext.alloc | refine Ext.trans ?_ (by assumption))); first | done | fail)⟩
set_option maxHeartbeats 2000000 in
theorem invert_any {A B : Option Addr} {c d va vm : Nat} {w : World} (ha : Rd vL w A (nl va) c (dgs BB va)) (hb : Rd vL w B (nl vm) d (dgs BB vm)) (la : nl va ≤ 64) (lm : nl vm ≤ 64) (hm : 2 ≤ vm) :
    Calls Tryd.prog 76 #[.slice A (nl va) c, .slice B (nl vm) d] w (Inverted w va vm) := by
  have HA := Kp.mk ha
  have HB := Kp.mk hb
  clear ha hb
  go_enter Tryd.func76, Tryd.ntmps76
  go_wp2_with fail
  go_loopw [6, 7, 8, 9, 10] (fun l1 l2 l3 l4 sv wr => ∃ x y p q s A1 c1 A2 c2 A3 n3 c3 A4 n4 c4, l1 = .slice A1 (nl x) c1 ∧ l2 = .slice A2 (nl y) c2 ∧ l3 = .slice A3 n3 c3 ∧ l4 = .slice A4 n4 c4 ∧ sv = .bool s ∧ EuW w va vm x y p q s A1 c1 A2 c2 A3 n3 c3 A4 n4 c4 wr) (fun _ l2 _ _ _ wr => rdVal wr l2)
  case atStart => exact ⟨vm, va, 0, 1, true, _, _, _, _, _, _, _, _, _, _, rfl, rfl, rfl, rfl, rfl, EuW.start HA.out HB.out la lm hm⟩
  case round =>
    obtain ⟨x, y, p, q, s, A1, c1, A2, c2, A3, n3, c3, A4, n4, c4, rfl, rfl, rfl, rfl, rfl, hr⟩ := hrel
    have hbq := hr.bq lm
    by_cases hy : y = 0
    · subst hy
      have hx := hr.e.last
      have hn0 : nl 0 = 0 := rfl
      have CC := Kp.mk (fun w' (h : Ext wr w') (hl : Rd vL w' (some ⟨wr.heap.size, 0, none⟩) 1 1 [1]) => CmpN_any (hr.rx.ext h) hl (cn_dgs (by decide) x).d (Dg.one (by decide)) (by have := hr.bx; omega) (by omega))
      rw [vl_dgs (B := BB) (by decide), show vl BB [1] = 1 from rfl] at CC
      have HL := Kp.mk (((Lb.new wr [1]).own (B := 0) (n := 1) (Nat.zero_le _) rfl (by decide)).rd)
      have HR := Kp.mk hr
      have HX := Kp.mk hx
      rw [hn0]
      clear hr hx hbq
      by_cases h1 : x = 1
      · subst h1
        rw [cmpI_eq] at CC
        go_wp2_with fail
        refine (CC.out _ (by (repeat (first | assumption | exact Ext.refl _ | apply Ext.drew | apply Ext.drewN | apply Ext.alloc | refine Ext.trans ?_ (by assumption))); first | done | fail) HL.out).mono ?_
        rintro e w3 ⟨rfl, hx3⟩
        have hx4 : Ext wr w3 := (show Ext wr (wr.alloc (.cells #[.int .u32 1] ut)) from (by (repeat (first | assumption | exact Ext.refl _ | apply Ext.drew | apply Ext.drewN | apply Ext.alloc | refine Ext.trans ?_ (by assumption))); first | done | fail)).trans hx3
        obtain ⟨i1, i2⟩ := HR.out.e.one hm
        have i3 := invN_eq i1 i2
        have HG := Kp.mk (And.intro (show Nat.gcd vm va = 1 from HX.out.symm) i3)
        have HO := Kp.mk (HR.out.op.ext hx4)
        have HXX := Kp.mk (HR.out.x_.trans hx4)
        cases s with
        | false =>
          have HF := Kp.mk (show Inverted w va vm (.returned (.tuple #[.slice A3 n3 c3, .bool true])) w3 from .inl ⟨HG.out.1, _, _, _, rfl, by rw [← HG.out.2]; exact HO.out, HXX.out⟩)
          clear hx3 hx4 i1 i2 i3 CC
          go_wp2_with fail
          go_ret2
          exact HF.out
        | true =>
          have CD := Kp.mk (difference_any (HB.out.ext HXX.out) HO.out.rd (cn_dgs (by decide) vm).d (cn_dgs (by decide) p).d (by have h5 := HO.out.len; have h6 : nl p ≤ nl vm := nl_mono HR.out.e.le; unfold nl at h6; unfold nl; omega) (by omega) (by rw [vl_dgs (by decide), vl_dgs (by decide)]; exact HR.out.e.le))
          rw [vl_dgs (B := BB) (by decide), vl_dgs (B := BB) (by decide)] at CD
          clear hx3 hx4 i1 i2 i3 CC
          go_wp2_with fail
          refine CD.out.mono ?_
          rintro e w4 ⟨A5, n5, c5, rfl, ho5, hx5⟩
          have HF := Kp.mk (show Inverted w va vm (.returned (.tuple #[.slice A5 n5 c5, .bool true])) w4 from .inl ⟨HG.out.1, _, _, _, rfl, by rw [← HG.out.2]; exact ho5.lower HXX.out.size, HXX.out.trans hx5⟩)
          clear ho5 hx5
          go_wp2_with fail
          go_ret2
          exact HF.out
      · have hz : (cmpI x 1 != 0) = true := by
          rcases Nat.lt_or_gt_of_ne h1 with h | h
          · rw [cmpI_lt h]; decide
          · rw [cmpI_gt h]; decide
        generalize cmpI x 1 = z at *
        go_wp2_with fail
        refine (CC.out _ (by (repeat (first | assumption | exact Ext.refl _ | apply Ext.drew | apply Ext.drewN | apply Ext.alloc | refine Ext.trans ?_ (by assumption))); first | done | fail) HL.out).mono ?_
        rintro e w3 ⟨rfl, hx3⟩
        have hx4 : Ext wr w3 := (show Ext wr (wr.alloc (.cells #[.int .u32 1] ut)) from (by (repeat (first | assumption | exact Ext.refl _ | apply Ext.drew | apply Ext.drewN | apply Ext.alloc | refine Ext.trans ?_ (by assumption))); first | done | fail)).trans hx3
        have HF := Kp.mk (show Inverted w va vm (.returned (.tuple #[.slice none 0 0, .bool false])) w3 from .inr ⟨by rw [← HX.out]; exact h1, rfl, HR.out.x_.trans hx4⟩)
        clear hx3 hx4
        go_wp2_with fail
        go_ret2
        exact HF.out
    · have ht := top_dgs hy
      obtain ⟨M, hM⟩ : ∃ M, nl y = M + 1 := ⟨nl y - 1, by
        have : 0 < nl y := List.length_pos_iff.2 fun e => hy ((dgs_nil (by decide) _).1 e)
        omega⟩
      have hry := hr.ry
      have hby := hr.by_
      have hrv := rdVal_eq hr.ry
      rw [hM] at ht hry hby ⊢
      rw [Nat.add_sub_cancel] at ht
      have C1 := Kp.mk (divide_any hr.rx hry (cn_dgs (by decide) x).d (cn_dgs (by decide) y).d (by have := hr.bx; omega) (by omega) ht)
      rw [vl_dgs (B := BB) (by decide), vl_dgs (B := BB) (by decide)] at C1
      have HR := Kp.mk hr
      have HM := Kp.mk hM
      have HRV := Kp.mk hrv
      have b0 : (0 : Int) < ((M + 1 : Nat) : Int) := by omega
      clear hr hry ht hM hrv
      go_wp2_with fail
      refine C1.out.mono ?_
      rintro e w3 ⟨A5, n5, c5, A6, n6, c6, rfl, ho5, ho6, hx3⟩
      have hl5 : n5 ≤ 64 := by
        have h1 := ho5.len
        have h2 : nl (x / y) ≤ nl x := nl_mono (Nat.div_le_self x y)
        have h3 := HR.out.bx
        unfold nl at h2 h3
        omega
      have C2 := Kp.mk (product_any ho5.rd (HR.out.oq.ext hx3).rd (cn_dgs (by decide) _).d (cn_dgs (by decide) _).d (by omega) (by omega))
      rw [vl_dgs (B := BB) (by decide), vl_dgs (B := BB) (by decide)] at C2
      have HO6 := Kp.mk ho6
      have HX3 := Kp.mk hx3
      clear ho5 ho6 hx3 C1
      go_wp2_with fail
      refine C2.out.mono ?_
      rintro e w4 ⟨A7, n7, c7, rfl, ho7, hx4⟩
      have hl7 : n7 ≤ 1000000000 := by
        have h1 := ho7.len
        have h2 : x / y * q ≤ vm := by
          have h3 : x / y * q ≤ x * q := Nat.mul_le_mul_right q (Nat.div_le_self x y)
          rw [Nat.mul_comm x q] at h3
          have h4 := HR.out.e.id
          omega
        have h5 := nl_mono h2
        unfold nl at h5 lm
        omega
      have C3 := Kp.mk (sum_any (HR.out.op.ext (HX3.out.trans hx4)).rd ho7.rd (cn_dgs (by decide) _).d (cn_dgs (by decide) _).d (by omega) (by omega))
      rw [vl_dgs (B := BB) (by decide), vl_dgs (B := BB) (by decide)] at C3
      have HX4 := Kp.mk (HX3.out.trans hx4)
      have HX34 := Kp.mk hx4
      clear ho7 hx4 C2
      go_wp2_with fail
      refine C3.out.mono ?_
      rintro e w5 ⟨A8, n8, c8, rfl, ho8, hx5⟩
      have hx6 : Ext wr w5 := HX4.out.trans hx5
      have hx7 : Ext w w5 := HR.out.x_.trans hx6
      have he := HR.out.e.next (Nat.pos_of_ne_zero hy)
      have hn6 : n6 = nl (x % y) := HO6.out.len.symm
      have hW : EuW w va vm y (x % y) q (p + x / y * q) (!s) A2 c2 A6 c6 A4 n4 c4 A8 n8 c8 w5 :=
        ⟨he, HR.out.by_, Nat.le_trans (nl_mono (Nat.mod_le x y)) HR.out.bx, HR.out.ry.ext hx6, by rw [← hn6]; exact (HO6.out.ext ((show Ext w3 w5 from HX34.out.trans hx5))).rd, HR.out.oq.ext hx6, ho8.lower (HR.out.x_.trans HX4.out).size, hx7⟩
      have HW := Kp.mk hW
      have hms := rdVal_eq hW.ry
      have HMS := Kp.mk hms
      clear ho8 hx5 hx6 hx7 he hW hms C3
      go_wp2_with fail
      go_roundw
      case rel => exact ⟨y, x % y, q, p + x / y * q, !s, _, _, _, _, _, _, _, _, _, _, by rw [HM.out], rfl, rfl, rfl, rfl, HW.out⟩
      case measure =>
        rw [HMS.out, ← HM.out, HRV.out]
        exact Nat.mod_lt x (Nat.pos_of_ne_zero hy)
end Go.Proofs.YticggkllfojgkaaDoor
namespace Go.Proofs.YticggkllfojgkaaDoor
open Go Go.RowKit
set_option maxRecDepth 4000

section
variable {w : World} {A B : Option Addr} {n c m d : Nat} {a b : List Nat}
theorem Inv_long (ha : In1 w A n c a) (hb : In1 w B m d b) (h : lng (vl BB a) ∨ lng (vl BB b)) : Calls Tryd.prog 58 #[.slice A n c, .slice B m d] w (Bad1 w 4) := by
  have C := Kp.mk (two_long ha hb h)
  clear ha hb h
  go_enter Tryd.func58, Tryd.ntmps58
  go_wp2_with fail
  refine C.out.mono ?_
  rintro e w1 ⟨rfl, rfl⟩
  go_wp2_with fail
  go_ret2
  exact ⟨rfl, (by (repeat (first | assumption | exact Ext.refl _ | apply Ext.drew | apply Ext.drewN | apply Ext.alloc | refine Ext.trans ?_ (by assumption))); first | done | fail)⟩
/-- what is told of what makes 1 -/
def InvR (w : World) (va vm : Nat) (e : Ending) (w' : World) : Prop :=
  (Nat.gcd vm va = 1 ∧ Ok1 w (invN va vm) e w') ∨ (Nat.gcd vm va ≠ 1 ∧ Bad1 w 13 e w')
theorem Inv_low (ha : In1 w A n c a) (hb : In1 w B m d b) (h1 : ¬ lng (vl BB a)) (h2 : ¬ lng (vl BB b)) (hm : vl BB b < 2) : Calls Tryd.prog 58 #[.slice A n c, .slice B m d] w (Bad1 w 1) := by
  have C := Kp.mk (two_short ha hb h1 h2)
  have hx : Ext w (w.alloc (.cells #[.slice A n c, .slice B m d] nt)) := (by (repeat (first | assumption | exact Ext.refl _ | apply Ext.drew | apply Ext.drewN | apply Ext.alloc | refine Ext.trans ?_ (by assumption))); first | done | fail)
  have C2 := Kp.mk (hb.ext hx).counted
  have HX := Kp.mk hx
  have HL := Kp.mk (show nl (vl BB b) ≤ 64 from Nat.le_of_not_lt h2)
  have HM := Kp.mk hm
  generalize vl BB b = vm at *
  clear ha hb h1 h2 hx hm
  go_enter Tryd.func58, Tryd.ntmps58
  go_wp2_with fail
  refine C.out.mono ?_
  rintro e w1 ⟨rfl, hw1⟩
  rw [← hw1] at C2 HX
  clear hw1
  go_wp2_with fail
  refine C2.out.mono ?_
  rintro e w2 ⟨rfl, _, r2, rfl⟩
  have C3 := Kp.mk (CmpN_any (w := w2.alloc (.cells #[.int .u32 2] ut)) (r2.ext (by (repeat (first | assumption | exact Ext.refl _ | apply Ext.drew | apply Ext.drewN | apply Ext.alloc | refine Ext.trans ?_ (by assumption))); first | done | fail)) ((lit_lb w2 [2] w2.heap.size rfl).whole 1 1 rfl (Nat.le_refl _)) (cn_dgs (by decide) vm).d (Dg.one (by decide)) (by have := HL.out; omega) (by omega))
  rw [vl_dgs (B := BB) (by decide), show vl BB [2] = 2 from rfl, cmpI_lt HM.out] at C3
  clear r2 C2
  go_wp2_with fail
  refine C3.out.mono ?_
  rintro e w3 ⟨rfl, hx3⟩
  have HF := Kp.mk (show Bad1 w 1 (.returned (.tuple #[.slice none 0 0, err 1])) w3 from ⟨rfl, (HX.out.trans ((Ext.refl w2).alloc _)).trans hx3⟩)
  clear hx3
  go_wp2_with fail
  go_ret2
  exact HF.out
theorem Inv_ok (ha : In1 w A n c a) (hb : In1 w B m d b) (h1 : ¬ lng (vl BB a)) (h2 : ¬ lng (vl BB b)) (hm : 2 ≤ vl BB b) : Calls Tryd.prog 58 #[.slice A n c, .slice B m d] w (InvR w (vl BB a) (vl BB b)) := by
  have C := Kp.mk (two_short ha hb h1 h2)
  have hx : Ext w (w.alloc (.cells #[.slice A n c, .slice B m d] nt)) := (by (repeat (first | assumption | exact Ext.refl _ | apply Ext.drew | apply Ext.drewN | apply Ext.alloc | refine Ext.trans ?_ (by assumption))); first | done | fail)
  have C1 := Kp.mk (fun w' (h : Ext w w') => (ha.ext h).counted)
  have C2 := Kp.mk (hb.ext hx).counted
  have HX := Kp.mk hx
  have HL := Kp.mk (show nl (vl BB a) ≤ 64 ∧ nl (vl BB b) ≤ 64 from ⟨Nat.le_of_not_lt h1, Nat.le_of_not_lt h2⟩)
  have HM := Kp.mk hm
  generalize vl BB a = va at *
  generalize vl BB b = vm at *
  have hz : ¬ cmpI vm 2 < 0 := by
    rcases Nat.lt_or_ge 2 vm with h | h
    · rw [cmpI_gt h]; decide
    · rw [show vm = 2 by omega, cmpI_eq]; decide
  clear ha hb h1 h2 hx hm
  go_enter Tryd.func58, Tryd.ntmps58
  go_wp2_with fail
  refine C.out.mono ?_
  rintro e w1 ⟨rfl, hw1⟩
  rw [← hw1] at C2 HX
  clear hw1
  go_wp2_with fail
  refine C2.out.mono ?_
  rintro e w2 ⟨rfl, _, r2, rfl⟩
  have C3 := Kp.mk (CmpN_any (w := w2.alloc (.cells #[.int .u32 2] ut)) (r2.ext (by (repeat (first | assumption | exact Ext.refl _ | apply Ext.drew | apply Ext.drewN | apply Ext.alloc | refine Ext.trans ?_ (by assumption))); first | done | fail)) ((lit_lb w2 [2] w2.heap.size rfl).whole 1 1 rfl (Nat.le_refl _)) (cn_dgs (by decide) vm).d (Dg.one (by decide)) (by have := HL.out; omega) (by omega))
  rw [vl_dgs (B := BB) (by decide), show vl BB [2] = 2 from rfl] at C3
  have R2 := Kp.mk r2
  generalize cmpI vm 2 = z at *
  clear r2 C2
  go_wp2_with fail
  refine C3.out.mono ?_
  rintro e w3 ⟨rfl, hx3⟩
  have hx23 : Ext w2 w3 := ((Ext.refl w2).alloc _).trans hx3
  have HX3 := Kp.mk (HX.out.trans hx23)
  have R3 := Kp.mk (R2.out.ext hx23)
  have C4 := Kp.mk (C1.out _ (HX.out.trans hx23))
  clear hx3 hx23 C1 R2 C3
  go_wp2_with fail
  refine C4.out.mono ?_
  rintro e w4 ⟨rfl, _, r1, rfl⟩
  have C5 := Kp.mk (invert_any r1 R3.out HL.out.1 HL.out.2 HM.out)
  clear r1 R3 C4
  go_wp2_with fail
  refine C5.out.mono ?_
  rintro e w5 (⟨hg, A5, n5, c5, rfl, ho5, hx5⟩ | ⟨hg, rfl, hx5⟩)
  · have HF := Kp.mk (show InvR w va vm (.returned (.tuple #[.slice A5 n5 c5, .nilIface])) w5 from .inl ⟨hg, A5, n5, c5, rfl, ho5.lower HX3.out.size, HX3.out.trans hx5⟩)
    clear ho5 hx5 hg
    go_wp2_with fail
    go_ret2
    exact HF.out
  · have HF := Kp.mk (show InvR w va vm (.returned (.tuple #[.slice none 0 0, err 13])) w5 from .inr ⟨hg, rfl, HX3.out.trans hx5⟩)
    clear hx5 hg
    go_wp2_with fail
    go_ret2
    exact HF.out
/-- a number that has more bits than fit into 1 byte -/
theorem bitsOf_lo {l : List Nat} (h : 256 ≤ vl BB l) {k : Nat} (hk : vl BB l < 2 ^ k) : 9 ≤ k := by
  rcases Nat.lt_or_ge k 9 with h1 | h1
  · have := Nat.pow_le_pow_right (n := 2) (by decide) (show k ≤ 8 by omega)
    omega
  · exact h1
theorem Write_low (ha : In1 w A n c a) (h1 : ¬ lng (vl BB a)) (hv : 256 ≤ vl BB a) : Calls Tryd.prog 48 #[.slice A n c, .int .i64 1] w fun e w' => e = .returned (.tuple #[.slice none 0 0, err 1]) ∧ Ext w w' := by
  have C := Kp.mk (anyLong_at w nt [⟨A, n, c, a⟩] #[.slice A n c] rfl 1 rfl (by omega) (by simp [ha.ok]) false (by simp [h1]))
  have hx : Ext w (w.alloc (.cells #[.slice A n c] nt)) := (by (repeat (first | assumption | exact Ext.refl _ | apply Ext.drew | apply Ext.drewN | apply Ext.alloc | refine Ext.trans ?_ (by assumption))); first | done | fail)
  have C1 := Kp.mk (ha.ext hx).counted
  have HL := Kp.mk (show nl (vl BB a) ≤ 64 from Nat.le_of_not_lt h1)
  have HX := Kp.mk hx
  have HV := Kp.mk hv
  generalize vl BB a = va at *
  clear ha h1 hx hv
  go_enter Tryd.func48, Tryd.ntmps48
  go_wp2_with fail
  refine C.out.mono ?_
  rintro e w1 ⟨rfl, hw1⟩
  rw [← hw1] at C1 HX
  clear hw1
  go_wp2_with fail
  refine C1.out.mono ?_
  rintro e w2 ⟨rfl, _, r1, rfl⟩
  have C2 := Kp.mk (bitsOf_any r1 (cn_dgs (by decide) va).d (by have := HL.out; omega))
  clear r1 C1
  go_wp2_with fail
  refine C2.out.mono ?_
  rintro e w3 ⟨k, rfl, hk, hk2, rfl⟩
  have hk9 := bitsOf_lo (by rw [vl_dgs (by decide)]; exact HV.out) hk
  have b1 : (1 : Int) < ((k : Int) + 7) / 8 := by omega
  have b2 : (k : Int) < 100000 := by have := HL.out; omega
  clear hk hk2 hk9
  go_wp2_with fail
  go_ret2
  exact ⟨rfl, HX.out⟩
end
end Go.Proofs.YticggkllfojgkaaDoor
namespace Go.Proofs.YticggkllfojgkaaDoor
open Go Go.RowKit
set_option maxRecDepth 4000

theorem nl_small {x : Nat} (h : x < 4294967296) : nl x ≤ 1 := by
  by_cases h0 : x = 0
  · subst h0; exact Nat.zero_le _
  · rw [nl_eq (L := 0) (by rw [Nat.pow_zero]; omega) (by rw [Nat.zero_add, Nat.pow_one]; exact h)]
    exact Nat.le_refl _
theorem In1.lit (w : World) (x : Nat) (a : Int) (ha : a = (x : Int)) (hx : x < 4294967296) (g : Nat) (hg : g = w.heap.size) : In1 (w.alloc (.cells #[.int .u32 a] ut)) (some ⟨g, 0, none⟩) 1 1 [x] := by
  subst hg ha
  exact ⟨(lit_lb w [x] w.heap.size rfl).whole 1 1 rfl (Nat.le_refl _), Dg.one hx, by omega⟩
theorem lit_short {x : Nat} (hx : x < 4294967296) : ¬ lng (vl BB [x]) := by
  rw [show vl BB [x] = x by simp [vl]]
  unfold lng
  have := nl_small hx
  omega
theorem vl_one (x : Nat) : vl BB [x] = x := by simp [vl]
end Go.Proofs.YticggkllfojgkaaDoor
namespace Go.Proofs.YticggkllfojgkaaDoor
open Go Go.ChangeShapes Go.WideShapes Go.ChangeAt Go.RowKit
set_option maxRecDepth 4000

theorem ownKnob_none : ownKnob Tryd.prog.godebug = none := by kernel_rfl
theorem laidOut : laidOutB Tryd.prog = true := by kernel_rfl

section
variable {H : Type} {enc : TypeId × Value → H} {P : Program} {w : World} {base : Nat} {spare : Nat → Bool} {held : Bool}
theorem wf_u32 {n : Int} (h : (Lit.int .u32 n).wf = true) : ∃ x : BitVec 32, n = un x := by
  have hb := bounds_u32 h
  refine ⟨BitVec.ofNat 32 n.toNat, ?_⟩
  rw [un_ofNat _ (by omega)]; omega
theorem wf_u8 {n : Int} (h : (Lit.int .u8 n).wf = true) : ∃ x : BitVec 8, n = ub x := by
  have hb := bounds_u8 h
  refine ⟨BitVec.ofNat 8 n.toNat, ?_⟩
  rw [ub_ofNat]; omega
/-- cells that read as integers -/
theorem list_of_cells {α : Type} (f : α → Value) : ∀ (n : Nat) (cs : List Value), cs.length = n → (∀ i, i < n → ∃ x, cs[i]? = some (f x)) → ∃ l : List α, cs = l.map f ∧ l.length = n
  | 0, [], _, _ => ⟨[], rfl, rfl⟩
  | n + 1, c :: cs, hl, h => by
    obtain ⟨x, hx⟩ := h 0 (by omega)
    obtain ⟨l, rfl, hl2⟩ := list_of_cells f n cs (by simpa using hl) (fun i hi => by
      obtain ⟨y, hy⟩ := h (i + 1) (by omega)
      exact ⟨y, by simpa using hy⟩)
    have e : c = f x := by simpa using hx
    exact ⟨x :: l, by rw [e]; rfl, by simp [hl2]⟩
  | 0, _ :: _, hl, _ => by simp at hl
  | _ + 1, [], hl, _ => by simp at hl
theorem words_of_trod {t e n fuel : Nat} {cs : List Value} {x : DataW H × List MemPlace} (ht : P.underlying t = some (.array n e)) (he : P.underlying e = some (.int .u32)) (hce : P.cellsOf e = 1) (hct : P.cellsOf t = n)
    (h : DataW.trod enc P w base spare held fuel t cs = some x) : ∃ l : List (BitVec 32), cs = l.map vu ∧ l.length = n := by
  obtain ⟨xs, m, _, _, hl, hn, hel⟩ := DataW.trod_array ht h
  refine list_of_cells vu n cs (hl.trans hct) fun i hi => ?_
  have hE := hel i hi
  rw [hce, Nat.mul_one, List.getElem?_eq_getElem (by omega)] at hE
  obtain ⟨z, e1, _, hw⟩ := DataW.trod_int he hE
  obtain ⟨y, rfl⟩ := wf_u32 hw
  refine ⟨y, ?_⟩
  have := congrArg (fun q : List Value => q[0]?) e1
  simpa [List.getElem?_take, List.getElem?_drop] using this
theorem bytes_of_trod {t e n fuel : Nat} {cs : List Value} {x : DataW H × List MemPlace} (ht : P.underlying t = some (.array n e)) (he : P.underlying e = some (.int .u8)) (hce : P.cellsOf e = 1) (hct : P.cellsOf t = n)
    (h : DataW.trod enc P w base spare held fuel t cs = some x) : ∃ l : List (BitVec 8), cs = l.map vb ∧ l.length = n := by
  obtain ⟨xs, m, _, _, hl, hn, hel⟩ := DataW.trod_array ht h
  refine list_of_cells vb n cs (hl.trans hct) fun i hi => ?_
  have hE := hel i hi
  rw [hce, Nat.mul_one, List.getElem?_eq_getElem (by omega)] at hE
  obtain ⟨z, e1, _, hw⟩ := DataW.trod_int he hE
  obtain ⟨y, rfl⟩ := wf_u8 hw
  refine ⟨y, ?_⟩
  have := congrArg (fun q : List Value => q[0]?) e1
  simpa [List.getElem?_take, List.getElem?_drop] using this
/-- an array of words by value -/
theorem open_words {t e n base' : Nat} {v : Value} {d : DataW H} {p : List MemPlace} (ht : P.underlying t = some (.array n e)) (he : P.underlying e = some (.int .u32)) (hce : P.cellsOf e = 1) (hct : P.cellsOf t = n)
    (hv : Value.okWide P w .any base' t v) (h : DataW.Trod enc P w base spare held t v d p) : ∃ l : List (BitVec 32), v = .agg (wv l) ∧ l.length = n := by
  obtain ⟨cs, rfl, _, _⟩ : ∃ cs, v = .agg cs ∧ cs.size = P.cellsOf t ∧ Row.okWide P w .any base' t cs := by
    simpa [Value.okWide, ht] using hv
  obtain ⟨fuel, hf⟩ := h
  obtain ⟨l, e1, hl⟩ := words_of_trod ht he hce hct hf
  refine ⟨l, ?_, hl⟩
  congr 1
  apply Array.ext'
  simpa [wv, Value.cells] using e1
/-- an array of bytes by value -/
theorem open_block {t e n base' : Nat} {v : Value} {d : DataW H} {p : List MemPlace} (ht : P.underlying t = some (.array n e)) (he : P.underlying e = some (.int .u8)) (hce : P.cellsOf e = 1) (hct : P.cellsOf t = n)
    (hv : Value.okWide P w .any base' t v) (h : DataW.Trod enc P w base spare held t v d p) : ∃ l : List (BitVec 8), v = .agg (bv l) ∧ l.length = n := by
  obtain ⟨cs, rfl, _, _⟩ : ∃ cs, v = .agg cs ∧ cs.size = P.cellsOf t ∧ Row.okWide P w .any base' t cs := by
    simpa [Value.okWide, ht] using hv
  obtain ⟨fuel, hf⟩ := h
  obtain ⟨l, e1, hl⟩ := bytes_of_trod ht he hce hct hf
  refine ⟨l, ?_, hl⟩
  congr 1
  apply Array.ext'
  simpa [bv, Value.cells] using e1
/-- a slice of bytes that came in -/
theorem open_bytes {t e base' : Nat} {v : Value} {d : DataW H} {p : List MemPlace} (ht : P.underlying t = some (.slice e)) (he : P.underlying e = some (.int .u8)) (hce : P.cellsOf e = 1)
    (hv : Value.okWide P w .any base' t v) (h : DataW.Trod enc P w 0 (fun _ => true) held t v d p) : ∃ A n c l, v = .slice A n c ∧ Sl w A n c l ∧ c ≤ maxLen := by
  obtain ⟨a0, len, cap, rfl⟩ := okWide_slice ht hv
  obtain ⟨fuel, hf⟩ := h
  rcases open_ints ht he hce hf with ⟨hcs, _⟩ | ⟨a, len', cap', zs, hcs, _, hl, hm, hz, _, hcell, hwz⟩
  · simp [Value.cells] at hcs
    obtain ⟨rfl, rfl, rfl⟩ := hcs
    exact ⟨none, 0, 0, [], rfl, Sl.nil _, Nat.zero_le _⟩
  · simp [Value.cells] at hcs
    obtain ⟨rfl, rfl, rfl⟩ := hcs
    simp only [if_true] at hz
    have hx : ∀ i, i < zs.length → ∃ x : BitVec 8, (zs.map (Value.int .u8))[i]? = some (vb x) := fun i hi => by
      obtain ⟨y, hy⟩ := wf_u8 (hwz _ (List.getElem_mem hi))
      exact ⟨y, by simp [hi, hy]⟩
    obtain ⟨l, hl1, hl2⟩ := list_of_cells vb zs.length (zs.map (Value.int .u8)) (by simp) hx
    refine ⟨some a, len, cap, l.take len, rfl, ⟨by rw [List.length_take]; omega, hl, (fun e => by cases e), fun hn => ?_⟩, hm⟩
    obtain ⟨b, off, rfl, hc⟩ := ints_at hcell (by omega)
    refine ⟨b, off, rfl, fun j hj => ?_⟩
    rw [gb_take _ _ _ hj, hc j (by omega)]
    have e1 := congrArg (fun q : List Value => q[j]?) hl1
    have hjz : j < zs.length := by omega
    have hjl : j < l.length := by omega
    simp only [List.getElem?_map, List.getElem?_eq_getElem hjz, List.getElem?_eq_getElem hjl, Option.map_some] at e1
    simp only [List.getD_eq_getElem?_getD, List.getElem?_eq_getElem hjz, Option.getD_some, e1]
    simp [gb, hjl]
/-- a slice of bytes that came in, with what its data weighs -/
theorem open_bytes_z {t e base' : Nat} {v : Value} {d : DataW H} {p : List MemPlace} (ht : P.underlying t = some (.slice e)) (he : P.underlying e = some (.int .u8)) (hce : P.cellsOf e = 1)
    (hv : Value.okWide P w .any base' t v) (h : DataW.Trod enc P w 0 (fun _ => true) held t v d p) : ∃ A n c l, v = .slice A n c ∧ Sl w A n c l ∧ c ≤ maxLen ∧ (n = 0 ∨ ∃ es ss, d = .slice es ss ∧ n ≤ es.length + ss.length) := by
  obtain ⟨A, n, c, l, rfl, hs, hm⟩ := open_bytes ht he hce hv h
  refine ⟨A, n, c, l, rfl, hs, hm, ?_⟩
  obtain ⟨fuel, hf⟩ := h
  rcases open_ints ht he hce hf with ⟨hcs, _⟩ | ⟨a, len', cap', zs, hcs, _, hl, _, hz, hx, _, _⟩
  · simp [Value.cells] at hcs
    exact .inl hcs.2.1
  · simp [Value.cells] at hcs
    obtain ⟨rfl, rfl, rfl⟩ := hcs
    simp only [if_true] at hz
    refine .inr ⟨_, _, (congrArg Prod.fst hx), ?_⟩
    simp only [lits, List.length_map, List.length_take, List.length_drop]
    omega
theorem sized_bytes {ts : List TypeId} {ds : List (DataW H)} (h : (DataW.weightsEach P ts ds).all (· ≤ reachBytes) = true) {j t e n : Nat} {d : DataW H} (ht : ts[j]? = some t) (hd : ds[j]? = some d) (hu : P.underlying t = some (.slice e)) (hb : P.bytesOf e = 1)
    (hq : n = 0 ∨ ∃ es ss, d = .slice es ss ∧ n ≤ es.length + ss.length) : n ≤ 140737488355328 := by
  rcases hq with rfl | ⟨es, ss, rfl, hn⟩
  · omega
  · have h1 := sized_slice h ht hd hu
    have h2 := reachBytes_lt
    rw [hb] at h1
    omega
end
end Go.Proofs.YticggkllfojgkaaDoor
