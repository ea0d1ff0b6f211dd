/-
  nat: bitsOf, hasBit; power.
  nat: power.
  nat: Exp.
  nat: invert.
-/
import Derived.Test.YtfipgmjaabggjaaDoorM8
namespace Go.Proofs.YtfipgmjaabggjaaDoor
open Go Go.RowKit
set_option maxRecDepth 4000

theorem bitLen_hi (x : Nat) (hx : x < 4294967296) : x < 2 ^ Lib.bitLen x ∧ Lib.bitLen x ≤ 32 := by
  unfold Lib.bitLen
  by_cases h0 : x = 0
  · subst h0
    exact ⟨Nat.pow_pos (by decide), Lib.bitLenAux_le 64 0 32 (by decide)⟩
  · exact ⟨(Lib.bitLenAux_bounds 64 x (by omega) h0).2.2, Lib.bitLenAux_le 64 x 32 (by omega)⟩
theorem bitsOf_any {l : List Nat} {A : Option Addr} {n c : Nat} {w : World} (h : Rd vL w A n c l) (hd : Dg BB l) (hn : n ≤ 1000000) :
    Calls Tryd.prog 65 #[.slice A n c] w fun e w' => ∃ k : Nat, e = .returned (.int .i64 (k : Int)) ∧ vl BB l < 2 ^ k ∧ k ≤ 32 * n ∧ w' = w := by
  have hl := h.len
  by_cases h0 : n = 0
  · subst h0
    have e : l = [] := List.eq_nil_of_length_eq_zero hl
    subst e
    clear h hd
    go_enter Tryd.func65, Tryd.ntmps65
    go_wp2_with fail
    go_ret
    exact ⟨0, rfl, by decide, by omega, rfl⟩
  · obtain ⟨q, rfl⟩ : ∃ q, n = q + 1 := ⟨n - 1, by omega⟩
    obtain ⟨g, o, rfl⟩ := h.some_ (by omega)
    have k1 := h.dig q (by omega)
    unfold vL at k1
    have h1 := hd.at32 q
    have hb := bitLen_hi (dg l q) h1
    have hv : vl BB l < 2 ^ (32 * q + Lib.bitLen (dg l q)) := by
      have h2 := vl_split BB l q (by omega)
      rw [List.drop_eq_nil_of_le (by omega)] at h2
      simp only [vl, Nat.mul_zero, Nat.add_zero] at h2
      have h3 := vl_lt (by decide) (hd.take q)
      rw [List.length_take, Nat.min_eq_left (by omega)] at h3
      have h4 : BB ^ q * (dg l q + 1) ≤ BB ^ q * 2 ^ Lib.bitLen (dg l q) := Nat.mul_le_mul_left _ hb.1
      rw [Nat.mul_succ] at h4
      rw [Nat.pow_add, Nat.pow_mul, show (2 : Nat) ^ 32 = BB from rfl]
      omega
    have hL := Len32_any (dg l q) h1
    have e1 : ((q + 1 : Nat) : Int) - 1 = (q : Int) := by omega
    have b1 : (q : Int) < ((q + 1 : Nat) : Int) := by omega
    have b2 : ¬ ((q + 1 : Nat) : Int) = 0 := by omega
    have hb2 := hb.2
    have HV := Kp.mk hv
    clear h hd hv hb
    generalize dg l q = y at *
    generalize Lib.bitLen y = B at *
    go_enter Tryd.func65, Tryd.ntmps65
    go_wp2_with fail
    refine (hL _).mono ?_
    rintro e w1 ⟨rfl, rfl⟩
    go_wp2_with fail
    go_ret
    exact ⟨32 * q + B, by first | rfl | go_num, HV.out, by omega, rfl⟩
theorem and1 (y : Nat) (hy : y < 4294967296) : bits .and .u32 (y : Int) 1 = ((y % 2 : Nat) : Int) := by
  show IntKind.u32.wrap ((BitVec.ofInt 32 (y : Int) &&& BitVec.ofInt 32 1).toNat : Int) = _
  rw [BitVec.ofInt_natCast, show BitVec.ofInt 32 1 = BitVec.ofNat 32 1 by decide, BitVec.toNat_and, BitVec.toNat_ofNat, BitVec.toNat_ofNat, Nat.mod_eq_of_lt (by omega), show 1 % 2 ^ 32 = 1 by decide, Nat.and_one_is_mod, IntKind.wrap_u32]
  omega
end Go.Proofs.YtfipgmjaabggjaaDoor
namespace Go.Proofs.YtfipgmjaabggjaaDoor
open Go Go.RowKit
set_option maxRecDepth 4000

theorem pw_step {va ve vm V x p : Nat} (hd : vm ∣ V) (hx : x % vm = va ^ (ve / 2 ^ (p + 1)) % vm) :
    (ve / 2 ^ p % 2 ≠ 1 → x * x % V % vm = va ^ (ve / 2 ^ p) % vm) ∧ (ve / 2 ^ p % 2 = 1 → x * x % V * (va % vm) % V % vm = va ^ (ve / 2 ^ p) % vm) := by
  have h := pow_bit va ve vm p
  rw [← hx, ← Nat.mul_mod] at h
  constructor
  · intro hb
    rw [if_neg hb, Nat.mul_one, Nat.mod_mod] at h
    rw [Nat.mod_mod_of_dvd _ hd, h]
  · intro hb
    rw [if_pos hb] at h
    rw [Nat.mod_mod_of_dvd _ hd, h, Nat.mul_mod, Nat.mod_mod_of_dvd _ hd, ← Nat.mul_mod, Nat.mod_mul_mod]
/-- between the rounds -/
structure PwS (w7 : World) (gO gw gt M V : Nat) (lo LW LT : List Nat) (wr : World) : Prop where
  ol : lo.length = M
  od : Dg BB lo
  ov : vl BB lo < V
  ob : Lb wr gO lo
  wl : LW.length = 2 * M
  wb : Lb wr gw LW
  tl : LT.length = M
  td : Dg BB LT
  tb : Lb wr gt LT
  x : Mds [gO, gw, gt] w7 wr
end Go.Proofs.YtfipgmjaabggjaaDoor
namespace Go.Proofs.YtfipgmjaabggjaaDoor
open Go Go.RowKit
set_option maxRecDepth 4000

section
variable {w : World} {A E B : Option Addr} {n c m d k ec : Nat} {a x b : List Nat}
theorem three (ha : In1 w A n c a) (he : In1 w E k ec x) (hb : In1 w B m d b) (r : Bool) (h : r = true ↔ lng (vl BB a) ∨ lng (vl BB x) ∨ lng (vl BB b)) :
    Calls Tryd.prog 63 #[.slice (some ⟨w.heap.size, 0, none⟩) 3 3] (w.alloc (.cells #[.slice A n c, .slice E k ec, .slice B m d] nt)) fun e w' => e = .returned (.bool r) ∧ w' = w.alloc (.cells #[.slice A n c, .slice E k ec, .slice B m d] nt) :=
  anyLong_at w nt [⟨A, n, c, a⟩, ⟨E, k, ec, x⟩, ⟨B, m, d, b⟩] _ rfl 3 rfl (by omega) (by simp [ha.ok, he.ok, hb.ok]) r (by simpa using h)
end
end Go.Proofs.YtfipgmjaabggjaaDoor
namespace Go.Proofs.YtfipgmjaabggjaaDoor
open Go Go.RowKit
set_option maxRecDepth 4000

theorem vL_inj {x y : Nat} (h : vL x = vL y) : x = y := by
  unfold vL at h
  injection h with _ h2
  omega
theorem Rd.uniq {w : World} {A : Option Addr} {n c : Nat} {l l' : List Nat} (h : Rd vL w A n c l) (h' : Rd vL w A n c l') : l = l' := by
  refine List.ext_getElem? fun j => ?_
  by_cases hj : j < n
  · obtain ⟨g, o, ea, hc⟩ := h.at_ (by omega)
    obtain ⟨g', o', ea', hc'⟩ := h'.at_ (by omega)
    rw [ea] at ea'
    cases ea'
    have e1 := dg_in l j (by rw [h.len]; exact hj)
    have e2 := dg_in l' j (by rw [h'.len]; exact hj)
    have h1 := hc j _ e1
    rw [hc' j _ e2] at h1
    rw [e1, e2, vL_inj (Option.some.inj h1)]
  · rw [List.getElem?_eq_none (by rw [h.len]; omega), List.getElem?_eq_none (by rw [h'.len]; omega)]
/-- the number that a slice reads as -/
noncomputable def rdVal (w : World) (v : Value) : Nat := by
  classical
  exact if h : ∃ y : Nat, ∃ A n c, v = .slice A n c ∧ Rd vL w A n c (dgs BB y) then Classical.choose h else 0
theorem rdVal_eq {w : World} {A : Option Addr} {n c y : Nat} (h : Rd vL w A n c (dgs BB y)) : rdVal w (.slice A n c) = y := by
  have hh : ∃ y : Nat, ∃ A' n' c', Value.slice A n c = .slice A' n' c' ∧ Rd vL w A' n' c' (dgs BB y) := ⟨y, A, n, c, rfl, h⟩
  unfold rdVal
  rw [dif_pos hh]
  obtain ⟨A', n', c', e, h'⟩ := Classical.choose_spec hh
  cases e
  have e2 := congrArg (vl BB) (h'.uniq h)
  rwa [vl_dgs (by decide), vl_dgs (by decide)] at e2
/-- between the rounds -/
structure EuW (w : World) (va vm x y p q : Nat) (s : Bool) (A1 : Option Addr) (c1 : Nat) (A2 : Option Addr) (c2 : Nat) (A3 : Option Addr) (n3 c3 : Nat) (A4 : Option Addr) (n4 c4 : Nat) (wr : World) : Prop where
  e : Eu va vm x y p q s
  bx : nl x ≤ 64
  by_ : nl y ≤ 64
  rx : Rd vL wr A1 (nl x) c1 (dgs BB x)
  ry : Rd vL wr A2 (nl y) c2 (dgs BB y)
  op : Rw ut vL wr w.heap.size (.slice A3 n3 c3) n3 (dgs BB p)
  oq : Rw ut vL wr w.heap.size (.slice A4 n4 c4) n4 (dgs BB q)
  x_ : Ext w wr
theorem EuW.bq {w : World} {va vm x y p q : Nat} {s : Bool} {A1 : Option Addr} {c1 : Nat} {A2 : Option Addr} {c2 : Nat} {A3 : Option Addr} {n3 c3 : Nat} {A4 : Option Addr} {n4 c4 : Nat} {wr : World} (h : EuW w va vm x y p q s A1 c1 A2 c2 A3 n3 c3 A4 n4 c4 wr) (hm : nl vm ≤ 64) : n3 ≤ 64 ∧ n4 ≤ 64 := by
  have h3 := h.op.len
  have h4 := h.oq.len
  have e1 : nl p ≤ nl vm := nl_mono h.e.le
  have e2 : nl q ≤ nl vm := nl_mono (by
    have h1 : q * 1 ≤ q * x := Nat.mul_le_mul_left q h.e.pos
    have h2 := h.e.id
    omega)
  unfold nl at e1 e2 hm
  omega
/-- what is told of the inverse -/
def Inverted (w : World) (va vm : Nat) (e : Ending) (w' : World) : Prop :=
  (Nat.gcd vm va = 1 ∧ ∃ A n c, e = .returned (.tuple #[.slice A n c, .bool true]) ∧ Rw ut vL w' w.heap.size (.slice A n c) n (dgs BB (invN va vm)) ∧ Ext w w') ∨
  (Nat.gcd vm va ≠ 1 ∧ e = .returned (.tuple #[.slice none 0 0, .bool false]) ∧ Ext w w')
theorem nl_zero {v : Nat} (h : nl v = 0) : v = 0 := (dgs_nil (by decide) v).1 (List.eq_nil_of_length_eq_zero h)
theorem lit_own (w w0 : World) (l : List Nat) (cs : Array Value) (h : cs = lv l) (n : Nat) (hn : l.length = n) (hm : n ≤ maxLen) (g : Nat) (hg : g = w.heap.size) (h0 : w0.heap.size ≤ g) : Rw ut vL (w.alloc (.cells cs ut)) w0.heap.size (.slice (some ⟨g, 0, none⟩) n n) n l := by
  subst h hg
  exact (Lb.new w l).own h0 hn hm
theorem EuW.start {w : World} {A B : Option Addr} {c d va vm : Nat} (ha : Rd vL w A (nl va) c (dgs BB va)) (hb : Rd vL w B (nl vm) d (dgs BB vm)) (la : nl va ≤ 64) (lm : nl vm ≤ 64) (hm : 2 ≤ vm) :
    EuW w va vm vm va 0 1 true B d A c (some ⟨w.heap.size, 0, none⟩) 0 0 (some ⟨w.heap.size + 1, 0, none⟩) 1 1 ((w.alloc (.cells #[] ut)).alloc (.cells #[.int .u32 1] ut)) :=
  ⟨Eu.start hm, lm, la, hb.ext (by (repeat (first | assumption | exact Ext.refl _ | apply Ext.drew | apply Ext.drewN | apply Ext.alloc | refine Ext.trans ?_ (by assumption))); first | done | fail), ha.ext (by (repeat (first | assumption | exact Ext.refl _ | apply Ext.drew | apply Ext.drewN | apply Ext.alloc | refine Ext.trans ?_ (by assumption))); first | done | fail), (lit_own w w [] #[] rfl 0 rfl (by decide) _ rfl (Nat.le_refl _)).ext (by (repeat (first | assumption | exact Ext.refl _ | apply Ext.drew | apply Ext.drewN | apply Ext.alloc | refine Ext.trans ?_ (by assumption))); first | done | fail),
    lit_own (w.alloc (.cells #[] ut)) w [1] #[.int .u32 1] rfl 1 rfl (by decide) _ (by simp) (by omega), (by (repeat (first | assumption | exact Ext.refl _ | apply Ext.drew | apply Ext.drewN | apply Ext.alloc | refine Ext.trans ?_ (by assumption))); first | done | fail)⟩
end Go.Proofs.YtfipgmjaabggjaaDoor
