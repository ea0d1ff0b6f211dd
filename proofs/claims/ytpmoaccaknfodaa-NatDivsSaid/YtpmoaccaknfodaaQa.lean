/-
  The reference by values; the walks of the laws NatCmps, NatMuls.
-/
import Derived.Test.YtpmoaccaknfodaaOl
import Derived.Test.YtpmoaccaknfodaaNc
import Derived.Test.YtpmoaccaknfodaaNe
import Derived.Test.YtpmoaccaknfodaaNf
namespace Go.Proofs.Ytpmoaccaknfodaa
open Go Go.RowKit

theorem len_iff {B : Nat} (hB : 2 ≤ B) (v k : Nat) : (dgs B v).length ≤ k ↔ v < B ^ k := by
  have hc := cn_dgs hB v
  have hv := vl_dgs hB v
  constructor
  · intro h
    have h1 := vl_lt (by omega) hc.d
    rw [hv] at h1
    exact Nat.lt_of_lt_of_le h1 (Nat.pow_le_pow_right (by omega) h)
  · intro h
    rcases Nat.lt_or_ge k (dgs B v).length with h2 | h2
    · have h1 := cn_lo (by omega) hc (fun e => by rw [e] at h2; simp at h2)
      rw [hv] at h1
      have h3 := Nat.pow_le_pow_right (n := B) (by omega) (show k ≤ (dgs B v).length - 1 by omega)
      omega
    · exact h2
theorem bb_pow (k : Nat) : BB ^ k = 65536 ^ (2 * k) := by rw [Nat.pow_mul]
theorem len16 {v k : Nat} (h : v < BB ^ k) : (dgs 65536 v).length ≤ 2 * k := (len_iff (by decide) v (2 * k)).2 (by rw [← bb_pow]; exact h)
theorem may_iff (v : Nat) : (dgs 65536 v).length ≤ 128 ↔ ¬ lng v := by
  have h1 := len_iff (B := 65536) (by decide) v (2 * 64)
  rw [← bb_pow] at h1
  rw [show (128 : Nat) = 2 * 64 from rfl, h1, ← len_iff (by decide)]
  unfold lng nl
  omega
/-- a slice of ints that reads as a number -/
structure Ni (w : World) (A : Option Addr) (n c v : Nat) : Prop where
  r : Rd vI w A n c (dgs 65536 v)
  n : n ≤ 1000000
theorem Ni.ext {w w' : World} {A : Option Addr} {n c v : Nat} (h : Ni w A n c v) (hx : Ext w w') : Ni w' A n c v := ⟨h.r.ext hx, h.n⟩
theorem Ni.of {w : World} {A : Option Addr} {n c v k : Nat} (h : Rd vI w A n c (dgs 65536 v)) (hv : v < BB ^ k) (hk : k ≤ 400) : Ni w A n c v := ⟨h, by have := len16 hv; have := h.len; omega⟩
section
variable {w : World} {A B : Option Addr} {n c m d va vb : Nat}
theorem OfV (ha : Nv w A n c va) : Calls Try.prog 16 #[.slice A n c] w (FreshN w va) := by
  obtain ⟨a, ha, rfl⟩ := ha
  exact Of_any ha.r ha.d (by have := ha.n; omega)
theorem MayV (ha : Nv w A n c va) (b : Bool) (hb : b = true ↔ ¬ lng va) : Calls Try.prog 19 #[.slice A n c] w fun e w' => e = .returned (.bool b) ∧ Ext w w' := by
  obtain ⟨a, ha, rfl⟩ := ha
  have h := May_any ha.r ha.d (by have := ha.n; omega)
  have e : decide ((dgs 65536 (vl 4294967296 a)).length ≤ 128) = b := by
    rw [Bool.eq_iff_iff, hb, decide_eq_true_iff]
    exact may_iff _
  rw [e] at h
  exact h
theorem RCmpV (ha : Ni w A n c va) (hb : Ni w B m d vb) (z : Int) (hz : cmpI va vb = z) : Calls Try.prog 15 #[.slice A n c, .slice B m d] w fun e w' => e = .returned (.int .i64 z) ∧ Ext w w' := by
  have h := cmp_any ha.r hb.r (cn_dgs (by decide) va) (cn_dgs (by decide) vb) (by have := ha.n; omega) (by have := hb.n; omega)
  rw [vl_dgs (B := 65536) (by decide), vl_dgs (B := 65536) (by decide), hz] at h
  exact h
theorem RAddV (ha : Ni w A n c va) (hb : Ni w B m d vb) : Calls Try.prog 21 #[.slice A n c, .slice B m d] w (FreshN w (va + vb)) := by
  have h := add_any ha.r hb.r (cn_dgs (by decide) va).d (cn_dgs (by decide) vb).d (by have := ha.n; omega) (by have := hb.n; omega)
  rwa [vl_dgs (B := 65536) (by decide), vl_dgs (B := 65536) (by decide)] at h
theorem RMulV (ha : Ni w A n c va) (hb : Ni w B m d vb) : Calls Try.prog 24 #[.slice A n c, .slice B m d] w (FreshN w (va * vb)) := by
  have h := mul_any ha.r hb.r (cn_dgs (by decide) va).d (cn_dgs (by decide) vb).d (by have := ha.n; omega) (by have := hb.n; omega)
  rwa [vl_dgs (B := 65536) (by decide), vl_dgs (B := 65536) (by decide)] at h
theorem RSubV (ha : Ni w A n c va) (hb : Ni w B m d vb) (hle : vb ≤ va) : Calls Try.prog 22 #[.slice A n c, .slice B m d] w (FreshN w (va - vb)) := by
  have hmn : m ≤ n := by
    have h1 := ha.r.len
    have h2 := hb.r.len
    rcases Nat.lt_or_ge n m with h | h
    · have h3 := cn_len_lt (B := 65536) (by decide) (cn_dgs (by decide) va) (cn_dgs (by decide) vb) (by omega)
      rw [vl_dgs (by decide), vl_dgs (by decide)] at h3
      omega
    · exact h
  have h := sub_any ha.r hb.r (cn_dgs (by decide) va).d (cn_dgs (by decide) vb).d (by have := ha.n; omega) hmn (by rw [vl_dgs (by decide), vl_dgs (by decide)]; exact hle)
  rwa [vl_dgs (B := 65536) (by decide), vl_dgs (B := 65536) (by decide)] at h
theorem SameV (ha : Rd vL w A n c (dgs BB va)) (hb : Ni w B m d va) : Calls Try.prog 20 #[.slice A n c, .slice B m d] w fun e w' => e = .returned (.bool true) ∧ Ext w w' := by
  refine Same_yes (l := dgs 65536 va) ?_ hb.r (cn_dgs (by decide) va).d ?_ (by have := hb.n; omega)
  · rw [jn_dgs (by decide)]
    exact ha
  · have h1 := ha.len
    have h2 := hb.r.len
    have h3 := hb.n
    have h4 : (jn 65536 (dgs 65536 va)).length ≤ (dgs 65536 va).length := by
      have : ∀ (l : List Nat), (jn 65536 l).length ≤ l.length := fun l => by
        induction l using jn.induct with
        | case1 => simp [jn]
        | case2 x => simp [jn]
        | case3 x y l ih => simp only [jn, List.length_cons]; omega
      exact this _
    rw [jn_dgs (by decide)] at h4
    change (dgs BB va).length ≤ _ at h4
    omega
end
theorem light_cases (n m : Nat) : (n ≤ 100 ∧ m ≤ 100) ∨ 100 < n ∨ (n ≤ 100 ∧ 100 < m) := by omega
set_option maxHeartbeats 8000000 in
set_option maxRecDepth 100000 in
theorem NatCmps_any {a b : List Nat} {A B : Option Addr} {n m cA cB : Nat} {w : World} (ha : Rd vL w A n cA a) (hb : Rd vL w B m cB b) (da : Dg BB a) (db : Dg BB b) :
    Calls Try.prog 3 #[.slice A n cA, .slice B m cB] w fun e w' => e = .returned (.bool true) ∧ Below w.heap.size w w' := by
  have HU := Kp.mk (up_any w)
  have L1 := Kp.mk (fun u => light_any (A := A) (n := n) (c := cA) (w := u))
  have L2 := Kp.mk (fun u => light_any (A := B) (n := m) (c := cB) (w := u))
  rcases light_cases n m with ⟨hn, hm⟩ | hn | ⟨hn, hm⟩
  · rw [decide_eq_true hn] at L1
    rw [decide_eq_true hm] at L2
    have NA := Kp.mk (Nv.small ha da (by omega))
    have NB := Kp.mk (Nv.small hb db (by omega))
    have la := Kp.mk (Nat.lt_of_lt_of_le (vl_len ha da) (Nat.pow_le_pow_right (n := BB) (by decide) hn))
    have lb := Kp.mk (Nat.lt_of_lt_of_le (vl_len hb db) (Nat.pow_le_pow_right (n := BB) (by decide) hm))
    generalize vl BB a = va at *
    generalize vl BB b = vb at *
    clear ha hb da db
    obtain ⟨z, hz⟩ : ∃ z, cmpI va vb = z := ⟨_, rfl⟩
    have HZ := Kp.mk hz
    clear hz
    go_enter Try.func3, Try.ntmps3
    go_wp2_with fail
    refine HU.out.mono ?_
    rintro e w1 ⟨rfl, x1⟩
    go_wp2_with fail
    refine (L1.out _).mono ?_
    rintro e w1' ⟨rfl, rfl⟩
    go_wp2_with fail
    refine (L2.out _).mono ?_
    rintro e w2 ⟨rfl, rfl⟩
    go_wp2_with fail
    refine (CmpV (NA.out.ext (by (repeat (first | assumption | exact Ext.refl _ | apply Ext.drew | apply Ext.drewN | apply Ext.alloc | refine Ext.trans ?_ (by assumption))); first | done | fail)) (NB.out.ext (by (repeat (first | assumption | exact Ext.refl _ | apply Ext.drew | apply Ext.drewN | apply Ext.alloc | refine Ext.trans ?_ (by assumption))); first | done | fail)) z HZ.out).mono ?_
    rintro e w3 ⟨rfl, x3⟩
    go_wp2_with fail
    refine (OfV (NA.out.ext (by (repeat (first | assumption | exact Ext.refl _ | apply Ext.drew | apply Ext.drewN | apply Ext.alloc | refine Ext.trans ?_ (by assumption))); first | done | fail))).mono ?_
    rintro e w4 ⟨A4, n4, c4, rfl, r4, _, x4⟩
    have N4 := Kp.mk (Ni.of r4 la.out (by decide))
    clear r4
    go_wp2_with fail
    refine (OfV (NB.out.ext (by (repeat (first | assumption | exact Ext.refl _ | apply Ext.drew | apply Ext.drewN | apply Ext.alloc | refine Ext.trans ?_ (by assumption))); first | done | fail))).mono ?_
    rintro e w5 ⟨A5, n5, c5, rfl, r5, _, x5⟩
    have N5 := Kp.mk (Ni.of r5 lb.out (by decide))
    clear r5
    go_wp2_with fail
    refine (RCmpV (N4.out.ext (by (repeat (first | assumption | exact Ext.refl _ | apply Ext.drew | apply Ext.drewN | apply Ext.alloc | refine Ext.trans ?_ (by assumption))); first | done | fail)) (N5.out.ext (by (repeat (first | assumption | exact Ext.refl _ | apply Ext.drew | apply Ext.drewN | apply Ext.alloc | refine Ext.trans ?_ (by assumption))); first | done | fail)) z HZ.out).mono ?_
    rintro e w6 ⟨rfl, x6⟩
    go_wp2_with fail
    refine (CmpV (NA.out.ext (by (repeat (first | assumption | exact Ext.refl _ | apply Ext.drew | apply Ext.drewN | apply Ext.alloc | refine Ext.trans ?_ (by assumption))); first | done | fail)) (NA.out.ext (by (repeat (first | assumption | exact Ext.refl _ | apply Ext.drew | apply Ext.drewN | apply Ext.alloc | refine Ext.trans ?_ (by assumption))); first | done | fail)) 0 (cmpI_eq _)).mono ?_
    rintro e w7 ⟨rfl, x7⟩
    have HX := Kp.mk (show Ext w w7 from (by (repeat (first | assumption | exact Ext.refl _ | apply Ext.drew | apply Ext.drewN | apply Ext.alloc | refine Ext.trans ?_ (by assumption))); first | done | fail))
    clear x1 x3 x4 x5 x6 x7
    go_wp2_with fail
    go_ret
    exact ⟨rfl, HX.out.b⟩
  · rw [decide_eq_false (by omega)] at L1
    clear ha hb da db
    go_enter Try.func3, Try.ntmps3
    go_wp2_with fail
    refine HU.out.mono ?_
    rintro e w1 ⟨rfl, x1⟩
    go_wp2_with fail
    refine (L1.out _).mono ?_
    rintro e w1' ⟨rfl, rfl⟩
    go_wp2_with fail
    go_ret
    exact ⟨rfl, x1.b⟩
  · rw [decide_eq_true hn] at L1
    rw [decide_eq_false (by omega)] at L2
    clear ha hb da db
    go_enter Try.func3, Try.ntmps3
    go_wp2_with fail
    refine HU.out.mono ?_
    rintro e w1 ⟨rfl, x1⟩
    go_wp2_with fail
    refine (L1.out _).mono ?_
    rintro e w1' ⟨rfl, rfl⟩
    go_wp2_with fail
    refine (L2.out _).mono ?_
    rintro e w2 ⟨rfl, rfl⟩
    go_wp2_with fail
    go_ret
    exact ⟨rfl, x1.b⟩
end Go.Proofs.Ytpmoaccaknfodaa
