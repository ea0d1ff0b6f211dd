/-
  The reference's Add, Sub.
  The reference's Same (where it holds), May.
  The reference's Mul.
  The reference by values; the walks of the laws NatCmps, NatMuls.
-/
import Derived.Test.YtfipgmjaabggjaaDoorM2
import Derived.Laws.MakeOwn
import Derived.Test.YtfipgmjaabggjaaDoorM10
namespace Go.Proofs.YtfipgmjaabggjaaDoor
open Go Go.RowKit
set_option maxRecDepth 4000

theorem t_mod (x : Nat) : (x : Int).tmod 65536 = ((x % 65536 : Nat) : Int) := by
  rw [Int.tmod_eq_emod_of_nonneg (by omega)]; omega
end Go.Proofs.YtfipgmjaabggjaaDoor
namespace Go.Proofs.YtfipgmjaabggjaaDoor
open Go Go.RowKit
set_option maxRecDepth 4000

set_option maxHeartbeats 1000000 in
theorem Same_yes {l : List Nat} {A B : Option Addr} {n c m d : Nat} {w : World} (ha : Rd vL w A n c (jn 65536 l)) (hb : Rd vI w B m d l) (hd : Dg 65536 l) (hn : n ≤ 1000000000000) (hm : m ≤ 1000000000000) :
    Calls Tryd.prog 15 #[.slice A n c, .slice B m d] w fun e w' => e = .returned (.bool true) ∧ Ext w w' := by
  have HA := Kp.mk ha
  have hla := ha.len
  have HB := Kp.mk hb
  have HD := Kp.mk hd
  clear ha hb hd
  go_enter Tryd.func15, Tryd.ntmps15
  go_wp2_with fail
  refine (To_any HB.out HD.out hm).mono ?_
  rintro e w1 ⟨A1, k, c1, rfl, h1, hx1⟩
  have hk : k = n := h1.len.symm.trans hla
  subst hk
  have HA1 := Kp.mk (HA.out.ext hx1)
  have H1 := Kp.mk h1
  have HX1 := Kp.mk hx1
  clear h1 hx1
  go_wp2_with fail
  go_loopw [6] (fun iv wr => ∃ i : Nat, i ≤ k ∧ iv = .int .i64 (i : Int) ∧ Ext w1 wr) (fun i _ => k - (intOf i).toNat)
  case atStart => exact ⟨0, by omega, rfl, Ext.refl _⟩
  case round =>
    obtain ⟨i, hi, rfl, hx⟩ := hrel
    by_cases hlt : i < k
    · obtain ⟨g, o, rfl⟩ := HA1.out.some_ (by omega)
      obtain ⟨g2, o2, rfl⟩ := H1.out.some_ (by omega)
      have b0 : (i : Int) < (k : Int) := by omega
      have k1 : wr.cell? ⟨g, o + i, none⟩ = some (.int .u32 (dg (jn 65536 l) i : Int)) := (HA1.out.ext hx).dig i hlt
      have k2 : wr.cell? ⟨g2, o2 + i, none⟩ = some (.int .u32 (dg (jn 65536 l) i : Int)) := (H1.out.ext hx).dig i hlt
      generalize dg (jn 65536 l) i = x at *
      go_wp2_with fail
      go_region
      go_wp2_with fail
      go_roundw
      case rel => exact ⟨i + 1, by omega, by go_num, hx.drew⟩
      case measure => simp [intOf]; omega
    · obtain rfl : i = k := by omega
      go_wp2_with fail
      go_ret
      exact ⟨rfl, HX1.out.trans hx⟩
theorem May_any {l : List Nat} {A : Option Addr} {n c : Nat} {w : World} (h : Rd vL w A n c l) (hd : Dg 4294967296 l) (hn : n ≤ 1000000000000) :
    Calls Tryd.prog 9 #[.slice A n c] w fun e w' => e = .returned (.bool (decide ((dgs 65536 (vl 4294967296 l)).length ≤ 128))) ∧ Ext w w' := by
  obtain ⟨K, hK⟩ : ∃ K, (dgs 65536 (vl 4294967296 l)).length = K := ⟨_, rfl⟩
  rw [hK]
  have H := Kp.mk (Of_any h hd hn)
  clear h hd hn
  by_cases hq : K ≤ 128
  · have q1 : (K : Int) ≤ 128 := by omega
    rw [decide_eq_true hq]
    clear hq
    go_enter Tryd.func9, Tryd.ntmps9
    go_wp2_with fail
    refine H.out.mono ?_
    rintro e w1 ⟨A1, k, c1, rfl, h1, _, hx1⟩
    obtain rfl : K = k := hK.symm.trans h1.len
    clear h1 hK
    go_wp2_with fail
    go_ret
    exact ⟨rfl, hx1⟩
  · have q1 : decide ((K : Int) ≤ 128) = false := decide_eq_false (by omega)
    rw [decide_eq_false hq]
    clear hq
    go_enter Tryd.func9, Tryd.ntmps9
    go_wp2_with fail
    refine H.out.mono ?_
    rintro e w1 ⟨A1, k, c1, rfl, h1, _, hx1⟩
    obtain rfl : K = k := hK.symm.trans h1.len
    clear h1 hK
    go_wp2_with fail
    go_ret
    exact ⟨rfl, hx1⟩
end Go.Proofs.YtfipgmjaabggjaaDoor
namespace Go.Proofs.YtfipgmjaabggjaaDoor
open Go Go.RowKit
set_option maxRecDepth 4000

def zI (n : Nat) : Array Value := ((List.replicate n 0).map vI).toArray
/-- make(Num, n) -/
theorem run_makeI (n : Nat) (S : Int) (hS : S = (n : Int)) (hn : n ≤ 10000000000000) (w : World) :
    (Instr.makeSlice nm (.int .i64 S) (.int .i64 S)).run Tryd.prog w = .ok (.slice (some ⟨w.heap.size, 0, none⟩) n n) (w.alloc (.cells (zI n) it)) := by
  subst hS
  obtain ⟨i, hi, hz, hs, hb⟩ := info_parts inI
  have hr := run_make (P := Tryd.prog) w nm it i (.int .i64 0) Tryd.underlying37 hi hz .i64 .i64 (n : Int) (n : Int) (by omega) (by omega) (by rw [hb]; omega) (by omega)
  rw [hr, hs]
  simp only [Int.toNat_natCast, Nat.mul_one]
  rw [show (Value.int .i64 0).cells = #[Value.int .i64 0] from rfl]
  have e : madeCells #[Value.int .i64 0] n = zI n := by
    apply Array.ext_getElem?
    intro i
    by_cases h : i < n
    · simp [madeCells, zI, vI, h, Nat.mod_one]
    · simp [madeCells, zI, h]
  rw [e]
theorem makeI_own (w : World) (n : Nat) (hn : n ≤ 10000000000000) : Rn (w.alloc (.cells (zI n) it)) w.heap.size (.slice (some ⟨w.heap.size, 0, none⟩) n n) n (List.replicate n 0) :=
  Rw.has (Has.new w it _ _ rfl) (by simp) (Nat.le_refl _) (by unfold maxLen; omega)
end Go.Proofs.YtfipgmjaabggjaaDoor
namespace Go.Proofs.YtfipgmjaabggjaaDoor
open Go Go.RowKit
set_option maxRecDepth 4000

theorem len_iff {B : Nat} (hB : 2 ≤ B) (v k : Nat) : (dgs B v).length ≤ k ↔ v < B ^ k := by
  have hc := cn_dgs hB v
  have hv := vl_dgs hB v
  constructor
  · intro h
    have h1 := vl_lt (by omega) hc.d
    rw [hv] at h1
    exact Nat.lt_of_lt_of_le h1 (Nat.pow_le_pow_right (by omega) h)
  · intro h
    rcases Nat.lt_or_ge k (dgs B v).length with h2 | h2
    · have h1 := cn_lo (by omega) hc (fun e => by rw [e] at h2; simp at h2)
      rw [hv] at h1
      have h3 := Nat.pow_le_pow_right (n := B) (by omega) (show k ≤ (dgs B v).length - 1 by omega)
      omega
    · exact h2
theorem bb_pow (k : Nat) : BB ^ k = 65536 ^ (2 * k) := by rw [Nat.pow_mul]
theorem len16 {v k : Nat} (h : v < BB ^ k) : (dgs 65536 v).length ≤ 2 * k := (len_iff (by decide) v (2 * k)).2 (by rw [← bb_pow]; exact h)
theorem may_iff (v : Nat) : (dgs 65536 v).length ≤ 128 ↔ ¬ lng v := by
  have h1 := len_iff (B := 65536) (by decide) v (2 * 64)
  rw [← bb_pow] at h1
  rw [show (128 : Nat) = 2 * 64 from rfl, h1, ← len_iff (by decide)]
  unfold lng nl
  omega
/-- a slice of ints that reads as a number -/
structure Ni (w : World) (A : Option Addr) (n c v : Nat) : Prop where
  r : Rd vI w A n c (dgs 65536 v)
  n : n ≤ 1000000
theorem Ni.ext {w w' : World} {A : Option Addr} {n c v : Nat} (h : Ni w A n c v) (hx : Ext w w') : Ni w' A n c v := ⟨h.r.ext hx, h.n⟩
theorem Ni.of {w : World} {A : Option Addr} {n c v k : Nat} (h : Rd vI w A n c (dgs 65536 v)) (hv : v < BB ^ k) (hk : k ≤ 400) : Ni w A n c v := ⟨h, by have := len16 hv; have := h.len; omega⟩
section
variable {w : World} {A B : Option Addr} {n c m d va vb : Nat}
theorem OfV (ha : Nv w A n c va) : Calls Tryd.prog 21 #[.slice A n c] w (FreshN w va) := by
  obtain ⟨a, ha, rfl⟩ := ha
  exact Of_any ha.r ha.d (by have := ha.n; omega)
theorem MayV (ha : Nv w A n c va) (b : Bool) (hb : b = true ↔ ¬ lng va) : Calls Tryd.prog 9 #[.slice A n c] w fun e w' => e = .returned (.bool b) ∧ Ext w w' := by
  obtain ⟨a, ha, rfl⟩ := ha
  have h := May_any ha.r ha.d (by have := ha.n; omega)
  have e : decide ((dgs 65536 (vl 4294967296 a)).length ≤ 128) = b := by
    rw [Bool.eq_iff_iff, hb, decide_eq_true_iff]
    exact may_iff _
  rw [e] at h
  exact h
theorem RCmpV (ha : Ni w A n c va) (hb : Ni w B m d vb) (z : Int) (hz : cmpI va vb = z) : Calls Tryd.prog 20 #[.slice A n c, .slice B m d] w fun e w' => e = .returned (.int .i64 z) ∧ Ext w w' := by
  have h := cmp_any ha.r hb.r (cn_dgs (by decide) va) (cn_dgs (by decide) vb) (by have := ha.n; omega) (by have := hb.n; omega)
  rw [vl_dgs (B := 65536) (by decide), vl_dgs (B := 65536) (by decide), hz] at h
  exact h
theorem SameV (ha : Rd vL w A n c (dgs BB va)) (hb : Ni w B m d va) : Calls Tryd.prog 15 #[.slice A n c, .slice B m d] w fun e w' => e = .returned (.bool true) ∧ Ext w w' := by
  refine Same_yes (l := dgs 65536 va) ?_ hb.r (cn_dgs (by decide) va).d ?_ (by have := hb.n; omega)
  · rw [jn_dgs (by decide)]
    exact ha
  · have h1 := ha.len
    have h2 := hb.r.len
    have h3 := hb.n
    have h4 : (jn 65536 (dgs 65536 va)).length ≤ (dgs 65536 va).length := by
      have : ∀ (l : List Nat), (jn 65536 l).length ≤ l.length := fun l => by
        induction l using jn.induct with
        | case1 => simp [jn]
        | case2 x => simp [jn]
        | case3 x y l ih => simp only [jn, List.length_cons]; omega
      exact this _
    rw [jn_dgs (by decide)] at h4
    change (dgs BB va).length ≤ _ at h4
    omega
end
theorem light_cases (n m : Nat) : (n ≤ 100 ∧ m ≤ 100) ∨ 100 < n ∨ (n ≤ 100 ∧ 100 < m) := by omega
end Go.Proofs.YtfipgmjaabggjaaDoor
